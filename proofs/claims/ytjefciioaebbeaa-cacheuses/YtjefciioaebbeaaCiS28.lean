/-
  Caches of string,string that a law has made: one, and two beside one another.
-/
import Derived.Test.YtjefciioaebbeaaChS28
namespace Go.Proofs.Ytjefciioaebbeaa.SS
open Go.RowKit Go.Proofs.Ytjefciioaebbeaa
/-- A cache of the law's own; the blocks X are none of its. -/
def Co (w0 w : World) (cb : Nat) (r : Int) (S : List Ent) (X : Nat → Prop) : Prop := ∃ F, Cx w cb r S F ∧ (∀ b, F b → w0.heap.size ≤ b) ∧ Below w0.heap.size w0 w ∧ ∀ b, X b → b < w.heap.size ∧ ¬ F b
/-- What is X stays. -/
def Kx (X : Nat → Prop) (w w' : World) : Prop := ∀ b, X b → w'.heap[b]? = w.heap[b]?
theorem tn_below {w0 w w' : World} {F : Nat → Prop} (hb : Below w0.heap.size w0 w) (hF : ∀ b, F b → w0.heap.size ≤ b) (ht : Tn F w w') : Below w0.heap.size w0 w' :=
  ⟨ht.os.trans hb.os, ht.tape.trans hb.tape, ht.output.trans hb.output, Nat.le_trans hb.size ht.size, fun k hk => (ht.block k (Nat.lt_of_lt_of_le hk hb.size) (fun h => by have := hF k h; omega)).trans (hb.block k hk)⟩
theorem fn_lt {w w' : World} {F : Nat → Prop} (hl : ∀ b, F b → b < w.heap.size) (hz : w.heap.size ≤ w'.heap.size) : ∀ b, Fn F w w' b → b < w'.heap.size := by
  rintro b (h | h)
  · exact Nat.lt_of_lt_of_le (hl b h) hz
  · exact h.2
theorem Co.step {w0 w w' : World} {cb : Nat} {r : Int} {S' : List Ent} {X F : Nat → Prop} (hC : Cx w' cb r S' (Fn F w w')) (ht : Tn F w w') (hF : ∀ b, F b → w0.heap.size ≤ b) (hb : Below w0.heap.size w0 w) (hX : ∀ b, X b → b < w.heap.size ∧ ¬ F b) : Co w0 w' cb r S' X ∧ Kx X w w' := by
  refine ⟨⟨Fn F w w', hC, ?_, tn_below hb hF ht, fun b hb1 => ⟨Nat.lt_of_lt_of_le (hX b hb1).1 ht.size, ?_⟩⟩, fun b hb1 => ht.block b (hX b hb1).1 (hX b hb1).2⟩
  · rintro b (h | h)
    · exact hF b h
    · exact Nat.le_trans hb.size h.1
  · rintro (h | h)
    · exact (hX b hb1).2 h
    · have := (hX b hb1).1; omega
section
variable {w0 w : World} {cb : Nat} {r : Int} {S : List Ent} {X : Nat → Prop}
theorem Co.ok (H : Co w0 w cb r S X) : Okc txq r S ∧ 0 ≤ r ∧ r ≤ 1073741824 := by
  obtain ⟨F, hC, _⟩ := H; exact hC.ok
theorem Co.base (H : Co w0 w cb r S X) : Below w0.heap.size w0 w := by
  obtain ⟨F, _, _, h, _⟩ := H; exact h
/-- Memory grows beside it; X may be grown by new blocks. -/
theorem Co.more (H : Co w0 w cb r S X) {w' : World} (hb : Below w.heap.size w w') {Y : Nat → Prop} (hY : ∀ b, Y b → X b ∨ (w.heap.size ≤ b ∧ b < w'.heap.size)) : Co w0 w' cb r S Y := by
  obtain ⟨F, hC, hF, h0, hX⟩ := H
  refine ⟨F, hC.below hb, hF, h0.trans (hb.mono h0.size), fun b hb1 => ?_⟩
  rcases hY b hb1 with h | h
  · exact ⟨Nat.lt_of_lt_of_le (hX b h).1 hb.size, (hX b h).2⟩
  · exact ⟨h.2, fun h2 => by have := hC.lt b h2; omega⟩
/-- X is written. -/
theorem Co.turn (H : Co w0 w cb r S X) {w' : World} (ht : Tn X w w') (hX0 : ∀ b, X b → w0.heap.size ≤ b) : Co w0 w' cb r S X := by
  obtain ⟨F, hC, hF, h0, hX⟩ := H
  exact ⟨F, hC.keep ht.size (fun b hb => ht.block b (hC.lt b hb) (fun h => (hX b h).2 hb)), hF, tn_below h0 hX0 ht, fun b hb1 => ⟨Nat.lt_of_lt_of_le (hX b hb1).1 ht.size, (hX b hb1).2⟩⟩
theorem Co.put (H : Co w0 w cb r S X) (x : Tx) (v : Tx) (wt : Int) (hq : txq x x = true) (w1 : -9223372036854775808 ≤ wt) (w2 : wt ≤ 9223372036854775807) :
    Calls Try.prog 29 #[.pointer (some ⟨cb, 0, none⟩), encStr x, encStr v, .int .i64 wt] w fun e1 w' => e1 = .returned (.bool (cput txq r ⟨0, x, v, wt⟩ S).2) ∧ Co w0 w' cb r (cput txq r ⟨0, x, v, wt⟩ S).1 X ∧ Kx X w w' := by
  obtain ⟨F, hC, hF, h0, hX⟩ := H
  refine (hC.put x v wt hq w1 w2).mono ?_
  rintro e1 w' ⟨rfl, h1, h2⟩
  exact ⟨rfl, Co.step h1 h2 hF h0 hX⟩
theorem Co.get (H : Co w0 w cb r S X) (x : Tx) : Calls Try.prog 30 #[.pointer (some ⟨cb, 0, none⟩), encStr x] w fun e1 w' => e1 = .returned (.tuple #[getv (fnd txq x S), .bool (fnd txq x S).isSome]) ∧ Co w0 w' cb r (cget txq x S) X ∧ Kx X w w' := by
  obtain ⟨F, hC, hF, h0, hX⟩ := H
  refine (hC.get x).mono ?_
  rintro e1 w' ⟨rfl, h1, h2⟩
  exact ⟨rfl, Co.step (h1.more (fun b h => .inl h) (fn_lt hC.lt h2.size)) h2 hF h0 hX⟩
theorem Co.drop (H : Co w0 w cb r S X) (x : Tx) : Calls Try.prog 31 #[.pointer (some ⟨cb, 0, none⟩), encStr x] w fun e1 w' => e1 = .returned (.bool (fnd txq x S).isSome) ∧ Co w0 w' cb r (drp txq x S) X ∧ Kx X w w' := by
  obtain ⟨F, hC, hF, h0, hX⟩ := H
  refine (hC.drop x).mono ?_
  rintro e1 w' ⟨rfl, h1, h2⟩
  exact ⟨rfl, Co.step (h1.more (fun b h => .inl h) (fn_lt hC.lt h2.size)) h2 hF h0 hX⟩
theorem Co.clear (H : Co w0 w cb r S X) : Calls Try.prog 32 #[.pointer (some ⟨cb, 0, none⟩)] w fun e1 w' => e1 = .returned (.tuple #[]) ∧ Co w0 w' cb r [] X ∧ Kx X w w' := by
  obtain ⟨F, hC, hF, h0, hX⟩ := H
  refine hC.clear.mono ?_
  rintro e1 w' ⟨rfl, h1, h2⟩
  exact ⟨rfl, Co.step h1 h2 hF h0 hX⟩
theorem Co.keys (H : Co w0 w cb r S X) (hl : S.length ≤ 8796093022207) : Calls Try.prog 13 #[.pointer (some ⟨cb, 0, none⟩)] w fun e1 w' => ∃ v, e1 = .returned v ∧ Kl w' w.heap.size v (S.map En.key) ∧ Below w.heap.size w w' := by
  obtain ⟨F, hC, hF, h0, hX⟩ := H
  exact hC.keys hl
theorem Co.weight (H : Co w0 w cb r S X) : Calls Try.prog 15 #[.pointer (some ⟨cb, 0, none⟩)] w fun e1 w' => e1 = .returned (.int .i64 (wsum S)) ∧ w' = w := by
  obtain ⟨F, hC, hF, h0, hX⟩ := H
  exact hC.weight
theorem new_co (r : Int) (h0 : 0 ≤ r) (h1 : r ≤ 1073741824) {w0 w : World} (hb : Below w0.heap.size w0 w) : Calls Try.prog 9 #[.int .i64 r] w fun e1 w' => ∃ cb, e1 = .returned (.tuple #[.pointer (some ⟨cb, 0, none⟩), .int .i64 0]) ∧ Co w0 w' cb r [] (· < w.heap.size) ∧ Below w.heap.size w w' := by
  refine (new_cx r h0 h1 w).mono ?_
  rintro e1 w' ⟨cb, rfl, hC, hB⟩
  refine ⟨cb, rfl, ⟨_, hC, fun b h => Nat.le_trans hb.size h.1, hb.trans (hB.mono hb.size), fun b h => ⟨Nat.lt_of_lt_of_le h hB.size, fun h2 => by have := h2.1; omega⟩⟩, hB⟩
theorem Co.less (H : Co w0 w cb r S X) {Y : Nat → Prop} (h : ∀ b, Y b → X b) : Co w0 w cb r S Y := by
  obtain ⟨F, hC, hF, h0, hX⟩ := H
  exact ⟨F, hC, hF, h0, fun b hb => hX b (h b hb)⟩
end
/-- Two caches of the law's own. -/
def Tw (w0 w : World) (c : Nat) (r : Int) (S : List Ent) (d : Nat) (s : Int) (T : List Ent) (X : Nat → Prop) : Prop := ∃ F G, Cx w c r S F ∧ Cx w d s T G ∧ (∀ b, F b → ¬ G b) ∧ (∀ b, F b → w0.heap.size ≤ b) ∧ (∀ b, G b → w0.heap.size ≤ b) ∧ Below w0.heap.size w0 w ∧ ∀ b, X b → b < w.heap.size ∧ ¬ F b ∧ ¬ G b
section
variable {w0 w : World} {c d : Nat} {r s : Int} {S T : List Ent} {X : Nat → Prop}
theorem Tw.swap (H : Tw w0 w c r S d s T X) : Tw w0 w d s T c r S X := by
  obtain ⟨F, G, h1, h2, h3, h4, h5, h6, h7⟩ := H
  exact ⟨G, F, h2, h1, fun b h k => h3 b k h, h5, h4, h6, fun b h => ⟨(h7 b h).1, (h7 b h).2.2, (h7 b h).2.1⟩⟩
theorem Tw.base (H : Tw w0 w c r S d s T X) : Below w0.heap.size w0 w := by
  obtain ⟨F, G, h1, h2, h3, h4, h5, h6, h7⟩ := H; exact h6
theorem Tw.ok (H : Tw w0 w c r S d s T X) : Okc txq r S ∧ Okc txq s T := by
  obtain ⟨F, G, h1, h2, _⟩ := H; exact ⟨h1.ok.1, h2.ok.1⟩
theorem Tw.less (H : Tw w0 w c r S d s T X) {Y : Nat → Prop} (h : ∀ b, Y b → X b) : Tw w0 w c r S d s T Y := by
  obtain ⟨F, G, h1, h2, h3, h4, h5, h6, h7⟩ := H
  exact ⟨F, G, h1, h2, h3, h4, h5, h6, fun b hb => h7 b (h b hb)⟩
theorem Tw.more (H : Tw w0 w c r S d s T X) {w' : World} (hb : Below w.heap.size w w') {Y : Nat → Prop} (hY : ∀ b, Y b → X b ∨ (w.heap.size ≤ b ∧ b < w'.heap.size)) : Tw w0 w' c r S d s T Y := by
  obtain ⟨F, G, h1, h2, h3, h4, h5, h6, h7⟩ := H
  refine ⟨F, G, h1.below hb, h2.below hb, h3, h4, h5, h6.trans (hb.mono h6.size), fun b hb1 => ?_⟩
  rcases hY b hb1 with h | h
  · exact ⟨Nat.lt_of_lt_of_le (h7 b h).1 hb.size, (h7 b h).2⟩
  · exact ⟨h.2, fun k => by have := h1.lt b k; omega, fun k => by have := h2.lt b k; omega⟩
theorem Tw.turn (H : Tw w0 w c r S d s T X) {w' : World} (ht : Tn X w w') (hX0 : ∀ b, X b → w0.heap.size ≤ b) : Tw w0 w' c r S d s T X := by
  obtain ⟨F, G, h1, h2, h3, h4, h5, h6, h7⟩ := H
  exact ⟨F, G, h1.keep ht.size (fun b hb => ht.block b (h1.lt b hb) (fun h => (h7 b h).2.1 hb)), h2.keep ht.size (fun b hb => ht.block b (h2.lt b hb) (fun h => (h7 b h).2.2 hb)), h3, h4, h5, tn_below h6 hX0 ht, fun b hb1 => ⟨Nat.lt_of_lt_of_le (h7 b hb1).1 ht.size, (h7 b hb1).2⟩⟩
theorem Tw.step {w' : World} {S' : List Ent} {F G : Nat → Prop} (hC : Cx w' c r S' (Fn F w w')) (ht : Tn F w w') (_h1 : Cx w c r S F) (h2 : Cx w d s T G) (h3 : ∀ b, F b → ¬ G b) (h4 : ∀ b, F b → w0.heap.size ≤ b) (h5 : ∀ b, G b → w0.heap.size ≤ b) (h6 : Below w0.heap.size w0 w) (h7 : ∀ b, X b → b < w.heap.size ∧ ¬ F b ∧ ¬ G b) : Tw w0 w' c r S' d s T X ∧ Kx X w w' := by
  refine ⟨⟨Fn F w w', G, hC, h2.keep ht.size (fun b hb => ht.block b (h2.lt b hb) (fun k => h3 b k hb)), ?_, ?_, h5, tn_below h6 h4 ht, fun b hb1 => ⟨Nat.lt_of_lt_of_le (h7 b hb1).1 ht.size, ?_, (h7 b hb1).2.2⟩⟩, fun b hb1 => ht.block b (h7 b hb1).1 (h7 b hb1).2.1⟩
  · rintro b (h | h) k
    · exact h3 b h k
    · have := h2.lt b k; omega
  · rintro b (h | h)
    · exact h4 b h
    · exact Nat.le_trans h6.size h.1
  · rintro (h | h)
    · exact (h7 b hb1).2.1 h
    · have := (h7 b hb1).1; omega
theorem Tw.put (H : Tw w0 w c r S d s T X) (x : Tx) (v : Tx) (wt : Int) (hq : txq x x = true) (w1 : -9223372036854775808 ≤ wt) (w2 : wt ≤ 9223372036854775807) :
    Calls Try.prog 29 #[.pointer (some ⟨c, 0, none⟩), encStr x, encStr v, .int .i64 wt] w fun e1 w' => e1 = .returned (.bool (cput txq r ⟨0, x, v, wt⟩ S).2) ∧ Tw w0 w' c r (cput txq r ⟨0, x, v, wt⟩ S).1 d s T X ∧ Kx X w w' := by
  obtain ⟨F, G, h1, h2, h3, h4, h5, h6, h7⟩ := H
  refine (h1.put x v wt hq w1 w2).mono ?_
  rintro e1 w' ⟨rfl, k1, k2⟩
  exact ⟨rfl, Tw.step k1 k2 h1 h2 h3 h4 h5 h6 h7⟩
theorem Tw.get (H : Tw w0 w c r S d s T X) (x : Tx) : Calls Try.prog 30 #[.pointer (some ⟨c, 0, none⟩), encStr x] w fun e1 w' => e1 = .returned (.tuple #[getv (fnd txq x S), .bool (fnd txq x S).isSome]) ∧ Tw w0 w' c r (cget txq x S) d s T X ∧ Kx X w w' := by
  obtain ⟨F, G, h1, h2, h3, h4, h5, h6, h7⟩ := H
  refine (h1.get x).mono ?_
  rintro e1 w' ⟨rfl, k1, k2⟩
  exact ⟨rfl, Tw.step (k1.more (fun b h => .inl h) (fn_lt h1.lt k2.size)) k2 h1 h2 h3 h4 h5 h6 h7⟩
theorem Tw.drop (H : Tw w0 w c r S d s T X) (x : Tx) : Calls Try.prog 31 #[.pointer (some ⟨c, 0, none⟩), encStr x] w fun e1 w' => e1 = .returned (.bool (fnd txq x S).isSome) ∧ Tw w0 w' c r (drp txq x S) d s T X ∧ Kx X w w' := by
  obtain ⟨F, G, h1, h2, h3, h4, h5, h6, h7⟩ := H
  refine (h1.drop x).mono ?_
  rintro e1 w' ⟨rfl, k1, k2⟩
  exact ⟨rfl, Tw.step (k1.more (fun b h => .inl h) (fn_lt h1.lt k2.size)) k2 h1 h2 h3 h4 h5 h6 h7⟩
theorem Tw.clear (H : Tw w0 w c r S d s T X) : Calls Try.prog 32 #[.pointer (some ⟨c, 0, none⟩)] w fun e1 w' => e1 = .returned (.tuple #[]) ∧ Tw w0 w' c r [] d s T X ∧ Kx X w w' := by
  obtain ⟨F, G, h1, h2, h3, h4, h5, h6, h7⟩ := H
  refine h1.clear.mono ?_
  rintro e1 w' ⟨rfl, k1, k2⟩
  exact ⟨rfl, Tw.step k1 k2 h1 h2 h3 h4 h5 h6 h7⟩
theorem Tw.keys (H : Tw w0 w c r S d s T X) (hl : S.length ≤ 8796093022207) : Calls Try.prog 13 #[.pointer (some ⟨c, 0, none⟩)] w fun e1 w' => ∃ v, e1 = .returned v ∧ Kl w' w.heap.size v (S.map En.key) ∧ Below w.heap.size w w' := by
  obtain ⟨F, G, h1, _⟩ := H
  exact h1.keys hl
theorem Tw.weight (H : Tw w0 w c r S d s T X) : Calls Try.prog 15 #[.pointer (some ⟨c, 0, none⟩)] w fun e1 w' => e1 = .returned (.int .i64 (wsum S)) ∧ w' = w := by
  obtain ⟨F, G, h1, _⟩ := H
  exact h1.weight
/-- A second one is made. -/
theorem Co.two (H : Co w0 w c r S X) (s : Int) (k0 : 0 ≤ s) (k1 : s ≤ 1073741824) : Calls Try.prog 9 #[.int .i64 s] w fun e1 w' => ∃ d, e1 = .returned (.tuple #[.pointer (some ⟨d, 0, none⟩), .int .i64 0]) ∧ Tw w0 w' c r S d s [] X ∧ Below w.heap.size w w' := by
  obtain ⟨F, hC, hF, h0, hX⟩ := H
  refine (new_cx s k0 k1 w).mono ?_
  rintro e1 w' ⟨cb, rfl, hD, hB⟩
  refine ⟨cb, rfl, ⟨F, _, hC.below hB, hD, fun b h k => ?_, hF, fun b k => Nat.le_trans h0.size k.1, h0.trans (hB.mono h0.size), fun b h => ⟨Nat.lt_of_lt_of_le (hX b h).1 hB.size, (hX b h).2, fun k => ?_⟩⟩, hB⟩
  · have := hC.lt b h; have := k.1; omega
  · have := (hX b h).1; have := k.1; omega
end
end Go.Proofs.Ytjefciioaebbeaa.SS
