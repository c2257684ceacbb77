/-
  A reading on its way: 'next', 'short', 'count', 'block'.
-/
import Derived.Test.YtfcjkaigmlfjnaaVg
import Derived.Test.YtfcjkaigmlfjnaaKs
import Derived.Laws.Bits64b
namespace Go.Proofs.Ytfcjkaigmlfjnaa
open Go.RowKit
/-- A slice that reads as these bytes. -/
def Sq (w : World) (v : Value) (bs : List (BitVec 8)) : Prop :=
  (bs = [] ∧ v = .slice none 0 0) ∨ ∃ b o c, v = .slice (some ⟨b, o, none⟩) bs.length c ∧ bs.length ≤ c ∧ ∀ i, i < bs.length → w.cell? ⟨b, o + i, none⟩ = some (.int .u8 (el (bs.getD i 0#8)))
/-- No bytes lie in that block. -/
def Nb (w : World) (g : Nat) : Prop := ∀ i z, w.cell? ⟨g, i, none⟩ ≠ some (.int .u8 z)
theorem gtrans {w w1 w2 : World} {r : Option Nat} (h : w.grownBy w1 r) (k : w1.grownBy w2 r) : w.grownBy w2 r :=
  ⟨k.os.trans h.os, k.tape.trans h.tape, k.output.trans h.output, Nat.le_trans h.size k.size, fun i hi hne => (k.block i (Nat.lt_of_lt_of_le hi h.size) hne).trans (h.block i hi hne)⟩
theorem grefl (w : World) (r : Option Nat) : w.grownBy w r := ⟨rfl, rfl, rfl, Nat.le_refl _, fun _ _ _ => rfl⟩
theorem grown_below {w w1 w2 : World} {r : Option Nat} (h : w.grownBy w1 r) (k : Below w1.heap.size w1 w2) : w.grownBy w2 r :=
  ⟨k.os.trans h.os, k.tape.trans h.tape, k.output.trans h.output, Nat.le_trans h.size k.size, fun i hi hne => (k.block i (Nat.lt_of_lt_of_le hi h.size)).trans (h.block i hi hne)⟩
theorem Sq.kept {w w' : World} {v : Value} {bs : List (BitVec 8)} {g : Nat} (h : Sq w v bs) (hb : Nb w g) (hg : w.grownBy w' (some g)) : Sq w' v bs := by
  rcases h with h | ⟨b, o, c, hv, hc, hr⟩
  · exact .inl h
  · refine .inr ⟨b, o, c, hv, hc, fun i hi => hg.cell (hr i hi) (fun e => ?_)⟩
    injection e with e
    have e : b = g := e
    have := hr i hi
    rw [e] at this
    exact hb _ _ this
theorem Sq.below {w w' : World} {v : Value} {bs : List (BitVec 8)} (h : Sq w v bs) (hg : Below w.heap.size w w') : Sq w' v bs := by
  rcases h with h | ⟨b, o, c, hv, hc, hr⟩
  · exact .inl h
  · exact .inr ⟨b, o, c, hv, hc, fun i hi => cell_below (hr i hi) hg⟩
theorem Sq.rd {w : World} {v : Value} {bs : List (BitVec 8)} (h : Sq w v bs) : ∃ p c, v = .slice p bs.length c ∧ bs.length ≤ c ∧ Rd w p bs := by
  rcases h with ⟨rfl, rfl⟩ | ⟨b, o, c, rfl, hc, hr⟩
  · exact ⟨none, 0, rfl, Nat.le_refl _, .inl rfl⟩
  · exact ⟨_, c, rfl, hc, .inr ⟨b, o, rfl, hr⟩⟩
theorem Ow.sq {w : World} {base : Nat} {v : Value} {xs : List (BitVec 8)} (h : Ow w base v xs) : Sq w v xs := by
  obtain ⟨p, c, hv, hc, hr⟩ := h.rd
  rcases h.2 with ⟨hv0, h0⟩ | ⟨g, cap, cur, hv1, _⟩
  · exact .inl ⟨List.length_eq_zero_iff.1 h0, hv0⟩
  · rw [hv1] at hv
    injection hv with e1 e2 e3
    subst e1 e3
    refine .inr ⟨g, 0, cap, hv1, hc, fun i hi => ?_⟩
    rcases hr with hr | ⟨b, o, e, hr⟩
    · rw [hr] at hi; cases hi
    · injection e with e
      injection e with e1 e2
      subst e1 e2
      exact hr i hi
/-- A walk: what is left. -/
def Wk (B : Nat) (w : World) (g : Nat) (bs : List (BitVec 8)) : Prop := ∃ v, w.heap[g]? = some (.cells #[v] 104 (0, 0)) ∧ Sq w v bs ∧ B ≤ g ∧ ∀ b, v.ownBlock = some b → b < B
theorem nb_of {w : World} {g : Nat} {cs : Array Value} {t : TypeId} {fz : Nat × Nat} (h : w.heap[g]? = some (.cells cs t fz)) (hc : ∀ (i : Nat) z, cs[i]? ≠ some (.int .u8 z)) : Nb w g := by
  intro i z e
  rw [cell_of_row w g i _ _ _ h] at e
  exact hc i z e
theorem sq_nint {w : World} {v : Value} {bs : List (BitVec 8)} (h : Sq w v bs) : ∀ z, v ≠ .int .u8 z := by
  rcases h with ⟨_, rfl⟩ | ⟨b, o, c, rfl, _⟩ <;> (intro z e; cases e)
theorem Wk.nb {B : Nat} {w : World} {g : Nat} {bs : List (BitVec 8)} (h : Wk B w g bs) : Nb w g := by
  obtain ⟨v, hg, hs, _⟩ := h
  refine nb_of hg (fun i z e => ?_)
  cases i with
  | zero => simp at e; exact sq_nint hs z e
  | succ i => simp at e
theorem Wk.lt {B : Nat} {w : World} {g : Nat} {bs : List (BitVec 8)} (h : Wk B w g bs) : g < w.heap.size := by
  obtain ⟨v, hg, hs, _⟩ := h
  rcases Nat.lt_or_ge g w.heap.size with h1 | h1
  · exact h1
  · rw [Array.getElem?_eq_none h1] at hg; cases hg
theorem Wk.below {B : Nat} {w w' : World} {g : Nat} {bs : List (BitVec 8)} (h : Wk B w g bs) (hb : Below w.heap.size w w') : Wk B w' g bs := by
  have hl := h.lt
  obtain ⟨v, hg, hs, hBg, hv⟩ := h
  exact ⟨v, by rw [hb.block g hl]; exact hg, hs.below hb, hBg, hv⟩
/-- Behind what turned blocks that are younger than the walk. -/
theorem Wk.young {B : Nat} {w w' : World} {g : Nat} {bs : List (BitVec 8)} {o : Option Nat} (h : Wk B w g bs) (hg : w.grownBy w' o) (ho : ∀ k, o = some k → B ≤ k ∧ k ≠ g) : Wk B w' g bs := by
  have hl := h.lt
  obtain ⟨v, hh, hs, hBg, hv⟩ := h
  refine ⟨v, by rw [hg.block g hl (fun e => (ho g e.symm).2 rfl)]; exact hh, ?_, hBg, hv⟩
  rcases hs with h1 | ⟨b, of, c, rfl, hc, hr⟩
  · exact .inl h1
  · have hbg : b < B := hv b rfl
    exact .inr ⟨b, of, c, rfl, hc, fun i hi => hg.cell (hr i hi) (fun e => by have := (ho b e.symm).1; omega)⟩
theorem grown_set (w : World) (g i : Nat) (v : Value) : w.grownBy (w.setCell ⟨g, i, none⟩ v) (some g) :=
  ⟨rfl, rfl, rfl, ((Below.refl 0 w).setCell (Nat.zero_le _) v).size, fun k _ hne => heap_setCell_other w ⟨g, i, none⟩ k v (fun e => hne (congrArg some e))⟩
theorem wk_set {B : Nat} {w : World} {g : Nat} {u v : Value} {bs : List (BitVec 8)} (hg : w.heap[g]? = some (.cells #[u] 104 (0, 0))) (hb : Nb w g) (hs : Sq w v bs) (hBg : B ≤ g) (hv : ∀ b, v.ownBlock = some b → b < B) : Wk B (w.setCell ⟨g, 0, none⟩ v) g bs :=
  ⟨v, heap_setCell_same w g 0 _ _ v hg, hs.kept hb (grown_set w g 0 v), hBg, hv⟩
/-- A panic with an error's number. -/
abbrev pan (e : Int) : Ending := .panicked [{ v := .iface 36 (.int .i64 e), recovered := false }]
section
attribute [local irreducible] Calls el
set_option maxRecDepth 1000000 in
theorem next_cut {B : Nat} {w : World} {g : Nat} {bs : List (BitVec 8)} (h : Wk B w g bs) (n : Int) (hn : (bs.length : Int) < n) :
    Calls Try.prog 57 #[.pointer (some ⟨g, 0, none⟩), .int .i64 n] w fun e w' => e = pan 70 ∧ w' = w := by
  obtain ⟨v, hg, hs, _⟩ := h
  have h1 := cell_of_row w g 0 _ _ (0, 0) hg
  rcases hs with ⟨rfl, rfl⟩ | ⟨b, o, c, rfl, hc, hr⟩
  · have hn' : (0 : Int) < n := by simpa using hn
    go_enter Try.func57, Try.ntmps57
    go_wp2
    exact ⟨rfl, rfl, rfl⟩
  · go_enter Try.func57, Try.ntmps57
    go_wp2
    exact ⟨rfl, rfl, rfl⟩
theorem sq_head {w : World} {b o c : Nat} {xs ys : List (BitVec 8)} (hc : (xs ++ ys).length ≤ c) (hr : ∀ i, i < (xs ++ ys).length → w.cell? ⟨b, o + i, none⟩ = some (.int .u8 (el ((xs ++ ys).getD i 0#8)))) : Sq w (.slice (some ⟨b, o, none⟩) xs.length c) xs := by
  rw [List.length_append] at hc hr
  refine .inr ⟨b, o, c, rfl, by omega, fun i hi => ?_⟩
  rw [hr i (by omega)]
  simp [List.getD, List.getElem?_append_left hi]
theorem sq_tail {w : World} {b o c : Nat} {xs ys : List (BitVec 8)} (hc : (xs ++ ys).length ≤ c) (hr : ∀ i, i < (xs ++ ys).length → w.cell? ⟨b, o + i, none⟩ = some (.int .u8 (el ((xs ++ ys).getD i 0#8)))) : Sq w (.slice (some ⟨b, o + xs.length, none⟩) ys.length (c - xs.length)) ys := by
  rw [List.length_append] at hc hr
  refine .inr ⟨b, o + xs.length, c - xs.length, rfl, by omega, fun i hi => ?_⟩
  have := hr (xs.length + i) (by omega)
  rw [Nat.add_assoc, this]
  simp [List.getD, List.getElem?_append_right]
set_option maxRecDepth 1000000 in
theorem next_ok {B : Nat} {w : World} {g : Nat} {xs ys : List (BitVec 8)} (h : Wk B w g (xs ++ ys)) (n : Nat) (hn : xs.length = n) :
    Calls Try.prog 57 #[.pointer (some ⟨g, 0, none⟩), .int .i64 (n : Int)] w fun e w' => ∃ v, e = .returned v ∧ Sq w' v xs ∧ Wk B w' g ys ∧ w.grownBy w' (some g) := by
  have hnb := h.nb
  obtain ⟨v, hg, hs, hBg, hbd⟩ := h
  have h1 := cell_of_row w g 0 _ _ (0, 0) hg
  have h2 := frozen_of_row w g 0 _ _ hg
  rcases hs with ⟨he, rfl⟩ | ⟨b, o, c, rfl, hc, hr⟩
  · obtain ⟨rfl, rfl⟩ := List.append_eq_nil_iff.1 he
    obtain rfl : 0 = n := hn
    go_enter Try.func57, Try.ntmps57
    go_wp2
    go_ret
    exact ⟨_, rfl, .inl ⟨rfl, rfl⟩, wk_set hg hnb (.inl ⟨rfl, rfl⟩) hBg (fun b h => by cases h), grown_set _ _ _ _⟩
  · subst hn
    have q1 := sq_head (xs := xs) (ys := ys) hc hr
    have q2 := sq_tail (xs := xs) (ys := ys) hc hr
    have hl : (xs ++ ys).length = xs.length + ys.length := List.length_append
    rw [hl] at hc h1 hr
    obtain ⟨n, hn⟩ : ∃ n, xs.length = n := ⟨_, rfl⟩
    obtain ⟨m, hm⟩ : ∃ m, ys.length = m := ⟨_, rfl⟩
    rw [hn, hm] at hc h1 hr
    rw [hn] at q1
    rw [hn, hm] at q2
    rw [hn]
    have hlt : ¬ ((n + m : Nat) : Int) < (n : Int) := by omega
    by_cases hcn : n = c
    · have hm0 : m = 0 := by omega
      have hys : ys = [] := List.length_eq_zero_iff.1 (by omega)
      subst hys hcn hm0
      go_enter Try.func57, Try.ntmps57
      go_wp2
      go_ret
      exact ⟨_, rfl, q1.kept hnb (grown_set _ _ _ _), wk_set hg hnb (.inr ⟨_, _, _, rfl, Nat.le_refl _, fun i hi => by cases hi⟩) hBg hbd, grown_set _ _ _ _⟩
    · have hcn' : ¬ c - n = 0 := by omega
      go_enter Try.func57, Try.ntmps57
      go_wp2
      go_ret
      exact ⟨_, rfl, q1.kept hnb (grown_set _ _ _ _), wk_set hg hnb q2 hBg hbd, grown_set _ _ _ _⟩
theorem short_bits (s d i : Nat) (h : s < 128 ^ i) (hb : s + d * 128 ^ i < 18446744073709551616) : bits .or .u64 (s : Int) (IntKind.u64.wrap ((d : Int) * 2 ^ (7 * i))) = ((s + d * 128 ^ i : Nat) : Int) := by
  have e : (2 : Int) ^ (7 * i) = ((128 ^ i : Nat) : Int) := by rw [Int.pow_mul]; simp
  rw [e, ← Int.natCast_mul, IntKind.wrap_u64, show ((d * 128 ^ i : Nat) : Int) % 18446744073709551616 = ((d * 128 ^ i : Nat) : Int) by omega, bits_or_u64_nat _ _ (by omega) (by omega), or_disj s d i h]
theorem pow_le9 (i : Nat) (h : i ≤ 8) : 128 ^ (i + 1) ≤ 9223372036854775808 := Nat.le_trans (Nat.pow_le_pow_right (by omega) (show i + 1 ≤ 9 by omega)) (by decide)
/-- What a walk's step answers. -/
def Tell {α : Type} (B : Nat) (w : World) (g : Nat) (f : α → World → Value → Prop) (R : Ans α) (e : Ending) (w' : World) : Prop :=
  w.grownBy w' (some g) ∧ match R with
  | .error c => e = pan c
  | .ok (a, l) => ∃ v, e = .returned v ∧ f a w' v ∧ Wk B w' g l
theorem sum_fits (s i c : Nat) (hs : s < 128 ^ i) (hi : i ≤ 9) (h9 : i = 9 → c ≤ 1) (hc : c < 256) : s + (c % 128) * 128 ^ i < 18446744073709551616 := by
  rcases Nat.lt_or_ge i 9 with h | h
  · have h1 := pow_le9 i (by omega)
    rw [Nat.pow_succ] at h1
    have h2 : (c % 128) * 128 ^ i ≤ 127 * 128 ^ i := Nat.mul_le_mul_right _ (by omega)
    omega
  · have : i = 9 := by omega
    subst this
    have h1 := h9 rfl
    have h2 : (c % 128) * 128 ^ 9 ≤ 1 * 128 ^ 9 := Nat.mul_le_mul_right _ (by omega)
    have h3 : (128 : Nat) ^ 9 = 9223372036854775808 := by decide
    omega
theorem sum_next (s i c : Nat) (hs : s < 128 ^ i) : s + (c % 128) * 128 ^ i < 128 ^ (i + 1) := by
  rw [Nat.pow_succ]
  have h2 : (c % 128) * 128 ^ i ≤ 127 * 128 ^ i := Nat.mul_le_mul_right _ (by omega)
  omega
end
end Go.Proofs.Ytfcjkaigmlfjnaa
