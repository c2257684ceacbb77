/-
  CacheUses: one call of the program's cache and of the document's beside one another.
-/
import Derived.Test.YtjefciioaebbeaaRp28
import Derived.Test.YtjefciioaebbeaaCiS28
import Derived.Test.YtjefciioaebbeaaTx28
import Derived.Test.YtjefciioaebbeaaUs28
import Derived.Deep.RegionHeld3
set_option linter.unusedVariables false
namespace Go.Proofs.Ytjefciioaebbeaa
open Go.RowKit
/-- The program's cache c and the document's list at p hold the same; d beside them. -/
def Ux (w0 w : World) (c : Nat) (r : Int) (S : List SS.Ent) (d : Nat) (s : Int) (T : List SS.Ent) (X : Nat → Prop) (p : Option Addr) : Prop := SS.Tw w0 w c r S d s T X ∧ RdE w p S ∧ (S ≠ [] → ∀ a, p = some a → X a.block)
/-- .. behind a call. -/
def Uw (w0 w w' : World) (c : Nat) (r : Int) (S' : List SS.Ent) (d : Nat) (s : Int) (T : List SS.Ent) (X : Nat → Prop) (p' : Option Addr) : Prop := ∃ Y : Nat → Prop, Ux w0 w' c r S' d s T Y p' ∧ (∀ b, X b → Y b) ∧ (∀ b, Y b → X b ∨ w.heap.size ≤ b) ∧ SS.Kx X w w'
/-- X and what is new. -/
def Nx (X : Nat → Prop) (w W : World) (b : Nat) : Prop := X b ∨ (w.heap.size ≤ b ∧ b < W.heap.size)
theorem RdE.kx {w w' : World} {p : Option Addr} {S : List SS.Ent} {X : Nat → Prop} (h : RdE w p S) (hp : S ≠ [] → ∀ a, p = some a → X a.block) (hk : SS.Kx X w w') : RdE w' p S := by
  by_cases hS : S = []
  · exact .inl hS
  rcases h with h | ⟨b, o, rfl, h⟩
  · exact .inl h
  · refine .inr ⟨b, o, rfl, fun i e he => ?_⟩
    obtain ⟨h1, h2, h3⟩ := h i e he
    have hb : w'.heap[b]? = w.heap[b]? := hk b (hp hS _ rfl)
    have hc : ∀ k, w'.cell? ⟨b, k, none⟩ = w.cell? ⟨b, k, none⟩ := fun k => by unfold World.cell?; simp only [hb]
    rw [hc, hc, hc]
    exact ⟨h1, h2, h3⟩
theorem GB.kx {w w' : World} {g : Nat} {t : TypeId} {cs : Array Value} {X : Nat → Prop} (h : GB w g t cs) (hg : X g) (hk : SS.Kx X w w') : GB w' g t cs := by
  unfold GB at h ⊢
  rw [hk g hg]; exact h
section
variable {w0 w : World} {c d : Nat} {r s : Int} {S T : List SS.Ent} {X : Nat → Prop} {p : Option Addr}
theorem Tw.kx (H : SS.Tw w0 w c r S d s T X) {W : World} (hb : Below w.heap.size w W) : SS.Kx X w W := by
  obtain ⟨F, G, h1, h2, h3, h4, h5, h6, h7⟩ := H
  exact fun b hb1 => hb.block b (h7 b hb1).1
theorem Kx.trans {w w1 w2 : World} {X Y : Nat → Prop} (h1 : SS.Kx X w w1) (h : ∀ b, X b → Y b) (h2 : SS.Kx Y w1 w2) : SS.Kx X w w2 := fun b hb => (h2 b (h b hb)).trans (h1 b hb)
/-- New memory beside it. -/
theorem Ux.grow (H : Ux w0 w c r S d s T X p) {W : World} (hb : Below w.heap.size w W) : SS.Tw w0 W c r S d s T (Nx X w W) ∧ RdE W p S ∧ SS.Kx X w W :=
  ⟨H.1.more hb (fun b h => h), H.2.1.below hb, Tw.kx H.1 hb⟩
/-- A call of the program's cache behind it. -/
theorem uw_of {W W' : World} {S' : List SS.Ent} {p' : Option Addr} (H : Ux w0 w c r S d s T X p) (hb : Below w.heap.size w W) (h : SS.Tw w0 W' c r S' d s T (Nx X w W)) (hk : SS.Kx (Nx X w W) W W') (hR : RdE W' p' S') (hp : S' ≠ [] → ∀ a, p' = some a → Nx X w W a.block) : Uw w0 w W' c r S' d s T X p' :=
  ⟨Nx X w W, ⟨h, hR, hp⟩, fun b h => .inl h, fun b h => h.imp id And.left, Kx.trans (Tw.kx H.1 hb) (fun b h => .inl h) hk⟩
theorem uw_more {W W' : World} {S' : List SS.Ent} {p' : Option Addr} (H : Uw w0 w W c r S' d s T X p') (hb : Below W.heap.size W W') : Uw w0 w W' c r S' d s T X p' := by
  obtain ⟨Y, h1, h2, h3, h4⟩ := H
  exact ⟨Y, ⟨h1.1.more hb (fun b h => .inl h), h1.2.1.below hb, h1.2.2⟩, h2, h3, Kx.trans h4 h2 (Tw.kx h1.1 hb)⟩
/-- A block of new memory is written. -/
theorem uw_set {W W' : World} {S' : List SS.Ent} {p' : Option Addr} {g : Nat} {Y : Nat → Prop} (h1 : SS.Tw w0 W c r S' d s T Y) (hY : Y g) (hXg : w.heap.size ≤ g) (hgl : w0.heap.size ≤ g) (hlt : ∀ b, X b → b < w.heap.size) (hR : RdE W p' S') (hpg : S' ≠ [] → ∀ a, p' = some a → a.block ≠ g) (hp : S' ≠ [] → ∀ a, p' = some a → Y a.block) (hXY : ∀ b, X b → Y b) (hYX : ∀ b, Y b → X b ∨ w.heap.size ≤ b) (hK : SS.Kx X w W) (hg : W.grownBy W' (some g)) : Uw w0 w W' c r S' d s T X p' := by
  have hgW : g < W.heap.size := by
    obtain ⟨F, G, _, _, _, _, _, _, h7⟩ := h1
    exact (h7 g hY).1
  have ht : Tn (· = g) W W' := ⟨hg.os, hg.tape, hg.output, hg.size, fun k hk h => hg.block k hk (fun e => h (by injection e))⟩
  have h2 : SS.Tw w0 W' c r S' d s T Y := by
    obtain ⟨F, G, k1, k2, k3, k4, k5, k6, k7⟩ := h1
    exact ⟨F, G, k1.keep ht.size (fun b hb => ht.block b (k1.lt b hb) (fun h => (k7 g hY).2.1 (by rw [← h]; exact hb))), k2.keep ht.size (fun b hb => ht.block b (k2.lt b hb) (fun h => (k7 g hY).2.2 (by rw [← h]; exact hb))), k3, k4, k5, SS.tn_below k6 (fun b hb => by rw [hb]; exact hgl) ht, fun b hb1 => ⟨Nat.lt_of_lt_of_le (k7 b hb1).1 ht.size, (k7 b hb1).2⟩⟩
  refine ⟨Y, ⟨h2, ?_, hp⟩, hXY, hYX, fun b hb => ?_⟩
  · have hk : SS.Kx (fun b => Y b ∧ b ≠ g) W W' := fun b hb => by
      obtain ⟨F, G, k1, k2, k3, k4, k5, k6, k7⟩ := h1
      exact ht.block b (k7 b hb.1).1 hb.2
    exact hR.kx (fun h a ha => ⟨hp h a ha, hpg h a ha⟩) hk
  · have h5 : b ≠ g := fun h => by have := hlt b hb; omega
    obtain ⟨F, G, k1, k2, k3, k4, k5, k6, k7⟩ := h1
    rw [ht.block b (k7 b (hXY b hb)).1 h5]
    exact hK b hb
theorem Ux.xlt (H : Ux w0 w c r S d s T X p) : ∀ b, X b → b < w.heap.size := by
  obtain ⟨⟨F, G, k1, k2, k3, k4, k5, k6, k7⟩, _⟩ := H
  exact fun b hb => (k7 b hb).1
theorem Ux.rok (H : Ux w0 w c r S d s T X p) : Okc txq r S ∧ 0 ≤ r ∧ r ≤ 1073741824 := by
  obtain ⟨⟨F, G, k1, _⟩, _⟩ := H
  exact k1.ok
theorem Ux.base (H : Ux w0 w c r S d s T X p) : w0.heap.size ≤ w.heap.size := H.1.base.size
end
/-- What the three boxes hold. -/
def Bx (w W : World) (r : Int) (v : Value) (x : Us) (g1 g2 g3 : Nat) : Prop := GB W g1 28 (rcC r v) ∧ GB W g2 34 x.cs ∧ GB W g3 28 (rcC 0 (.slice none 0 0)) ∧ Below w.heap.size w W ∧ w.heap.size ≤ g1 ∧ g1 < g2 ∧ g2 < g3 ∧ g3 < W.heap.size
theorem bx_of {w W1 W2 W3 : World} {r : Int} {v : Value} {x : Us} (G1 : GB W1 w.heap.size 28 (rcC r v)) (b1 : Below w.heap.size w W1) (s1 : Hid (W1.heap.size = w.heap.size + 1)) (G2 : GB W2 W1.heap.size 34 x.cs) (b2 : Below W1.heap.size W1 W2) (s2 : Hid (W2.heap.size = W1.heap.size + 1)) (G3 : GB W3 W2.heap.size 28 (rcC 0 (.slice none 0 0))) (b3 : Below W2.heap.size W2 W3) (s3 : Hid (W3.heap.size = W2.heap.size + 1)) : UV W3 W1.heap.size x ∧ Hid (Bx w W3 r v x w.heap.size W1.heap.size W2.heap.size) := by
  have h1 := s1.out; have h2 := s2.out; have h3 := s3.out
  exact ⟨G2.below b3, (G1.below b2).below b3, G2.below b3, G3, (b1.trans (b2.mono b1.size)).trans (b3.mono (Nat.le_trans b1.size b2.size)), Nat.le_refl _, by omega, by omega, by omega⟩
/-- The end of a call: the program's cache was called in W3, memory grew, the result's block was written. -/
theorem uw_end {w0 w W3 W4 W5 W6 : World} {c d : Nat} {r s : Int} {S S' T : List SS.Ent} {X : Nat → Prop} {p p' : Option Addr} {v : Value} {x : Us} {g1 g2 g3 : Nat} (H : Ux w0 w c r S d s T X p) (hB : ∃ W, Bx w W r v x g1 g2 g3 ∧ Below W.heap.size W W3) (h4 : SS.Tw w0 W4 c r S' d s T (Nx X w W3)) (hk : SS.Kx (Nx X w W3) W3 W4) (hb5 : Below W4.heap.size W4 W5) (hR : RdE W5 p' S') (hp : S' ≠ [] → ∀ a, p' = some a → Nx X w W3 a.block ∨ W4.heap.size ≤ a.block) (hpg : S' ≠ [] → ∀ a, p' = some a → a.block ≠ g3) (hg : W5.grownBy W6 (some g3)) : Uw w0 w W6 c r S' d s T X p' := by
  obtain ⟨W, ⟨_, _, _, b0, l1, l2, l3, l4⟩, b3⟩ := hB
  have hb0 := H.base
  have hz := b3.size
  have hB3 : Below w.heap.size w W3 := b0.trans (b3.mono b0.size)
  have hz4 : W3.heap.size ≤ W4.heap.size := by
    obtain ⟨F, G, k1, k2, k3, k4, k5, k6, k7⟩ := h4
    have h9 := (k7 (W3.heap.size - 1) (.inr ⟨by omega, by omega⟩)).1
    omega
  have h5 := h4.more hb5 (Y := fun b => Nx X w W3 b ∨ (W4.heap.size ≤ b ∧ b < W5.heap.size)) (fun b h => h)
  have hlt : S' ≠ [] → ∀ a, p' = some a → a.block < W5.heap.size := by
    intro hS a ha
    rcases rde_or hR with h | ⟨b, o, e, h⟩
    · exact absurd h hS
    · obtain ⟨y, L, hL⟩ := List.exists_cons_of_ne_nil hS
      have h9 := (h 0 y (by rw [hL]; rfl)).1
      rw [ha] at e; injection e with e; rw [e]
      exact block_lt_of_cell h9
  refine uw_set h5 (g := g3) (.inl (.inr ⟨by omega, by omega⟩)) (by omega) (by omega) H.xlt hR hpg (fun hS a ha => ?_) (fun b h => .inl (.inl h)) (fun b h => ?_) (fun b hb => ?_) hg
  · rcases hp hS a ha with h | h
    · exact .inl h
    · exact .inr ⟨h, hlt hS a ha⟩
  · rcases h with (h | h) | h
    · exact .inl h
    · exact .inr h.1
    · exact .inr (by have := hB3.size; omega)
  · have h1 := H.xlt b hb
    rw [hb5.block b (by have := hB3.size; omega), hk b (.inl hb), hB3.block b h1]
theorem rde_nil {w : World} (p : Option Addr) : RdE w p [] := .inl rfl
theorem getv_y (x : Tx) (S : List SS.Ent) : SS.getv (fnd txq x S) = encStr (((fnd txq x S).map En.val).getD []) := by
  cases fnd txq x S <;> rfl
theorem cget_ne {x : Tx} {S : List SS.Ent} (h : cget txq x S ≠ []) : S ≠ [] := by
  rintro rfl; exact h rfl
theorem rde_lt {w : World} {p : Option Addr} {S : List SS.Ent} (h : RdE w p S) (hS : S ≠ []) : ∀ a, p = some a → a.block < w.heap.size := by
  intro a ha
  rcases rde_or h with h | ⟨b, o, e, h⟩
  · exact absurd h hS
  · obtain ⟨y, L, hL⟩ := List.exists_cons_of_ne_nil hS
    have h9 := (h 0 y (by rw [hL]; rfl)).1
    rw [ha] at e; injection e with e; rw [e]
    exact block_lt_of_cell h9
theorem rd_in {w0 w W : World} {c d : Nat} {r s : Int} {S S' T : List SS.Ent} {X : Nat → Prop} {p p' : Option Addr} {B : Nat} (H : Ux w0 w c r S d s T X p) (hR : RdE W p' S') (hn : (p' = p ∧ (S' ≠ [] → S ≠ [])) ∨ NewP B p') (hB : w.heap.size ≤ B) : S' ≠ [] → ∀ a, p' = some a → Nx X w W a.block := by
  intro hS a ha
  rcases hn with ⟨h, hSS⟩ | h
  · exact .inl (H.2.2 (hSS hS) a (by rw [← h]; exact ha))
  · exact .inr ⟨Nat.le_trans hB (h a ha), rde_lt hR hS a ha⟩
theorem rd_ne {w0 w : World} {c d : Nat} {r s : Int} {S S' T : List SS.Ent} {X : Nat → Prop} {p p' : Option Addr} {B g : Nat} (H : Ux w0 w c r S d s T X p) (hn : (p' = p ∧ (S' ≠ [] → S ≠ [])) ∨ NewP B p') (hg : w.heap.size ≤ g) (hB : g < B) : S' ≠ [] → ∀ a, p' = some a → a.block ≠ g := by
  intro hS a ha
  rcases hn with ⟨h, hSS⟩ | h
  · have := H.xlt _ (H.2.2 (hSS hS) a (by rw [← h]; exact ha)); omega
  · have := h a ha; omega
/-- Within a drawn region: W6 is where it began, the result's block g may be written. -/
def St (w0 W6 W : World) (c : Nat) (r : Int) (S : List SS.Ent) (d : Nat) (s : Int) (T : List SS.Ent) (Y : Nat → Prop) (g : Nat) (cs : Array Value) : Prop := SS.Tw w0 W c r S d s T Y ∧ SS.Kx (fun b => Y b ∧ b ≠ g) W6 W ∧ GB W g 28 cs ∧ Y g ∧ w0.heap.size ≤ g
section
variable {w0 W6 W : World} {c d g : Nat} {r s : Int} {S T : List SS.Ent} {Y : Nat → Prop} {cs : Array Value}
theorem St.tn (H : St w0 W6 W c r S d s T Y g cs) {W' : World} {cs' : Array Value} (ht : Tn (· = g) W W') (hG : GB W' g 28 cs') : St w0 W6 W' c r S d s T Y g cs' := by
  obtain ⟨⟨F, G, k1, k2, k3, k4, k5, k6, k7⟩, hk, _, hY, hg⟩ := H
  refine ⟨⟨F, G, k1.keep ht.size (fun b hb => ht.block b (k1.lt b hb) (fun h => (k7 g hY).2.1 (by rw [← h]; exact hb))), k2.keep ht.size (fun b hb => ht.block b (k2.lt b hb) (fun h => (k7 g hY).2.2 (by rw [← h]; exact hb))), k3, k4, k5, SS.tn_below k6 (fun b hb => by rw [hb]; exact hg) ht, fun b hb1 => ⟨Nat.lt_of_lt_of_le (k7 b hb1).1 ht.size, (k7 b hb1).2⟩⟩, fun b hb => ?_, hG, hY, hg⟩
  rw [ht.block b (k7 b hb.1).1 hb.2]
  exact hk b hb
theorem St.drew (H : St w0 W6 W c r S d s T Y g cs) : St w0 W6 W.drew c r S d s T Y g cs := by
  obtain ⟨h1, h2, h3, h4, h5⟩ := H
  have hb : Below W.heap.size W W.drew := (Below.refl _ _).drew
  exact ⟨h1.more hb (fun b h => .inl h), h2, h3, h4, h5⟩
theorem St.set (H : St w0 W6 W c r S d s T Y g cs) (hs : cs.size = 2) (a b : Value) : St w0 W6 ((W.setCell ⟨g, 0, none⟩ a).setCell ⟨g, 1, none⟩ b) c r S d s T Y g #[a, b] := by
  have h1 := H.2.2.1
  have hg : g < W.heap.size := h1.lt
  refine H.tn ⟨rfl, rfl, rfl, by simp, fun k hk hne => ?_⟩ (gb_set2 h1 hs)
  rw [Below.heap_setCell _ _ _ _ hne, Below.heap_setCell _ _ _ _ hne]
theorem St.gb (H : St w0 W6 W c r S d s T Y g cs) {k : Nat} {t : TypeId} {ks : Array Value} (h : GB W6 k t ks) (hY : Y k) (hne : k ≠ g) : GB W k t ks := h.kx (X := fun b => Y b ∧ b ≠ g) ⟨hY, hne⟩ H.2.1
theorem St.cell (H : St w0 W6 W c r S d s T Y g cs) {k i : Nat} {v : Value} (h : W6.cell? ⟨k, i, none⟩ = some v) (hY : Y k) (hne : k ≠ g) : W.cell? ⟨k, i, none⟩ = some v := by
  have hb : W.heap[k]? = W6.heap[k]? := H.2.1 k ⟨hY, hne⟩
  unfold World.cell? at h ⊢
  rw [hb]
  exact h
theorem St.own (H : St w0 W6 W c r S d s T Y g (rcC 0 (.slice none 0 0))) : W.cell? ⟨g, 0, none⟩ = some (.int .i64 0) ∧ W.cell? ⟨g, 1, none⟩ = some (.slice none 0 0) ∧ W.frozen? ⟨g, 0, none⟩ = false ∧ W.frozen? ⟨g, 1, none⟩ = false :=
  ⟨(rc_gb H.2.2.1).1, (rc_gb H.2.2.1).2, gb_frozen H.2.2.1 0, gb_frozen H.2.2.1 1⟩
theorem St.gbr (H : St w0 W6 W c r S d s T Y g cs) : GB W g 28 cs := H.2.2.1
theorem St.more (H : St w0 W6 W c r S d s T Y g cs) {W' : World} (hb : Below W.heap.size W W') : St w0 W6 W' c r S d s T Y g cs := by
  obtain ⟨h1, h2, h3, h4, h5⟩ := H
  exact ⟨h1.more hb (fun b h => .inl h), Kx.trans h2 (fun b h => h.1) (Tw.kx h1 hb), h3.below hb, h4, h5⟩
theorem St.next (H : St w0 W6 W c r S d s T Y g cs) {W' : World} {S' : List SS.Ent} (h1 : SS.Tw w0 W' c r S' d s T Y) (hk : SS.Kx Y W W') : St w0 W6 W' c r S' d s T Y g cs :=
  ⟨h1, Kx.trans H.2.1 (fun b h => h.1) hk, H.2.2.1.kx H.2.2.2.1 hk, H.2.2.2.1, H.2.2.2.2⟩
end
theorem uw_st {w0 w W6 W : World} {c d : Nat} {r s : Int} {S S0 T : List SS.Ent} {X : Nat → Prop} {p p0 : Option Addr} {g : Nat} {cs : Array Value} (H0 : Ux w0 w c r S0 d s T X p0) (hb : Below w.heap.size w W6) (hg : w.heap.size ≤ g) (H : St w0 W6 W c r S d s T (Nx X w W6) g cs) (hR : RdE W6 p S) (hp : S ≠ [] → ∀ a, p = some a → Nx X w W6 a.block) (hpg : S ≠ [] → ∀ a, p = some a → a.block ≠ g) : Uw w0 w W c r S d s T X p := by
  refine ⟨Nx X w W6, ⟨H.1, hR.kx (X := fun b => Nx X w W6 b ∧ b ≠ g) (fun h a ha => ⟨hp h a ha, hpg h a ha⟩) H.2.1, hp⟩, fun b h => .inl h, fun b h => h.imp id And.left, fun b hb1 => ?_⟩
  have h1 := H0.xlt b hb1
  rw [H.2.1 b ⟨.inl hb1, by omega⟩, hb.block b h1]
section
attribute [local irreducible] Calls GB RdE Ux Uw Bx UV SS.Tw St
set_option maxHeartbeats 2000000 in
set_option maxRecDepth 1000000 in
theorem used_else {w0 w : World} {c d : Nat} {r s : Int} {S T : List SS.Ent} {X : Nat → Prop} {p : Option Addr} (cc : Nat) (H : Ux w0 w c r S d s T X p) (hl : S.length * 40 ≤ 140737488355288) (x : Us) (hx : In64 x.wt) (n0 : ¬ x.dk = 0) (n1 : ¬ x.dk = 1) (n2 : ¬ x.dk = 2) (n3 : ¬ x.dk = 3) (n4 : ¬ x.dk = 4) (n5 : ¬ x.dk = 5) :
    Calls Try.prog 11 #[.pointer (some ⟨c, 0, none⟩), .agg (rcC r (.slice p S.length cc)), .agg x.cs] w fun e w' => ∃ p' c', e = .returned (.tuple #[.agg (rcC r (.slice p' S.length c')), .bool true]) ∧ Uw w0 w w' c r S d s T X p' := by
  have HU := (show Hid (Ux _ _ _ _ _ _ _ _ _ _) from H)
  obtain ⟨n, hn⟩ : ∃ n, n = S.length := ⟨_, rfl⟩
  rw [← hn] at ⊢
  have HN := (show Hid (n = S.length ∧ n * 40 ≤ 140737488355288) from ⟨hn, by rw [hn]; exact hl⟩)
  clear H hn hl
  go_enter Try.func11, Try.ntmps11
  go_upto_block 0 with (first
    | (refine wpList_bxB (cs := rcC r (.slice p n cc)) rfl _ rfl rfl ?_; intro W1 G1 hb1 hs1)
    | (refine wpList_bxB (cs := x.cs) rfl _ rfl rfl ?_; intro W2 G2 hb2 hs2)
    | (refine wpList_alB rfl rfl rc_zero ?_; intro W3 G3 hb3 hs3; obtain ⟨HV, HB⟩ := bx_of G1 hb1 hs1 G2 hb2 hs2 G3 hb3 hs3; clear G1 hb1 hs1 G2 hb2 hs2 G3 hb3 hs3; obtain ⟨d1, d2, d3, d4, d5⟩ := HV.cells; clear HV d5))
  have HG1 := (show Hid (GB W3 w.heap.size _ _) from by have := HB.out; unfold Bx at this; exact this.1)
  have HG3 := (show Hid (GB W3 W2.heap.size _ _) from by have := HB.out; unfold Bx at this; exact this.2.2.1)
  go_wp2_with (first
    | (refine wpList_ldB (cs := rcC r (.slice p n cc)) rfl _ rfl w.heap.size rfl HG1.out Try.underlying28 rc_size ?_)
    | (refine wpList_stB (cs := rcC r (.slice p n cc)) rfl _ _ rfl rfl W2.heap.size rfl rfl HG3.out rc_size rfl (rc_one _ _ _ _) ?_; intro W5 G5 hg5 hs5))
  refine bodyPost_ret (res_B2 rfl _ _ W2.heap.size rfl G5 Try.underlying28 rc_size) rfl ?_
  have hB := HB.out
  unfold Bx at hB
  have hU := HU.out
  unfold Ux at hU
  exact ⟨p, cc, rfl, uw_more (by unfold Uw Ux; exact ⟨X, hU, fun b h => h, fun b h => .inl h, fun b h => rfl⟩) (grown_below hB.2.2.2.1 hg5 hB.2.2.2.1.size (by omega))⟩
set_option maxHeartbeats 2000000 in
set_option maxRecDepth 1000000 in
theorem used_clear {w0 w : World} {c d : Nat} {r s : Int} {S T : List SS.Ent} {X : Nat → Prop} {p : Option Addr} (cc : Nat) (H : Ux w0 w c r S d s T X p) (hl : S.length * 40 ≤ 140737488355288) (x : Us) (hx : In64 x.wt) (n0 : ¬ x.dk = 0) (n1 : ¬ x.dk = 1) (n2 : ¬ x.dk = 2) (n3 : x.dk = 3) :
    Calls Try.prog 11 #[.pointer (some ⟨c, 0, none⟩), .agg (rcC r (.slice p S.length cc)), .agg x.cs] w fun e w' => ∃ p' c', e = .returned (.tuple #[.agg (rcC r (.slice p' ([] : List SS.Ent).length c')), .bool true]) ∧ Uw w0 w w' c r ([] : List SS.Ent) d s T X p' := by
  have HU := (show Hid (Ux _ _ _ _ _ _ _ _ _ _) from H)
  obtain ⟨n, hn⟩ : ∃ n, n = S.length := ⟨_, rfl⟩
  rw [← hn] at ⊢
  have HN := (show Hid (n = S.length ∧ n * 40 ≤ 140737488355288) from ⟨hn, by rw [hn]; exact hl⟩)
  clear H hn hl
  go_enter Try.func11, Try.ntmps11
  go_upto_block 0 with (first
    | (refine wpList_bxB (cs := rcC r (.slice p n cc)) rfl _ rfl rfl ?_; intro W1 G1 hb1 hs1)
    | (refine wpList_bxB (cs := x.cs) rfl _ rfl rfl ?_; intro W2 G2 hb2 hs2)
    | (refine wpList_alB rfl rfl rc_zero ?_; intro W3 G3 hb3 hs3; obtain ⟨HV, HB⟩ := bx_of G1 hb1 hs1 G2 hb2 hs2 G3 hb3 hs3; clear G1 hb1 hs1 G2 hb2 hs2 G3 hb3 hs3; obtain ⟨d1, d2, d3, d4, d5⟩ := HV.cells; clear HV d5))
  have HG := (show Hid (GB W3 w.heap.size 28 (rcC r (.slice p n cc)) ∧ GB W3 W2.heap.size 28 (rcC 0 (.slice none 0 0)) ∧ Below w.heap.size w W3 ∧ w.heap.size < W3.heap.size ∧ W2.heap.size < W3.heap.size ∧ w.heap.size < W2.heap.size) from by have := HB.out; unfold Bx at this; exact ⟨this.1, this.2.2.1, this.2.2.2.1, by omega, by omega, by omega⟩)
  have HC := (show Hid _ from (HU.out.grow HG.out.2.2.1).1.clear)
  go_wp2_with (first
    | (go_at_call 32; refine HC.out.mono ?_; rintro e1 w4 ⟨rfl, h1, h2⟩; have HT := (show Hid (SS.Tw _ _ _ _ _ _ _ _ _ ∧ SS.Kx _ _ _) from ⟨h1, h2⟩); have HG1 := (show Hid (GB w4 w.heap.size 28 (rcC r (.slice p n cc))) from HG.out.1.kx (.inr ⟨Nat.le_refl _, HG.out.2.2.2.1⟩) h2); clear h1 h2)
    | (refine wpList_ldB (cs := rcC r (.slice p n cc)) rfl _ rfl w.heap.size rfl HG1.out Try.underlying28 rc_size ?_)
    | (go_at_call 35; refine (rclear_any _ _ _ _ _).mono ?_; rintro e1 w5 ⟨rfl, h1⟩; have HB5 := (show Hid (Below _ _ _) from h1); have HG3 := (show Hid (GB w5 W2.heap.size 28 (rcC 0 (.slice none 0 0))) from (HG.out.2.1.kx (.inr ⟨by have := HG.out; omega, HG.out.2.2.2.2.1⟩) HT.out.2).below h1); clear h1)
    | (refine wpList_stB (cs := rcC r (.slice none 0 0)) rfl _ _ rfl rfl W2.heap.size rfl rfl HG3.out rc_size rfl (rc_one _ _ _ _) ?_; intro W5 G5 hg5 hs5))
  refine bodyPost_ret (res_B2 rfl _ _ W2.heap.size rfl G5 Try.underlying28 rc_size) rfl ?_
  exact ⟨none, 0, rfl, uw_end HU.out ⟨W3, HB.out, Below.refl _ _⟩ HT.out.1 HT.out.2 HB5.out (rde_nil _) (fun h => absurd rfl h) (fun h => absurd rfl h) hg5⟩
set_option maxHeartbeats 2000000 in
set_option maxRecDepth 1000000 in
theorem used_get {w0 w : World} {c d : Nat} {r s : Int} {S T : List SS.Ent} {X : Nat → Prop} {p : Option Addr} (cc : Nat) (H : Ux w0 w c r S d s T X p) (hl : S.length * 40 ≤ 140737488355288) (x : Us) (hx : In64 x.wt) (n0 : ¬ x.dk = 0) (n1 : x.dk = 1) :
    Calls Try.prog 11 #[.pointer (some ⟨c, 0, none⟩), .agg (rcC r (.slice p S.length cc)), .agg x.cs] w fun e w' => ∃ p' c', e = .returned (.tuple #[.agg (rcC r (.slice p' (cget txq x.key S).length c')), .bool true]) ∧ Uw w0 w w' c r (cget txq x.key S) d s T X p' := by
  have HU := (show Hid (Ux _ _ _ _ _ _ _ _ _ _) from H)
  obtain ⟨S1, hS1⟩ : ∃ S1, S1 = cget txq x.key S := ⟨_, rfl⟩
  obtain ⟨m, hm⟩ : ∃ m, m = S1.length := ⟨_, rfl⟩
  rw [← hS1]
  rw [← hm]
  have HS1 := (show Hid (S1 = cget txq x.key S ∧ m = S1.length) from ⟨hS1, hm⟩)
  clear hS1 hm
  obtain ⟨n, hn⟩ : ∃ n, n = S.length := ⟨_, rfl⟩
  rw [← hn] at ⊢
  have HN := (show Hid (n = S.length ∧ n * 40 ≤ 140737488355288) from ⟨hn, by rw [hn]; exact hl⟩)
  clear H hn hl
  go_enter Try.func11, Try.ntmps11
  go_upto_block 0 with (first
    | (refine wpList_bxB (cs := rcC r (.slice p n cc)) rfl _ rfl rfl ?_; intro W1 G1 hb1 hs1)
    | (refine wpList_bxB (cs := x.cs) rfl _ rfl rfl ?_; intro W2 G2 hb2 hs2)
    | (refine wpList_alB rfl rfl rc_zero ?_; intro W3 G3 hb3 hs3; obtain ⟨HV, HB⟩ := bx_of G1 hb1 hs1 G2 hb2 hs2 G3 hb3 hs3; clear G1 hb1 hs1 G2 hb2 hs2 G3 hb3 hs3; obtain ⟨d1, d2, d3, d4, d5⟩ := HV.cells; clear HV d5))
  have HG := (show Hid (GB W3 w.heap.size 28 (rcC r (.slice p n cc)) ∧ GB W3 W2.heap.size 28 (rcC 0 (.slice none 0 0)) ∧ Below w.heap.size w W3 ∧ w.heap.size < W3.heap.size ∧ W2.heap.size < W3.heap.size ∧ w.heap.size < W2.heap.size) from by have := HB.out; unfold Bx at this; exact ⟨this.1, this.2.2.1, this.2.2.2.1, by omega, by omega, by omega⟩)
  have HR3 := (HU.out.grow HG.out.2.2.1).2.1
  have hHC := fun h => rget_any r cc HR3 h x.key
  have HGV := (show Hid _ from getv_y x.key S)
  obtain ⟨hS1, hm⟩ := HS1.out
  obtain ⟨y, hy⟩ : ∃ y, y = ((fnd txq x.key S).map En.val).getD [] := ⟨_, rfl⟩
  obtain ⟨bb, hbb⟩ : ∃ bb, bb = (fnd txq x.key S).isSome := ⟨_, rfl⟩
  have HP := (show Hid (∀ W6, Below w.heap.size w W6 → _) from fun W6 hb => (HU.out.grow hb).1.get x.key)
  have hne : cget txq x.key S ≠ [] → S ≠ [] := cget_ne
  rw [HGV.out] at HP
  rw [← hS1, ← hy, ← hbb] at HP
  have HC := (show Hid _ from hHC (by rw [← HN.out.1]; exact HN.out.2))
  rw [← hS1, ← hm, ← hy, ← hbb, ← HN.out.1] at HC
  rw [← hS1] at hne
  have HNE := (show Hid (S1 ≠ [] → S ≠ []) from hne)
  have hq : (bb == bb) = true := by simp
  have hq2 : (y == y) = true := by simp
  clear hS1 hm hy hbb hHC HR3 HGV hne
  have HD2 := (show Hid (W3.cell? ⟨W1.heap.size, 2, none⟩ = some (encStr x.key)) from d2)
  have STEP : Hid (∀ (w4 W5 W6 : World) (p' : Option Addr) (c' : Nat), RdE w4 p' S1 → (p' = p ∨ NewP W3.heap.size p') → Below W3.heap.size W3 w4 → GB W5 w4.heap.size 28 (rcC 0 (.slice none 0 0)) → Below w4.heap.size w4 W5 → Hid (W5.heap.size = w4.heap.size + 1) → GB W6 w4.heap.size 28 (rcC r (.slice p' m c')) → W5.grownBy W6 (some w4.heap.size) → Hid (W6.heap.size = W5.heap.size) → W6.cell? ⟨W1.heap.size, 2, none⟩ = some (encStr x.key) ∧ Hid (RdE W6 p' S1 ∧ (p' = p ∨ NewP W3.heap.size p') ∧ Below W3.heap.size W3 W6 ∧ Below w.heap.size w W6 ∧ GB W6 w4.heap.size 28 (rcC r (.slice p' m c')) ∧ GB W6 W2.heap.size 28 (rcC 0 (.slice none 0 0)) ∧ Nx X w W6 w4.heap.size ∧ Nx X w W6 W2.heap.size)) := by
    intro w4 W5 W6 p' c' hR hn hb4 _ hb5 hs5 G6 hg6 hs6
    have hB46 : Below w4.heap.size w4 W6 := grown_below hb5 hg6 hb5.size (Nat.le_refl _)
    have hB36 := hb4.trans (hB46.mono hb4.size)
    have e5 := hs5.out; have e6 := hs6.out
    have hz := hb4.size
    have h6 := HG.out
    exact ⟨by rw [hB36.cell (block_lt_of_cell HD2.out)]; exact HD2.out, hR.below hB46, hn, hB36, h6.2.2.1.trans (hB36.mono h6.2.2.1.size), G6, h6.2.1.below hB36, .inr ⟨by omega, by omega⟩, .inr ⟨by omega, by omega⟩⟩
  go_wp2_with (first
    | (refine wpList_ldB (cs := rcC r (.slice p n cc)) rfl _ rfl w.heap.size rfl HG.out.1 Try.underlying28 rc_size ?_)
    | (go_at_call 22; refine HC.out.mono ?_; rintro e1 w4 ⟨p', c', rfl, hR4, hn4, hb4⟩)
    | (refine wpList_alB rfl rfl rc_zero ?_; intro W5 G5 hb5 hs5)
    | (refine wpList_stB (cs := rcC r (.slice p' m c')) rfl _ _ rfl rfl w4.heap.size rfl rfl G5 rc_size rfl (rc_one _ _ _ _) ?_; intro W6 G6 hg6 hs6; obtain ⟨e2, HZ⟩ := STEP.out _ _ _ _ _ hR4 hn4 hb4 G5 hb5 hs5 G6 hg6 hs6; clear hR4 hn4 hb4 G5 hb5 hs5 G6 hg6 hs6)
    | (go_at_call 30; refine (HP.out _ HZ.out.2.2.2.1).mono ?_; rintro e1 w7 ⟨rfl, hT7, hK7⟩; have HF := (show Hid (SS.Tw _ _ _ _ _ _ _ _ _ ∧ SS.Kx _ _ _ ∧ GB _ _ _ _ ∧ GB _ _ _ _) from ⟨hT7, hK7, HZ.out.2.2.2.2.1.kx HZ.out.2.2.2.2.2.2.1 hK7, HZ.out.2.2.2.2.2.1.kx HZ.out.2.2.2.2.2.2.2 hK7⟩); clear hT7 hK7)
    | (refine wpList_ldB (cs := rcC r (.slice p' m c')) rfl _ rfl w4.heap.size rfl HF.out.2.2.1 Try.underlying28 rc_size ?_)
    | (refine wpList_stB (cs := rcC r (.slice p' m c')) rfl _ _ rfl rfl W2.heap.size rfl rfl HF.out.2.2.2 rc_size rfl (rc_one _ _ _ _) ?_; intro W8 G8 hg8 hs8))
  refine bodyPost_ret (res_B2 rfl _ _ W2.heap.size rfl G8 Try.underlying28 rc_size) rfl ?_
  have hin := rd_in HU.out HZ.out.1 (HZ.out.2.1.imp (fun h => ⟨h, HNE.out⟩) id) HG.out.2.2.1.size
  exact ⟨p', c', (by rfl), uw_end HU.out ⟨W3, HB.out, HZ.out.2.2.1⟩ HF.out.1 HF.out.2.1 (Below.refl _ _) (HZ.out.1.kx hin HF.out.2.1) (fun h a ha => .inl (hin h a ha)) (rd_ne HU.out (HZ.out.2.1.imp (fun h => ⟨h, HNE.out⟩) id) (Nat.le_of_lt HG.out.2.2.2.2.2) HG.out.2.2.2.2.1) hg8⟩
set_option maxHeartbeats 2000000 in
set_option maxRecDepth 1000000 in
theorem used_drop {w0 w : World} {c d : Nat} {r s : Int} {S T : List SS.Ent} {X : Nat → Prop} {p : Option Addr} (cc : Nat) (H : Ux w0 w c r S d s T X p) (hl : S.length * 40 ≤ 140737488355288) (x : Us) (hx : In64 x.wt) (n0 : ¬ x.dk = 0) (n1 : ¬ x.dk = 1) (n2 : x.dk = 2) :
    Calls Try.prog 11 #[.pointer (some ⟨c, 0, none⟩), .agg (rcC r (.slice p S.length cc)), .agg x.cs] w fun e w' => ∃ p' c', e = .returned (.tuple #[.agg (rcC r (.slice p' (drp txq x.key S).length c')), .bool true]) ∧ Uw w0 w w' c r (drp txq x.key S) d s T X p' := by
  have HU := (show Hid (Ux _ _ _ _ _ _ _ _ _ _) from H)
  obtain ⟨S1, hS1⟩ : ∃ S1, S1 = drp txq x.key S := ⟨_, rfl⟩
  obtain ⟨m, hm⟩ : ∃ m, m = S1.length := ⟨_, rfl⟩
  rw [← hS1]
  rw [← hm]
  have HS1 := (show Hid (S1 = drp txq x.key S ∧ m = S1.length) from ⟨hS1, hm⟩)
  clear hS1 hm
  obtain ⟨n, hn⟩ : ∃ n, n = S.length := ⟨_, rfl⟩
  rw [← hn] at ⊢
  have HN := (show Hid (n = S.length ∧ n * 40 ≤ 140737488355288) from ⟨hn, by rw [hn]; exact hl⟩)
  clear H hn hl
  go_enter Try.func11, Try.ntmps11
  go_upto_block 0 with (first
    | (refine wpList_bxB (cs := rcC r (.slice p n cc)) rfl _ rfl rfl ?_; intro W1 G1 hb1 hs1)
    | (refine wpList_bxB (cs := x.cs) rfl _ rfl rfl ?_; intro W2 G2 hb2 hs2)
    | (refine wpList_alB rfl rfl rc_zero ?_; intro W3 G3 hb3 hs3; obtain ⟨HV, HB⟩ := bx_of G1 hb1 hs1 G2 hb2 hs2 G3 hb3 hs3; clear G1 hb1 hs1 G2 hb2 hs2 G3 hb3 hs3; obtain ⟨d1, d2, d3, d4, d5⟩ := HV.cells; clear HV d5))
  have HG := (show Hid (GB W3 w.heap.size 28 (rcC r (.slice p n cc)) ∧ GB W3 W2.heap.size 28 (rcC 0 (.slice none 0 0)) ∧ Below w.heap.size w W3 ∧ w.heap.size < W3.heap.size ∧ W2.heap.size < W3.heap.size ∧ w.heap.size < W2.heap.size) from by have := HB.out; unfold Bx at this; exact ⟨this.1, this.2.2.1, this.2.2.2.1, by omega, by omega, by omega⟩)
  have HR3 := (HU.out.grow HG.out.2.2.1).2.1
  have hHC := fun h => rdrop_any r cc HR3 h x.key
  obtain ⟨hS1, hm⟩ := HS1.out
  obtain ⟨bb, hbb⟩ : ∃ bb, bb = (fnd txq x.key S).isSome := ⟨_, rfl⟩
  have HP := (show Hid (∀ (W6 W : World) (cs : Array Value), St w0 W6 W c r S d s T (Nx X w W6) W2.heap.size cs → Calls Try.prog 31 #[.pointer (some ⟨c, 0, none⟩), encStr x.key] W fun e w' => e = .returned (.bool bb) ∧ Hid (St w0 W6 w' c r S1 d s T (Nx X w W6) W2.heap.size cs)) from fun W6 W cs h => by
    rw [hS1, hbb]
    have h0 := h
    unfold St at h0
    exact (h0.1.drop x.key).mono (by rintro e w' ⟨rfl, h1, h2⟩; exact ⟨rfl, h.next h1 h2⟩))
  have HC := (show Hid _ from hHC (by rw [← HN.out.1]; exact HN.out.2))
  rw [← hS1, ← hm, ← hbb, ← HN.out.1] at HC
  have hq : (bb == bb) = true := by simp
  clear hS1 hm hbb hHC HR3
  have HG1 := (show Hid (w.heap.size < W1.heap.size ∧ W1.heap.size < W2.heap.size) from by have := HB.out; unfold Bx at this; exact ⟨this.2.2.2.2.2.1, this.2.2.2.2.2.2.1⟩)
  have ne3 : ¬ W1.heap.size = W2.heap.size := Nat.ne_of_lt HG1.out.2
  have ne4 : ¬ W2.heap.size = W1.heap.size := Ne.symm ne3
  have HD2 := (show Hid (W3.cell? ⟨W1.heap.size, 2, none⟩ = some (encStr x.key)) from d2)
  have STEP : Hid (∀ (w4 W5 W6 : World) (p' : Option Addr) (c' : Nat), RdE w4 p' S1 → NewP W3.heap.size p' → Below W3.heap.size W3 w4 → GB W5 w4.heap.size 28 (rcC 0 (.slice none 0 0)) → Below w4.heap.size w4 W5 → Hid (W5.heap.size = w4.heap.size + 1) → GB W6 w4.heap.size 28 (rcC r (.slice p' m c')) → W5.grownBy W6 (some w4.heap.size) → Hid (W6.heap.size = W5.heap.size) → W6.cell? ⟨W1.heap.size, 2, none⟩ = some (encStr x.key) ∧ W6.cell? ⟨w4.heap.size, 0, none⟩ = some (.int .i64 r) ∧ W6.cell? ⟨w4.heap.size, 1, none⟩ = some (.slice p' m c') ∧ W6.cell? ⟨W2.heap.size, 0, none⟩ = some (.int .i64 0) ∧ W6.cell? ⟨W2.heap.size, 1, none⟩ = some (.slice none 0 0) ∧ W6.frozen? ⟨W2.heap.size, 0, none⟩ = false ∧ W6.frozen? ⟨W2.heap.size, 1, none⟩ = false ∧ ¬ w4.heap.size = W2.heap.size ∧ ¬ W2.heap.size = w4.heap.size ∧ Hid (RdE W6 p' S1 ∧ NewP W3.heap.size p' ∧ Below W3.heap.size W3 W6 ∧ Below w.heap.size w W6 ∧ GB W6 w4.heap.size 28 (rcC r (.slice p' m c')) ∧ Nx X w W6 w4.heap.size ∧ w4.heap.size ≠ W2.heap.size ∧ Nx X w W6 W1.heap.size ∧ W1.heap.size ≠ W2.heap.size ∧ St w0 W6 W6 c r S d s T (Nx X w W6) W2.heap.size (rcC 0 (.slice none 0 0)))) := by
    intro w4 W5 W6 p' c' hR hn hb4 _ hb5 hs5 G6 hg6 hs6
    have hB46 : Below w4.heap.size w4 W6 := grown_below hb5 hg6 hb5.size (Nat.le_refl _)
    have hB36 := hb4.trans (hB46.mono hb4.size)
    have e5 := hs5.out; have e6 := hs6.out
    have hz := hb4.size
    have h6 := HG.out
    have hw6 := h6.2.2.1.trans (hB36.mono h6.2.2.1.size)
    have g3 := h6.2.1.below hB36
    have hne : w4.heap.size ≠ W2.heap.size := by omega
    refine ⟨by rw [hB36.cell (block_lt_of_cell HD2.out)]; exact HD2.out, (rc_gb G6).1, (rc_gb G6).2, (rc_gb g3).1, (rc_gb g3).2, gb_frozen g3 0, gb_frozen g3 1, hne, Ne.symm hne, hR.below hB46, hn, hB36, hw6, G6, .inr ⟨by omega, by omega⟩, hne, .inr ⟨by have := HG1.out; omega, by have := HG1.out; omega⟩, by have := HG1.out; omega, ?_⟩
    have hb := HU.out.base
    unfold St
    exact ⟨(HU.out.grow hw6).1, fun b h => rfl, g3, .inr ⟨by omega, by omega⟩, by omega⟩
  go_upto_region 11 with (first
    | (refine wpList_ldB (cs := rcC r (.slice p n cc)) rfl _ rfl w.heap.size rfl HG.out.1 Try.underlying28 rc_size ?_)
    | (go_at_call 24; refine HC.out.mono ?_; rintro e1 w4 ⟨p', c', rfl, hR4, hn4, hb4⟩)
    | (refine wpList_alB rfl rfl rc_zero ?_; intro W5 G5 hb5 hs5)
    | (refine wpList_stB (cs := rcC r (.slice p' m c')) rfl _ _ rfl rfl w4.heap.size rfl rfl G5 rc_size rfl (rc_one _ _ _ _) ?_; intro W6 G6 hg6 hs6; obtain ⟨e2, c0, c1, z0, z1, f0, f1, ne1, ne2, HZ⟩ := STEP.out _ _ _ _ _ hR4 hn4 hb4 G5 hb5 hs5 G6 hg6 hs6; clear hR4 hn4 hb4 G5 hb5 hs5 G6 hg6 hs6))
  clear d1 d2 d3 d4 n0 n1 n2
  go_region_held3 (fun Y => Y.cell? ⟨w4.heap.size, 0, none⟩ = some (.int .i64 r) ∧ Y.cell? ⟨w4.heap.size, 1, none⟩ = some (.slice p' m c') ∧ Y.cell? ⟨W1.heap.size, 2, none⟩ = some (encStr x.key)) (first | exact KS.out | go_keep) (first
    | (go_at_call 31; refine (HP.out W6 _ _ (HZ.out.2.2.2.2.2.2.2.2.2).drew).mono ?_; rintro e1 w7 ⟨rfl, HS⟩; obtain ⟨y0, y1, y2, y3⟩ := HS.out.own; have KS := (show Hid (_ ∧ _ ∧ _) from ⟨HS.out.cell c0 HZ.out.2.2.2.2.2.1 ne1, HS.out.cell c1 HZ.out.2.2.2.2.2.1 ne1, HS.out.cell e2 HZ.out.2.2.2.2.2.2.2.1 HZ.out.2.2.2.2.2.2.2.2.1⟩)))
  go_wp2
  have hS8 := (HS.out.set rfl (.int .i64 r) (.slice p' m c'))
  refine bodyPost_ret (res_B2 rfl _ _ W2.heap.size rfl hS8.gbr Try.underlying28 rc_size) rfl ?_
  have hwg : w.heap.size ≤ W2.heap.size := Nat.le_of_lt HG.out.2.2.2.2.2
  exact ⟨p', c', rfl, uw_st HU.out HZ.out.2.2.2.1 hwg hS8 HZ.out.1 (rd_in HU.out HZ.out.1 (.inr HZ.out.2.1) HG.out.2.2.1.size) (rd_ne HU.out (.inr HZ.out.2.1) hwg HG.out.2.2.2.2.1)⟩
set_option maxHeartbeats 2000000 in
set_option maxRecDepth 1000000 in
theorem used_put {w0 w : World} {c d : Nat} {r s : Int} {S T : List SS.Ent} {X : Nat → Prop} {p : Option Addr} (cc : Nat) (H : Ux w0 w c r S d s T X p) (hl : S.length * 40 ≤ 140737488355288) (x : Us) (hx : In64 x.wt)  (n0 : x.dk = 0) :
    Calls Try.prog 11 #[.pointer (some ⟨c, 0, none⟩), .agg (rcC r (.slice p S.length cc)), .agg x.cs] w fun e w' => ∃ p' c', e = .returned (.tuple #[.agg (rcC r (.slice p' (cput txq r ⟨0, x.key, x.val, x.wt⟩ S).1.length c')), .bool true]) ∧ Uw w0 w w' c r (cput txq r ⟨0, x.key, x.val, x.wt⟩ S).1 d s T X p' := by
  have HU := (show Hid (Ux _ _ _ _ _ _ _ _ _ _) from H)
  obtain ⟨S1, hS1⟩ : ∃ S1, S1 = (cput txq r ⟨0, x.key, x.val, x.wt⟩ S).1 := ⟨_, rfl⟩
  obtain ⟨m, hm⟩ : ∃ m, m = S1.length := ⟨_, rfl⟩
  rw [← hS1]
  rw [← hm]
  have HS1 := (show Hid (S1 = (cput txq r ⟨0, x.key, x.val, x.wt⟩ S).1 ∧ m = S1.length) from ⟨hS1, hm⟩)
  clear hS1 hm
  obtain ⟨n, hn⟩ : ∃ n, n = S.length := ⟨_, rfl⟩
  rw [← hn] at ⊢
  have HN := (show Hid (n = S.length ∧ n * 40 ≤ 140737488355288) from ⟨hn, by rw [hn]; exact hl⟩)
  clear H hn hl
  go_enter Try.func11, Try.ntmps11
  go_upto_block 0 with (first
    | (refine wpList_bxB (cs := rcC r (.slice p n cc)) rfl _ rfl rfl ?_; intro W1 G1 hb1 hs1)
    | (refine wpList_bxB (cs := x.cs) rfl _ rfl rfl ?_; intro W2 G2 hb2 hs2)
    | (refine wpList_alB rfl rfl rc_zero ?_; intro W3 G3 hb3 hs3; obtain ⟨HV, HB⟩ := bx_of G1 hb1 hs1 G2 hb2 hs2 G3 hb3 hs3; clear G1 hb1 hs1 G2 hb2 hs2 G3 hb3 hs3; obtain ⟨d1, d2, d3, d4, d5⟩ := HV.cells; clear HV d5))
  have HG := (show Hid (GB W3 w.heap.size 28 (rcC r (.slice p n cc)) ∧ GB W3 W2.heap.size 28 (rcC 0 (.slice none 0 0)) ∧ Below w.heap.size w W3 ∧ w.heap.size < W3.heap.size ∧ W2.heap.size < W3.heap.size ∧ w.heap.size < W2.heap.size) from by have := HB.out; unfold Bx at this; exact ⟨this.1, this.2.2.1, this.2.2.2.1, by omega, by omega, by omega⟩)
  have HX := (show Hid (In64 x.wt) from hx)
  have HR3 := (HU.out.grow HG.out.2.2.1).2.1
  have hHC := fun h => rput_any r cc HR3 h HU.out.rok.1 HU.out.rok.2.1 HU.out.rok.2.2 x.key x.val x.wt
  obtain ⟨hS1, hm⟩ := HS1.out
  obtain ⟨bb, hbb⟩ : ∃ bb, bb = (cput txq r ⟨0, x.key, x.val, x.wt⟩ S).2 := ⟨_, rfl⟩
  have HP := (show Hid (∀ (W6 W : World) (cs : Array Value), St w0 W6 W c r S d s T (Nx X w W6) W2.heap.size cs → Calls Try.prog 29 #[.pointer (some ⟨c, 0, none⟩), encStr x.key, encStr x.val, .int .i64 x.wt] W fun e w' => e = .returned (.bool bb) ∧ Hid (St w0 W6 w' c r S1 d s T (Nx X w W6) W2.heap.size cs)) from fun W6 W cs h => by
    rw [hS1, hbb]
    have h0 := h
    unfold St at h0
    exact (h0.1.put x.key x.val x.wt (by simp [txq]) HX.out.1 HX.out.2).mono (by rintro e w' ⟨rfl, h1, h2⟩; exact ⟨rfl, h.next h1 h2⟩))
  have HC := (show Hid _ from hHC (by rw [← HN.out.1]; exact HN.out.2))
  rw [← hS1, ← hm, ← hbb, ← HN.out.1] at HC
  have hq : (bb == bb) = true := by simp
  clear hS1 hm hbb hHC HR3
  have HG1 := (show Hid (w.heap.size < W1.heap.size ∧ W1.heap.size < W2.heap.size) from by have := HB.out; unfold Bx at this; exact ⟨this.2.2.2.2.2.1, this.2.2.2.2.2.2.1⟩)
  have ne3 : ¬ W1.heap.size = W2.heap.size := Nat.ne_of_lt HG1.out.2
  have ne4 : ¬ W2.heap.size = W1.heap.size := Ne.symm ne3
  have HD2 := (show Hid (W3.cell? ⟨W1.heap.size, 2, none⟩ = some (encStr x.key) ∧ W3.cell? ⟨W1.heap.size, 3, none⟩ = some (encStr x.val) ∧ W3.cell? ⟨W1.heap.size, 4, none⟩ = some (.int .i64 x.wt)) from ⟨d2, d3, d4⟩)
  have STEP : Hid (∀ (w4 W5 W6 : World) (p' : Option Addr) (c' : Nat), RdE w4 p' S1 → NewP W3.heap.size p' → Below W3.heap.size W3 w4 → GB W5 w4.heap.size 28 (rcC 0 (.slice none 0 0)) → Below w4.heap.size w4 W5 → Hid (W5.heap.size = w4.heap.size + 1) → GB W6 w4.heap.size 28 (rcC r (.slice p' m c')) → W5.grownBy W6 (some w4.heap.size) → Hid (W6.heap.size = W5.heap.size) → W6.cell? ⟨W1.heap.size, 2, none⟩ = some (encStr x.key) ∧ W6.cell? ⟨W1.heap.size, 3, none⟩ = some (encStr x.val) ∧ W6.cell? ⟨W1.heap.size, 4, none⟩ = some (.int .i64 x.wt) ∧ W6.cell? ⟨w4.heap.size, 0, none⟩ = some (.int .i64 r) ∧ W6.cell? ⟨w4.heap.size, 1, none⟩ = some (.slice p' m c') ∧ W6.cell? ⟨W2.heap.size, 0, none⟩ = some (.int .i64 0) ∧ W6.cell? ⟨W2.heap.size, 1, none⟩ = some (.slice none 0 0) ∧ W6.frozen? ⟨W2.heap.size, 0, none⟩ = false ∧ W6.frozen? ⟨W2.heap.size, 1, none⟩ = false ∧ ¬ w4.heap.size = W2.heap.size ∧ ¬ W2.heap.size = w4.heap.size ∧ Hid (RdE W6 p' S1 ∧ NewP W3.heap.size p' ∧ Below W3.heap.size W3 W6 ∧ Below w.heap.size w W6 ∧ GB W6 w4.heap.size 28 (rcC r (.slice p' m c')) ∧ Nx X w W6 w4.heap.size ∧ w4.heap.size ≠ W2.heap.size ∧ Nx X w W6 W1.heap.size ∧ W1.heap.size ≠ W2.heap.size ∧ St w0 W6 W6 c r S d s T (Nx X w W6) W2.heap.size (rcC 0 (.slice none 0 0)))) := by
    intro w4 W5 W6 p' c' hR hn hb4 _ hb5 hs5 G6 hg6 hs6
    have hB46 : Below w4.heap.size w4 W6 := grown_below hb5 hg6 hb5.size (Nat.le_refl _)
    have hB36 := hb4.trans (hB46.mono hb4.size)
    have e5 := hs5.out; have e6 := hs6.out
    have hz := hb4.size
    have h6 := HG.out
    have hw6 := h6.2.2.1.trans (hB36.mono h6.2.2.1.size)
    have g3 := h6.2.1.below hB36
    have hne : w4.heap.size ≠ W2.heap.size := by omega
    refine ⟨by rw [hB36.cell (block_lt_of_cell HD2.out.1)]; exact HD2.out.1, by rw [hB36.cell (block_lt_of_cell HD2.out.2.1)]; exact HD2.out.2.1, by rw [hB36.cell (block_lt_of_cell HD2.out.2.2)]; exact HD2.out.2.2, (rc_gb G6).1, (rc_gb G6).2, (rc_gb g3).1, (rc_gb g3).2, gb_frozen g3 0, gb_frozen g3 1, hne, Ne.symm hne, hR.below hB46, hn, hB36, hw6, G6, .inr ⟨by omega, by omega⟩, hne, .inr ⟨by have := HG1.out; omega, by have := HG1.out; omega⟩, by have := HG1.out; omega, ?_⟩
    have hb := HU.out.base
    unfold St
    exact ⟨(HU.out.grow hw6).1, fun b h => rfl, g3, .inr ⟨by omega, by omega⟩, by omega⟩
  go_upto_region 4 with (first
    | (refine wpList_ldB (cs := rcC r (.slice p n cc)) rfl _ rfl w.heap.size rfl HG.out.1 Try.underlying28 rc_size ?_)
    | (go_at_call 19; refine HC.out.mono ?_; rintro e1 w4 ⟨p', c', rfl, hR4, hn4, hb4⟩)
    | (refine wpList_alB rfl rfl rc_zero ?_; intro W5 G5 hb5 hs5)
    | (refine wpList_stB (cs := rcC r (.slice p' m c')) rfl _ _ rfl rfl w4.heap.size rfl rfl G5 rc_size rfl (rc_one _ _ _ _) ?_; intro W6 G6 hg6 hs6; obtain ⟨e2, e3, e4, c0, c1, z0, z1, f0, f1, ne1, ne2, HZ⟩ := STEP.out _ _ _ _ _ hR4 hn4 hb4 G5 hb5 hs5 G6 hg6 hs6; clear hR4 hn4 hb4 G5 hb5 hs5 G6 hg6 hs6))
  clear d1 d2 d3 d4 n0
  go_region_held3 (fun Y => Y.cell? ⟨w4.heap.size, 0, none⟩ = some (.int .i64 r) ∧ Y.cell? ⟨w4.heap.size, 1, none⟩ = some (.slice p' m c') ∧ Y.cell? ⟨W1.heap.size, 2, none⟩ = some (encStr x.key) ∧ Y.cell? ⟨W1.heap.size, 3, none⟩ = some (encStr x.val) ∧ Y.cell? ⟨W1.heap.size, 4, none⟩ = some (.int .i64 x.wt)) (first | exact KS.out | go_keep) (first
    | (go_at_call 29; refine (HP.out W6 _ _ (HZ.out.2.2.2.2.2.2.2.2.2).drew).mono ?_; rintro e1 w7 ⟨rfl, HS⟩; obtain ⟨y0, y1, y2, y3⟩ := HS.out.own; have KS := (show Hid (_ ∧ _ ∧ _ ∧ _ ∧ _) from ⟨HS.out.cell c0 HZ.out.2.2.2.2.2.1 ne1, HS.out.cell c1 HZ.out.2.2.2.2.2.1 ne1, HS.out.cell e2 HZ.out.2.2.2.2.2.2.2.1 HZ.out.2.2.2.2.2.2.2.2.1, HS.out.cell e3 HZ.out.2.2.2.2.2.2.2.1 HZ.out.2.2.2.2.2.2.2.2.1, HS.out.cell e4 HZ.out.2.2.2.2.2.2.2.1 HZ.out.2.2.2.2.2.2.2.2.1⟩)))
  go_wp2
  have hS8 := (HS.out.set rfl (.int .i64 r) (.slice p' m c'))
  refine bodyPost_ret (res_B2 rfl _ _ W2.heap.size rfl hS8.gbr Try.underlying28 rc_size) rfl ?_
  have hwg : w.heap.size ≤ W2.heap.size := Nat.le_of_lt HG.out.2.2.2.2.2
  exact ⟨p', c', rfl, uw_st HU.out HZ.out.2.2.2.1 hwg hS8 HZ.out.1 (rd_in HU.out HZ.out.1 (.inr HZ.out.2.1) HG.out.2.2.1.size) (rd_ne HU.out (.inr HZ.out.2.1) hwg HG.out.2.2.2.2.1)⟩
end
end Go.Proofs.Ytjefciioaebbeaa
