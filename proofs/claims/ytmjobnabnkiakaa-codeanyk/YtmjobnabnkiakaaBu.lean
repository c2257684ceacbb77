/-
  All old blocks but one are as they were.
-/
import Derived.Test.YtmjobnabnkiakaaKb
namespace Go.Proofs.Ytmjobnabnkiakaa
open Go.RowKit
theorem bdr (w : World) : Below w.heap.size w w.drew := (Below.refl _ _).drew
/-- All old blocks but g are as they were. -/
structure But (g : Nat) (w w' : World) : Prop where
  bl : Below g w w'
  ot : ∀ k, k < w.heap.size → k ≠ g → w'.heap[k]? = w.heap[k]?
  sz : w.heap.size ≤ w'.heap.size
theorem But.refl (g : Nat) (w : World) : But g w w := ⟨Below.refl _ _, fun _ _ _ => rfl, Nat.le_refl _⟩
theorem But.trans {g : Nat} {w w1 w2 : World} (h : But g w w1) (h' : But g w1 w2) : But g w w2 :=
  ⟨h.bl.trans h'.bl, fun k hk hne => by rw [h'.ot k (Nat.lt_of_lt_of_le hk h.sz) hne, h.ot k hk hne], Nat.le_trans h.sz h'.sz⟩
theorem But.set {g : Nat} {w w1 : World} (h : But g w w1) (j : Nat) (v : Value) : But g w (w1.setCell ⟨g, j, none⟩ v) :=
  ⟨h.bl.setCell (Nat.le_refl _) _, fun k hk hne => by rw [heap_setCell_other _ _ _ _ hne, h.ot k hk hne], by simpa using h.sz⟩
theorem But.below {g : Nat} {w w1 w2 : World} (h : But g w w1) (hg : g ≤ w1.heap.size) (hb : Below w1.heap.size w1 w2) : But g w w2 :=
  ⟨h.bl.trans (hb.mono hg), fun k hk hne => by rw [hb.block k (Nat.lt_of_lt_of_le hk h.sz), h.ot k hk hne], Nat.le_trans h.sz hb.size⟩
theorem But.ov {g : Nat} {w w' : World} (h : But g w w') {t : TypeId} {k n : Nat} {f : Nat → Value} (ho : Ov w t k f n) (hne : k ≠ g) : Ov w' t k f n := by
  unfold Ov; rw [h.ot k ho.lt hne]; exact ho
theorem But.cell {g : Nat} {w w' : World} (h : But g w w') {p : Addr} {v : Value} (hc : w.cell? p = some v) (hne : p.block ≠ g) : w'.cell? p = some v := by
  rw [World.cell?_of_block (h.ot p.block (block_lt_of_cell hc) hne)]; exact hc
end Go.Proofs.Ytmjobnabnkiakaa
