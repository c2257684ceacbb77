/-
  'Powers' over the field of four.
-/
import Derived.Test.YtchmggehbajebaaKp
import Derived.Test.YtchmggehbajebaaBu
namespace Go.Proofs.Ytchmggehbajebaa
open Go.RowKit
/-- The block A is a variable that holds this number. -/
def Two (w : World) (A : Nat) (x : Bool × Bool) : Prop := w.heap[A]? = some (.cells #[.bool x.1, .bool x.2] 47 (0, 0))
theorem Two.lt {w : World} {A : Nat} {x : Bool × Bool} (h : Two w A x) : A < w.heap.size := lt_of_block h
theorem Two.below {w w' : World} {A : Nat} {x : Bool × Bool} (h : Two w A x) (hb : Below w.heap.size w w') : Two w' A x := by
  unfold Two; rw [hb.block A h.lt]; exact h
theorem Two.cells {w : World} {A : Nat} {x : Bool × Bool} (h : Two w A x) : w.cell? ⟨A, 0, none⟩ = some (.bool x.1) ∧ w.cell? ⟨A, 1, none⟩ = some (.bool x.2) := by
  refine ⟨?_, ?_⟩
  · rw [cell_of_row w A 0 _ _ _ h]; rfl
  · rw [cell_of_row w A 1 _ _ _ h]; rfl
theorem Two.frozen {w : World} {A : Nat} {x : Bool × Bool} (h : Two w A x) (i : Nat) : w.frozen? ⟨A, i, none⟩ = false := frozen_of_row w A i _ _ h
theorem two_var (w : World) (x : Bool × Bool) : Two (w.alloc (.cells #[.bool x.1, .bool x.2] 47)) w.heap.size x := heap_alloc_new w _
theorem Two.put {w : World} {A : Nat} {x : Bool × Bool} (h : Two w A x) (y : Bool × Bool) : Two ((w.setCell ⟨A, 0, none⟩ (.bool y.1)).setCell ⟨A, 1, none⟩ (.bool y.2)) A y := by
  have h1 : (w.setCell ⟨A, 0, none⟩ (.bool y.1)).heap[A]? = some (.cells #[.bool y.1, .bool x.2] 47 (0, 0)) := by rw [heap_setCell_same w A 0 _ _ _ h]; rfl
  unfold Two
  rw [heap_setCell_same _ A 1 _ _ _ h1]; rfl
theorem Two.away {w : World} {A : Nat} {x : Bool × Bool} (h : Two w A x) {p q : Addr} (hp : A ≠ p.block) (hq : A ≠ q.block) (u v : Value) : Two ((w.setCell p u).setCell q v) A x := by
  unfold Two
  rw [heap_setCell_other _ _ _ _ hq, heap_setCell_other _ _ _ _ hp]; exact h
theorem GmF.away {w : World} {B r l : Nat} {ρ : Nat → Nat} {N : Nat → Nat → Bool × Bool} (h : GmF w B r l ρ N) {L : Nat} (hB : B ≠ L) (hr : ∀ i, i < r → ρ i ≠ L) (u v : Value) : GmF ((w.setCell ⟨L, 0, none⟩ u).setCell ⟨L, 1, none⟩ v) B r l ρ N := by
  refine ⟨?_, fun i hi => ?_, h.ne, h.inj⟩
  · unfold Ov; rw [heap_setCell_other _ _ _ _ hB, heap_setCell_other _ _ _ _ hB]; exact Gr.out h
  · unfold Ov; rw [heap_setCell_other _ _ _ _ (hr i hi), heap_setCell_other _ _ _ _ (hr i hi)]; exact Gr.row h i hi
theorem GmF.lt {w : World} {B r l : Nat} {ρ : Nat → Nat} {N : Nat → Nat → Bool × Bool} (h : GmF w B r l ρ N) : B < w.heap.size ∧ ∀ i, i < r → ρ i < w.heap.size := ⟨(Gr.out h).lt, fun i hi => (Gr.row h i hi).lt⟩
section
attribute [local irreducible] Calls el Ov GmF pwk Two
end
end Go.Proofs.Ytchmggehbajebaa
