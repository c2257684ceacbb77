/-
  'addMultiple' over the field of four.
-/
import Derived.Test.YtmjobnabnkiakaaAm
namespace Go.Proofs.Ytmjobnabnkiakaa
open Go.RowKit
theorem onF_congr {w : World} {t : TypeId} {g l : Nat} {f f' : Nat → Bool × Bool} (h : Ov w t g (clF f) (l * 2)) (e : ∀ j, j < l → f j = f' j) : Ov w t g (clF f') (l * 2) := h.congr (fun j hj => by unfold clF; rw [e (j / 2) (by omega)])
theorem onF_cell {w : World} {t : TypeId} {g l : Nat} {f : Nat → Bool × Bool} (h : Ov w t g (clF f) (l * 2)) {j : Nat} (hj : j < l) : w.cell? ⟨g, j * 2, none⟩ = some (.bool (f j).1) ∧ w.cell? ⟨g, j * 2 + 1, none⟩ = some (.bool (f j).2) := by
  have h1 := h.cell (i := j * 2) (by omega)
  have h2 := h.cell (i := j * 2 + 1) (by omega)
  unfold clF at h1 h2
  rw [if_pos (by omega), show j * 2 / 2 = j by omega] at h1
  rw [if_neg (by omega), show (j * 2 + 1) / 2 = j by omega] at h2
  exact ⟨h1, h2⟩
theorem onF_put {w : World} {t : TypeId} {g l : Nat} {f : Nat → Bool × Bool} (h : Ov w t g (clF f) (l * 2)) {j : Nat} (hj : j < l) (x : Bool × Bool) : Ov ((w.setCell ⟨g, j * 2, none⟩ (.bool x.1)).setCell ⟨g, j * 2 + 1, none⟩ (.bool x.2)) t g (clF (fun i => if i = j then x else f i)) (l * 2) := by
  refine ((h.set (k := j * 2) (by omega) (.bool x.1)).set (k := j * 2 + 1) (by omega) (.bool x.2)).congr (fun i _ => ?_)
  unfold clF
  show (if i = j * 2 + 1 then Value.bool x.2 else if i = j * 2 then Value.bool x.1 else .bool (if i % 2 = 0 then (f (i / 2)).1 else (f (i / 2)).2)) = .bool (if i % 2 = 0 then (if i / 2 = j then x else f (i / 2)).1 else (if i / 2 = j then x else f (i / 2)).2)
  by_cases e : i = j * 2 + 1
  · rw [if_pos e, if_neg (by omega), if_pos (by omega)]
  · rw [if_neg e]
    by_cases e2 : i = j * 2
    · rw [if_pos e2, if_pos (by omega), if_pos (by omega)]
    · have hne : ¬ i / 2 = j := by omega
      rw [if_neg e2, if_neg hne]
section
attribute [local irreducible] Calls el Ov
end
end Go.Proofs.Ytmjobnabnkiakaa
