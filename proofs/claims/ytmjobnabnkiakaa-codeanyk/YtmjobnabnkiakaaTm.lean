/-
  'Times': the program's.
-/
import Derived.Test.YtmjobnabnkiakaaAmF
import Derived.Test.YtmjobnabnkiakaaSk
namespace Go.Proofs.Ytmjobnabnkiakaa
open Go.RowKit
/-- Adds a multiple onto a row, whatever the factor. -/
theorem addMulE_any {w : World} {g l c1 : Nat} {x : BitVec 8} {f d : Nat → BitVec 8} {v2 : Value} (hl : l ≤ 1000) (hc : l ≤ c1) (hO : Ov w 73 g (clE f) l) (hd : ∃ b2 o2 c2, v2 = .slice (some ⟨b2, o2, none⟩) l c2 ∧ b2 < g ∧ ∀ j, j < l → w.cell? ⟨b2, o2 + j, none⟩ = some (clE d j)) :
    Calls Try.prog 71 #[.slice (some ⟨g, 0, none⟩) l c1, vE x, v2] w fun e w' => e = .returned (.tuple #[]) ∧ Ov w' 73 g (clE (fun j => plE (f j) (tiE x (d j)))) l ∧ But g w w' := by
  obtain ⟨b2, o2, c2, rfl, hb2, H2⟩ := hd
  cases hz : izE x
  · exact addMulE_core g l b2 o2 c1 c2 x f d hz w hl hc hO hb2 H2
  · refine (addMulE_zero l b2 o2 c2 x hz (.slice (some ⟨g, 0, none⟩) l c1) w).mono fun e w' ⟨he, hw⟩ => ⟨he, ?_, ?_⟩
    · rw [hw]; exact onE_congr hO (fun j _ => (plE_o x (f j) hz (d j)).symm)
    · rw [hw]; exact But.refl _ _
end Go.Proofs.Ytmjobnabnkiakaa
