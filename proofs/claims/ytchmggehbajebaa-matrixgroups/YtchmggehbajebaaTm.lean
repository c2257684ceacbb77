/-
  'Times': the program's.
-/
import Derived.Test.YtchmggehbajebaaAmF
import Derived.Test.YtchmggehbajebaaSk
namespace Go.Proofs.Ytchmggehbajebaa
open Go.RowKit
/-- Adds a multiple onto a row, whatever the factor. -/
theorem addMulE_any {w : World} {g l c1 : Nat} {x : BitVec 8} {f d : Nat → BitVec 8} {v2 : Value} (hl : l ≤ 1000) (hc : l ≤ c1) (hO : Ov w 34 g (clE f) l) (hd : ∃ b2 o2 c2, v2 = .slice (some ⟨b2, o2, none⟩) l c2 ∧ b2 < g ∧ ∀ j, j < l → w.cell? ⟨b2, o2 + j, none⟩ = some (clE d j)) :
    Calls Try.prog 57 #[.slice (some ⟨g, 0, none⟩) l c1, vE x, v2] w fun e w' => e = .returned (.tuple #[]) ∧ Ov w' 34 g (clE (fun j => plE (f j) (tiE x (d j)))) l ∧ But g w w' := by
  obtain ⟨b2, o2, c2, rfl, hb2, H2⟩ := hd
  cases hz : izE x
  · exact addMulE_core g l b2 o2 c1 c2 x f d hz w hl hc hO hb2 H2
  · refine (addMulE_zero l b2 o2 c2 x hz (.slice (some ⟨g, 0, none⟩) l c1) w).mono fun e w' ⟨he, hw⟩ => ⟨he, ?_, ?_⟩
    · rw [hw]; exact onE_congr hO (fun j _ => (plE_o x (f j) hz (d j)).symm)
    · rw [hw]; exact But.refl _ _
/-- Adds a multiple onto a row, whatever the factor. -/
theorem addMulB_any {w : World} {g l c1 : Nat} {x : Bool} {f d : Nat → Bool} {v2 : Value} (hl : l ≤ 1000) (hc : l ≤ c1) (hO : Ov w 40 g (clB f) l) (hd : ∃ b2 o2 c2, v2 = .slice (some ⟨b2, o2, none⟩) l c2 ∧ b2 < g ∧ ∀ j, j < l → w.cell? ⟨b2, o2 + j, none⟩ = some (clB d j)) :
    Calls Try.prog 61 #[.slice (some ⟨g, 0, none⟩) l c1, vB x, v2] w fun e w' => e = .returned (.tuple #[]) ∧ Ov w' 40 g (clB (fun j => plB (f j) (tiB x (d j)))) l ∧ But g w w' := by
  obtain ⟨b2, o2, c2, rfl, hb2, H2⟩ := hd
  cases hz : izB x
  · exact addMulB_core g l b2 o2 c1 c2 x f d hz w hl hc hO hb2 H2
  · refine (addMulB_zero l b2 o2 c2 x hz (.slice (some ⟨g, 0, none⟩) l c1) w).mono fun e w' ⟨he, hw⟩ => ⟨he, ?_, ?_⟩
    · rw [hw]; exact onB_congr hO (fun j _ => (plB_o x (f j) hz (d j)).symm)
    · rw [hw]; exact But.refl _ _
/-- Adds a multiple onto a row, whatever the factor. -/
theorem addMulF_any {w : World} {g l c1 : Nat} {x : (Bool × Bool)} {f d : Nat → (Bool × Bool)} {v2 : Value} (hl : l ≤ 1000) (hc : l ≤ c1) (hO : Ov w 47 g (clF f) (l * 2)) (hd : ∃ b2 o2 c2, v2 = .slice (some ⟨b2, o2, none⟩) l c2 ∧ b2 < g ∧ ∀ j, j < (l * 2) → w.cell? ⟨b2, o2 + j, none⟩ = some (clF d j)) :
    Calls Try.prog 65 #[.slice (some ⟨g, 0, none⟩) l c1, vF x, v2] w fun e w' => e = .returned (.tuple #[]) ∧ Ov w' 47 g (clF (fun j => plF (f j) (tiF x (d j)))) (l * 2) ∧ But g w w' := by
  obtain ⟨b2, o2, c2, rfl, hb2, H2⟩ := hd
  cases hz : izF x
  · exact addMulF_core g l b2 o2 c1 c2 x.1 x.2 f d hz w hl hc hO hb2 H2
  · refine (addMulF_zero l b2 o2 c2 x.1 x.2 hz (.slice (some ⟨g, 0, none⟩) l c1) w).mono fun e w' ⟨he, hb⟩ => ⟨he, ?_, ?_⟩
    · exact onF_congr (hO.below hb) (fun j _ => (plF_o x (f j) hz (d j)).symm)
    · exact (But.refl g w).below (Nat.le_of_lt hO.lt) hb
end Go.Proofs.Ytchmggehbajebaa
