/-
  'Times': the program's.
-/
import Derived.Test.YtgokkppojhokbaaAmF
import Derived.Test.YtgokkppojhokbaaFp
namespace Go.Proofs.Ytgokkppojhokbaa
open Go.RowKit
/-- Adds a multiple onto a row, whatever the factor. -/
theorem addMulE_any {w : World} {g l c1 : Nat} {x : BitVec 8} {f d : Nat → BitVec 8} {v2 : Value} (hl : l ≤ 1000) (hc : l ≤ c1) (hO : Ov w 83 g (clE f) l) (hd : ∃ b2 o2 c2, v2 = .slice (some ⟨b2, o2, none⟩) l c2 ∧ b2 < g ∧ ∀ j, j < l → w.cell? ⟨b2, o2 + j, none⟩ = some (clE d j)) :
    Calls Try.prog 57 #[.slice (some ⟨g, 0, none⟩) l c1, vE x, v2] w fun e w' => e = .returned (.tuple #[]) ∧ Ov w' 83 g (clE (fun j => plE (f j) (tiE x (d j)))) l ∧ But g w w' := by
  obtain ⟨b2, o2, c2, rfl, hb2, H2⟩ := hd
  cases hz : izE x
  · exact addMulE_core g l b2 o2 c1 c2 x f d hz w hl hc hO hb2 H2
  · refine (addMulE_zero l b2 o2 c2 x hz (.slice (some ⟨g, 0, none⟩) l c1) w).mono fun e w' ⟨he, hw⟩ => ⟨he, ?_, ?_⟩
    · rw [hw]; exact onE_congr hO (fun j _ => (plE_o x (f j) hz (d j)).symm)
    · rw [hw]; exact But.refl _ _
end Go.Proofs.Ytgokkppojhokbaa
/-
  'addMultiple' where the rows may have no numbers.
-/
namespace Go.Proofs.Ytgokkppojhokbaa
open Go.RowKit
section
attribute [local irreducible] Calls el
set_option maxHeartbeats 4000000 in
set_option maxRecDepth 1000000 in
theorem addMulE_nil (g c1 c2 : Nat) (p2 : Option Addr) (x : BitVec 8) (w : World) :
    Calls Try.prog 57 #[.slice (some ⟨g, 0, none⟩) 0 c1, .int .u8 (el x), .slice p2 0 c2] w fun e w' => e = .returned (.tuple #[]) ∧ Below w.heap.size w w' := by
  have HZ := (show Hid _ from fun w => isZeroE x w)
  obtain ⟨z, hz⟩ : ∃ z, z = izE x := ⟨_, rfl⟩
  rw [← hz] at HZ
  clear hz
  cases z
  · go_enter Try.func57, Try.ntmps57
    go_wp2_with (refine (HZ.out _).mono ?_; rintro e w' ⟨rfl, h⟩; obtain rfl := h.symm)
    refine wp_loop_rounds 1 ?_
    rw [rounds_succ]
    go_wp2
    (try simp only [Exit.inBlock, Exit.then])
    refine bodyPost_end (results_0 rfl _ _ _) rfl ?_
    exact ⟨rfl, Below.refl _ _⟩
  · go_enter Try.func57, Try.ntmps57
    go_wp2_with (refine (HZ.out _).mono ?_; rintro e w' ⟨rfl, h⟩; obtain rfl := h.symm)
    refine bodyPost_ret (results_0 rfl _ _ _) rfl ?_
    exact ⟨rfl, Below.refl _ _⟩
end
theorem addMulE_all {w0 w : World} {g l c1 : Nat} {x : BitVec 8} {f d : Nat → BitVec 8} {v2 : Value} (hl : l ≤ 1000) (hc : l ≤ c1) (hO : Ov w 83 g (clE f) (l)) (hd : NrE w0 v2 l d) (hg : w0.heap.size ≤ g) (hb : Below w0.heap.size w0 w) :
    Calls Try.prog 57 #[.slice (some ⟨g, 0, none⟩) l c1, vE x, v2] w fun e w' => e = .returned (.tuple #[]) ∧ Ov w' 83 g (clE (fun j => plE (f j) (tiE x (d j)))) (l) ∧ But g w w' := by
  by_cases h0 : l = 0
  · subst h0
    obtain ⟨p, c, rfl, _⟩ := hd
    exact (addMulE_nil g c1 c p x w).mono fun e w' ⟨he, hb'⟩ => ⟨he, (hO.below hb').congr (fun i hi => by omega), (But.refl g w).below (Nat.le_of_lt hO.lt) hb'⟩
  · obtain ⟨b, o, c, rfl, hcs⟩ := Sv.cells hd (by omega)
    refine addMulE_any hl hc hO ⟨b, o, c, rfl, ?_, fun j hj => cell_below (hcs j hj) hb⟩
    have := block_lt_of_cell (hcs 0 (by omega))
    simp only at this
    omega
section
attribute [local irreducible] Calls el
end
section
attribute [local irreducible] Calls el
end
end Go.Proofs.Ytgokkppojhokbaa
