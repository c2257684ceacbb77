/-
  HealthChances: the walk.
-/
import Derived.Test.YtcfjinpjijcheabLn27
namespace Go.Proofs.Ytcfjinpjijcheab
open Go.RowKit
theorem sub_any (x y : Nat) : (∃ r, ∀ (t : TypeId) (W : World), (binOp .sub t (.float .f64 x) (.float .f64 y)).run Try.prog W = .ok (.float .f64 r) W) ∨ (∃ nb : World → Nat, ∀ (t : TypeId) (W : World), (binOp .sub t (.float .f64 x) (.float .f64 y)).run Try.prog W = .ok (.float .f64 (nb W)) W.drew) := by
  cases h : F6.sub x y with
  | some r => exact .inl ⟨r, fl_run h⟩
  | none =>
    right
    refine ⟨fun W => (Question.nanBits .f64 x y).cut (W.tape W.drawn (Question.nanBits .f64 x y)), fun t W => ?_⟩
    have h' : FloatKind.f64.format.sub x y = none := h
    have e : binOp .sub t (.float .f64 x) (.float .f64 y) = Op.floatArith .sub .f64 x y := by
      simp only [binOp]
      rw [if_neg (by simp)]
    rw [e]
    unfold Op.floatArith
    simp only [h']
    rfl
theorem chv_self (fs : List Nat) (m : Int) : (FloatKind.f64.format.order (chv fs m).1 (chv fs m).1 != some .eq) = false := by
  have hc : Cn 1020 (chv fs m).1 := by
    unfold chv
    split
    · exact cn_zero _
    · split
      · exact cn_zero _
      · rename_i h1 h2
        have hall := any_false (fs := fs) (fun hh => h2 (.inr hh))
        have hal := chl_all hall fs.length (Nat.le_refl _) (by omega)
        rw [List.take_length] at hal
        exact (fin1_cn (sdn_all hal _ (by omega))).mono (by omega)
  have ho := order_nn (by omega) (hc.nn (by omega)) (hc.nn (by omega))
  have h2 : FloatKind.f64.format.order (chv fs m).1 (chv fs m).1 = some .eq := by
    rw [show FloatKind.f64.format.order (chv fs m).1 (chv fs m).1 = _ from ho]
    rw [Nat.compare_eq_eq.2 rfl]
  rw [h2]; rfl
theorem LnF.drew {w : World} {base : Nat} {v : Value} {xs : List Nat} (h : LnF w base v xs) : LnF w.drew base v xs := h
section
attribute [local irreducible] Calls chv LnF
end
end Go.Proofs.Ytcfjinpjijcheab
