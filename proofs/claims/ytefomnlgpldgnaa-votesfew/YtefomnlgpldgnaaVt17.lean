/-
  The document's own functions of layer 17: places, Hidden.
-/
import Derived.Test.YtefomnlgpldgnaaVs17
namespace Go.Proofs.Ytefomnlgpldgnaa
open Go.RowKit
theorem hid_succ (s : Shs) (n : Nat) : hid s (n + 1) = hid s n + (if hdn s n = true then 1 else 0) := by
  unfold hid
  rw [hds_succ, List.length_append]
  by_cases h : hdn s n = true <;> simp [h]
theorem shs_no2 {ss : Nat → Sn} {t : Nat} {k : Wg} (h : ¬ (ss t).kd = 2) : sh (shs ss) k t = false := by
  cases e : sh (shs ss) k t with
  | false => rfl
  | true => exact absurd ((sh_iff _ _ _).1 e).1 h
theorem shs_no {ss : Nat → Sn} {t : Nat} {k : Wg} (h : ¬ (ss t).wg = k) : sh (shs ss) k t = false := by
  cases e : sh (shs ss) k t with
  | false => rfl
  | true => exact absurd ((sh_iff _ _ _).1 e).2 h
section
attribute [local irreducible] Calls GB On plc
end
end Go.Proofs.Ytefomnlgpldgnaa
