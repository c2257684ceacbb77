/-
  cairnref27.Chance.
-/
import Derived.Test.YtcfjinpjijcheabCj27
namespace Go.Proofs.Ytcfjinpjijcheab
open Go.RowKit
attribute [local irreducible] dR dW p2 fR fW fV fval
theorem order_swap (f : Ieee.Format) (x y : Nat) : f.order y x = (f.order x y).map Ordering.swap := by
  unfold Ieee.Format.order
  cases f.read x <;> cases f.read y <;> simp [Ieee.Datum.order]
  case number.number a b c d e g => rw [Int.min_comm g c]; exact (Int.compare_swap _ _).symm
  case number.infinity => split <;> rfl
  case infinity.number => split <;> rfl
  case infinity.infinity a b => cases a <;> cases b <;> rfl
theorem geq_leq (x y : Nat) : (F6.order x y == some .gt || F6.order x y == some .eq) = (F6.order y x == some .lt || F6.order y x == some .eq) := by
  rw [order_swap F6 x y]
  cases F6.order x y with
  | none => rfl
  | some o => cases o <;> rfl
section
attribute [local irreducible] Calls fad fmu fsu stn fls cel sdn fin1
end
end Go.Proofs.Ytcfjinpjijcheab
