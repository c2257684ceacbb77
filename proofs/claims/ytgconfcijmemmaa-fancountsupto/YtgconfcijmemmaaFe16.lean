/-
  slices.Backward of floating-point numbers.
-/
import Derived.Test.YtgconfcijmemmaaFd16
import Derived.RangeFuncNested
import Derived.RangeFuncBound
import Derived.RangeFuncCalls
import Derived.RangeFuncLeaves
import Derived.Shelf.Abstract
import Derived.Shelf.RegionOpen
import Derived.OwnWalkIn
import Derived.TacticsInMore
import Derived.LoopNIn
import Derived.LoopIn
namespace Go.Proofs.Ytgconfcijmemmaa
open Go.RowKit Go.Shelf
attribute [local go_sem] Oper.semAt_some
/-- What has come when k rounds are over: from the last one on. -/
def dnt {α : Type} (xs : List α) (k : Nat) : List (Nat × α) := (List.range k).filterMap fun j => (xs[xs.length - 1 - j]?).map fun x => (xs.length - 1 - j, x)
theorem dnt_succ {α : Type} {xs : List α} {k : Nat} (h : k < xs.length) : dnt xs (k + 1) = dnt xs k ++ [(xs.length - 1 - k, xs[xs.length - 1 - k]'(by omega))] := by
  unfold dnt
  rw [List.range_succ, List.filterMap_append]
  congr 1
  simp [show xs.length - 1 - k < xs.length by omega]
theorem dnt_len {α : Type} {xs : List α} : ∀ {k : Nat}, k ≤ xs.length → (dnt xs k).length = k
  | 0, _ => rfl
  | k + 1, h => by rw [dnt_succ (by omega), List.length_append, dnt_len (by omega)]; rfl
theorem dnt_rev {α : Type} {xs : List α} : ∀ {k : Nat}, k ≤ xs.length → (dnt xs k).reverse.map (·.2) = xs.drop (xs.length - k)
  | 0, _ => by simp [dnt]
  | k + 1, h => by
    rw [dnt_succ (by omega), List.reverse_append, List.map_append, dnt_rev (by omega)]
    have e : xs.length - k = (xs.length - 1 - k) + 1 := by omega
    have e2 : xs.length - (k + 1) = xs.length - 1 - k := by omega
    rw [e, e2]
    exact (List.drop_eq_getElem_cons (by omega)).symm
section
attribute [local irreducible] Calls
end
end Go.Proofs.Ytgconfcijmemmaa
