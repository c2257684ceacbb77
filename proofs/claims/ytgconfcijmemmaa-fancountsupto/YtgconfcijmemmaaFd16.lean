/-
  Floating-point numbers: same, Count, countOneMore, times.
-/
import Derived.Test.YtgconfcijmemmaaFc16
import Derived.Defers
import Derived.Recover
import Derived.WalkKit
import Derived.Below
import Derived.OwnWalk
import Derived.BigQuiet
namespace Go.Proofs.Ytgconfcijmemmaa
open Go.RowKit
theorem cell_belowF {w w' : World} {p : Addr} {v : Value} (h : w.cell? p = some v) (hb : Below w.heap.size w w') : w'.cell? p = some v := by
  rw [hb.cell (p := p) (block_lt_of_cell h)]; exact h
section
attribute [local irreducible] Calls
/-- How many of the first k are it. -/
theorem count_take {α : Type} (q : α → Bool) (xs : List α) (z : α) {k : Nat} (h : k < xs.length) : (xs.take (k + 1)).countP q = (xs.take k).countP q + (if q (xs.getD k z) = true then 1 else 0) := by
  rw [List.take_succ_eq_append_getElem h, List.countP_append]
  have : xs.getD k z = xs[k] := by simp [List.getD, h]
  rw [this, List.countP_singleton]
end
end Go.Proofs.Ytgconfcijmemmaa
