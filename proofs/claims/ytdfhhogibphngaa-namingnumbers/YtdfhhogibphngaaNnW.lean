/-
  The laws of numbers, objects, keys, kinds: the walks.
-/
import Derived.Test.YtdfhhogibphngaaNw
namespace Go.Proofs.Ytdfhhogibphngaa
open Go.RowKit Go.Maps Go.Sort
section
attribute [local irreducible] Calls
set_option maxRecDepth 1000000 in
theorem numbers_walk (w : World) : Calls Try.prog 3 #[] w fun e w' => e = .returned (.bool true) ∧ Below w.heap.size w w' := by
  go_enter Try.func3, Try.ntmps3
  go_wp2_with (go_at_call 9; refine (known_any _).mono ?_; rintro e w1 ⟨rfl, hb1⟩)
  go_ret
  exact ⟨rfl, hb1⟩
end
end Go.Proofs.Ytdfhhogibphngaa
