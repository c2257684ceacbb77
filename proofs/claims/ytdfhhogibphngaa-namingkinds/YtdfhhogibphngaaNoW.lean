/-
  The laws of objects, keys, kinds: the walks.
-/
import Derived.Test.YtdfhhogibphngaaNr
namespace Go.Proofs.Ytdfhhogibphngaa
open Go.RowKit Go.Maps Go.Sort
section
attribute [local irreducible] Calls
set_option maxRecDepth 1000000 in
theorem objects_walk (k : Tx) (w : World) : Calls Try.prog 4 #[encStr k] w fun e w' => e = .returned (.bool true) ∧ Below w.heap.size w w' := by
  by_cases h : fitK k
  · go_enter Try.func4, Try.ntmps4
    go_wp2_with (first
      | (go_at_call 10; refine (robject_ok k h _).mono ?_; rintro e w1 ⟨rfl, hb1⟩)
      | (go_at_call 11; refine (object_ok k h _).mono ?_; rintro e w2 ⟨rfl, hb2⟩)
      | (go_at_call 9; refine (known_any _).mono ?_; rintro e w3 ⟨rfl, hb3⟩))
    go_ret
    exact ⟨rfl, below_trans (below_trans hb1 hb2 hb1.size) hb3 (Nat.le_trans hb1.size hb2.size)⟩
  · go_enter Try.func4, Try.ntmps4
    go_wp2_with (first
      | (go_at_call 10; refine (robject_no k h _).mono ?_; rintro e w1 ⟨rfl, hw⟩; rw [hw]; clear hw w1)
      | (go_at_call 11; refine (object_no k h _).mono ?_; rintro e w1 ⟨rfl, hw⟩; rw [hw]; clear hw w1)
      | (go_at_call 9; refine (known_any _).mono ?_; rintro e w3 ⟨rfl, hb3⟩))
    go_ret
    exact ⟨rfl, hb3⟩
set_option maxRecDepth 1000000 in
theorem keys_walk (s : Tx) (w : World) : Calls Try.prog 5 #[encStr s] w fun e w' => e = .returned (.bool true) ∧ Below w.heap.size w w' := by
  have hr := rkey_any s w
  have hk := key_any s
  cases hy : ky s with
  | none =>
    rw [hy] at hr hk
    clear hy
    go_enter Try.func5, Try.ntmps5
    go_wp2_with (first
      | (go_at_call 12; refine hr.mono ?_; rintro e w1 ⟨rfl, hb1⟩; unfold kres)
      | (go_at_call 13; refine (hk _).mono ?_; rintro e w2 ⟨rfl, hb2⟩; unfold kres)
      | (go_at_call 9; refine (known_any _).mono ?_; rintro e w3 ⟨rfl, hb3⟩))
    go_ret
    exact ⟨rfl, below_trans (below_trans hb1 hb2 hb1.size) hb3 (Nat.le_trans hb1.size hb2.size)⟩
  | some k =>
    rw [hy] at hr hk
    clear hy
    go_enter Try.func5, Try.ntmps5
    go_wp2_with (first
      | (go_at_call 12; refine hr.mono ?_; rintro e w1 ⟨rfl, hb1⟩; unfold kres)
      | (go_at_call 13; refine (hk _).mono ?_; rintro e w2 ⟨rfl, hb2⟩; unfold kres)
      | (go_at_call 9; refine (known_any _).mono ?_; rintro e w3 ⟨rfl, hb3⟩))
    go_ret
    exact ⟨rfl, below_trans (below_trans hb1 hb2 hb1.size) hb3 (Nat.le_trans hb1.size hb2.size)⟩
set_option maxRecDepth 1000000 in
theorem kinds_walk (s : Tx) (w : World) : Calls Try.prog 6 #[encStr s] w fun e w' => e = .returned (.bool true) ∧ Below w.heap.size w w' := by
  go_enter Try.func6, Try.ntmps6
  go_wp2_with (first
    | (go_at_call 15; refine (rkind_any s _).mono ?_; rintro e w2 ⟨rfl, hb2⟩)
    | (go_at_call 14; refine (kind_any s _).mono ?_; rintro e w1 ⟨rfl, hb1⟩)
    | (go_at_call 9; refine (known_any _).mono ?_; rintro e w3 ⟨rfl, hb3⟩))
  go_ret
  exact ⟨rfl, below_trans (below_trans hb1 hb2 hb1.size) hb3 (Nat.le_trans hb1.size hb2.size)⟩
end
end Go.Proofs.Ytdfhhogibphngaa
