/-
  The law of the way back and there: the walk.
-/
import Derived.Test.YtdfhhogibphngabNw
namespace Go.Proofs.Ytdfhhogibphngab
open Go.RowKit Go.Maps Go.Sort
section
attribute [local irreducible] Calls
set_option maxRecDepth 1000000 in
theorem fit_any (k : Tx) (w : World) : Calls Try.prog 12 #[encStr k] w fun e w' => e = .returned (.bool (decide (1 ≤ k.length ∧ k.length ≤ 255))) ∧ w' = w := by
  go_enter Try.func12, Try.ntmps12
  go_wp2
  all_goals
    go_ret
    refine ⟨ret_bool ?_, rfl⟩
    first | (rw [decide_eq_decide]; omega) | (rw [Bool.eq_iff_iff]; simp; omega)
set_option maxRecDepth 1000000 in
theorem only_t (s : Tx) (hs : s = [116]) (w : World) : Calls Try.prog 3 #[encStr s] w fun e w' => e = .returned (.bool true) ∧ Below w.heap.size w w' := by
  have hk := key_any s
  have hd := kind_any s
  rw [show ky s = none by rw [hs]; decide] at hk
  rw [show knd s = 2 by rw [hs]; decide] at hd
  subst hs
  go_enter Try.func3, Try.ntmps3
  go_wp2_with (first
    | (go_at_call 8; refine (known_any _).mono ?_; rintro e w1 ⟨rfl, hb1⟩)
    | (go_at_call 9; refine (hk _).mono ?_; rintro e w2 ⟨rfl, hb2⟩; unfold kres)
    | (go_at_call 10; refine (hd _).mono ?_; rintro e w3 ⟨rfl, hb3⟩))
  go_ret
  exact ⟨rfl, below_trans (below_trans hb1 hb2 hb1.size) hb3 (Nat.le_trans hb1.size hb2.size)⟩

set_option maxRecDepth 1000000 in
theorem only_l (s : Tx) (hs : s = [108]) (w : World) : Calls Try.prog 3 #[encStr s] w fun e w' => e = .returned (.bool true) ∧ Below w.heap.size w w' := by
  have hk := key_any s
  have hd := kind_any s
  rw [show ky s = none by rw [hs]; decide] at hk
  rw [show knd s = 3 by rw [hs]; decide] at hd
  subst hs
  go_enter Try.func3, Try.ntmps3
  go_wp2_with (first
    | (go_at_call 8; refine (known_any _).mono ?_; rintro e w1 ⟨rfl, hb1⟩)
    | (go_at_call 9; refine (hk _).mono ?_; rintro e w2 ⟨rfl, hb2⟩; unfold kres)
    | (go_at_call 10; refine (hd _).mono ?_; rintro e w3 ⟨rfl, hb3⟩))
  go_ret
  exact ⟨rfl, below_trans (below_trans hb1 hb2 hb1.size) hb3 (Nat.le_trans hb1.size hb2.size)⟩

set_option maxRecDepth 1000000 in
theorem only_none (s : Tx) (h1 : ¬ s = [116]) (h2 : ¬ s = [108]) (hy : ky s = none) (w : World) : Calls Try.prog 3 #[encStr s] w fun e w' => e = .returned (.bool true) ∧ Below w.heap.size w w' := by
  have hk := key_any s
  have hd := kind_any s
  rw [show knd s = 0 by unfold knd; rw [if_neg h1, if_neg h2, hy]; rfl] at hd
  rw [hy] at hk
  have b1 : (s == [116]) = false := by simp [h1]
  have b2 : (s == [108]) = false := by simp [h2]
  clear h1 h2 hy
  go_enter Try.func3, Try.ntmps3
  go_wp2_with (first
    | (go_at_call 8; refine (known_any _).mono ?_; rintro e w1 ⟨rfl, hb1⟩)
    | (go_at_call 9; refine (hk _).mono ?_; rintro e w2 ⟨rfl, hb2⟩; unfold kres)
    | (go_at_call 10; refine (hd _).mono ?_; rintro e w3 ⟨rfl, hb3⟩))
  go_ret
  exact ⟨rfl, below_trans (below_trans hb1 hb2 hb1.size) hb3 (Nat.le_trans hb1.size hb2.size)⟩

set_option maxRecDepth 1000000 in
theorem only_some (s k : Tx) (hy : ky s = some k) (w : World) : Calls Try.prog 3 #[encStr s] w fun e w' => e = .returned (.bool true) ∧ Below w.heap.size w w' := by
  have hk := key_any s
  have hd := kind_any s
  have hn := nm_ky hy
  have ho := object_ok k hn.2
  have hf := fit_any k
  have h' := hn.2
  unfold fitK at h'
  rw [decide_eq_true h'] at hf
  rw [hn.1] at ho
  have hl : ¬ s.length = 1 := by rw [← hn.1, nm_len]; omega
  have h1 : ¬ s = [116] := fun e => hl (by rw [e]; rfl)
  have h2 : ¬ s = [108] := fun e => hl (by rw [e]; rfl)
  rw [show knd s = 1 by unfold knd; rw [if_neg h1, if_neg h2, hy]; rfl] at hd
  rw [hy] at hk
  have b1 : (s == [116]) = false := by simp [h1]
  have b2 : (s == [108]) = false := by simp [h2]
  clear h1 h2 hy hn h' hl
  go_enter Try.func3, Try.ntmps3
  go_wp2_with (first
    | (go_at_call 8; refine (known_any _).mono ?_; rintro e w1 ⟨rfl, hb1⟩)
    | (go_at_call 9; refine (hk _).mono ?_; rintro e w2 ⟨rfl, hb2⟩; unfold kres)
    | (go_at_call 10; refine (hd _).mono ?_; rintro e w3 ⟨rfl, hb3⟩)
    | (go_at_call 11; refine (ho _).mono ?_; rintro e w4 ⟨rfl, hb4⟩)
    | (go_at_call 12; refine (hf _).mono ?_; rintro e w5 ⟨rfl, hw⟩; rw [hw]; clear hw w5))
  go_ret
  have a3 := below_trans (below_trans hb1 hb2 hb1.size) hb3 (Nat.le_trans hb1.size hb2.size)
  exact ⟨rfl, below_trans a3 hb4 a3.size⟩

theorem only_walk (s : Tx) (w : World) : Calls Try.prog 3 #[encStr s] w fun e w' => e = .returned (.bool true) ∧ Below w.heap.size w w' := by
  by_cases h1 : s = [116]
  · exact only_t s h1 w
  · by_cases h2 : s = [108]
    · exact only_l s h2 w
    · cases hy : ky s with
      | none => exact only_none s h1 h2 hy w
      | some k => exact only_some s k hy w
end
end Go.Proofs.Ytdfhhogibphngab
