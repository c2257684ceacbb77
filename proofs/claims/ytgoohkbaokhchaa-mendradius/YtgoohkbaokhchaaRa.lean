/-
  'Radius', the program's and the document's.
-/
import Derived.Test.YtgoohkbaokhchaaFld
namespace Go.Proofs.Ytgoohkbaokhchaa
open Go.RowKit
/-- How many wrong values are found. -/
def rad (n k l : Int) : Int := if 1 ≤ k ∧ k ≤ n ∧ n ≤ 255 ∧ 0 ≤ l ∧ l ≤ n - k then (n - k - l).tdiv 2 else -1
section
attribute [local irreducible] Calls
set_option maxRecDepth 1000000 in
theorem fits_any (n k : Int) (w : World) : Calls Try.prog 27 #[.int .i64 n, .int .i64 k] w fun e w' => e = .returned (.bool (decide (1 ≤ k ∧ k ≤ n ∧ n ≤ 255))) ∧ w' = w := by
  by_cases h1 : 1 ≤ k
  · by_cases h2 : k ≤ n
    · by_cases h3 : n ≤ 255
      · rw [decide_eq_true ⟨h1, h2, h3⟩]
        go_enter Try.func27, Try.ntmps27
        go_wp2
        go_ret
        exact ⟨rfl, rfl⟩
      · rw [decide_eq_false (fun h => h3 h.2.2)]
        go_enter Try.func27, Try.ntmps27
        go_wp2
        go_ret
        exact ⟨rfl, rfl⟩
    · rw [decide_eq_false (fun h => h2 h.2.1)]
      go_enter Try.func27, Try.ntmps27
      go_wp2
      go_ret
      exact ⟨rfl, rfl⟩
  · rw [decide_eq_false (fun h => h1 h.1)]
    go_enter Try.func27, Try.ntmps27
    go_wp2
    go_ret
    exact ⟨rfl, rfl⟩
theorem fits_yes (n k : Int) (w : World) (h : 1 ≤ k ∧ k ≤ n ∧ n ≤ 255) : Calls Try.prog 27 #[.int .i64 n, .int .i64 k] w fun e w' => e = .returned (.bool true) ∧ w' = w :=
  (fits_any n k w).mono fun e w' ⟨he, hw⟩ => ⟨by rw [he, decide_eq_true h], hw⟩
theorem fits_no (n k : Int) (w : World) (h : ¬ (1 ≤ k ∧ k ≤ n ∧ n ≤ 255)) : Calls Try.prog 27 #[.int .i64 n, .int .i64 k] w fun e w' => e = .returned (.bool false) ∧ w' = w :=
  (fits_any n k w).mono fun e w' ⟨he, hw⟩ => ⟨by rw [he, decide_eq_false h], hw⟩
set_option maxHeartbeats 1000000 in
set_option maxRecDepth 1000000 in
theorem radius_any (n k l : Int) (w : World) : Calls Try.prog 9 #[.int .i64 n, .int .i64 k, .int .i64 l] w fun e w' => e = .returned (.int .i64 (rad n k l)) ∧ w' = w := by
  by_cases h : 1 ≤ k ∧ k ≤ n ∧ n ≤ 255
  · have F1 := (show Hid _ from fits_yes n k w h)
    obtain ⟨h1, h2, h3⟩ := h
    have e1 : wrap64 (n - k) = n - k := by unfold wrap64; omega
    by_cases h4 : l < 0
    · have R : Hid (rad n k l = -1) := if_neg (fun h => by omega)
      go_enter Try.func9, Try.ntmps9
      go_wp2_with (go_at_call 27; refine F1.out.mono ?_; rintro e w1 ⟨rfl, h⟩; obtain rfl := h.symm)
      go_ret
      exact ⟨ret_int R.out.symm, rfl⟩
    · by_cases h5 : n - k < l
      · have R : Hid (rad n k l = -1) := if_neg (fun h => by omega)
        go_enter Try.func9, Try.ntmps9
        go_wp2_with (go_at_call 27; refine F1.out.mono ?_; rintro e w1 ⟨rfl, h⟩; obtain rfl := h.symm)
        go_ret
        exact ⟨ret_int R.out.symm, rfl⟩
      · have R : Hid (rad n k l = (n - k - l).tdiv 2) := if_pos (by omega)
        have e2 : wrap64 (n - k - l) = n - k - l := by unfold wrap64; omega
        go_enter Try.func9, Try.ntmps9
        go_wp2_with (go_at_call 27; refine F1.out.mono ?_; rintro e w1 ⟨rfl, h⟩; obtain rfl := h.symm)
        go_ret
        refine ⟨ret_int ?_, rfl⟩
        rw [R.out]
        exact (Int.tdiv_eq_ediv_of_nonneg (by omega)).symm
  · have F1 := (show Hid _ from fits_no n k w h)
    have R : Hid (rad n k l = -1) := if_neg (fun h' => h ⟨h'.1, h'.2.1, h'.2.2.1⟩)
    clear h
    go_enter Try.func9, Try.ntmps9
    go_wp2_with (go_at_call 27; refine F1.out.mono ?_; rintro e w1 ⟨rfl, h⟩; obtain rfl := h.symm)
    go_ret
    exact ⟨ret_int R.out.symm, rfl⟩
set_option maxHeartbeats 1000000 in
set_option maxRecDepth 1000000 in
theorem refRadius_any (n k l : Int) (w : World) : Calls Try.prog 10 #[.int .i64 n, .int .i64 k, .int .i64 l] w fun e w' => e = .returned (.int .i64 (rad n k l)) ∧ w' = w := by
  by_cases h1 : k < 1
  · have R : Hid (rad n k l = -1) := if_neg (fun h => by omega)
    go_enter Try.func10, Try.ntmps10
    go_wp2
    go_ret
    exact ⟨ret_int R.out.symm, rfl⟩
  · by_cases h2 : n < k
    · have R : Hid (rad n k l = -1) := if_neg (fun h => by omega)
      go_enter Try.func10, Try.ntmps10
      go_wp2
      go_ret
      exact ⟨ret_int R.out.symm, rfl⟩
    · by_cases h3 : 255 < n
      · have R : Hid (rad n k l = -1) := if_neg (fun h => by omega)
        go_enter Try.func10, Try.ntmps10
        go_wp2
        go_ret
        exact ⟨ret_int R.out.symm, rfl⟩
      · have e1 : wrap64 (n - k) = n - k := by unfold wrap64; omega
        by_cases h4 : l < 0
        · have R : Hid (rad n k l = -1) := if_neg (fun h => by omega)
          go_enter Try.func10, Try.ntmps10
          go_wp2
          go_ret
          exact ⟨ret_int R.out.symm, rfl⟩
        · by_cases h5 : n - k < l
          · have R : Hid (rad n k l = -1) := if_neg (fun h => by omega)
            go_enter Try.func10, Try.ntmps10
            go_wp2
            go_ret
            exact ⟨ret_int R.out.symm, rfl⟩
          · have R : Hid (rad n k l = (n - k - l).tdiv 2) := if_pos (by omega)
            have e2 : wrap64 (n - k - l) = n - k - l := by unfold wrap64; omega
            go_enter Try.func10, Try.ntmps10
            go_wp2
            go_ret
            refine ⟨ret_int ?_, rfl⟩
            rw [R.out]
            exact (Int.tdiv_eq_ediv_of_nonneg (by omega)).symm
set_option maxHeartbeats 1000000 in
theorem mendRadius_walk (n k l : Int) (w : World) : Calls Try.prog 3 #[.int .i64 n, .int .i64 k, .int .i64 l] w fun e w' => e = .returned (.bool true) ∧ w' = w := by
  obtain ⟨r, hr⟩ : ∃ r, rad n k l = r := ⟨_, rfl⟩
  have R1 := (show Hid _ from radius_any n k l w)
  have R2 := (show Hid _ from refRadius_any n k l w)
  rw [hr] at R1 R2
  clear hr
  go_enter Try.func3, Try.ntmps3
  go_wp2_with (first
    | (go_at_call 9; refine R1.out.mono ?_; rintro e w1 ⟨rfl, h⟩; obtain rfl := h.symm)
    | (go_at_call 10; refine R2.out.mono ?_; rintro e w1 ⟨rfl, h⟩; obtain rfl := h.symm))
  go_ret
  exact ⟨by simp, rfl⟩
end
end Go.Proofs.Ytgoohkbaokhchaa
