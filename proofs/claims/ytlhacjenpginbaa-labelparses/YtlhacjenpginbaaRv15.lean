/-
  The document's value.
-/
import Derived.Test.YtlhacjenpginbaaRn15
namespace Go.Proofs.Ytlhacjenpginbaa
open Go.RowKit
theorem rd_cells {w : World} {gb go : Nat} {xs : List (BitVec 8)} (h : Rd w (some ⟨gb, go, none⟩) xs) : ∀ i, i < xs.length → w.cell? ⟨gb, go + i, none⟩ = some (.int .u8 (el (fn xs i))) := by
  rcases h with h | ⟨b, o, e, hc⟩
  · subst h; intro i hi; cases hi
  · injection e with e
    injection e with e1 e2
    subst e1 e2
    exact hc
theorem el_bdL (a : BitVec 8) : 0 ≤ el a ∧ el a < 256 := by unfold el; have := a.isLt; omega
/-- Eight bytes as a number, if the two highest are none. -/
def vl8 (xs : List (BitVec 8)) : Int := if fn xs 7 = 0#8 then if fn xs 6 = 0#8 then (lv (xs.take 6) : Int) else -1 else -1
theorem el_zero (a : BitVec 8) : (el a = 0) ↔ a = 0#8 := by
  unfold el
  constructor
  · intro h; exact BitVec.eq_of_toNat_eq (by simpa using h)
  · rintro rfl; rfl
section
attribute [local irreducible] Calls el
set_option maxHeartbeats 4000000 in
set_option maxRecDepth 1000000 in
theorem rvalue1 {w : World} {gb go : Nat} {xs : List (BitVec 8)} (h : Rd w (some ⟨gb, go, none⟩) xs) (c : Nat) (hl : xs.length = 1) : Calls Try.prog 27 #[.slice (some ⟨gb, go, none⟩) 1 c] w fun e w' => e = .returned (.int .i64 (el (fn xs 0))) ∧ w' = w := by
  have c0 := rd_cells h 0 (by omega)
  rw [Nat.add_zero] at c0
  have b0 := el_bdL (fn xs 0)
  generalize el (fn xs 0) = x0 at *
  go_enter Try.func27, Try.ntmps27
  go_wp2
  refine wp_loop_rounds 2 ?_
  rw [rounds_succ]
  go_wp2
  rw [rounds_succ]
  go_wp2
  go_ret
  exact ⟨rfl, rfl⟩
set_option maxHeartbeats 4000000 in
set_option maxRecDepth 1000000 in
theorem rvalue4 {w : World} {gb go : Nat} {xs : List (BitVec 8)} (h : Rd w (some ⟨gb, go, none⟩) xs) (c : Nat) (hl : xs.length = 4) : Calls Try.prog 27 #[.slice (some ⟨gb, go, none⟩) 4 c] w fun e w' => e = .returned (.int .i64 (((el (fn xs 3) * 256 + el (fn xs 2)) * 256 + el (fn xs 1)) * 256 + el (fn xs 0))) ∧ w' = w := by
  have c0 := rd_cells h 0 (by omega)
  rw [Nat.add_zero] at c0
  have b0 := el_bdL (fn xs 0)
  have c1 := rd_cells h 1 (by omega)
  have b1 := el_bdL (fn xs 1)
  have c2 := rd_cells h 2 (by omega)
  have b2 := el_bdL (fn xs 2)
  have c3 := rd_cells h 3 (by omega)
  have b3 := el_bdL (fn xs 3)
  generalize el (fn xs 0) = x0 at *
  generalize el (fn xs 1) = x1 at *
  generalize el (fn xs 2) = x2 at *
  generalize el (fn xs 3) = x3 at *
  go_enter Try.func27, Try.ntmps27
  go_wp2
  refine wp_loop_rounds 5 ?_
  rw [rounds_succ]
  go_wp2
  rw [rounds_succ]
  go_wp2
  rw [rounds_succ]
  go_wp2
  rw [rounds_succ]
  go_wp2
  rw [rounds_succ]
  go_wp2
  go_ret
  exact ⟨rfl, rfl⟩
set_option maxHeartbeats 4000000 in
set_option maxRecDepth 1000000 in
theorem rvalue8 {w : World} {gb go : Nat} {xs : List (BitVec 8)} (h : Rd w (some ⟨gb, go, none⟩) xs) (c : Nat) (hl : xs.length = 8) : Calls Try.prog 27 #[.slice (some ⟨gb, go, none⟩) 8 c] w fun e w' => e = .returned (.int .i64 (if el (fn xs 7) = 0 then if el (fn xs 6) = 0 then ((((el (fn xs 5) * 256 + el (fn xs 4)) * 256 + el (fn xs 3)) * 256 + el (fn xs 2)) * 256 + el (fn xs 1)) * 256 + el (fn xs 0) else -1 else -1)) ∧ w' = w := by
  have c0 := rd_cells h 0 (by omega)
  rw [Nat.add_zero] at c0
  have b0 := el_bdL (fn xs 0)
  have c1 := rd_cells h 1 (by omega)
  have b1 := el_bdL (fn xs 1)
  have c2 := rd_cells h 2 (by omega)
  have b2 := el_bdL (fn xs 2)
  have c3 := rd_cells h 3 (by omega)
  have b3 := el_bdL (fn xs 3)
  have c4 := rd_cells h 4 (by omega)
  have b4 := el_bdL (fn xs 4)
  have c5 := rd_cells h 5 (by omega)
  have b5 := el_bdL (fn xs 5)
  have c6 := rd_cells h 6 (by omega)
  have b6 := el_bdL (fn xs 6)
  have c7 := rd_cells h 7 (by omega)
  have b7 := el_bdL (fn xs 7)
  generalize el (fn xs 0) = x0 at *
  generalize el (fn xs 1) = x1 at *
  generalize el (fn xs 2) = x2 at *
  generalize el (fn xs 3) = x3 at *
  generalize el (fn xs 4) = x4 at *
  generalize el (fn xs 5) = x5 at *
  generalize el (fn xs 6) = x6 at *
  generalize el (fn xs 7) = x7 at *
  by_cases h7 : x7 = 0
  · subst h7
    rw [if_pos rfl]
    by_cases h6 : x6 = 0
    · subst h6
      rw [if_pos rfl]
      go_enter Try.func27, Try.ntmps27
      go_wp2
      refine wp_loop_rounds 9 ?_
      rw [rounds_succ]
      go_wp2
      rw [rounds_succ]
      go_wp2
      rw [rounds_succ]
      go_wp2
      rw [rounds_succ]
      go_wp2
      rw [rounds_succ]
      go_wp2
      rw [rounds_succ]
      go_wp2
      rw [rounds_succ]
      go_wp2
      rw [rounds_succ]
      go_wp2
      rw [rounds_succ]
      go_wp2
      go_ret
      exact ⟨rfl, rfl⟩
    · rw [if_neg h6]
      have z6 : (x6 == 0) = false := by simpa using h6
      go_enter Try.func27, Try.ntmps27
      go_wp2
      refine wp_loop_rounds 2 ?_
      rw [rounds_succ]
      go_wp2
      rw [rounds_succ]
      go_wp2
      go_ret
      exact ⟨rfl, rfl⟩
  · rw [if_neg h7]
    have z7 : (x7 == 0) = false := by simpa using h7
    go_enter Try.func27, Try.ntmps27
    go_wp2
    refine wp_loop_rounds 1 ?_
    rw [rounds_succ]
    go_wp2
    go_ret
    exact ⟨rfl, rfl⟩
end
theorem lv_one (xs : List (BitVec 8)) (hl : xs.length = 1) : el (fn xs 0) = (lv xs : Int) := by
  match xs, hl with
  | [a], _ => simp [fn, lv, el]
theorem lv_four (xs : List (BitVec 8)) (hl : xs.length = 4) : ((el (fn xs 3) * 256 + el (fn xs 2)) * 256 + el (fn xs 1)) * 256 + el (fn xs 0) = (lv xs : Int) := by
  match xs, hl with
  | [a, b, c, d], _ =>
    simp [fn, lv, el]
    omega
theorem lv_eight (xs : List (BitVec 8)) (hl : xs.length = 8) : (if el (fn xs 7) = 0 then if el (fn xs 6) = 0 then ((((el (fn xs 5) * 256 + el (fn xs 4)) * 256 + el (fn xs 3)) * 256 + el (fn xs 2)) * 256 + el (fn xs 1)) * 256 + el (fn xs 0) else -1 else -1) = vl8 xs := by
  unfold vl8
  simp only [el_zero]
  match xs, hl with
  | [a, b, c, d, e, f, g, h], _ =>
    split
    · split
      · simp [fn, lv, el]
        omega
      · rfl
    · rfl
theorem rval1 {w : World} {gb go : Nat} {xs : List (BitVec 8)} (h : Rd w (some ⟨gb, go, none⟩) xs) (c : Nat) (hl : xs.length = 1) : Calls Try.prog 27 #[.slice (some ⟨gb, go, none⟩) 1 c] w fun e w' => e = .returned (.int .i64 (lv xs : Int)) ∧ w' = w := by
  have := rvalue1 h c hl
  rwa [lv_one xs hl] at this
theorem rval4 {w : World} {gb go : Nat} {xs : List (BitVec 8)} (h : Rd w (some ⟨gb, go, none⟩) xs) (c : Nat) (hl : xs.length = 4) : Calls Try.prog 27 #[.slice (some ⟨gb, go, none⟩) 4 c] w fun e w' => e = .returned (.int .i64 (lv xs : Int)) ∧ w' = w := by
  have := rvalue4 h c hl
  rwa [lv_four xs hl] at this
theorem rval8 {w : World} {gb go : Nat} {xs : List (BitVec 8)} (h : Rd w (some ⟨gb, go, none⟩) xs) (c : Nat) (hl : xs.length = 8) : Calls Try.prog 27 #[.slice (some ⟨gb, go, none⟩) 8 c] w fun e w' => e = .returned (.int .i64 (vl8 xs)) ∧ w' = w := by
  have := rvalue8 h c hl
  rwa [lv_eight xs hl] at this
end Go.Proofs.Ytlhacjenpginbaa
