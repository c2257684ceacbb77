/-
  The walks of FieldSquares and FieldLaws.
-/
import Derived.Test.YtgienaikcpcpeaaPow
namespace Go.Proofs.Ytgienaikcpcpeaa
open Go.RowKit

theorem el_eqt {a b : BitVec 8} (h : a = b) : (el a == el b) = true := by rw [h]; simp
theorem el_nef {a b : BitVec 8} (h : a = b) : (el a != el b) = false := by rw [h]; simp
/-- One behind the other. -/
theorem bt {u v x : World} (h : Below u.heap.size u v) (k : Below v.heap.size v x) : Below u.heap.size u x := h.trans (k.mono h.size)
theorem gpow_256 (a : BitVec 8) : gpow a 256 = a := by
  unfold gpow
  rw [if_neg (by omega)]
  by_cases ha : a = 0#8
  · rw [if_pos ha, ha]
  · rw [if_neg ha]; unfold pwM
    rw [show ((lg a : Int) * (256 % 255) % 255).toNat = lg a % 255 by omega, pw_mod, pw_lg ha]
theorem gpow_2 (a : BitVec 8) : gpow a 2 = gm a a := by
  unfold gpow
  rw [if_neg (by omega)]
  by_cases ha : a = 0#8
  · rw [if_pos ha, ha]; rfl
  · rw [if_neg ha]; unfold pwM
    rw [show ((lg a : Int) * (2 % 255) % 255).toNat = (lg a + lg a) % 255 by omega, pw_mod, ← gm_pw, pw_lg ha]

set_option maxHeartbeats 1000000 in
theorem squares_walk (a b : BitVec 8) (w : World) :
    Calls Try.prog 6 #[.int .u8 (el a), .int .u8 (el b)] w fun e w' => e = .returned (.bool true) ∧ Below w.heap.size w w' := by
  have h1 := el_eqt (gm_sq a b)
  have h2 := el_eqt (gpow_2 a)
  have h3 := el_eqt (gpow_256 a)
  go_enter Try.func6, Try.ntmps6
  go_wp2_with (first | (go_at_call 10; refine (plus_any _ _ _).mono ?_; rintro e w' ⟨rfl, rfl⟩) | (go_at_call 11; refine (times_any _ _ _).mono ?_; rintro e w' ⟨rfl, rfl⟩) | (go_at_call 23; refine (awake_any _).mono ?_; rintro e w' ⟨rfl, hb⟩) | (go_at_call 24; refine (pow_any _ _ _).mono ?_; rintro e w' ⟨rfl, hb⟩))
  go_ret
  refine ⟨rfl, ?_⟩
  apply bt
  · assumption
  · apply bt
    · assumption
    · assumption

theorem plus_0 (a : BitVec 8) (w : World) :
    Calls Try.prog 10 #[.int .u8 (el a), .int .u8 0] w fun e w' => e = .returned (.int .u8 (el a)) ∧ w' = w := by
  have h := plus_any a 0#8 w
  rw [BitVec.xor_zero] at h
  exact h
theorem times_0 (a : BitVec 8) (w : World) :
    Calls Try.prog 11 #[.int .u8 (el a), .int .u8 0] w fun e w' => e = .returned (.int .u8 0) ∧ w' = w := by
  have h := times_any a 0#8 w
  rw [gm_zero] at h
  exact h
theorem times_1 (a : BitVec 8) (w : World) :
    Calls Try.prog 11 #[.int .u8 (el a), .int .u8 1] w fun e w' => e = .returned (.int .u8 (el a)) ∧ w' = w := by
  have h := times_any a 1#8 w
  rw [gm_one] at h
  exact h
attribute [local irreducible] el gm inv gpow Calls

set_option maxHeartbeats 4000000 in
theorem laws_walk (a b c : BitVec 8) (w : World) (hb0 : b ≠ 0#8) :
    Calls Try.prog 5 #[.int .u8 (el a), .int .u8 (el b), .int .u8 (el c)] w fun e w' => e = .returned (.bool true) ∧ Below w.heap.size w w' := by
  have h1 := el_nef (BitVec.xor_comm a b)
  have h2 := el_nef (gm_comm a b)
  have h3 := el_nef (BitVec.xor_assoc a b c)
  have h4 := el_nef (gm_assoc a b c)
  have h5 := el_nef (gm_xor_r a b c)
  have h9 : (a ^^^ a == 0#8) = true := by simp
  have h10 : (el b == 0) = false := by rw [show (0 : Int) = el 0#8 by decide +kernel, el_beq]; simpa using hb0
  have h11 : (el (gm b (inv b)) == 1) = true := by rw [gm_inv hb0]; decide +kernel
  have h12 := el_eqt (show gm (gm a b) (inv b) = a by rw [gm_assoc, gm_inv hb0, gm_one])
  have h13 : (b == 0#8) = false := by simpa using hb0
  go_enter Try.func5, Try.ntmps5
  go_wp2_with (first | (go_at_call 10; refine (plus_any _ _ _).mono ?_; rintro e w' ⟨rfl, rfl⟩) | (go_at_call 11; refine (times_any _ _ _).mono ?_; rintro e w' ⟨rfl, rfl⟩) | (go_at_call 10; refine (plus_0 _ _).mono ?_; rintro e w' ⟨rfl, rfl⟩) | (go_at_call 11; refine (times_1 _ _).mono ?_; rintro e w' ⟨rfl, rfl⟩) | (go_at_call 11; refine (times_0 _ _).mono ?_; rintro e w' ⟨rfl, rfl⟩) | (go_at_call 23; refine (awake_any _).mono ?_; rintro e w' ⟨rfl, hb⟩) | (go_at_call 13; refine (isZero_any _ _).mono ?_; rintro e w' ⟨rfl, rfl⟩) | (go_at_call 9; refine (inverse_any _ hb0 _).mono ?_; rintro e w' ⟨rfl, hb⟩) | (go_at_call 7; refine (over_any _ _ hb0 _).mono ?_; rintro e w' ⟨rfl, hb⟩))
  go_ret
  refine ⟨rfl, ?_⟩
  apply bt
  · assumption
  · apply bt
    · assumption
    · assumption

theorem inverse_zero' {b : BitVec 8} (h : Hid (b = 0#8)) (w : World) :
    Calls Try.prog 9 #[.int .u8 (el b)] w fun e w' => e = .returned (.tuple #[.int .u8 0, .bool false]) ∧ w' = w := by
  rw [h.out]; exact inverse_zero w
theorem over_zero' (a : BitVec 8) {b : BitVec 8} (h : Hid (b = 0#8)) (w : World) :
    Calls Try.prog 7 #[.int .u8 (el a), .int .u8 (el b)] w fun e w' => e = .returned (.tuple #[.int .u8 0, .int .i64 10]) ∧ w' = w := by
  rw [h.out]; exact over_zero a w
set_option maxHeartbeats 4000000 in
theorem laws_zero (a b c : BitVec 8) (w : World) (hb0 : Hid (b = 0#8)) :
    Calls Try.prog 5 #[.int .u8 (el a), .int .u8 (el b), .int .u8 (el c)] w fun e w' => e = .returned (.bool true) ∧ Below w.heap.size w w' := by
  have h1 := el_nef (BitVec.xor_comm a b)
  have h2 := el_nef (gm_comm a b)
  have h3 := el_nef (BitVec.xor_assoc a b c)
  have h4 := el_nef (gm_assoc a b c)
  have h5 := el_nef (gm_xor_r a b c)
  have h9 : (a ^^^ a == 0#8) = true := by simp
  have h10 : (el b == 0) = true := by rw [hb0.out]; decide +kernel
  go_enter Try.func5, Try.ntmps5
  go_wp2_with (first | (go_at_call 10; refine (plus_any _ _ _).mono ?_; rintro e w' ⟨rfl, rfl⟩) | (go_at_call 11; refine (times_any _ _ _).mono ?_; rintro e w' ⟨rfl, rfl⟩) | (go_at_call 10; refine (plus_0 _ _).mono ?_; rintro e w' ⟨rfl, rfl⟩) | (go_at_call 11; refine (times_1 _ _).mono ?_; rintro e w' ⟨rfl, rfl⟩) | (go_at_call 11; refine (times_0 _ _).mono ?_; rintro e w' ⟨rfl, rfl⟩) | (go_at_call 23; refine (awake_any _).mono ?_; rintro e w' ⟨rfl, hb⟩) | (go_at_call 13; refine (isZero_any _ _).mono ?_; rintro e w' ⟨rfl, rfl⟩) | (go_at_call 9; refine (inverse_zero' hb0 _).mono ?_; rintro e w' ⟨rfl, rfl⟩) | (go_at_call 7; refine (over_zero' _ hb0 _).mono ?_; rintro e w' ⟨rfl, rfl⟩))
  go_ret
  exact ⟨rfl, ‹_›⟩
end Go.Proofs.Ytgienaikcpcpeaa
