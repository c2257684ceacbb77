/-
  The document's quotient (cairnref01.Over), and the walk of FieldPairs.
-/
import Derived.Test.YtgienaikcpcpeaaRefT
import Derived.Test.YtgienaikcpcpeaaLaws
namespace Go.Proofs.Ytgienaikcpcpeaa
open Go.RowKit

def bv (k : Nat) : BitVec 8 := BitVec.ofNat 8 k
theorem el_ofNat (k : Nat) (h : k < 256) : el (bv k) = (k : Int) := by
  unfold el bv; rw [BitVec.toNat_ofNat, Nat.mod_eq_of_lt h]
theorem el_toNat (a : BitVec 8) : ((a.toNat : Nat) : Int) = el a := rfl
theorem refTimes_nat (k : Nat) (hk : k < 256) (b : BitVec 8) (w : World) :
    Calls Try.prog 12 #[.int .i64 k, .int .i64 (el b)] w fun e w' => e = .returned (.int .i64 (el (gm (bv k) b))) ∧ w' = w := by
  have h := refTimes_any (bv k) b w
  rwa [el_ofNat k hk] at h
theorem gm_over {a b : BitVec 8} (hb : b ≠ 0#8) : gm (gm a (inv b)) b = a := by rw [gm_assoc, gm_comm (inv b), gm_inv hb, gm_one]
theorem over_before {a b : BitVec 8} (hb : b ≠ 0#8) {k : Nat} (hk : k < (gm a (inv b)).toNat) : (el (gm (bv k) b) == el a) = false := by
  rw [el_beq, beq_eq_false_iff_ne]
  intro h
  have h2 : bv k = gm a (inv b) := gm_cancel hb (by rw [h, gm_over hb])
  have h3 := (gm a (inv b)).isLt
  have h4 : (bv k).toNat = k := by unfold bv; rw [BitVec.toNat_ofNat, Nat.mod_eq_of_lt (by omega)]
  rw [h2] at h4; omega
theorem over_at {a b : BitVec 8} (hb : b ≠ 0#8) : (el (gm (bv (gm a (inv b)).toNat) b) == el a) = true := by
  unfold bv
  rw [el_beq, BitVec.ofNat_toNat, BitVec.setWidth_eq, gm_over hb]; simp
theorem el_ne0 {b : BitVec 8} (hb : b ≠ 0#8) : (el b == 0) = false := by
  rw [show (0 : Int) = el 0#8 from rfl, el_beq]; simpa using hb

section
attribute [local irreducible] el gm Calls bv
set_option maxRecDepth 1000000 in
theorem refOver_core (a b : BitVec 8) (K : Nat) (hK : K < 256) (h0 : (el b == 0) = false) (hbef : Hid (∀ k, k < K → (el (gm (bv k) b) == el a) = false)) (hat : Hid ((el (gm (bv K) b) == el a) = true)) (w : World) :
    Calls Try.prog 8 #[.int .i64 (el a), .int .i64 (el b)] w fun e w' => e = .returned (.tuple #[.int .i64 K, .int .i64 0]) ∧ w' = w := by
  go_enter Try.func8, Try.ntmps8
  go_wp2
  go_loop [6] (fun i => ∃ k : Nat, k ≤ K ∧ i = .int .i64 k) (fun i => 256 - (intOf i).toNat)
  case atStart => exact ⟨0, by omega, rfl⟩
  case round =>
    obtain ⟨k, hk, rfl⟩ := hrel
    by_cases hlt : k < K
    · have ht := hbef.out k hlt
      go_wp2_with (go_at_call 12; refine (refTimes_nat k (by omega) b _).mono ?_; rintro e w' ⟨rfl, rfl⟩)
      go_round
      case rel => exact ⟨k + 1, by omega, by go_num⟩
      case measure => simp [intOf]; omega
    · obtain rfl : k = K := by omega
      have ht := hat.out
      go_wp2_with (go_at_call 12; refine (refTimes_nat k (by omega) b _).mono ?_; rintro e w' ⟨rfl, rfl⟩)
      go_ret2
      exact ⟨rfl, rfl⟩
end
theorem refOver_any (a b : BitVec 8) (hb : b ≠ 0#8) (w : World) :
    Calls Try.prog 8 #[.int .i64 (el a), .int .i64 (el b)] w fun e w' => e = .returned (.tuple #[.int .i64 (el (gm a (inv b))), .int .i64 0]) ∧ w' = w :=
  refOver_core a b (gm a (inv b)).toNat (gm a (inv b)).isLt (el_ne0 hb) (fun _ h => over_before hb h) (over_at hb) w
theorem refOver_zero (a : Int) (b : BitVec 8) (hb : Hid (b = 0#8)) (w : World) :
    Calls Try.prog 8 #[.int .i64 a, .int .i64 (el b)] w fun e w' => e = .returned (.tuple #[.int .i64 0, .int .i64 10]) ∧ w' = w := by
  have h0 : (el b == 0) = true := by rw [hb.out]; rfl
  go_enter Try.func8, Try.ntmps8
  go_wp2
  go_ret2
  exact ⟨rfl, rfl⟩
theorem refInv_any (b : BitVec 8) (hb : b ≠ 0#8) (w : World) :
    Calls Try.prog 8 #[.int .i64 1, .int .i64 (el b)] w fun e w' => e = .returned (.tuple #[.int .i64 (el (inv b)), .int .i64 0]) ∧ w' = w := by
  have h := refOver_any 1#8 b hb w
  rw [gm_one_l] at h
  exact h
theorem el_w64 (a : BitVec 8) : wrap64 (el a) = el a := by have := el_bd a; unfold wrap64; omega

attribute [local irreducible] el gm inv gpow Calls

set_option maxHeartbeats 1000000 in
theorem pairs_nn (a b : BitVec 8) (w : World) (ha : a ≠ 0#8) (hb0 : b ≠ 0#8) :
    Calls Try.prog 3 #[.int .u8 (el a), .int .u8 (el b)] w fun e w' => e = .returned (.bool true) ∧ Below w.heap.size w w' := by
  have hx := el_xor
  have hw := el_w64
  have h1 := el_ne0 ha
  have h2 : (a == 0#8) = false := by simpa using ha
  go_enter Try.func3, Try.ntmps3
  go_wp2_with (first | (go_at_call 10; refine (plus_any _ _ _).mono ?_; rintro e w' ⟨rfl, rfl⟩) | (go_at_call 11; refine (times_any _ _ _).mono ?_; rintro e w' ⟨rfl, rfl⟩) | (go_at_call 13; refine (isZero_any _ _).mono ?_; rintro e w' ⟨rfl, rfl⟩) | (go_at_call 9; refine (inverse_any _ ha _).mono ?_; rintro e w' ⟨rfl, hb⟩) | (go_at_call 7; refine (over_any _ _ hb0 _).mono ?_; rintro e w' ⟨rfl, hb⟩) | (go_at_call 12; refine (refTimes_any _ _ _).mono ?_; rintro e w' ⟨rfl, rfl⟩) | (go_at_call 8; refine (refOver_any _ _ hb0 _).mono ?_; rintro e w' ⟨rfl, rfl⟩) | (go_at_call 8; refine (refInv_any _ ha _).mono ?_; rintro e w' ⟨rfl, rfl⟩))
  go_ret
  refine ⟨rfl, ?_⟩
  apply bt
  · assumption
  · assumption
set_option maxHeartbeats 1000000 in
theorem pairs_nz (a b : BitVec 8) (w : World) (ha : a ≠ 0#8) (hb0 : Hid (b = 0#8)) :
    Calls Try.prog 3 #[.int .u8 (el a), .int .u8 (el b)] w fun e w' => e = .returned (.bool true) ∧ Below w.heap.size w w' := by
  have hx := el_xor
  have hw := el_w64
  have h1 := el_ne0 ha
  have h2 : (a == 0#8) = false := by simpa using ha
  go_enter Try.func3, Try.ntmps3
  go_wp2_with (first | (go_at_call 10; refine (plus_any _ _ _).mono ?_; rintro e w' ⟨rfl, rfl⟩) | (go_at_call 11; refine (times_any _ _ _).mono ?_; rintro e w' ⟨rfl, rfl⟩) | (go_at_call 13; refine (isZero_any _ _).mono ?_; rintro e w' ⟨rfl, rfl⟩) | (go_at_call 9; refine (inverse_any _ ha _).mono ?_; rintro e w' ⟨rfl, hb⟩) | (go_at_call 7; refine (over_zero' _ hb0 _).mono ?_; rintro e w' ⟨rfl, rfl⟩) | (go_at_call 12; refine (refTimes_any _ _ _).mono ?_; rintro e w' ⟨rfl, rfl⟩) | (go_at_call 8; refine (refOver_zero _ _ hb0 _).mono ?_; rintro e w' ⟨rfl, rfl⟩) | (go_at_call 8; refine (refInv_any _ ha _).mono ?_; rintro e w' ⟨rfl, rfl⟩))
  go_ret
  exact ⟨rfl, ‹_›⟩
set_option maxHeartbeats 1000000 in
theorem pairs_zn (a b : BitVec 8) (w : World) (ha : Hid (a = 0#8)) (hb0 : b ≠ 0#8) :
    Calls Try.prog 3 #[.int .u8 (el a), .int .u8 (el b)] w fun e w' => e = .returned (.bool true) ∧ Below w.heap.size w w' := by
  have hx := el_xor
  have hw := el_w64
  have h1 : (el a == 0) = true := by rw [ha.out]; decide +kernel
  have h2 : (a == 0#8) = true := by rw [ha.out]; rfl
  go_enter Try.func3, Try.ntmps3
  go_wp2_with (first | (go_at_call 10; refine (plus_any _ _ _).mono ?_; rintro e w' ⟨rfl, rfl⟩) | (go_at_call 11; refine (times_any _ _ _).mono ?_; rintro e w' ⟨rfl, rfl⟩) | (go_at_call 13; refine (isZero_any _ _).mono ?_; rintro e w' ⟨rfl, rfl⟩) | (go_at_call 9; refine (inverse_zero' ha _).mono ?_; rintro e w' ⟨rfl, rfl⟩) | (go_at_call 7; refine (over_any _ _ hb0 _).mono ?_; rintro e w' ⟨rfl, hb⟩) | (go_at_call 12; refine (refTimes_any _ _ _).mono ?_; rintro e w' ⟨rfl, rfl⟩) | (go_at_call 8; refine (refOver_any _ _ hb0 _).mono ?_; rintro e w' ⟨rfl, rfl⟩) | (go_at_call 8; refine (refOver_zero _ _ ha _).mono ?_; rintro e w' ⟨rfl, rfl⟩))
  go_ret
  exact ⟨rfl, ‹_›⟩
set_option maxHeartbeats 1000000 in
theorem pairs_zz (a b : BitVec 8) (w : World) (ha : Hid (a = 0#8)) (hb0 : Hid (b = 0#8)) :
    Calls Try.prog 3 #[.int .u8 (el a), .int .u8 (el b)] w fun e w' => e = .returned (.bool true) ∧ Below w.heap.size w w' := by
  have hx := el_xor
  have hw := el_w64
  have h1 : (el a == 0) = true := by rw [ha.out]; decide +kernel
  have h2 : (a == 0#8) = true := by rw [ha.out]; rfl
  go_enter Try.func3, Try.ntmps3
  go_wp2_with (first | (go_at_call 10; refine (plus_any _ _ _).mono ?_; rintro e w' ⟨rfl, rfl⟩) | (go_at_call 11; refine (times_any _ _ _).mono ?_; rintro e w' ⟨rfl, rfl⟩) | (go_at_call 13; refine (isZero_any _ _).mono ?_; rintro e w' ⟨rfl, rfl⟩) | (go_at_call 9; refine (inverse_zero' ha _).mono ?_; rintro e w' ⟨rfl, rfl⟩) | (go_at_call 7; refine (over_zero' _ hb0 _).mono ?_; rintro e w' ⟨rfl, rfl⟩) | (go_at_call 12; refine (refTimes_any _ _ _).mono ?_; rintro e w' ⟨rfl, rfl⟩) | (go_at_call 8; refine (refOver_zero _ _ hb0 _).mono ?_; rintro e w' ⟨rfl, rfl⟩) | (go_at_call 8; refine (refOver_zero _ _ ha _).mono ?_; rintro e w' ⟨rfl, rfl⟩))
  go_ret
  exact ⟨rfl, Below.refl _ _⟩
theorem pairs_walk (a b : BitVec 8) (w : World) :
    Calls Try.prog 3 #[.int .u8 (el a), .int .u8 (el b)] w fun e w' => e = .returned (.bool true) ∧ Below w.heap.size w w' := by
  by_cases ha : a = 0#8
  · by_cases hb : b = 0#8
    · exact pairs_zz a b w ha hb
    · exact pairs_zn a b w ha hb
  · by_cases hb : b = 0#8
    · exact pairs_nz a b w ha hb
    · exact pairs_nn a b w ha hb
end Go.Proofs.Ytgienaikcpcpeaa
