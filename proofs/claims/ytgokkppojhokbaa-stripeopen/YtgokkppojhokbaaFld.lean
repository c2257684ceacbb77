/-
  Contracts of package field's element calls: sum, product, residue.
-/
import Derived.Test.YtgokkppojhokbaaRows
import Derived.Test.YtgokkppojhokbaaGf
import Derived.WalkKit
import Derived.WalkLawsBesides
import Derived.Outline
namespace Go.Proofs.Ytgokkppojhokbaa
open Go.RowKit

theorem ret_int {k : IntKind} {a b : Int} (h : a = b) : Ending.returned (.int k a) = .returned (.int k b) := by rw [h]

theorem plus_any (a b : BitVec 8) (w : World) :
    Calls Try.prog 63 #[.int .u8 (el a), .int .u8 (el b)] w fun e w' => e = .returned (.int .u8 (el (a ^^^ b))) ∧ w' = w := by
  go_enter Try.func63, Try.ntmps63
  go_wp2
  go_ret
  exact ⟨ret_int (el_xor a b), rfl⟩

theorem isZero_any (a : BitVec 8) (w : World) :
    Calls Try.prog 61 #[.int .u8 (el a)] w fun e w' => e = .returned (.bool (a == 0#8)) ∧ w' = w := by
  go_enter Try.func61, Try.ntmps61
  go_wp2
  go_ret
  exact ⟨by rw [← el_beq]; rfl, rfl⟩

theorem el_shl (a : BitVec 8) : el a * (2 : Int) % (256 : Int) = el (a <<< 1) := by
  unfold el; rw [BitVec.toNat_shiftLeft, Nat.shiftLeft_eq]; omega
theorem el_shr1 (a : BitVec 8) : el a / (2 : Int) = el (a >>> 1) := by
  unfold el; rw [BitVec.toNat_ushiftRight, Nat.shiftRight_eq_div_pow]; omega
theorem el_shr7 (a : BitVec 8) : el a / (128 : Int) = el (a >>> 7) := by
  unfold el; rw [BitVec.toNat_ushiftRight, Nat.shiftRight_eq_div_pow]; omega
theorem el_neg (a : BitVec 8) : (-(el a)) % (256 : Int) = el (-a) := by
  unfold el; rw [BitVec.toNat_neg]; have := a.isLt; omega

theorem double_any (a : BitVec 8) (w : World) :
    Calls Try.prog 66 #[.int .u8 (el a)] w fun e w' => e = .returned (.int .u8 (el (dbl a))) ∧ w' = w := by
  go_enter Try.func66, Try.ntmps66
  go_wp2
  go_ret
  exact ⟨ret_int (by rw [el_shl, el_shr7, el_neg, show (29 : Int) = el 29#8 from rfl, el_and, el_xor]; rfl), rfl⟩

theorem residue_num (n : Int) : (wrap64 (n.tmod 255 + 255)).tmod 255 = n % 255 := by
  have h1 : -255 < n.tmod 255 ∧ n.tmod 255 < 255 := by
    have := Int.tmod_lt_of_pos n (show (0 : Int) < 255 by omega)
    have h2 := Int.tmod_lt_of_pos (-n) (show (0 : Int) < 255 by omega)
    rw [Int.neg_tmod] at h2
    omega
  have hw : wrap64 (n.tmod 255 + 255) = n.tmod 255 + 255 := by unfold wrap64; omega
  rw [hw, Int.tmod_eq_emod_of_nonneg (by omega)]
  have h3 : n = 255 * n.tdiv 255 + n.tmod 255 := (Int.mul_tdiv_add_tmod n 255).symm
  omega
theorem residue_any (n : Int) (w : World) :
    Calls Try.prog 87 #[.int .i64 n] w fun e w' => e = .returned (.int .i64 (n % 255)) ∧ w' = w := by
  go_enter Try.func87, Try.ntmps87
  go_wp2
  go_ret
  exact ⟨ret_int (residue_num n), rfl⟩

theorem times_any (a b : BitVec 8) (w : World) :
    Calls Try.prog 65 #[.int .u8 (el a), .int .u8 (el b)] w fun e w' => e = .returned (.int .u8 (el (gm a b))) ∧ w' = w := by
  go_enter Try.func65, Try.ntmps65
  go_wp2
  go_loop [0, 1, 5, 6] (fun x y p i => ∃ (k : Nat) (x' y' p' : BitVec 8), k ≤ 8 ∧ i = .int .i64 k ∧ x = .int .u8 (el x') ∧ y = .int .u8 (el y') ∧ p = .int .u8 (el p') ∧ Hid (rnds (8 - k) p' x' y' = gm a b)) (fun _ _ _ i => 8 - (intOf i).toNat)
  case atStart => exact ⟨0, a, b, 0#8, Nat.zero_le _, rfl, rfl, rfl, rfl, rfl⟩
  case round =>
    obtain ⟨k, x, y, p, hk, rfl, rfl, rfl, rfl, H⟩ := hrel
    by_cases hlt : k < 8
    · go_wp2_with (go_at_call 66; refine (double_any _ _).mono ?_; rintro e w' ⟨rfl, rfl⟩)
      go_round
      case rel =>
        refine ⟨k + 1, dbl x, y >>> 1, p ^^^ (x &&& -(y &&& 1#8)), by omega, by go_num, rfl, by rw [el_shr1], ?_, ?_⟩
        · rw [show (1 : Int) = el 1#8 from rfl, el_and, el_neg, el_and, el_xor]
        · have h := H.out
          rw [show 8 - k = (8 - (k + 1)) + 1 by omega] at h
          exact h
      case measure => simp [intOf]; omega
    · go_wp2
      go_ret
      have h := H.out
      rw [show 8 - k = 0 by omega] at h
      exact ⟨ret_int (by rw [← h]; rfl), rfl⟩
end Go.Proofs.Ytgokkppojhokbaa
