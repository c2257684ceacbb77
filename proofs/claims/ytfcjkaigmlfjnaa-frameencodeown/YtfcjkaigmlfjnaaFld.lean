/-
  Contracts of package field's element calls: sum, product, residue.
-/
import Derived.Test.YtfcjkaigmlfjnaaRows
import Derived.Test.YtfcjkaigmlfjnaaGf
import Derived.WalkKit
import Derived.WalkLawsBesides
import Derived.Outline
namespace Go.Proofs.Ytfcjkaigmlfjnaa
open Go.RowKit

theorem ret_int {k : IntKind} {a b : Int} (h : a = b) : Ending.returned (.int k a) = .returned (.int k b) := by rw [h]

theorem el_shl (a : BitVec 8) : el a * (2 : Int) % (256 : Int) = el (a <<< 1) := by
  unfold el; rw [BitVec.toNat_shiftLeft, Nat.shiftLeft_eq]; omega
theorem el_shr1 (a : BitVec 8) : el a / (2 : Int) = el (a >>> 1) := by
  unfold el; rw [BitVec.toNat_ushiftRight, Nat.shiftRight_eq_div_pow]; omega
theorem el_shr7 (a : BitVec 8) : el a / (128 : Int) = el (a >>> 7) := by
  unfold el; rw [BitVec.toNat_ushiftRight, Nat.shiftRight_eq_div_pow]; omega
theorem el_neg (a : BitVec 8) : (-(el a)) % (256 : Int) = el (-a) := by
  unfold el; rw [BitVec.toNat_neg]; have := a.isLt; omega

theorem residue_num (n : Int) : (wrap64 (n.tmod 255 + 255)).tmod 255 = n % 255 := by
  have h1 : -255 < n.tmod 255 ∧ n.tmod 255 < 255 := by
    have := Int.tmod_lt_of_pos n (show (0 : Int) < 255 by omega)
    have h2 := Int.tmod_lt_of_pos (-n) (show (0 : Int) < 255 by omega)
    rw [Int.neg_tmod] at h2
    omega
  have hw : wrap64 (n.tmod 255 + 255) = n.tmod 255 + 255 := by unfold wrap64; omega
  rw [hw, Int.tmod_eq_emod_of_nonneg (by omega)]
  have h3 : n = 255 * n.tdiv 255 + n.tmod 255 := (Int.mul_tdiv_add_tmod n 255).symm
  omega
end Go.Proofs.Ytfcjkaigmlfjnaa
