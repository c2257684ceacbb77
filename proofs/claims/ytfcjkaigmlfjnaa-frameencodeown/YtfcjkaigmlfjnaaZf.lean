/-
  Folding: Zig and Zag of each kind, the document's Fold and Unfold.
-/
import Derived.Test.YtfcjkaigmlfjnaaFld
import Derived.Laws.Bits64
namespace Go.Proofs.Ytfcjkaigmlfjnaa
open Go.RowKit
/-- A number with a sign, folded. -/
def zg (v : Int) : Int := if 0 ≤ v then 2 * v else -2 * v - 1
/-- The number that is u when it is folded. -/
def ug (u : Int) : Int := if u % 2 = 0 then u / 2 else -(u / 2) - 1
theorem zg_ug (u : Int) (h : 0 ≤ u) : zg (ug u) = u := by
  unfold zg ug
  by_cases e : u % 2 = 0
  · rw [if_pos e, if_pos (by omega)]; omega
  · rw [if_neg e, if_neg (by omega)]; omega
theorem ug_zg (v : Int) : ug (zg v) = v := by
  unfold zg ug
  by_cases e : 0 ≤ v
  · rw [if_pos e, if_pos (by omega)]; omega
  · rw [if_neg e, if_neg (by omega)]; omega
theorem zg_nn (v : Int) : 0 ≤ zg v := by
  unfold zg
  by_cases e : 0 ≤ v
  · rw [if_pos e]; omega
  · rw [if_neg e]; omega
theorem zg_lt (v b : Int) (h : -b ≤ v ∧ v < b) : zg v < 2 * b := by
  unfold zg
  by_cases e : 0 ≤ v
  · rw [if_pos e]; omega
  · rw [if_neg e]; omega
/-- What Zag answers for a kind of so many numbers. -/
def zu (u lim : Int) : Int := if u < lim then ug u else 0
theorem zu_pos {u lim : Int} (h : u < lim) : zu u lim = ug u := if_pos h
theorem zu_neg {u lim : Int} (h : ¬ u < lim) : zu u lim = 0 := if_neg h
theorem not_u64 (x : Int) (h0 : 0 ≤ x) (h1 : x < 18446744073709551616) : bits .xor .u64 IntKind.u64.max x = 18446744073709551615 - x := by
  obtain ⟨n, rfl⟩ := Int.eq_ofNat_of_zero_le h0
  have e : IntKind.u64.max = ((18446744073709551615 : Nat) : Int) := rfl
  have hn : n < 18446744073709551616 := by omega
  rw [e, bits_xor_u64_nat _ _ (by decide) hn]
  have h2 : (18446744073709551615#64 ^^^ BitVec.ofNat 64 n).toNat = 18446744073709551615 - n := by
    rw [show (18446744073709551615#64 : BitVec 64) = BitVec.allOnes 64 by decide, BitVec.allOnes_xor, BitVec.toNat_not, BitVec.toNat_ofNat]
    omega
  rw [BitVec.toNat_xor, BitVec.toNat_ofNat, BitVec.toNat_ofNat] at h2
  have h3 : n % 2 ^ 64 = n := Nat.mod_eq_of_lt (by omega)
  rw [h3, show 18446744073709551615 % 2 ^ 64 = 18446744073709551615 by decide] at h2
  rw [h2]; omega
theorem wrap_i64 (n : Int) : IntKind.i64.wrap n = wrap64 n := by
  simp [IntKind.wrap, IntKind.bits, IntKind.signed, wrap64]; omega
theorem not_i64 (x : Int) (h0 : 0 ≤ x) (h1 : x < 9223372036854775808) : bits .xor .i64 (-1) x = -x - 1 := by
  obtain ⟨n, rfl⟩ := Int.eq_ofNat_of_zero_le h0
  have hn : n < 9223372036854775808 := by omega
  show IntKind.i64.wrap ((BitVec.ofInt 64 (-1) ^^^ BitVec.ofInt 64 (n : Int)).toNat : Int) = _
  rw [show BitVec.ofInt 64 (-1) = BitVec.allOnes 64 by decide, BitVec.allOnes_xor, BitVec.toNat_not, BitVec.ofInt_natCast, BitVec.toNat_ofNat, Nat.mod_eq_of_lt (by omega), wrap_i64]
  unfold wrap64
  omega
theorem wrap_i8 (n : Int) : IntKind.i8.wrap n = (n + 128) % 256 - 128 := by
  simp [IntKind.wrap, IntKind.bits, IntKind.signed]; omega
theorem wrap_i16 (n : Int) : IntKind.i16.wrap n = (n + 32768) % 65536 - 32768 := by
  simp [IntKind.wrap, IntKind.bits, IntKind.signed]; omega
theorem wrap_i32 (n : Int) : IntKind.i32.wrap n = (n + 2147483648) % 4294967296 - 2147483648 := by
  simp [IntKind.wrap, IntKind.bits, IntKind.signed]; omega
theorem zg_neg {v : Int} (h : v < 0) : zg v = -2 * v - 1 := if_neg (by omega)
theorem zg_pos {v : Int} (h : ¬ v < 0) : zg v = 2 * v := if_pos (by omega)
theorem zig_fact (v : Int) (h : -9223372036854775808 ≤ v ∧ v ≤ 9223372036854775807) (h1 : v < 0) : bits .xor .u64 IntKind.u64.max (IntKind.u64.wrap (IntKind.u64.wrap v * 2)) = zg v := by
  rw [zg_neg h1, IntKind.wrap_u64, IntKind.wrap_u64, not_u64 _ (by omega) (by omega)]
  omega
section
attribute [local irreducible] Calls
end
end Go.Proofs.Ytfcjkaigmlfjnaa
