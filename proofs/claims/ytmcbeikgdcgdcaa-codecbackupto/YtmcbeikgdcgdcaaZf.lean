/-
  Folding: Zig and Zag of each kind, the document's Fold and Unfold.
-/
import Derived.Test.YtmcbeikgdcgdcaaFld
import Derived.Laws.Bits64
namespace Go.Proofs.Ytmcbeikgdcgdcaa
open Go.RowKit
/-- A number with a sign, folded. -/
def zg (v : Int) : Int := if 0 ≤ v then 2 * v else -2 * v - 1
/-- The number that is u when it is folded. -/
def ug (u : Int) : Int := if u % 2 = 0 then u / 2 else -(u / 2) - 1
theorem zg_ug (u : Int) (h : 0 ≤ u) : zg (ug u) = u := by
  unfold zg ug
  by_cases e : u % 2 = 0
  · rw [if_pos e, if_pos (by omega)]; omega
  · rw [if_neg e, if_neg (by omega)]; omega
theorem ug_zg (v : Int) : ug (zg v) = v := by
  unfold zg ug
  by_cases e : 0 ≤ v
  · rw [if_pos e, if_pos (by omega)]; omega
  · rw [if_neg e, if_neg (by omega)]; omega
theorem zg_nn (v : Int) : 0 ≤ zg v := by
  unfold zg
  by_cases e : 0 ≤ v
  · rw [if_pos e]; omega
  · rw [if_neg e]; omega
theorem zg_lt (v b : Int) (h : -b ≤ v ∧ v < b) : zg v < 2 * b := by
  unfold zg
  by_cases e : 0 ≤ v
  · rw [if_pos e]; omega
  · rw [if_neg e]; omega
/-- What Zag answers for a kind of so many numbers. -/
def zu (u lim : Int) : Int := if u < lim then ug u else 0
theorem zu_pos {u lim : Int} (h : u < lim) : zu u lim = ug u := if_pos h
theorem zu_neg {u lim : Int} (h : ¬ u < lim) : zu u lim = 0 := if_neg h
theorem not_u64 (x : Int) (h0 : 0 ≤ x) (h1 : x < 18446744073709551616) : bits .xor .u64 IntKind.u64.max x = 18446744073709551615 - x := by
  obtain ⟨n, rfl⟩ := Int.eq_ofNat_of_zero_le h0
  have e : IntKind.u64.max = ((18446744073709551615 : Nat) : Int) := rfl
  have hn : n < 18446744073709551616 := by omega
  rw [e, bits_xor_u64_nat _ _ (by decide) hn]
  have h2 : (18446744073709551615#64 ^^^ BitVec.ofNat 64 n).toNat = 18446744073709551615 - n := by
    rw [show (18446744073709551615#64 : BitVec 64) = BitVec.allOnes 64 by decide, BitVec.allOnes_xor, BitVec.toNat_not, BitVec.toNat_ofNat]
    omega
  rw [BitVec.toNat_xor, BitVec.toNat_ofNat, BitVec.toNat_ofNat] at h2
  have h3 : n % 2 ^ 64 = n := Nat.mod_eq_of_lt (by omega)
  rw [h3, show 18446744073709551615 % 2 ^ 64 = 18446744073709551615 by decide] at h2
  rw [h2]; omega
theorem wrap_i64 (n : Int) : IntKind.i64.wrap n = wrap64 n := by
  simp [IntKind.wrap, IntKind.bits, IntKind.signed, wrap64]; omega
theorem not_i64 (x : Int) (h0 : 0 ≤ x) (h1 : x < 9223372036854775808) : bits .xor .i64 (-1) x = -x - 1 := by
  obtain ⟨n, rfl⟩ := Int.eq_ofNat_of_zero_le h0
  have hn : n < 9223372036854775808 := by omega
  show IntKind.i64.wrap ((BitVec.ofInt 64 (-1) ^^^ BitVec.ofInt 64 (n : Int)).toNat : Int) = _
  rw [show BitVec.ofInt 64 (-1) = BitVec.allOnes 64 by decide, BitVec.allOnes_xor, BitVec.toNat_not, BitVec.ofInt_natCast, BitVec.toNat_ofNat, Nat.mod_eq_of_lt (by omega), wrap_i64]
  unfold wrap64
  omega
theorem wrap_i8 (n : Int) : IntKind.i8.wrap n = (n + 128) % 256 - 128 := by
  simp [IntKind.wrap, IntKind.bits, IntKind.signed]; omega
theorem wrap_i16 (n : Int) : IntKind.i16.wrap n = (n + 32768) % 65536 - 32768 := by
  simp [IntKind.wrap, IntKind.bits, IntKind.signed]; omega
theorem wrap_i32 (n : Int) : IntKind.i32.wrap n = (n + 2147483648) % 4294967296 - 2147483648 := by
  simp [IntKind.wrap, IntKind.bits, IntKind.signed]; omega
theorem zg_neg {v : Int} (h : v < 0) : zg v = -2 * v - 1 := if_neg (by omega)
theorem zg_pos {v : Int} (h : ¬ v < 0) : zg v = 2 * v := if_pos (by omega)
theorem zig_fact (v : Int) (h : -9223372036854775808 ≤ v ∧ v ≤ 9223372036854775807) (h1 : v < 0) : bits .xor .u64 IntKind.u64.max (IntKind.u64.wrap (IntKind.u64.wrap v * 2)) = zg v := by
  rw [zg_neg h1, IntKind.wrap_u64, IntKind.wrap_u64, not_u64 _ (by omega) (by omega)]
  omega
section
attribute [local irreducible] Calls
theorem zig_i8 (v : Int) (h : -128 ≤ v ∧ v ≤ 127) (w : World) : Calls Try.prog 16 #[.int .i8 v] w fun e w' => e = .returned (.int .u64 (zg v)) ∧ w' = w := by
  by_cases h1 : v < 0
  · have R : Hid (bits .xor .u64 IntKind.u64.max (IntKind.u64.wrap (IntKind.u64.wrap v * 2)) = zg v) := zig_fact v (by omega) h1
    go_enter Try.func16, Try.ntmps16
    go_wp2
    go_ret
    exact ⟨ret_int R.out, rfl⟩
  · have R : Hid (v * 2 = zg v) := (show v * 2 = zg v by have := zg_pos h1; omega)
    go_enter Try.func16, Try.ntmps16
    go_wp2
    go_ret
    exact ⟨ret_int R.out, rfl⟩
theorem zig_i16 (v : Int) (h : -32768 ≤ v ∧ v ≤ 32767) (w : World) : Calls Try.prog 18 #[.int .i16 v] w fun e w' => e = .returned (.int .u64 (zg v)) ∧ w' = w := by
  by_cases h1 : v < 0
  · have R : Hid (bits .xor .u64 IntKind.u64.max (IntKind.u64.wrap (IntKind.u64.wrap v * 2)) = zg v) := zig_fact v (by omega) h1
    go_enter Try.func18, Try.ntmps18
    go_wp2
    go_ret
    exact ⟨ret_int R.out, rfl⟩
  · have R : Hid (v * 2 = zg v) := (show v * 2 = zg v by have := zg_pos h1; omega)
    go_enter Try.func18, Try.ntmps18
    go_wp2
    go_ret
    exact ⟨ret_int R.out, rfl⟩
theorem zig_i32 (v : Int) (h : -2147483648 ≤ v ∧ v ≤ 2147483647) (w : World) : Calls Try.prog 19 #[.int .i32 v] w fun e w' => e = .returned (.int .u64 (zg v)) ∧ w' = w := by
  by_cases h1 : v < 0
  · have R : Hid (bits .xor .u64 IntKind.u64.max (IntKind.u64.wrap (IntKind.u64.wrap v * 2)) = zg v) := zig_fact v (by omega) h1
    go_enter Try.func19, Try.ntmps19
    go_wp2
    go_ret
    exact ⟨ret_int R.out, rfl⟩
  · have R : Hid (v * 2 = zg v) := (show v * 2 = zg v by have := zg_pos h1; omega)
    go_enter Try.func19, Try.ntmps19
    go_wp2
    go_ret
    exact ⟨ret_int R.out, rfl⟩
theorem zig_i64 (v : Int) (h : -9223372036854775808 ≤ v ∧ v ≤ 9223372036854775807) (w : World) : Calls Try.prog 20 #[.int .i64 v] w fun e w' => e = .returned (.int .u64 (zg v)) ∧ w' = w := by
  by_cases h1 : v < 0
  · have R : Hid (bits .xor .u64 IntKind.u64.max (IntKind.u64.wrap (IntKind.u64.wrap v * 2)) = zg v) := zig_fact v (by omega) h1
    go_enter Try.func20, Try.ntmps20
    go_wp2
    go_ret
    exact ⟨ret_int R.out, rfl⟩
  · have R : Hid (v * 2 = zg v) := (show v * 2 = zg v by have := zg_pos h1; omega)
    go_enter Try.func20, Try.ntmps20
    go_wp2
    go_ret
    exact ⟨ret_int R.out, rfl⟩
theorem zig_deep (v : Int) (h : -32768 ≤ v ∧ v ≤ 32767) (w : World) : Calls Try.prog 21 #[.int .i16 v] w fun e w' => e = .returned (.int .u64 (zg v)) ∧ w' = w := by
  by_cases h1 : v < 0
  · have R : Hid (bits .xor .u64 IntKind.u64.max (IntKind.u64.wrap (IntKind.u64.wrap v * 2)) = zg v) := zig_fact v (by omega) h1
    go_enter Try.func21, Try.ntmps21
    go_wp2
    go_ret
    exact ⟨ret_int R.out, rfl⟩
  · have R : Hid (v * 2 = zg v) := (show v * 2 = zg v by have := zg_pos h1; omega)
    go_enter Try.func21, Try.ntmps21
    go_wp2
    go_ret
    exact ⟨ret_int R.out, rfl⟩
set_option maxHeartbeats 1000000 in
theorem zag_i8 (u : Int) (h : 0 ≤ u ∧ u < 18446744073709551616) (w : World) : Calls Try.prog 22 #[.int .u64 u] w fun e w' => e = .returned (.tuple #[(.int .i8 (zu u 256)), .bool (decide (u < 256))]) ∧ w' = w := by
  have e1 : bits .xor .i64 (if IntKind.i64.signed = true then -1 else 9223372036854775807) (u / 2) = -(u / 2) - 1 := not_i64 _ (by omega) (by omega)
  by_cases e : u % 2 = 0
  · have hu : ug u = u / 2 := if_pos e
    have e0 : (u % 2 == 1) = false := by simp; omega
    by_cases g : u < 256
    · rw [zu_pos g, decide_eq_true g, hu]
      have W : IntKind.i8.wrap (u / 2) = (u / 2) := by rw [wrap_i8]; omega
      have W2 : wrap64 (u / 2) = (u / 2) := by unfold wrap64; omega
      have hne : ((u / 2) != (u / 2)) = false := by simp
      clear hu
      go_enter Try.func22, Try.ntmps22
      go_wp2
      go_ret2
      exact ⟨by simp, rfl⟩
    · rw [zu_neg g, decide_eq_false g]
      have hne : (wrap64 (IntKind.i8.wrap (u / 2)) != (u / 2)) = true := by
        have : wrap64 (IntKind.i8.wrap (u / 2)) ≠ (u / 2) := by rw [wrap_i8]; unfold wrap64; omega
        simpa using this
      clear hu
      go_enter Try.func22, Try.ntmps22
      go_wp2
      go_ret2
      exact ⟨rfl, rfl⟩
  · have hu : ug u = -(u / 2) - 1 := if_neg e
    have e0 : u % 2 = 1 := by omega
    by_cases g : u < 256
    · rw [zu_pos g, decide_eq_true g, hu]
      have W : IntKind.i8.wrap (-(u / 2) - 1) = (-(u / 2) - 1) := by rw [wrap_i8]; omega
      have W2 : wrap64 (-(u / 2) - 1) = (-(u / 2) - 1) := by unfold wrap64; omega
      have hne : ((-(u / 2) - 1) != (-(u / 2) - 1)) = false := by simp
      clear hu
      go_enter Try.func22, Try.ntmps22
      go_wp2
      go_ret2
      exact ⟨by simp, rfl⟩
    · rw [zu_neg g, decide_eq_false g]
      have hne : (wrap64 (IntKind.i8.wrap (-(u / 2) - 1)) != (-(u / 2) - 1)) = true := by
        have : wrap64 (IntKind.i8.wrap (-(u / 2) - 1)) ≠ (-(u / 2) - 1) := by rw [wrap_i8]; unfold wrap64; omega
        simpa using this
      clear hu
      go_enter Try.func22, Try.ntmps22
      go_wp2
      go_ret2
      exact ⟨rfl, rfl⟩
set_option maxHeartbeats 1000000 in
theorem zag_i16 (u : Int) (h : 0 ≤ u ∧ u < 18446744073709551616) (w : World) : Calls Try.prog 23 #[.int .u64 u] w fun e w' => e = .returned (.tuple #[(.int .i16 (zu u 65536)), .bool (decide (u < 65536))]) ∧ w' = w := by
  have e1 : bits .xor .i64 (if IntKind.i64.signed = true then -1 else 9223372036854775807) (u / 2) = -(u / 2) - 1 := not_i64 _ (by omega) (by omega)
  by_cases e : u % 2 = 0
  · have hu : ug u = u / 2 := if_pos e
    have e0 : (u % 2 == 1) = false := by simp; omega
    by_cases g : u < 65536
    · rw [zu_pos g, decide_eq_true g, hu]
      have W : IntKind.i16.wrap (u / 2) = (u / 2) := by rw [wrap_i16]; omega
      have W2 : wrap64 (u / 2) = (u / 2) := by unfold wrap64; omega
      have hne : ((u / 2) != (u / 2)) = false := by simp
      clear hu
      go_enter Try.func23, Try.ntmps23
      go_wp2
      go_ret2
      exact ⟨by simp, rfl⟩
    · rw [zu_neg g, decide_eq_false g]
      have hne : (wrap64 (IntKind.i16.wrap (u / 2)) != (u / 2)) = true := by
        have : wrap64 (IntKind.i16.wrap (u / 2)) ≠ (u / 2) := by rw [wrap_i16]; unfold wrap64; omega
        simpa using this
      clear hu
      go_enter Try.func23, Try.ntmps23
      go_wp2
      go_ret2
      exact ⟨rfl, rfl⟩
  · have hu : ug u = -(u / 2) - 1 := if_neg e
    have e0 : u % 2 = 1 := by omega
    by_cases g : u < 65536
    · rw [zu_pos g, decide_eq_true g, hu]
      have W : IntKind.i16.wrap (-(u / 2) - 1) = (-(u / 2) - 1) := by rw [wrap_i16]; omega
      have W2 : wrap64 (-(u / 2) - 1) = (-(u / 2) - 1) := by unfold wrap64; omega
      have hne : ((-(u / 2) - 1) != (-(u / 2) - 1)) = false := by simp
      clear hu
      go_enter Try.func23, Try.ntmps23
      go_wp2
      go_ret2
      exact ⟨by simp, rfl⟩
    · rw [zu_neg g, decide_eq_false g]
      have hne : (wrap64 (IntKind.i16.wrap (-(u / 2) - 1)) != (-(u / 2) - 1)) = true := by
        have : wrap64 (IntKind.i16.wrap (-(u / 2) - 1)) ≠ (-(u / 2) - 1) := by rw [wrap_i16]; unfold wrap64; omega
        simpa using this
      clear hu
      go_enter Try.func23, Try.ntmps23
      go_wp2
      go_ret2
      exact ⟨rfl, rfl⟩
set_option maxHeartbeats 1000000 in
theorem zag_i32 (u : Int) (h : 0 ≤ u ∧ u < 18446744073709551616) (w : World) : Calls Try.prog 24 #[.int .u64 u] w fun e w' => e = .returned (.tuple #[(.int .i32 (zu u 4294967296)), .bool (decide (u < 4294967296))]) ∧ w' = w := by
  have e1 : bits .xor .i64 (if IntKind.i64.signed = true then -1 else 9223372036854775807) (u / 2) = -(u / 2) - 1 := not_i64 _ (by omega) (by omega)
  by_cases e : u % 2 = 0
  · have hu : ug u = u / 2 := if_pos e
    have e0 : (u % 2 == 1) = false := by simp; omega
    by_cases g : u < 4294967296
    · rw [zu_pos g, decide_eq_true g, hu]
      have W : wrap32 (u / 2) = (u / 2) := by unfold wrap32; omega
      have W2 : wrap64 (u / 2) = (u / 2) := by unfold wrap64; omega
      have hne : ((u / 2) != (u / 2)) = false := by simp
      clear hu
      go_enter Try.func24, Try.ntmps24
      go_wp2
      go_ret2
      exact ⟨by simp, rfl⟩
    · rw [zu_neg g, decide_eq_false g]
      have hne : (wrap64 (wrap32 (u / 2)) != (u / 2)) = true := by
        have : wrap64 (wrap32 (u / 2)) ≠ (u / 2) := by unfold wrap32; unfold wrap64; omega
        simpa using this
      clear hu
      go_enter Try.func24, Try.ntmps24
      go_wp2
      go_ret2
      exact ⟨rfl, rfl⟩
  · have hu : ug u = -(u / 2) - 1 := if_neg e
    have e0 : u % 2 = 1 := by omega
    by_cases g : u < 4294967296
    · rw [zu_pos g, decide_eq_true g, hu]
      have W : wrap32 (-(u / 2) - 1) = (-(u / 2) - 1) := by unfold wrap32; omega
      have W2 : wrap64 (-(u / 2) - 1) = (-(u / 2) - 1) := by unfold wrap64; omega
      have hne : ((-(u / 2) - 1) != (-(u / 2) - 1)) = false := by simp
      clear hu
      go_enter Try.func24, Try.ntmps24
      go_wp2
      go_ret2
      exact ⟨by simp, rfl⟩
    · rw [zu_neg g, decide_eq_false g]
      have hne : (wrap64 (wrap32 (-(u / 2) - 1)) != (-(u / 2) - 1)) = true := by
        have : wrap64 (wrap32 (-(u / 2) - 1)) ≠ (-(u / 2) - 1) := by unfold wrap32; unfold wrap64; omega
        simpa using this
      clear hu
      go_enter Try.func24, Try.ntmps24
      go_wp2
      go_ret2
      exact ⟨rfl, rfl⟩
set_option maxHeartbeats 1000000 in
theorem zag_i64 (u : Int) (h : 0 ≤ u ∧ u < 18446744073709551616) (w : World) : Calls Try.prog 25 #[.int .u64 u] w fun e w' => e = .returned (.tuple #[.int .i64 (ug u), .bool true]) ∧ w' = w := by
  have e1 : bits .xor .i64 (if IntKind.i64.signed = true then -1 else 9223372036854775807) (u / 2) = -(u / 2) - 1 := not_i64 _ (by omega) (by omega)
  by_cases e : u % 2 = 0
  · have hu : ug u = u / 2 := if_pos e
    have e0 : (u % 2 == 1) = false := by simp; omega
    rw [hu]
    have W : wrap64 (u / 2) = (u / 2) := by unfold wrap64; omega
    have hne : ((u / 2) != (u / 2)) = false := by simp
    clear hu
    go_enter Try.func25, Try.ntmps25
    go_wp2
    go_ret2
    exact ⟨by simp, rfl⟩
  · have hu : ug u = -(u / 2) - 1 := if_neg e
    have e0 : u % 2 = 1 := by omega
    rw [hu]
    have W : wrap64 (-(u / 2) - 1) = (-(u / 2) - 1) := by unfold wrap64; omega
    have hne : ((-(u / 2) - 1) != (-(u / 2) - 1)) = false := by simp
    clear hu
    go_enter Try.func25, Try.ntmps25
    go_wp2
    go_ret2
    exact ⟨by simp, rfl⟩
set_option maxHeartbeats 1000000 in
theorem zag_deep (u : Int) (h : 0 ≤ u ∧ u < 18446744073709551616) (w : World) : Calls Try.prog 26 #[.int .u64 u] w fun e w' => e = .returned (.tuple #[(.int .i16 (zu u 65536)), .bool (decide (u < 65536))]) ∧ w' = w := by
  have e1 : bits .xor .i64 (if IntKind.i64.signed = true then -1 else 9223372036854775807) (u / 2) = -(u / 2) - 1 := not_i64 _ (by omega) (by omega)
  by_cases e : u % 2 = 0
  · have hu : ug u = u / 2 := if_pos e
    have e0 : (u % 2 == 1) = false := by simp; omega
    by_cases g : u < 65536
    · rw [zu_pos g, decide_eq_true g, hu]
      have W : IntKind.i16.wrap (u / 2) = (u / 2) := by rw [wrap_i16]; omega
      have W2 : wrap64 (u / 2) = (u / 2) := by unfold wrap64; omega
      have hne : ((u / 2) != (u / 2)) = false := by simp
      clear hu
      go_enter Try.func26, Try.ntmps26
      go_wp2
      go_ret2
      exact ⟨by simp, rfl⟩
    · rw [zu_neg g, decide_eq_false g]
      have hne : (wrap64 (IntKind.i16.wrap (u / 2)) != (u / 2)) = true := by
        have : wrap64 (IntKind.i16.wrap (u / 2)) ≠ (u / 2) := by rw [wrap_i16]; unfold wrap64; omega
        simpa using this
      clear hu
      go_enter Try.func26, Try.ntmps26
      go_wp2
      go_ret2
      exact ⟨rfl, rfl⟩
  · have hu : ug u = -(u / 2) - 1 := if_neg e
    have e0 : u % 2 = 1 := by omega
    by_cases g : u < 65536
    · rw [zu_pos g, decide_eq_true g, hu]
      have W : IntKind.i16.wrap (-(u / 2) - 1) = (-(u / 2) - 1) := by rw [wrap_i16]; omega
      have W2 : wrap64 (-(u / 2) - 1) = (-(u / 2) - 1) := by unfold wrap64; omega
      have hne : ((-(u / 2) - 1) != (-(u / 2) - 1)) = false := by simp
      clear hu
      go_enter Try.func26, Try.ntmps26
      go_wp2
      go_ret2
      exact ⟨by simp, rfl⟩
    · rw [zu_neg g, decide_eq_false g]
      have hne : (wrap64 (IntKind.i16.wrap (-(u / 2) - 1)) != (-(u / 2) - 1)) = true := by
        have : wrap64 (IntKind.i16.wrap (-(u / 2) - 1)) ≠ (-(u / 2) - 1) := by rw [wrap_i16]; unfold wrap64; omega
        simpa using this
      clear hu
      go_enter Try.func26, Try.ntmps26
      go_wp2
      go_ret2
      exact ⟨rfl, rfl⟩
theorem fold_any (v : Int) (h : -9223372036854775808 ≤ v ∧ v ≤ 9223372036854775807) (w : World) : Calls Try.prog 17 #[.int .i64 v] w fun e w' => e = .returned (.int .u64 (zg v)) ∧ w' = w := by
  by_cases h1 : v < 0
  · have R : Hid (2 * -(v + 1) + 1 = zg v) := (show 2 * -(v + 1) + 1 = zg v by have := zg_neg h1; omega)
    have h2 : ¬ 0 ≤ v := by omega
    go_enter Try.func17, Try.ntmps17
    go_wp2
    go_ret
    exact ⟨ret_int R.out, rfl⟩
  · have R : Hid (2 * v = zg v) := (zg_pos h1).symm
    have h2 : 0 ≤ v := by omega
    go_enter Try.func17, Try.ntmps17
    go_wp2
    go_ret
    exact ⟨ret_int R.out, rfl⟩
theorem unfold_any (u : Int) (h : 0 ≤ u ∧ u < 18446744073709551616) (w : World) : Calls Try.prog 27 #[.int .u64 u] w fun e w' => e = .returned (.int .i64 (ug u)) ∧ w' = w := by
  by_cases e : u % 2 = 0
  · have hu : Hid (u / 2 = ug u) := (show ug u = u / 2 from if_pos e).symm
    go_enter Try.func27, Try.ntmps27
    go_wp2
    go_ret
    exact ⟨ret_int hu.out, rfl⟩
  · have hu : Hid (-(u / 2) - 1 = ug u) := (show ug u = -(u / 2) - 1 from if_neg e).symm
    go_enter Try.func27, Try.ntmps27
    go_wp2
    go_ret
    exact ⟨ret_int hu.out, rfl⟩
theorem zag_lawT (v : Int) (w : World) : Calls Try.prog 28 #[.int .i64 v, .bool true, .int .i64 v, .bool true] w fun e w' => e = .returned (.bool true) ∧ w' = w := by
  go_enter Try.func28, Try.ntmps28
  go_wp2
  go_ret
  exact ⟨by simp, rfl⟩
theorem zag_lawF (v : Int) (w : World) : Calls Try.prog 28 #[.int .i64 0, .bool false, .int .i64 v, .bool false] w fun e w' => e = .returned (.bool true) ∧ w' = w := by
  go_enter Try.func28, Try.ntmps28
  go_wp2
  go_ret
  exact ⟨by simp, rfl⟩
theorem zag_law (u lim : Int) (w : World) : Calls Try.prog 28 #[.int .i64 (zu u lim), .bool (decide (u < lim)), .int .i64 (ug u), .bool (decide (u < lim))] w fun e w' => e = .returned (.bool true) ∧ w' = w := by
  by_cases g : u < lim
  · rw [zu_pos g, decide_eq_true g]; exact zag_lawT _ w
  · rw [zu_neg g, decide_eq_false g]; exact zag_lawF _ w
end
end Go.Proofs.Ytmcbeikgdcgdcaa
