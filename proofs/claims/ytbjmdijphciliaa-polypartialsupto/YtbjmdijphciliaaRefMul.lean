/-
  The document's elements: cairnref02's Mul.
-/
import Derived.Test.YtbjmdijphciliaaFld
namespace Go.Proofs.Ytbjmdijphciliaa
open Go.RowKit

theorem ofInt_i64 (a : Nat) (ha : a < 4294967296) : (BitVec.ofInt 64 (a : Int)).toNat = a := by
  rw [BitVec.ofInt_natCast, BitVec.toNat_ofNat]; exact Nat.mod_eq_of_lt (by omega)
theorem wrap_i64_small (n : Nat) (h : n < 4294967296) : IntKind.i64.wrap (n : Int) = (n : Int) := by
  rw [IntKind.wrap_i64]; omega
theorem i64_xor_nat (a b : Nat) (ha : a < 4294967296) (hb : b < 4294967296) : bits .xor .i64 (a : Int) (b : Int) = ((a ^^^ b : Nat) : Int) := by
  have hx : a ^^^ b < 2 ^ 32 := Nat.xor_lt_two_pow (by omega) (by omega)
  show IntKind.i64.wrap ((BitVec.ofInt 64 (a : Int) ^^^ BitVec.ofInt 64 (b : Int)).toNat : Int) = _
  rw [BitVec.toNat_xor, ofInt_i64 a ha, ofInt_i64 b hb, wrap_i64_small _ hx]
theorem i64_and_nat (a b : Nat) (ha : a < 4294967296) (hb : b < 4294967296) : bits .and .i64 (a : Int) (b : Int) = ((a &&& b : Nat) : Int) := by
  have hx : a &&& b < 2 ^ 32 := Nat.and_lt_two_pow _ (by omega)
  show IntKind.i64.wrap ((BitVec.ofInt 64 (a : Int) &&& BitVec.ofInt 64 (b : Int)).toNat : Int) = _
  rw [BitVec.toNat_and, ofInt_i64 a ha, ofInt_i64 b hb, wrap_i64_small _ hx]
theorem bit_num (n k : Nat) (h : n < 65536) : (bits .and .i64 ((n : Int) / 2 ^ k) 1 == 1) = n.testBit k := by
  have e : (n : Int) / 2 ^ k = ((n / 2 ^ k : Nat) : Int) := by simp
  have hl : n / 2 ^ k ≤ n := Nat.div_le_self _ _
  rw [e, show (1 : Int) = ((1 : Nat) : Int) from rfl, i64_and_nat _ _ (by omega) (by omega)]
  rw [Nat.testBit, Nat.and_comm, Nat.shiftRight_eq_div_pow, Nat.and_comm]
  have h2 : n / 2 ^ k &&& 1 = 0 ∨ n / 2 ^ k &&& 1 = 1 := by rw [Nat.and_one_is_mod]; omega
  rcases h2 with h2 | h2 <;> rw [h2] <;> rfl
theorem bit8 (b : BitVec 8) (k : Nat) : (bits .and .i64 (el b / 2 ^ k) 1 == 1) = b.getLsbD k := by
  unfold el; rw [bit_num _ _ (by have := b.isLt; omega)]; rfl
theorem el_xor64 (a b : BitVec 8) : bits .xor .i64 (el a) (el b) = el (a ^^^ b) := by
  unfold el; rw [i64_xor_nat _ _ (by have := a.isLt; omega) (by have := b.isLt; omega), BitVec.toNat_xor]
theorem dbl_lo_nat : ∀ a : BitVec 8, a.toNat < 128 → (dbl a).toNat = 2 * a.toNat := by decide +kernel
theorem dbl_hi_nat : ∀ a : BitVec 8, 128 ≤ a.toNat → (dbl a).toNat = (2 * a.toNat) ^^^ 285 := by decide +kernel
theorem dbl_lo (a : BitVec 8) (h : ¬ 255 < 2 * el a) : 2 * el a = el (dbl a) := by
  unfold el at *; rw [dbl_lo_nat a (by omega)]; omega
theorem dbl_hi (a : BitVec 8) (h : 255 < 2 * el a) : bits .xor .i64 (2 * el a) 285 = el (dbl a) := by
  unfold el at *
  rw [dbl_hi_nat a (by omega), show (2 : Int) * (a.toNat : Int) = ((2 * a.toNat : Nat) : Int) by omega, show (285 : Int) = ((285 : Nat) : Int) from rfl, i64_xor_nat _ _ (by have := a.isLt; omega) (by omega)]
theorem low1 : ∀ b : BitVec 8, ∀ k, k < 8 → (b >>> k) &&& 1#8 = if b.getLsbD k then 1#8 else 0#8 := by decide +kernel
theorem rnds_f {n : Nat} {p x b : BitVec 8} {k : Nat} (hk : k < 8) (h : b.getLsbD k = false) : rnds (n + 1) p x (b >>> k) = rnds n p (dbl x) (b >>> (k + 1)) := by
  show rnds n (p ^^^ (x &&& -((b >>> k) &&& 1#8))) (dbl x) (b >>> k >>> 1) = _
  rw [low1 b k hk, h, BitVec.shiftRight_add]; simp
theorem rnds_t {n : Nat} {p x b : BitVec 8} {k : Nat} (hk : k < 8) (h : b.getLsbD k = true) : rnds (n + 1) p x (b >>> k) = rnds n (p ^^^ x) (dbl x) (b >>> (k + 1)) := by
  show rnds n (p ^^^ (x &&& -((b >>> k) &&& 1#8))) (dbl x) (b >>> k >>> 1) = _
  rw [low1 b k hk, h, BitVec.shiftRight_add, if_pos rfl, show -(1#8) = 255#8 from rfl, and_ff]
set_option maxRecDepth 1000000 in
theorem refMul_any (a b : BitVec 8) (w : World) :
    Calls Try.prog 55 #[.int .u8 (el a), .int .u8 (el b)] w fun e w' => e = .returned (.int .u8 (el (gm a b))) ∧ w' = w := by
  have hw : ∀ a, wrap64 (el a) = el a := fun a => by have := el_bd a; unfold wrap64; omega
  have hw8 : ∀ a, el a % 256 = el a := fun a => by have := el_bd a; omega
  go_enter Try.func55, Try.ntmps55
  go_wp2
  go_loop [5, 6, 7] (fun p x i => ∃ (k : Nat) (x' p' : BitVec 8), k ≤ 8 ∧ i = .int .i64 k ∧ x = .int .i64 (el x') ∧ p = .int .i64 (el p') ∧ Hid (rnds (8 - k) p' x' (b >>> k) = gm a b)) (fun _ _ i => 8 - (intOf i).toNat)
  case atStart => exact ⟨0, a, 0#8, by omega, rfl, by rw [hw], rfl, by show rnds 8 0#8 a (b >>> 0) = _; rw [BitVec.ushiftRight_zero]; rfl⟩
  case round =>
    obtain ⟨k, x, p, hk, rfl, rfl, rfl, H⟩ := hrel
    by_cases hlt : k < 8
    · have bx := el_bd x
      have hx := el_xor64 p x
      have H2 : Hid (rnds ((8 - (k + 1)) + 1) p x (b >>> k) = gm a b) := by show _ = _; rw [show 8 - (k + 1) + 1 = 8 - k by omega]; exact H.out
      clear H
      by_cases hd : 255 < 2 * el x
      · have hd2 := dbl_hi x hd
        cases hbit : b.getLsbD k
        · have ht : (bits .and .i64 (el b / 2 ^ k) 1 == 1) = false := by rw [bit8]; exact hbit
          go_wp2
          go_round
          case rel => exact ⟨k + 1, dbl x, p, by omega, by go_num, rfl, rfl, by show _ = _; rw [← rnds_f hlt hbit]; exact H2.out⟩
          case measure => simp [intOf]; omega
        · have ht : (bits .and .i64 (el b / 2 ^ k) 1 == 1) = true := by rw [bit8]; exact hbit
          go_wp2
          go_round
          case rel => exact ⟨k + 1, dbl x, p ^^^ x, by omega, by go_num, rfl, rfl, by show _ = _; rw [← rnds_t hlt hbit]; exact H2.out⟩
          case measure => simp [intOf]; omega
      · have hd2 := dbl_lo x hd
        cases hbit : b.getLsbD k
        · have ht : (bits .and .i64 (el b / 2 ^ k) 1 == 1) = false := by rw [bit8]; exact hbit
          go_wp2
          go_round
          case rel => exact ⟨k + 1, dbl x, p, by omega, by go_num, by rw [← hd2], rfl, by show _ = _; rw [← rnds_f hlt hbit]; exact H2.out⟩
          case measure => simp [intOf]; omega
        · have ht : (bits .and .i64 (el b / 2 ^ k) 1 == 1) = true := by rw [bit8]; exact hbit
          go_wp2
          go_round
          case rel => exact ⟨k + 1, dbl x, p ^^^ x, by omega, by go_num, by rw [← hd2], rfl, by show _ = _; rw [← rnds_t hlt hbit]; exact H2.out⟩
          case measure => simp [intOf]; omega
    · obtain rfl : k = 8 := by omega
      go_wp2
      go_ret
      exact ⟨ret_int (by rw [← H.out]; rfl), rfl⟩
end Go.Proofs.Ytbjmdijphciliaa
