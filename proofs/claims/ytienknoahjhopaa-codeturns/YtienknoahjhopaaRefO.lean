/-
  The document's product (cairnref01.Times) is the product.
-/
import Derived.Test.YtienknoahjhopaaPow
namespace Go.Proofs.Ytienknoahjhopaa
open Go.RowKit

def e16O (p : BitVec 16) : Int := (p.toNat : Int)
theorem e16_bdO (p : BitVec 16) : 0 ≤ e16O p ∧ e16O p < 65536 := by unfold e16O; have := p.isLt; omega
theorem ofInt_i64O (a : Nat) (ha : a < 4294967296) : (BitVec.ofInt 64 (a : Int)).toNat = a := by
  rw [BitVec.ofInt_natCast, BitVec.toNat_ofNat]; exact Nat.mod_eq_of_lt (by omega)
theorem wrap_i64_smallO (n : Nat) (h : n < 4294967296) : IntKind.i64.wrap (n : Int) = (n : Int) := by
  rw [IntKind.wrap_i64]; omega
theorem i64_xor_natO (a b : Nat) (ha : a < 4294967296) (hb : b < 4294967296) : bits .xor .i64 (a : Int) (b : Int) = ((a ^^^ b : Nat) : Int) := by
  have hx : a ^^^ b < 2 ^ 32 := Nat.xor_lt_two_pow (by omega) (by omega)
  show IntKind.i64.wrap ((BitVec.ofInt 64 (a : Int) ^^^ BitVec.ofInt 64 (b : Int)).toNat : Int) = _
  rw [BitVec.toNat_xor, ofInt_i64O a ha, ofInt_i64O b hb, wrap_i64_smallO _ hx]
theorem i64_and_natO (a b : Nat) (ha : a < 4294967296) (hb : b < 4294967296) : bits .and .i64 (a : Int) (b : Int) = ((a &&& b : Nat) : Int) := by
  have hx : a &&& b < 2 ^ 32 := Nat.and_lt_two_pow _ (by omega)
  show IntKind.i64.wrap ((BitVec.ofInt 64 (a : Int) &&& BitVec.ofInt 64 (b : Int)).toNat : Int) = _
  rw [BitVec.toNat_and, ofInt_i64O a ha, ofInt_i64O b hb, wrap_i64_smallO _ hx]
theorem e16_xorO (p q : BitVec 16) : bits .xor .i64 (e16O p) (e16O q) = e16O (p ^^^ q) := by
  unfold e16O; rw [i64_xor_natO _ _ (by have := p.isLt; omega) (by have := q.isLt; omega), BitVec.toNat_xor]
theorem bit_numO (n k : Nat) (h : n < 65536) : (bits .and .i64 ((n : Int) / 2 ^ k) 1 == 1) = n.testBit k := by
  have e : (n : Int) / 2 ^ k = ((n / 2 ^ k : Nat) : Int) := by simp
  have hl : n / 2 ^ k ≤ n := Nat.div_le_self _ _
  rw [e, show (1 : Int) = ((1 : Nat) : Int) from rfl, i64_and_natO _ _ (by omega) (by omega)]
  rw [Nat.testBit, Nat.and_comm, Nat.shiftRight_eq_div_pow, Nat.and_comm]
  have h2 : n / 2 ^ k &&& 1 = 0 ∨ n / 2 ^ k &&& 1 = 1 := by rw [Nat.and_one_is_mod]; omega
  rcases h2 with h2 | h2 <;> rw [h2] <;> rfl
theorem bit8O (b : BitVec 8) (k : Nat) : (bits .and .i64 (el b / 2 ^ k) 1 == 1) = b.getLsbD k := by
  unfold el; rw [bit_numO _ _ (by have := b.isLt; omega)]; rfl
theorem bit16O (b : BitVec 16) (k : Nat) : (bits .and .i64 (e16O b / 2 ^ k) 1 == 1) = b.getLsbD k := by
  unfold e16O; rw [bit_numO _ _ b.isLt]; rfl

/-- Partial products without a remainder taken. -/
def crl (a : BitVec 16) (b : BitVec 8) : Nat → BitVec 16
  | 0 => 0#16
  | k + 1 => crl a b k ^^^ (if b.getLsbD k then a <<< k else 0#16)
def red1O (p : BitVec 16) (j : Nat) : BitVec 16 := p ^^^ (if p.getLsbD j then 285#16 <<< (j - 8) else 0#16)
def rednO : Nat → BitVec 16 → BitVec 16
  | 0, p => p
  | n + 1, p => red1O (rednO n p) (14 - n)
def refTO (a b : BitVec 8) : BitVec 16 := rednO 7 (crl (a.setWidth 16) b 8)

theorem xor16O (a b c d : BitVec 16) : (a ^^^ b) ^^^ (c ^^^ d) = (a ^^^ c) ^^^ (b ^^^ d) := by
  rw [BitVec.xor_assoc, BitVec.xor_assoc, ← BitVec.xor_assoc b, ← BitVec.xor_assoc c, BitVec.xor_comm b c]
theorem pick_xorO (x y : Bool) (m : BitVec 16) : (if (x ^^ y) = true then m else 0#16) = (if x = true then m else 0#16) ^^^ (if y = true then m else 0#16) := by
  cases x <;> cases y <;> simp
theorem crl_succ (a : BitVec 16) (b : BitVec 8) (k : Nat) : crl a b (k + 1) = crl a b k ^^^ (if b.getLsbD k then a <<< k else 0#16) := rfl
theorem crl_xor (a : BitVec 16) (b c : BitVec 8) (k : Nat) : crl a (b ^^^ c) k = crl a b k ^^^ crl a c k := by
  induction k with
  | zero => simp [crl]
  | succ k ih => rw [crl_succ, crl_succ, crl_succ, ih, BitVec.getLsbD_xor, pick_xorO, xor16O]
theorem red1_xorO (p q : BitVec 16) (j : Nat) : red1O (p ^^^ q) j = red1O p j ^^^ red1O q j := by
  unfold red1O; rw [BitVec.getLsbD_xor, pick_xorO, xor16O]
theorem redn_xorO (n : Nat) (p q : BitVec 16) : rednO n (p ^^^ q) = rednO n p ^^^ rednO n q := by
  induction n with
  | zero => rfl
  | succ n ih => unfold rednO; rw [ih, red1_xorO]
theorem refT_xorO (a b c : BitVec 8) : refTO a (b ^^^ c) = refTO a b ^^^ refTO a c := by
  unfold refTO; rw [crl_xor, redn_xorO]
def difO (a b : BitVec 8) : BitVec 16 := refTO a b ^^^ (gm a b).setWidth 16
theorem dif_xorO (a b c : BitVec 8) : difO a (b ^^^ c) = difO a b ^^^ difO a c := by
  unfold difO
  rw [refT_xorO, gm_xor_r, BitVec.setWidth_xor, xor16O]
theorem dif_basisO : ∀ a : BitVec 8, (difO a 0#8 == 0#16 && difO a 1#8 == 0#16 && difO a 2#8 == 0#16 && difO a 4#8 == 0#16 && difO a 8#8 == 0#16 && difO a 16#8 == 0#16 && difO a 32#8 == 0#16 && difO a 64#8 == 0#16 && difO a 128#8 == 0#16) = true := by decide +kernel
theorem split8O : ∀ b : BitVec 8, b = (b &&& 1#8) ^^^ (b &&& 2#8) ^^^ (b &&& 4#8) ^^^ (b &&& 8#8) ^^^ (b &&& 16#8) ^^^ (b &&& 32#8) ^^^ (b &&& 64#8) ^^^ (b &&& 128#8) := by decide +kernel
theorem part8O : ∀ b : BitVec 8, (b &&& 1#8 = 0#8 ∨ b &&& 1#8 = 1#8) ∧ (b &&& 2#8 = 0#8 ∨ b &&& 2#8 = 2#8) ∧ (b &&& 4#8 = 0#8 ∨ b &&& 4#8 = 4#8) ∧ (b &&& 8#8 = 0#8 ∨ b &&& 8#8 = 8#8) ∧ (b &&& 16#8 = 0#8 ∨ b &&& 16#8 = 16#8) ∧ (b &&& 32#8 = 0#8 ∨ b &&& 32#8 = 32#8) ∧ (b &&& 64#8 = 0#8 ∨ b &&& 64#8 = 64#8) ∧ (b &&& 128#8 = 0#8 ∨ b &&& 128#8 = 128#8) := by decide +kernel
theorem dif_zeroO (a b : BitVec 8) : difO a b = 0#16 := by
  have h := dif_basisO a
  simp only [Bool.and_eq_true, beq_iff_eq] at h
  obtain ⟨⟨⟨⟨⟨⟨⟨⟨h0, h1⟩, h2⟩, h4⟩, h8⟩, h16⟩, h32⟩, h64⟩, h128⟩ := h
  obtain ⟨p1, p2, p4, p8, p16, p32, p64, p128⟩ := part8O b
  have z : ∀ x m : BitVec 8, difO a m = 0#16 → (x = 0#8 ∨ x = m) → difO a x = 0#16 := by
    intro x m hm hx; rcases hx with rfl | rfl
    · exact h0
    · exact hm
  rw [split8O b, dif_xorO, dif_xorO, dif_xorO, dif_xorO, dif_xorO, dif_xorO, dif_xorO, z _ _ h1 p1, z _ _ h2 p2, z _ _ h4 p4, z _ _ h8 p8, z _ _ h16 p16, z _ _ h32 p32, z _ _ h64 p64, z _ _ h128 p128]
  decide
theorem refT_eqO (a b : BitVec 8) : e16O (refTO a b) = el (gm a b) := by
  have h := dif_zeroO a b
  unfold difO at h
  have h2 : refTO a b = (gm a b).setWidth 16 := by
    have h3 : (refTO a b ^^^ (gm a b).setWidth 16) ^^^ (gm a b).setWidth 16 = 0#16 ^^^ (gm a b).setWidth 16 := by rw [h]
    rwa [BitVec.xor_assoc, BitVec.xor_self, BitVec.xor_zero, BitVec.zero_xor] at h3
  unfold e16O el; rw [h2, BitVec.toNat_setWidth]
  have := (gm a b).isLt; omega
theorem shl_wrapO (a : BitVec 8) (k : Nat) (hk : k < 8) : wrap64 (el a * 2 ^ k) = e16O (a.setWidth 16 <<< k) := by
  unfold e16O el
  rw [BitVec.toNat_shiftLeft, BitVec.toNat_setWidth, Nat.shiftLeft_eq]
  have h := a.isLt
  have hp : 2 ^ k ≤ 2 ^ 7 := Nat.pow_le_pow_right (by omega) (by omega)
  have h1 : a.toNat * 2 ^ k ≤ 255 * 2 ^ 7 := Nat.mul_le_mul (by omega) hp
  rw [Nat.mod_eq_of_lt (show a.toNat < 2 ^ 16 by omega), Nat.mod_eq_of_lt (show a.toNat * 2 ^ k < 2 ^ 16 by omega)]
  have e : (a.toNat : Int) * 2 ^ k = ((a.toNat * 2 ^ k : Nat) : Int) := by simp
  rw [e]
  unfold wrap64; omega

theorem redn_tO {n : Nat} {p : BitVec 16} (h : (rednO n p).getLsbD (14 - n) = true) : rednO (n + 1) p = rednO n p ^^^ (285#16 <<< (14 - n - 8)) := by
  show red1O (rednO n p) (14 - n) = _
  unfold red1O; rw [if_pos h]
theorem redn_fO {n : Nat} {p : BitVec 16} (h : (rednO n p).getLsbD (14 - n) = false) : rednO (n + 1) p = rednO n p := by
  show red1O (rednO n p) (14 - n) = _
  unfold red1O; rw [h]; simp
theorem mod_wrapO (n : Nat) (h : n < 7) : wrap64 (285 * 2 ^ (14 - n - 8)) = e16O (285#16 <<< (14 - n - 8)) := by
  have : n = 0 ∨ n = 1 ∨ n = 2 ∨ n = 3 ∨ n = 4 ∨ n = 5 ∨ n = 6 := by omega
  rcases this with rfl | rfl | rfl | rfl | rfl | rfl | rfl <;> decide +kernel

theorem refTimes_any (a b : BitVec 8) (w : World) :
    Calls Try.prog 40 #[.int .i64 (el a), .int .i64 (el b)] w fun e w' => e = .returned (.int .i64 (el (gm a b))) ∧ w' = w := by
  go_enter Try.func40, Try.ntmps40
  go_wp2
  go_loop [5, 6] (fun p i => ∃ k : Nat, k ≤ 8 ∧ i = .int .i64 k ∧ p = .int .i64 (e16O (crl (a.setWidth 16) b k))) (fun _ i => 8 - (intOf i).toNat)
  case atStart => exact ⟨0, by omega, rfl, rfl⟩
  case round =>
    obtain ⟨k, hk, rfl, rfl⟩ := hrel
    by_cases hlt : k < 8
    · cases hbit : b.getLsbD k
      · have ht : (bits .and .i64 (el b / 2 ^ k) 1 == 1) = false := by rw [bit8O]; exact hbit
        go_wp2
        go_round
        case rel => exact ⟨k + 1, by omega, by go_num, by rw [crl_succ, hbit]; simp⟩
        case measure => simp [intOf]; omega
      · have ht : (bits .and .i64 (el b / 2 ^ k) 1 == 1) = true := by rw [bit8O]; exact hbit
        go_wp2
        go_round
        case rel => exact ⟨k + 1, by omega, by go_num, by rw [crl_succ, hbit, shl_wrapO a k hlt, e16_xorO]; simp⟩
        case measure => simp [intOf]; omega
    · obtain rfl : k = 8 := by omega
      go_wp2
      go_loop [5, 7] (fun p i => ∃ n : Nat, n ≤ 7 ∧ i = .int .i64 (14 - n) ∧ p = .int .i64 (e16O (rednO n (crl (a.setWidth 16) b 8)))) (fun _ i => (intOf i).toNat)
      case atStart => exact ⟨0, by omega, rfl, rfl⟩
      case round =>
        obtain ⟨n, hn, rfl, rfl⟩ := hrel
        by_cases hlt : n < 7
        · cases hbit : (rednO n (crl (a.setWidth 16) b 8)).getLsbD (14 - n)
          · have ht : (bits .and .i64 (e16O (rednO n (crl (a.setWidth 16) b 8)) / 2 ^ (14 - n)) 1 == 1) = false := by rw [bit16O]; exact hbit
            go_wp2
            go_round
            case rel => exact ⟨n + 1, by omega, by go_num, by rw [redn_fO hbit]⟩
            case measure => simp [intOf]; omega
          · have ht : (bits .and .i64 (e16O (rednO n (crl (a.setWidth 16) b 8)) / 2 ^ (14 - n)) 1 == 1) = true := by rw [bit16O]; exact hbit
            go_wp2
            go_round
            case rel => exact ⟨n + 1, by omega, by go_num, by rw [redn_tO hbit, mod_wrapO n hlt, e16_xorO]⟩
            case measure => simp [intOf]; omega
        · obtain rfl : n = 7 := by omega
          go_wp2
          go_ret
          exact ⟨ret_int (refT_eqO a b), rfl⟩
def bv (k : Nat) : BitVec 8 := BitVec.ofNat 8 k
theorem el_ofNat (k : Nat) (h : k < 256) : el (bv k) = (k : Int) := by
  unfold el bv; rw [BitVec.toNat_ofNat, Nat.mod_eq_of_lt h]
theorem el_toNat (a : BitVec 8) : ((a.toNat : Nat) : Int) = el a := rfl
theorem refTimes_nat (k : Nat) (hk : k < 256) (b : BitVec 8) (w : World) :
    Calls Try.prog 40 #[.int .i64 k, .int .i64 (el b)] w fun e w' => e = .returned (.int .i64 (el (gm (bv k) b))) ∧ w' = w := by
  have h := refTimes_any (bv k) b w
  rwa [el_ofNat k hk] at h
theorem gm_over {a b : BitVec 8} (hb : b ≠ 0#8) : gm (gm a (inv b)) b = a := by rw [gm_assoc, gm_comm (inv b), gm_inv hb, gm_one]
theorem over_before {a b : BitVec 8} (hb : b ≠ 0#8) {k : Nat} (hk : k < (gm a (inv b)).toNat) : (el (gm (bv k) b) == el a) = false := by
  rw [el_beq, beq_eq_false_iff_ne]
  intro h
  have h2 : bv k = gm a (inv b) := gm_cancel hb (by rw [h, gm_over hb])
  have h3 := (gm a (inv b)).isLt
  have h4 : (bv k).toNat = k := by unfold bv; rw [BitVec.toNat_ofNat, Nat.mod_eq_of_lt (by omega)]
  rw [h2] at h4; omega
theorem over_at {a b : BitVec 8} (hb : b ≠ 0#8) : (el (gm (bv (gm a (inv b)).toNat) b) == el a) = true := by
  unfold bv
  rw [el_beq, BitVec.ofNat_toNat, BitVec.setWidth_eq, gm_over hb]; simp
theorem el_ne0 {b : BitVec 8} (hb : b ≠ 0#8) : (el b == 0) = false := by
  rw [show (0 : Int) = el 0#8 from rfl, el_beq]; simpa using hb

section
attribute [local irreducible] el gm Calls bv
set_option maxRecDepth 1000000 in
theorem refOver_core (a b : BitVec 8) (K : Nat) (hK : K < 256) (h0 : (el b == 0) = false) (hbef : Hid (∀ k, k < K → (el (gm (bv k) b) == el a) = false)) (hat : Hid ((el (gm (bv K) b) == el a) = true)) (w : World) :
    Calls Try.prog 53 #[.int .i64 (el a), .int .i64 (el b)] w fun e w' => e = .returned (.tuple #[.int .i64 K, .int .i64 0]) ∧ w' = w := by
  go_enter Try.func53, Try.ntmps53
  go_wp2
  go_loop [6] (fun i => ∃ k : Nat, k ≤ K ∧ i = .int .i64 k) (fun i => 256 - (intOf i).toNat)
  case atStart => exact ⟨0, by omega, rfl⟩
  case round =>
    obtain ⟨k, hk, rfl⟩ := hrel
    by_cases hlt : k < K
    · have ht := hbef.out k hlt
      go_wp2_with (go_at_call 40; refine (refTimes_nat k (by omega) b _).mono ?_; rintro e w' ⟨rfl, rfl⟩)
      go_round
      case rel => exact ⟨k + 1, by omega, by go_num⟩
      case measure => simp [intOf]; omega
    · obtain rfl : k = K := by omega
      have ht := hat.out
      go_wp2_with (go_at_call 40; refine (refTimes_nat k (by omega) b _).mono ?_; rintro e w' ⟨rfl, rfl⟩)
      go_ret2
      exact ⟨rfl, rfl⟩
end
theorem refOver_any (a b : BitVec 8) (hb : b ≠ 0#8) (w : World) :
    Calls Try.prog 53 #[.int .i64 (el a), .int .i64 (el b)] w fun e w' => e = .returned (.tuple #[.int .i64 (el (gm a (inv b))), .int .i64 0]) ∧ w' = w :=
  refOver_core a b (gm a (inv b)).toNat (gm a (inv b)).isLt (el_ne0 hb) (fun _ h => over_before hb h) (over_at hb) w
end Go.Proofs.Ytienknoahjhopaa
