/-
  Numbers of a width, the lowest byte first: mathematics.
-/
import Derived.Test.YtmcbeikgdcgdcaaRw
namespace Go.Proofs.Ytmcbeikgdcgdcaa
/-- The number whose bytes these are, the lowest first. -/
def lv : List (BitVec 8) → Nat
  | [] => 0
  | x :: xs => x.toNat + 256 * lv xs
/-- A number's bytes, the lowest first. -/
def lb : Nat → Nat → List (BitVec 8)
  | 0, _ => []
  | n + 1, v => BitVec.ofNat 8 v :: lb n (v / 256)
theorem lb_len (n v : Nat) : (lb n v).length = n := by
  induction n generalizing v with
  | zero => rfl
  | succ n ih => show (lb n (v / 256)).length + 1 = _; rw [ih]
theorem lv_lt (xs : List (BitVec 8)) : lv xs < 256 ^ xs.length := by
  induction xs with
  | nil => exact Nat.one_pos
  | cons x xs ih =>
    have := x.isLt
    show x.toNat + 256 * lv xs < 256 ^ (xs.length + 1)
    rw [Nat.pow_succ]
    omega
theorem lv_lb (n v : Nat) (h : v < 256 ^ n) : lv (lb n v) = v := by
  induction n generalizing v with
  | zero => simp at h; subst h; rfl
  | succ n ih =>
    show (BitVec.ofNat 8 v).toNat + 256 * lv (lb n (v / 256)) = v
    rw [ih (v / 256) (by rw [Nat.pow_succ] at h; omega), BitVec.toNat_ofNat]
    omega
theorem lb_lv (xs : List (BitVec 8)) : lb xs.length (lv xs) = xs := by
  induction xs with
  | nil => rfl
  | cons x xs ih =>
    have hx := x.isLt
    show BitVec.ofNat 8 (x.toNat + 256 * lv xs) :: lb xs.length ((x.toNat + 256 * lv xs) / 256) = _
    rw [show (x.toNat + 256 * lv xs) / 256 = lv xs by omega, ih]
    congr 1
    apply BitVec.eq_of_toNat_eq
    rw [BitVec.toNat_ofNat]; omega
theorem lv_snoc (xs : List (BitVec 8)) (x : BitVec 8) : lv (xs ++ [x]) = lv xs + x.toNat * 256 ^ xs.length := by
  induction xs with
  | nil => show x.toNat + 256 * 0 = 0 + _; simp
  | cons y xs ih =>
    show y.toNat + 256 * lv (xs ++ [x]) = y.toNat + 256 * lv xs + x.toNat * 256 ^ (xs.length + 1)
    rw [ih, Nat.mul_add, Nat.pow_succ, Nat.mul_comm (256 ^ xs.length) 256, Nat.mul_left_comm]
    omega
theorem lb_snoc (n v : Nat) : lb (n + 1) v = lb n v ++ [BitVec.ofNat 8 (v / 256 ^ n)] := by
  induction n generalizing v with
  | zero => simp [lb]
  | succ n ih =>
    show BitVec.ofNat 8 v :: lb (n + 1) (v / 256) = BitVec.ofNat 8 v :: (lb n (v / 256) ++ _)
    rw [ih (v / 256), Nat.div_div_eq_div_mul, Nat.pow_succ, Nat.mul_comm 256]
end Go.Proofs.Ytmcbeikgdcgdcaa
/-
  Numbers of a width: mathematics; 'width'.
-/
namespace Go.Proofs.Ytmcbeikgdcgdcaa
open Go.RowKit
/-- A number of so many bytes. -/
def fx (n : Nat) (bs : List (BitVec 8)) : Ans Nat := match tk n bs with
  | .error e => .error e
  | .ok (xs, l) => .ok ((lv xs), l)
theorem fx_lt {n v : Nat} {bs l : List (BitVec 8)} (h : fx n bs = .ok (v, l)) : v < 256 ^ n := by
  unfold fx tk at h
  by_cases e : bs.length < n
  · rw [if_pos e] at h; cases h
  · rw [if_neg e] at h
    injection h with h; injection h with h1 h2
    subst h1
    have := lv_lt (bs.take n)
    rwa [List.length_take, Nat.min_eq_left (by omega)] at this
theorem num_bits (s d i : Nat) (h : s < 256 ^ i) (hb : s + d * 256 ^ i < 18446744073709551616) : bits .or .u64 (s : Int) (IntKind.u64.wrap ((d : Int) * 2 ^ (8 * i))) = ((s + d * 256 ^ i : Nat) : Int) := by
  have e : (2 : Int) ^ (8 * i) = ((256 ^ i : Nat) : Int) := by rw [Int.pow_mul]; simp
  have e2 : 256 ^ i = 2 ^ (8 * i) := by rw [Nat.pow_mul]
  have od : s ||| d * 256 ^ i = s + d * 256 ^ i := by
    rw [e2] at h ⊢
    rw [← Nat.shiftLeft_eq, Nat.or_comm, ← Nat.shiftLeft_add_eq_or_of_lt h, Nat.add_comm]
  rw [e, ← Int.natCast_mul, IntKind.wrap_u64, show ((d * 256 ^ i : Nat) : Int) % 18446744073709551616 = ((d * 256 ^ i : Nat) : Int) by omega, bits_or_u64_nat _ _ (by omega) (by omega), od]
theorem pow256 (n : Nat) (h : n ≤ 8) : 256 ^ n ≤ 18446744073709551616 := Nat.le_trans (Nat.pow_le_pow_right (by omega) h) (by decide)
section
attribute [local irreducible] Calls el
set_option maxRecDepth 1000000 in
theorem width8_any (w : World) : Calls Try.prog 80 #[] w fun e w' => e = .returned (.int .i64 1) ∧ w' = w := by
  go_enter Try.func80, Try.ntmps80
  go_wp2
  refine wp_loop_rounds 2 ?_
  rw [rounds_succ]
  go_wp2
  rw [rounds_succ]
  go_wp2
  go_ret
  exact ⟨rfl, rfl⟩
set_option maxRecDepth 1000000 in
theorem width16_any (w : World) : Calls Try.prog 81 #[] w fun e w' => e = .returned (.int .i64 2) ∧ w' = w := by
  go_enter Try.func81, Try.ntmps81
  go_wp2
  refine wp_loop_rounds 3 ?_
  rw [rounds_succ]
  go_wp2
  rw [rounds_succ]
  go_wp2
  rw [rounds_succ]
  go_wp2
  go_ret
  exact ⟨rfl, rfl⟩
set_option maxRecDepth 1000000 in
theorem width32_any (w : World) : Calls Try.prog 82 #[] w fun e w' => e = .returned (.int .i64 4) ∧ w' = w := by
  go_enter Try.func82, Try.ntmps82
  go_wp2
  refine wp_loop_rounds 5 ?_
  rw [rounds_succ]
  go_wp2
  rw [rounds_succ]
  go_wp2
  rw [rounds_succ]
  go_wp2
  rw [rounds_succ]
  go_wp2
  rw [rounds_succ]
  go_wp2
  go_ret
  exact ⟨rfl, rfl⟩
set_option maxRecDepth 1000000 in
theorem width64_any (w : World) : Calls Try.prog 83 #[] w fun e w' => e = .returned (.int .i64 8) ∧ w' = w := by
  go_enter Try.func83, Try.ntmps83
  go_wp2
  refine wp_loop_rounds 9 ?_
  rw [rounds_succ]
  go_wp2
  rw [rounds_succ]
  go_wp2
  rw [rounds_succ]
  go_wp2
  rw [rounds_succ]
  go_wp2
  rw [rounds_succ]
  go_wp2
  rw [rounds_succ]
  go_wp2
  rw [rounds_succ]
  go_wp2
  rw [rounds_succ]
  go_wp2
  rw [rounds_succ]
  go_wp2
  go_ret
  exact ⟨rfl, rfl⟩
set_option maxRecDepth 1000000 in
theorem widtht_any (w : World) : Calls Try.prog 84 #[] w fun e w' => e = .returned (.int .i64 2) ∧ w' = w := by
  go_enter Try.func84, Try.ntmps84
  go_wp2
  refine wp_loop_rounds 3 ?_
  rw [rounds_succ]
  go_wp2
  rw [rounds_succ]
  go_wp2
  rw [rounds_succ]
  go_wp2
  go_ret
  exact ⟨rfl, rfl⟩
end
end Go.Proofs.Ytmcbeikgdcgdcaa
