/-
  Numbers of a width: mathematics; 'width'.
-/
import Derived.Test.YtfcjkaigmlfjnaaRw
import Derived.Test.YtfcjkaigmlfjnaaLv
namespace Go.Proofs.Ytfcjkaigmlfjnaa
open Go.RowKit
/-- A number of so many bytes. -/
def fx (n : Nat) (bs : List (BitVec 8)) : Ans Nat := match tk n bs with
  | .error e => .error e
  | .ok (xs, l) => .ok ((lv xs), l)
theorem fx_lt {n v : Nat} {bs l : List (BitVec 8)} (h : fx n bs = .ok (v, l)) : v < 256 ^ n := by
  unfold fx tk at h
  by_cases e : bs.length < n
  · rw [if_pos e] at h; cases h
  · rw [if_neg e] at h
    injection h with h; injection h with h1 h2
    subst h1
    have := lv_lt (bs.take n)
    rwa [List.length_take, Nat.min_eq_left (by omega)] at this
theorem num_bits (s d i : Nat) (h : s < 256 ^ i) (hb : s + d * 256 ^ i < 18446744073709551616) : bits .or .u64 (s : Int) (IntKind.u64.wrap ((d : Int) * 2 ^ (8 * i))) = ((s + d * 256 ^ i : Nat) : Int) := by
  have e : (2 : Int) ^ (8 * i) = ((256 ^ i : Nat) : Int) := by rw [Int.pow_mul]; simp
  have e2 : 256 ^ i = 2 ^ (8 * i) := by rw [Nat.pow_mul]
  have od : s ||| d * 256 ^ i = s + d * 256 ^ i := by
    rw [e2] at h ⊢
    rw [← Nat.shiftLeft_eq, Nat.or_comm, ← Nat.shiftLeft_add_eq_or_of_lt h, Nat.add_comm]
  rw [e, ← Int.natCast_mul, IntKind.wrap_u64, show ((d * 256 ^ i : Nat) : Int) % 18446744073709551616 = ((d * 256 ^ i : Nat) : Int) by omega, bits_or_u64_nat _ _ (by omega) (by omega), od]
theorem pow256 (n : Nat) (h : n ≤ 8) : 256 ^ n ≤ 18446744073709551616 := Nat.le_trans (Nat.pow_le_pow_right (by omega) h) (by decide)
section
attribute [local irreducible] Calls el
set_option maxRecDepth 1000000 in
theorem width8_any (w : World) : Calls Try.prog 41 #[] w fun e w' => e = .returned (.int .i64 1) ∧ w' = w := by
  go_enter Try.func41, Try.ntmps41
  go_wp2
  refine wp_loop_rounds 2 ?_
  rw [rounds_succ]
  go_wp2
  rw [rounds_succ]
  go_wp2
  go_ret
  exact ⟨rfl, rfl⟩
set_option maxRecDepth 1000000 in
theorem width32_any (w : World) : Calls Try.prog 43 #[] w fun e w' => e = .returned (.int .i64 4) ∧ w' = w := by
  go_enter Try.func43, Try.ntmps43
  go_wp2
  refine wp_loop_rounds 5 ?_
  rw [rounds_succ]
  go_wp2
  rw [rounds_succ]
  go_wp2
  rw [rounds_succ]
  go_wp2
  rw [rounds_succ]
  go_wp2
  rw [rounds_succ]
  go_wp2
  go_ret
  exact ⟨rfl, rfl⟩
end
end Go.Proofs.Ytfcjkaigmlfjnaa
