/-
  Orders; the document's powers, logarithm and order; package field's Order.
-/
import Derived.Test.YtgienaikcpcpeaaDoorPow
import Derived.Test.YtgienaikcpcpeaaDoorRefT
namespace Go.Proofs.YtgienaikcpcpeaaDoor
open Go.RowKit

theorem el_ne0 {b : BitVec 8} (hb : b ≠ 0#8) : (el b == 0) = false := by
  rw [show (0 : Int) = el 0#8 from rfl, el_beq]; simpa using hb
theorem el_w64 (a : BitVec 8) : wrap64 (el a) = el a := by have := el_bd a; unfold wrap64; omega
theorem el_eqt {a b : BitVec 8} (h : a = b) : (el a == el b) = true := by rw [h]; simp
theorem el_nef {a b : BitVec 8} (h : a = b) : (el a != el b) = false := by rw [h]; simp
theorem bt {u v x : World} (h : Below u.heap.size u v) (k : Below v.heap.size v x) : Below u.heap.size u x := h.trans (k.mono h.size)

/-- The order of the power number l of the generator. -/
def ordL (l : Nat) : Nat := 255 / Nat.gcd 255 l
def ods : List Nat := [1, 3, 5, 15, 17, 51, 85, 255]
def odi (l : Nat) : Nat := ods.findIdx (· == ordL l)
theorem ord_all : ((List.range 255).all fun l => (List.range 256).all fun n => (l * n % 255 == 0) == (n % ordL l == 0)) = true := by decide +kernel
theorem ord_iff {l n : Nat} (hl : l < 255) (hn : n < 256) : (l * n % 255 = 0) ↔ (n % ordL l = 0) := by
  have h := List.all_eq_true.1 (List.all_eq_true.1 ord_all l (List.mem_range.2 hl)) n (List.mem_range.2 hn)
  have h2 := eq_of_beq h
  have h3 := Bool.eq_iff_iff.1 h2
  simpa using h3
theorem odi_all : ((List.range 255).all fun l => decide (odi l < 8) && (ods.getD (odi l) 0 == ordL l) && decide (1 ≤ ordL l) && decide (ordL l < 256) && (255 % ordL l == 0) && (List.range 8).all fun j => !(decide (j < odi l)) || (decide (0 < ods.getD j 0) && decide (ods.getD j 0 < ordL l))) = true := by decide +kernel
theorem odi_facts {l : Nat} (hl : l < 255) : odi l < 8 ∧ ods.getD (odi l) 0 = ordL l ∧ 1 ≤ ordL l ∧ ordL l < 256 ∧ 255 % ordL l = 0 ∧ ∀ j, j < odi l → 0 < ods.getD j 0 ∧ ods.getD j 0 < ordL l := by
  have h := List.all_eq_true.1 odi_all l (List.mem_range.2 hl)
  simp only [Bool.and_eq_true, decide_eq_true_eq, beq_iff_eq, List.all_eq_true, List.mem_range, Bool.or_eq_true, Bool.not_eq_true', decide_eq_false_iff_not] at h
  obtain ⟨⟨⟨⟨⟨h1, h2⟩, h3⟩, h4⟩, h5⟩, h6⟩ := h
  refine ⟨h1, h2, h3, h4, h5, fun j hj => ?_⟩
  rcases h6 j (by omega) with h | h
  · exact absurd hj h
  · exact h
theorem pw_one_iff (n : Nat) : pw n = 1#8 ↔ n % 255 = 0 := by
  constructor
  · intro h; have := pw_inj (m := n) (n := 0) h; simpa using this
  · intro h; rw [← pw_mod, h]; rfl
theorem gpow_nat {a : BitVec 8} (ha : a ≠ 0#8) (n : Nat) : gpow a (n : Int) = pw (lg a * n) := by
  unfold gpow
  by_cases h : (n : Int) = 0
  · rw [if_pos h, show n = 0 by omega]; rfl
  · rw [if_neg h, if_neg ha]; unfold pwM
    have e : ((lg a : Int) * ((n : Int) % 255) % 255).toNat = (lg a * n) % 255 := by
      have : (lg a : Int) * ((n : Int) % 255) = ((lg a * (n % 255) : Nat) : Int) := by simp
      rw [this]
      have h2 : lg a * (n % 255) % 255 = lg a * n % 255 := by rw [Nat.mul_mod, Nat.mod_mod, ← Nat.mul_mod]
      omega
    rw [e, pw_mod]
theorem gpow_one_iff {a : BitVec 8} (ha : a ≠ 0#8) {n : Nat} (hn : n < 256) : gpow a (n : Int) = 1#8 ↔ n % ordL (lg a) = 0 := by
  rw [gpow_nat ha, pw_one_iff, ord_iff (lg_lt ha) hn]
/-- The product of n times a. -/
def npow (a : BitVec 8) : Nat → BitVec 8
  | 0 => 1#8
  | n + 1 => gm (npow a n) a
theorem npow_pw {a : BitVec 8} (ha : a ≠ 0#8) (n : Nat) : npow a n = pw (lg a * n) := by
  induction n with
  | zero => rfl
  | succ n ih =>
    show gm (npow a n) a = _
    rw [ih, Nat.mul_succ, pw_add, pw_lg ha]

/-! ### The document's answers -/
set_option maxRecDepth 1000000 in
theorem refTimesN_any (a : BitVec 8) (n : Nat) (hn : n ≤ 255) (w : World) :
    Calls Tryd.prog 18 #[.int .i64 (el a), .int .i64 n] w fun e w' => e = .returned (.int .i64 (el (npow a n))) ∧ w' = w := by
  go_enter Tryd.func18, Tryd.ntmps18
  go_wp2
  go_loop [5, 6] (fun p i => ∃ k : Nat, k ≤ n ∧ i = .int .i64 k ∧ p = .int .i64 (el (npow a k))) (fun _ i => n - (intOf i).toNat)
  case atStart => exact ⟨0, by omega, rfl, rfl⟩
  case round =>
    obtain ⟨k, hk, rfl, rfl⟩ := hrel
    by_cases hlt : k < n
    · go_wp2_with (go_at_call 16; refine (refTimes_any _ _ _).mono ?_; rintro e w' ⟨rfl, rfl⟩)
      go_round
      case rel => exact ⟨k + 1, by omega, by go_num, rfl⟩
      case measure => simp [intOf]; omega
    · obtain rfl : k = n := by omega
      go_wp2
      go_ret
      exact ⟨rfl, rfl⟩

theorem gpow_npow {a : BitVec 8} (ha : a ≠ 0#8) {n : Int} (hn : ¬ n = 0) : gpow a n = npow a (n % 255).toNat := by
  rw [npow_pw ha]; unfold gpow; rw [if_neg hn, if_neg ha]; unfold pwM
  have h : (lg a : Int) * (n % 255) = ((lg a * (n % 255).toNat : Nat) : Int) := by
    have : ((n % 255).toNat : Int) = n % 255 := by omega
    simp [this]
  rw [h, show (((lg a * (n % 255).toNat : Nat) : Int) % 255).toNat = (lg a * (n % 255).toNat) % 255 by omega, pw_mod]
theorem tmod_nonneg {n : Int} (h : ¬ n.tmod 255 < 0) : n.tmod 255 = ((n % 255).toNat : Int) := by
  have h3 : n = 255 * n.tdiv 255 + n.tmod 255 := (Int.mul_tdiv_add_tmod n 255).symm
  have h1 := Int.tmod_lt_of_pos n (show (0 : Int) < 255 by omega)
  omega
theorem tmod_neg {n : Int} (h : n.tmod 255 < 0) : wrap64 (n.tmod 255 + 255) = ((n % 255).toNat : Int) := by
  have h3 : n = 255 * n.tdiv 255 + n.tmod 255 := (Int.mul_tdiv_add_tmod n 255).symm
  have h2 := Int.tmod_lt_of_pos (-n) (show (0 : Int) < 255 by omega)
  rw [Int.neg_tmod] at h2
  unfold wrap64
  omega
theorem refTimesN_at (a : BitVec 8) (m : Int) (n : Nat) (hn : n ≤ 255) (hm : m = (n : Int)) (w : World) :
    Calls Tryd.prog 18 #[.int .i64 (el a), .int .i64 m] w fun e w' => e = .returned (.int .i64 (el (npow a n))) ∧ w' = w := by
  rw [hm]; exact refTimesN_any a n hn w

theorem refPow_any (a : BitVec 8) (n : Int) (w : World) :
    Calls Tryd.prog 12 #[.int .i64 (el a), .int .i64 n] w fun e w' => e = .returned (.int .i64 (el (gpow a n))) ∧ w' = w := by
  by_cases hn : n = 0
  · subst hn
    go_enter Tryd.func12, Tryd.ntmps12
    go_wp2
    go_ret
    exact ⟨rfl, rfl⟩
  · have hn' : (n == 0) = false := by simpa using hn
    by_cases ha : a = 0#8
    · have h0 : (el a == 0) = true := by rw [ha]; rfl
      go_enter Tryd.func12, Tryd.ntmps12
      go_wp2
      go_ret
      exact ⟨by unfold gpow; rw [if_neg hn, if_pos ha]; rfl, rfl⟩
    · have h0 := el_ne0 ha
      have H : Hid (gpow a n = npow a (n % 255).toNat) := gpow_npow ha hn
      have hlt : (n % 255).toNat ≤ 255 := by omega
      by_cases hneg : n.tmod 255 < 0
      · have HM : Hid (wrap64 (n.tmod 255 + 255) = ((n % 255).toNat : Int)) := tmod_neg hneg
        go_enter Tryd.func12, Tryd.ntmps12
        go_wp2_with (go_at_call 18; refine (refTimesN_at _ _ _ hlt HM _).mono ?_; rintro e w' ⟨rfl, rfl⟩)
        go_ret
        exact ⟨by rw [H.out]; rfl, rfl⟩
      · have HM : Hid (n.tmod 255 = ((n % 255).toNat : Int)) := tmod_nonneg hneg
        go_enter Tryd.func12, Tryd.ntmps12
        go_wp2_with (go_at_call 18; refine (refTimesN_at _ _ _ hlt HM _).mono ?_; rintro e w' ⟨rfl, rfl⟩)
        go_ret
        exact ⟨by rw [H.out]; rfl, rfl⟩
end Go.Proofs.YtgienaikcpcpeaaDoor
