/-
  The document's logarithm and order; package field's Order.
-/
import Derived.Test.YtgienaikcpcpeaaDoorOrd
namespace Go.Proofs.YtgienaikcpcpeaaDoor
open Go.RowKit

theorem lg_two : lg 2#8 = 1 := by decide +kernel
theorem gpow_two (n : Int) : gpow 2#8 n = pwM n := by
  unfold gpow
  by_cases h : n = 0
  · rw [if_pos h, h]; rfl
  · rw [if_neg h, if_neg (by decide), lg_two]; unfold pwM; congr 1; omega
theorem refPow_two (n : Int) (w : World) :
    Calls Tryd.prog 12 #[.int .i64 2, .int .i64 n] w fun e w' => e = .returned (.int .i64 (el (pwM n))) ∧ w' = w := by
  have h := refPow_any 2#8 n w
  rw [gpow_two] at h
  exact h
theorem refExp_any (n : Int) (w : World) :
    Calls Tryd.prog 10 #[.int .i64 n] w fun e w' => e = .returned (.int .i64 (el (pwM n))) ∧ w' = w := by
  go_enter Tryd.func10, Tryd.ntmps10
  go_wp2_with (go_at_call 12; refine (refPow_two _ _).mono ?_; rintro e w' ⟨rfl, rfl⟩)
  go_ret
  exact ⟨rfl, rfl⟩

theorem pw_succ2 (k : Nat) : gm (pw k) 2#8 = pw (k + 1) := by
  have h := gm_pw k 1
  rwa [show pw 1 = 2#8 by decide] at h
theorem refTimes_two (k : Nat) (w : World) :
    Calls Tryd.prog 16 #[.int .i64 (el (pw k)), .int .i64 2] w fun e w' => e = .returned (.int .i64 (el (pw (k + 1)))) ∧ w' = w := by
  have h := refTimes_any (pw k) 2#8 w
  rw [pw_succ2] at h
  exact h
set_option maxRecDepth 1000000 in
theorem refLog_core (a : BitVec 8) (K : Nat) (hK : K < 255) (h0 : (el a == 0) = false) (hbef : Hid (∀ k : Nat, k < K → (el (pw k) == el a) = false)) (hat : Hid ((el (pw K) == el a) = true)) (w : World) :
    Calls Tryd.prog 6 #[.int .i64 (el a)] w fun e w' => e = .returned (.tuple #[.int .i64 K, .int .i64 0]) ∧ w' = w := by
  go_enter Tryd.func6, Tryd.ntmps6
  go_wp2
  go_loop [4, 5] (fun p i => ∃ k : Nat, k ≤ K ∧ i = .int .i64 k ∧ p = .int .i64 (el (pw k))) (fun _ i => 256 - (intOf i).toNat)
  case atStart => exact ⟨0, by omega, rfl, rfl⟩
  case round =>
    obtain ⟨k, hk, rfl, rfl⟩ := hrel
    by_cases hlt : k < K
    · have ht := hbef.out k hlt
      go_wp2_with (go_at_call 16; refine (refTimes_two _ _).mono ?_; rintro e w' ⟨rfl, rfl⟩)
      go_round
      case rel => exact ⟨k + 1, by omega, by go_num, rfl⟩
      case measure => simp [intOf]; omega
    · obtain rfl : k = K := by omega
      have ht := hat.out
      go_wp2
      go_ret2
      exact ⟨rfl, rfl⟩
theorem refLog_any (a : BitVec 8) (ha : a ≠ 0#8) (w : World) :
    Calls Tryd.prog 6 #[.int .i64 (el a)] w fun e w' => e = .returned (.tuple #[.int .i64 (lg a), .int .i64 0]) ∧ w' = w :=
  refLog_core a (lg a) (lg_lt ha) (el_ne0 ha) (fun _ h => pw_before h (by have := lg_lt ha; omega)) (pw_at ha) w
theorem refLog_zero (a : BitVec 8) (ha : Hid (a = 0#8)) (w : World) :
    Calls Tryd.prog 6 #[.int .i64 (el a)] w fun e w' => e = .returned (.tuple #[.int .i64 0, .int .i64 10]) ∧ w' = w := by
  have h0 : (el a == 0) = true := by rw [ha.out]; rfl
  go_enter Tryd.func6, Tryd.ntmps6
  go_wp2
  go_ret2
  exact ⟨rfl, rfl⟩

theorem npow_one (a : BitVec 8) : npow a 1 = a := gm_one_l a
set_option maxRecDepth 1000000 in
theorem refOrder_core (a : BitVec 8) (K : Nat) (hK : K < 256) (h1 : 1 ≤ K) (h0 : (el a == 0) = false) (hbef : Hid (∀ k, 1 ≤ k → k < K → (el (npow a k) == 1) = false)) (hat : Hid ((el (npow a K) == 1) = true)) (w : World) :
    Calls Tryd.prog 8 #[.int .i64 (el a)] w fun e w' => e = .returned (.tuple #[.int .i64 K, .int .i64 0]) ∧ w' = w := by
  go_enter Tryd.func8, Tryd.ntmps8
  go_wp2
  go_loop [4, 5] (fun p i => ∃ k : Nat, 1 ≤ k ∧ k ≤ K ∧ i = .int .i64 k ∧ p = .int .i64 (el (npow a k))) (fun _ i => 256 - (intOf i).toNat)
  case atStart => exact ⟨1, by omega, by omega, rfl, by rw [npow_one]⟩
  case round =>
    obtain ⟨k, hk1, hk, rfl, rfl⟩ := hrel
    by_cases hlt : k < K
    · have ht := hbef.out k hk1 hlt
      go_wp2_with (go_at_call 16; refine (refTimes_any _ _ _).mono ?_; rintro e w' ⟨rfl, rfl⟩)
      go_round
      case rel => exact ⟨k + 1, by omega, by omega, by go_num, rfl⟩
      case measure => simp [intOf]; omega
    · obtain rfl : k = K := by omega
      have ht := hat.out
      go_wp2
      go_ret2
      exact ⟨rfl, rfl⟩
theorem el_one_iff (a : BitVec 8) : (el a == 1) = (a == 1#8) := by rw [show (1 : Int) = el 1#8 from rfl, el_beq]
theorem npow_test {a : BitVec 8} (ha : a ≠ 0#8) {n : Nat} (hn : n < 256) : (el (npow a n) == 1) = (n % ordL (lg a) == 0) := by
  rw [el_one_iff, npow_pw ha, Bool.eq_iff_iff]
  simp only [beq_iff_eq]
  rw [pw_one_iff, ord_iff (lg_lt ha) hn]
theorem gpow_test {a : BitVec 8} (ha : a ≠ 0#8) {n : Nat} (hn : n < 256) : (el (gpow a (n : Int)) == 1) = (n % ordL (lg a) == 0) := by
  rw [gpow_nat ha, ← npow_pw ha, npow_test ha hn]
theorem refOrder_any (a : BitVec 8) (ha : a ≠ 0#8) (w : World) :
    Calls Tryd.prog 8 #[.int .i64 (el a)] w fun e w' => e = .returned (.tuple #[.int .i64 (ordL (lg a)), .int .i64 0]) ∧ w' = w := by
  obtain ⟨_, _, h3, h4, _, _⟩ := odi_facts (lg_lt ha)
  refine refOrder_core a (ordL (lg a)) h4 h3 (el_ne0 ha) (fun k hk1 hk => ?_) ?_ w
  · rw [npow_test ha (by omega), Nat.mod_eq_of_lt hk]; simp; omega
  · show _ = true
    rw [npow_test ha h4, Nat.mod_self]; rfl
theorem refOrder_zero (a : BitVec 8) (ha : Hid (a = 0#8)) (w : World) :
    Calls Tryd.prog 8 #[.int .i64 (el a)] w fun e w' => e = .returned (.tuple #[.int .i64 0, .int .i64 10]) ∧ w' = w := by
  have h0 : (el a == 0) = true := by rw [ha.out]; rfl
  go_enter Tryd.func8, Tryd.ntmps8
  go_wp2
  go_ret2
  exact ⟨rfl, rfl⟩

/-! ### field.Order -/
def odC : Array Value := (ods.map fun (n : Nat) => Value.int .i64 (n : Int)).toArray
/-- The variable holds the orders. -/
def OrdAt (w : World) : Prop := ∀ (j : Nat) v, odC.toList[j]? = some v → w.cell? ⟨0, j, none⟩ = some v
theorem OrdAt.below {w w' : World} (h : OrdAt w) (hb : Below w.heap.size w w') : OrdAt w' := fun j v hv => by
  have h1 := h j v hv
  rw [hb.cell (p := ⟨0, j, none⟩) (block_lt_of_cell h1)]; exact h1
theorem OrdAt.cells {w : World} (h : OrdAt w) : w.cell? ⟨0, 0, none⟩ = some (.int .i64 1) ∧ w.cell? ⟨0, 1, none⟩ = some (.int .i64 3) ∧ w.cell? ⟨0, 2, none⟩ = some (.int .i64 5) ∧ w.cell? ⟨0, 3, none⟩ = some (.int .i64 15) ∧ w.cell? ⟨0, 4, none⟩ = some (.int .i64 17) ∧ w.cell? ⟨0, 5, none⟩ = some (.int .i64 51) ∧ w.cell? ⟨0, 6, none⟩ = some (.int .i64 85) ∧ w.cell? ⟨0, 7, none⟩ = some (.int .i64 255) :=
  ⟨h 0 _ rfl, h 1 _ rfl, h 2 _ rfl, h 3 _ rfl, h 4 _ rfl, h 5 _ rfl, h 6 _ rfl, h 7 _ rfl⟩
theorem index_orders : ∀ (k : Nat), k < 8 → ∀ (w : World), (Instr.index 39 (.agg #[.int .i64 1, .int .i64 3, .int .i64 5, .int .i64 15, .int .i64 17, .int .i64 51, .int .i64 85, .int .i64 255]) (.int .i64 (k : Int))).run Tryd.prog w = .ok (.int .i64 ((ods.getD k 0 : Nat) : Int)) w
  | 0, _, _ => by kernel_rfl
  | 1, _, _ => by kernel_rfl
  | 2, _, _ => by kernel_rfl
  | 3, _, _ => by kernel_rfl
  | 4, _, _ => by kernel_rfl
  | 5, _, _ => by kernel_rfl
  | 6, _, _ => by kernel_rfl
  | 7, _, _ => by kernel_rfl
  | k + 8, h, _ => by omega

section
attribute [local irreducible] el gpow Calls
set_option maxRecDepth 1000000 in
theorem order_core (a : BitVec 8) (K : Nat) (hK : K < 8) (g : Nat → Nat) (hg : Hid (∀ k : Nat, k < 8 → ∀ (w : World), (Instr.index 39 (.agg #[.int .i64 1, .int .i64 3, .int .i64 5, .int .i64 15, .int .i64 17, .int .i64 51, .int .i64 85, .int .i64 255]) (.int .i64 (k : Int))).run Tryd.prog w = .ok (.int .i64 ((g k : Nat) : Int)) w)) (hbef : Hid (∀ k : Nat, k < K → (el (gpow a (g k : Int)) == 1) = false)) (hat : Hid ((el (gpow a (g K : Int)) == 1) = true)) (w : World) (hO : Hid (OrdAt w)) :
    Calls Tryd.prog 7 #[.int .u8 (el a)] w fun e w' => e = .returned (.tuple #[.int .i64 (g K), .int .i64 0]) ∧ Below w.heap.size w w' := by
  obtain ⟨c0, c1, c2, c3, c4, c5, c6, c7⟩ := hO.out.cells
  go_enter Tryd.func7, Tryd.ntmps7
  go_wp2
  clear c0 c1 c2 c3 c4 c5 c6 c7
  go_loopw [7] (fun i wr => ∃ k : Nat, k ≤ K ∧ i = .int .i64 k ∧ Below w.heap.size w wr) (fun i _ => 8 - (intOf i).toNat)
  case atStart => exact ⟨0, by omega, rfl, Below.refl _ _⟩
  case round =>
    obtain ⟨k, hk, rfl, hb⟩ := hrel
    have hx := hg.out k (by omega)
    by_cases hlt : k < K
    · have ht := hbef.out k hlt
      go_wp2_with (go_at_call 11; refine (pow_any _ _ _).mono ?_; rintro e w' ⟨rfl, hb2⟩)
      go_roundw
      case rel => exact ⟨k + 1, by omega, by go_num, hb.trans (hb2.mono hb.size)⟩
      case measure => simp [intOf]; omega
    · obtain rfl : k = K := by omega
      have ht := hat.out
      go_wp2_with (go_at_call 11; refine (pow_any _ _ _).mono ?_; rintro e w' ⟨rfl, hb2⟩)
      go_ret2
      exact ⟨rfl, hb.trans (hb2.mono hb.size)⟩
theorem gpow_zero {a : BitVec 8} (ha : a = 0#8) {n : Int} (hn : ¬ n = 0) : gpow a n = 0#8 := by unfold gpow; rw [if_neg hn, if_pos ha]
set_option maxRecDepth 1000000 in
theorem order_zero_core (a : BitVec 8) (g : Nat → Nat) (hg : Hid (∀ k : Nat, k < 8 → ∀ (w : World), (Instr.index 39 (.agg #[.int .i64 1, .int .i64 3, .int .i64 5, .int .i64 15, .int .i64 17, .int .i64 51, .int .i64 85, .int .i64 255]) (.int .i64 (k : Int))).run Tryd.prog w = .ok (.int .i64 ((g k : Nat) : Int)) w)) (hbef : Hid (∀ k : Nat, k < 8 → (el (gpow a (g k : Int)) == 1) = false)) (w : World) (hO : Hid (OrdAt w)) :
    Calls Tryd.prog 7 #[.int .u8 (el a)] w fun e w' => e = .returned (.tuple #[.int .i64 0, .int .i64 10]) ∧ Below w.heap.size w w' := by
  obtain ⟨c0, c1, c2, c3, c4, c5, c6, c7⟩ := hO.out.cells
  go_enter Tryd.func7, Tryd.ntmps7
  go_wp2
  clear c0 c1 c2 c3 c4 c5 c6 c7
  go_loopw [7] (fun i wr => ∃ k : Nat, k ≤ 8 ∧ i = .int .i64 k ∧ Below w.heap.size w wr) (fun i _ => 8 - (intOf i).toNat)
  case atStart => exact ⟨0, by omega, rfl, Below.refl _ _⟩
  case round =>
    obtain ⟨k, hk, rfl, hb⟩ := hrel
    by_cases hlt : k < 8
    · have hx := hg.out k (by omega)
      have ht := hbef.out k hlt
      go_wp2_with (go_at_call 11; refine (pow_any _ _ _).mono ?_; rintro e w' ⟨rfl, hb2⟩)
      go_roundw
      case rel => exact ⟨k + 1, by omega, by go_num, hb.trans (hb2.mono hb.size)⟩
      case measure => simp [intOf]; omega
    · go_wp2
      go_ret2
      exact ⟨rfl, hb⟩
end
theorem order_any (a : BitVec 8) (ha : a ≠ 0#8) (w : World) (hO : Hid (OrdAt w)) :
    Calls Tryd.prog 7 #[.int .u8 (el a)] w fun e w' => e = .returned (.tuple #[.int .i64 (ordL (lg a)), .int .i64 0]) ∧ Below w.heap.size w w' := by
  obtain ⟨h1, h2, h3, h4, _, h6⟩ := odi_facts (lg_lt ha)
  have h := order_core a (odi (lg a)) h1 (fun k => ods.getD k 0) index_orders (fun k hk => by
    have h7 := h6 k hk
    show (el (gpow a ((ods.getD k 0 : Nat) : Int)) == 1) = false
    rw [gpow_test ha (by omega), Nat.mod_eq_of_lt h7.2, beq_eq_false_iff_ne]; omega) (by
    show (el (gpow a ((ods.getD (odi (lg a)) 0 : Nat) : Int)) == 1) = true
    rw [h2, gpow_test ha h4, Nat.mod_self]; rfl) w hO
  rwa [h2] at h
theorem ods_pos : ∀ k, k < 8 → ¬ ((ods.getD k 0 : Nat) : Int) = 0
  | 0, _ => by decide
  | 1, _ => by decide
  | 2, _ => by decide
  | 3, _ => by decide
  | 4, _ => by decide
  | 5, _ => by decide
  | 6, _ => by decide
  | 7, _ => by decide
  | k + 8, h => by omega
theorem order_zero (a : BitVec 8) (ha : Hid (a = 0#8)) (w : World) (hO : Hid (OrdAt w)) :
    Calls Tryd.prog 7 #[.int .u8 (el a)] w fun e w' => e = .returned (.tuple #[.int .i64 0, .int .i64 10]) ∧ Below w.heap.size w w' :=
  order_zero_core a (fun k => ods.getD k 0) index_orders (fun k hk => by
    show (el (gpow a ((ods.getD k 0 : Nat) : Int)) == 1) = false
    rw [gpow_zero ha.out (ods_pos k hk)]; rfl) w hO
end Go.Proofs.YtgienaikcpcpeaaDoor
