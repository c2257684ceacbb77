/-
  The walk of FieldCycle.
-/
import Derived.Test.YtgienaikcpcpeaaDoorPowers
import Derived.Lib.QuietBelow
import Derived.BigQuiet
namespace Go.Proofs.YtgienaikcpcpeaaDoor
open Go.RowKit

theorem pwM_eq {x y : Int} (h : x % 255 = y % 255) : pwM x = pwM y := by unfold pwM; rw [h]
theorem pwM_add (x y : Int) : gm (pwM x) (pwM y) = pwM (x + y) := by
  unfold pwM; rw [gm_pw]
  have h : ((x + y) % 255).toNat = ((x % 255).toNat + (y % 255).toNat) % 255 := by omega
  rw [h, pw_mod]
theorem tmod_mod (n : Int) : n.tmod 255 % 255 = n % 255 := by
  have h3 : n = 255 * n.tdiv 255 + n.tmod 255 := (Int.mul_tdiv_add_tmod n 255).symm
  omega
theorem tmod_bd (n : Int) : -255 < n.tmod 255 ∧ n.tmod 255 < 255 := by
  have := Int.tmod_lt_of_pos n (show (0 : Int) < 255 by omega)
  have h2 := Int.tmod_lt_of_pos (-n) (show (0 : Int) < 255 by omega)
  rw [Int.neg_tmod] at h2
  omega
theorem wrap_small {x : Int} (h : -1000 < x ∧ x < 1000) : wrap64 x = x := by unfold wrap64; omega
theorem gpow_int {a : BitVec 8} (ha : a ≠ 0#8) (n : Int) : gpow a n = pw (lg a * (n % 255).toNat) := by
  by_cases hn : n = 0
  · subst hn; rfl
  · rw [gpow_npow ha hn, npow_pw ha]
theorem gpow_add {a : BitVec 8} (ha : a ≠ 0#8) (k l : Int) : gm (gpow a k) (gpow a l) = gpow a (k + l) := by
  rw [gpow_int ha, gpow_int ha, gpow_int ha, gm_pw, ← Nat.mul_add, ← pw_mod, ← pw_mod (lg a * ((k + l) % 255).toNat)]
  have h : ((k + l) % 255).toNat = ((k % 255).toNat + (l % 255).toNat) % 255 := by omega
  rw [h, Nat.mul_mod_mod]
theorem dvd255 {O : Nat} (h5 : 255 % O = 0) (n : Int) : ((n % 255).toNat % O = 0) ↔ (n.tmod (O : Int) = 0) := by
  have hd : (O : Int) ∣ 255 := by
    have := Nat.dvd_of_mod_eq_zero h5
    exact Int.natCast_dvd_natCast.2 this
  have e1 : ((n % 255).toNat % O = 0) ↔ ((O : Int) ∣ n % 255) := by
    rw [← Nat.dvd_iff_mod_eq_zero, ← Int.natCast_dvd_natCast, Int.toNat_of_nonneg (Int.emod_nonneg _ (by omega))]
  rw [e1, ← Int.dvd_iff_tmod_eq_zero]
  rw [Int.emod_def]
  constructor
  · intro h
    have h2 : (O : Int) ∣ 255 * (n / 255) := Int.dvd_trans hd (Int.dvd_mul_right _ _)
    have := Int.dvd_add h h2
    rwa [show n - 255 * (n / 255) + 255 * (n / 255) = n by omega] at this
  · intro h
    exact Int.dvd_sub h (Int.dvd_trans hd (Int.dvd_mul_right _ _))
theorem gpow_cyc {a : BitVec 8} (ha : a ≠ 0#8) (n : Int) : (el (gpow a n) == 1) = (n.tmod (ordL (lg a) : Int) == 0) := by
  obtain ⟨_, _, _, _, h5, _⟩ := odi_facts (lg_lt ha)
  rw [el_one_iff, gpow_int ha, Bool.eq_iff_iff]
  simp only [beq_iff_eq]
  rw [pw_one_iff, ord_iff (lg_lt ha) (by omega), dvd255 h5]
theorem lg2 : ordL (lg 2#8) = 255 := by decide +kernel
theorem order_two (w : World) (hO : Hid (OrdAt w)) :
    Calls Tryd.prog 7 #[.int .u8 2] w fun e w' => e = .returned (.tuple #[.int .i64 255, .int .i64 0]) ∧ Below w.heap.size w w' := by
  have h := order_any 2#8 (by decide) w hO
  rw [lg2] at h
  exact h
theorem pow_two (n : Int) (w : World) :
    Calls Tryd.prog 11 #[.int .u8 2, .int .i64 n] w fun e w' => e = .returned (.int .u8 (el (pwM n))) ∧ Below w.heap.size w w' := by
  have h := pow_any 2#8 n w
  rw [gpow_two] at h
  exact h
theorem times_below (a b : BitVec 8) (w : World) :
    Calls Tryd.prog 14 #[.int .u8 (el a), .int .u8 (el b)] w fun e w' => e = .returned (.int .u8 (el (gm a b))) ∧ Below w.heap.size w w' :=
  (times_any a b w).mono fun _ _ ⟨h, k⟩ => ⟨h, k ▸ Below.refl _ _⟩

attribute [local irreducible] el gm inv gpow Calls pwM lg ordL OrdAt

set_option maxHeartbeats 4000000 in
theorem cycle_z (a : BitVec 8) (n m : Int) (ha : Hid (a = 0#8)) (w : World) (hO : Hid (OrdAt w)) :
    Calls Tryd.prog 4 #[.int .u8 (el a), .int .i64 n, .int .i64 m] w fun e w' => e = .returned (.bool true) ∧ Below w.heap.size w w' := by
  have h1 := el_nef (show gm (pwM (n.tmod 255)) (pwM (m.tmod 255)) = pwM (wrap64 (n.tmod 255 + m.tmod 255)) by rw [pwM_add, wrap_small (by have := tmod_bd n; have := tmod_bd m; omega)])
  have h2 := el_nef (pwM_eq (tmod_mod n)).symm
  have h3 := el_nef (show pwM (wrap64 (n.tmod 255 + 255)) = pwM (n.tmod 255) by rw [wrap_small (by have := tmod_bd n; omega)]; exact pwM_eq (by omega))
  have h10 : (el a == 0) = true := by rw [ha.out]; decide +kernel
  go_enter Tryd.func4, Tryd.ntmps4
  go_wp2_with (first | (go_at_call 13; refine (awake_any _).mono ?_; rintro e w1 ⟨rfl, hb1⟩; have hO1 : Hid (OrdAt w1) := OrdAt.below hO.out hb1) | (go_at_call 9; refine (exp_any _ _).mono ?_; rintro e w2 ⟨rfl, hb2⟩; have hO1 : Hid (OrdAt w2) := OrdAt.below hO1.out hb2) | (go_at_call 14; refine (times_any _ _ _).mono ?_; rintro e w' ⟨rfl, rfl⟩) | (go_at_call 7; refine (order_two _ hO1).mono ?_; rintro e w2 ⟨rfl, hb2⟩; have hO1 : Hid (OrdAt w2) := OrdAt.below hO1.out hb2) | (go_at_call 7; refine (order_zero _ ha _ hO1).mono ?_; rintro e w2 ⟨rfl, hb2⟩; have hO1 : Hid (OrdAt w2) := OrdAt.below hO1.out hb2) | (go_at_call 11; refine (pow_two _ _).mono ?_; rintro e w2 ⟨rfl, hb2⟩; have hO1 : Hid (OrdAt w2) := OrdAt.below hO1.out hb2) | (go_at_call 5; refine (log_zero' ha _).mono ?_; rintro e w2 ⟨rfl, hb2⟩; have hO1 : Hid (OrdAt w2) := OrdAt.below hO1.out hb2))
  go_ret
  refine ⟨rfl, ?_⟩
  repeat (first | assumption | (apply bt; assumption))
set_option maxRecDepth 100000 in
set_option maxHeartbeats 4000000 in
theorem cycle_nz (a : BitVec 8) (n m : Int) (ha : a ≠ 0#8) (w : World) (hO : Hid (OrdAt w)) :
    Calls Tryd.prog 4 #[.int .u8 (el a), .int .i64 n, .int .i64 m] w fun e w' => e = .returned (.bool true) ∧ Below w.heap.size w w' := by
  have h1 := el_nef (show gm (pwM (n.tmod 255)) (pwM (m.tmod 255)) = pwM (wrap64 (n.tmod 255 + m.tmod 255)) by rw [pwM_add, wrap_small (by have := tmod_bd n; have := tmod_bd m; omega)])
  have h2 := el_nef (pwM_eq (tmod_mod n)).symm
  have h3 := el_nef (show pwM (wrap64 (n.tmod 255 + 255)) = pwM (n.tmod 255) by rw [wrap_small (by have := tmod_bd n; omega)]; exact pwM_eq (by omega))
  have h10 := el_ne0 ha
  have hlg := lg_lt ha
  obtain ⟨-, -, ho1, ho2, ho3', -⟩ := odi_facts hlg
  have h5 : ((255 : Int) % (ordL (lg a) : Int) != 0) = false := by
    have e : (255 : Int) % (ordL (lg a) : Int) = ((255 % ordL (lg a) : Nat) : Int) := by simp
    rw [e, ho3']; rfl
  clear ho3'
  have h4 := el_nef (show pwM (lg a : Int) = a by
    have e : pwM (lg a : Int) = pw (lg a) := by unfold pwM; rw [show ((lg a : Int) % 255).toNat = lg a by omega]
    rw [e, pw_lg ha])
  have i1 : ¬ (lg a : Int) < 0 := by omega
  have i2 : ¬ (254 : Int) < (lg a : Int) := by omega
  have i3 : ¬ (ordL (lg a) : Int) < 1 := by omega
  go_enter Tryd.func4, Tryd.ntmps4
  go_wp2_with (first | (go_at_call 13; refine (awake_any _).mono ?_; rintro e w1 ⟨rfl, hb1⟩; have hO1 : Hid (OrdAt w1) := OrdAt.below hO.out hb1) | (go_at_call 9; refine (exp_any _ _).mono ?_; rintro e w2 ⟨rfl, hb2⟩; have hO1 : Hid (OrdAt w2) := OrdAt.below hO1.out hb2) | (go_at_call 14; refine (times_any _ _ _).mono ?_; rintro e w' ⟨rfl, rfl⟩) | (go_at_call 7; refine (order_two _ hO1).mono ?_; rintro e w2 ⟨rfl, hb2⟩; have hO1 : Hid (OrdAt w2) := OrdAt.below hO1.out hb2) | (go_at_call 7; refine (order_any _ ha _ hO1).mono ?_; rintro e w2 ⟨rfl, hb2⟩; have hO1 : Hid (OrdAt w2) := OrdAt.below hO1.out hb2) | (go_at_call 11; refine (pow_two _ _).mono ?_; rintro e w2 ⟨rfl, hb2⟩; have hO1 : Hid (OrdAt w2) := OrdAt.below hO1.out hb2) | (go_at_call 5; refine (log_any _ ha _).mono ?_; rintro e w2 ⟨rfl, hb2⟩; have hO1 : Hid (OrdAt w2) := OrdAt.below hO1.out hb2))
  have h6 : (el (gpow a (ordL (lg a) : Int)) == 1) = true := by rw [gpow_cyc ha, Int.tmod_self]; rfl
  have h7 := gpow_cyc ha (n.tmod 255)
  have h8 := el_eqt (show gm (gpow a (n.tmod 255)) (gpow a (m.tmod 255)) = gpow a (wrap64 (n.tmod 255 + m.tmod 255)) by rw [gpow_add ha, wrap_small (by have := tmod_bd n; have := tmod_bd m; omega)])
  have h9 : ¬ (ordL (lg a) : Int) = 0 := by omega
  refine wp_region_quiet_below (by kernel_rfl) (by kernel_rfl) ?_
  repeat (first | go_big_quiet_step (first | exact Calls.regrown_of (pow_any _ _ _) | exact Calls.regrown_of (times_below _ _ _)) | quiet_step (first | exact Calls.regrown_of (pow_any _ _ _) | exact Calls.regrown_of (times_below _ _ _)))
  refine wpQuiet_nil ?_
  intro _ hw'
  obtain ⟨⟨dq, osq⟩, hw''⟩ := hw'
  subst hw''
  have hbz := below_regrown w2 dq osq
  go_wp2
  go_ret
  refine ⟨rfl, ?_⟩
  repeat (first | assumption | (apply bt; assumption))
theorem cycle_walk (a : BitVec 8) (n m : Int) (w : World) (hO : Hid (OrdAt w)) :
    Calls Tryd.prog 4 #[.int .u8 (el a), .int .i64 n, .int .i64 m] w fun e w' => e = .returned (.bool true) ∧ Below w.heap.size w w' := by
  by_cases ha : a = 0#8
  · exact cycle_z a n m ha w hO
  · exact cycle_nz a n m ha w hO
end Go.Proofs.YtgienaikcpcpeaaDoor
