/-
  cairnref27.Turn.
-/
import Derived.Test.YtcfjinpjijcheaaTp27
namespace Go.Proofs.Ytcfjinpjijcheaa
open Go.RowKit
theorem m2_of (K j : Nat) (hK : K < 4) : (wrap64 ((K : Int) * ((j : Int) % 4))).tmod 4 = ((K * j % 4 : Nat) : Int) := by
  have h : K = 0 ∨ K = 1 ∨ K = 2 ∨ K = 3 := by omega
  obtain ⟨z, hz⟩ : ∃ z : Int, z = (K : Int) * ((j : Int) % 4) := ⟨_, rfl⟩
  rw [← hz]
  have hz2 : 0 ≤ z ∧ z ≤ 9 ∧ z % 4 = ((K * j % 4 : Nat) : Int) := by
    rcases h with rfl | rfl | rfl | rfl <;> omega
  have e : wrap64 z = z := by unfold wrap64; omega
  rw [e, Int.tmod_eq_emod_of_nonneg hz2.1, hz2.2.2]
section
attribute [local irreducible] Calls fad fmu fsu acc qtr
set_option maxRecDepth 1000000 in
set_option maxHeartbeats 8000000 in
theorem rturn_any {w : World} {a : Option Addr} {xs : List Nat} (h : Fr w a xs) (n c : Nat) (k : Int) (hn : xs.length = n) (hm : n ≤ 140737488355328) (hk0 : -9223372036854775808 ≤ k) (hk1 : k ≤ 9223372036854775807) :
    Calls Try.prog 25 #[.slice a n c, .int .i64 k] w fun e w' => e = .returned (.tuple #[.float .f64 (trv xs k).1.1, .float .f64 (trv xs k).1.2, .int .i64 (trv xs k).2]) ∧ Below w.heap.size w w' := by
  unfold trv
  rw [hn]
  by_cases h1 : 65536 < n
  · rw [if_pos h1]
    have i1 : (65536 : Int) < (n : Int) := by omega
    go_enter Try.func25, Try.ntmps25
    go_wp2
    go_ret3
    exact ⟨rfl, Below.refl _ _⟩
  · rw [if_neg h1]
    have i1 : ¬ (65536 : Int) < (n : Int) := by omega
    have HH := (show Hid (Fr w a xs) from h)
    clear h
    obtain ⟨R, hR⟩ : ∃ R : (Nat × Nat) × Int, Hid ((if (xs.any fun y => !isSa y) = true then ((0, 0), 2) else (acc k xs n, 0)) = R) := ⟨_, rfl⟩
    rw [hR.out]
    go_enter Try.func25, Try.ntmps25
    go_wp2
    go_loopw [7] (fun i wr => ∃ t : Nat, t ≤ n ∧ i = .int .i64 (t : Int) ∧ Hid (∀ j, j < t → isSa (xs.getD j 0) = true) ∧ Below w.heap.size w wr) (fun i _ => n - (intOf i).toNat)
    case atStart => exact ⟨0, Nat.zero_le _, rfl, fun j hj => by omega, Below.refl _ _⟩
    case round =>
      obtain ⟨t, ht, rfl, hf, hb⟩ := hrel
      by_cases hlt : t < n
      · have hi : (t : Int) < (n : Int) := by omega
        obtain ⟨b, o, rfl, hd⟩ := Fr.at HH.out (by omega)
        have g1 := cell_below (hd t (by omega)) hb
        clear hd
        have bad : isSa (xs.getD t 0) = false → (xs.any fun y => !isSa y) = true := fun hh => List.any_eq_true.2 ⟨xs.getD t 0, by rw [show xs.getD t 0 = xs[t]'(by omega) by simp [List.getD, hn, hlt]]; exact List.getElem_mem _, by rw [hh]; rfl⟩
        have good : isSa (xs.getD t 0) = true → Hid (∀ j, j < t + 1 → isSa (xs.getD j 0) = true) := fun hh j hj => by
          by_cases e : j = t
          · rw [e]; exact hh
          · exact hf.out j (by omega)
        have HBG := (show Hid (_ ∧ _) from ⟨bad, good⟩)
        clear bad good
        obtain ⟨y, hy⟩ : ∃ y, xs.getD t 0 = y := ⟨_, rfl⟩
        rw [hy] at g1 HBG
        have q0 := geq_leq y 14010698440749613056
        cases c1 : (F6.order 14010698440749613056 y == some .lt || F6.order 14010698440749613056 y == some .eq) with
        | false =>
          have hch : isSa y = false := by unfold isSa; rw [c1]; rfl
          rw [c1] at q0
          obtain rfl : R = ((0, 0), 2) := by rw [← hR.out, if_pos (HBG.out.1 hch)]
          go_wp2
          go_ret3
          exact ⟨rfl, hb⟩
        | true =>
          rw [c1] at q0
          cases c2 : (F6.order y 4787326403894837248 == some .lt || F6.order y 4787326403894837248 == some .eq) with
          | false =>
            have hch : isSa y = false := by unfold isSa; rw [c1, c2]; rfl
            obtain rfl : R = ((0, 0), 2) := by rw [← hR.out, if_pos (HBG.out.1 hch)]
            go_wp2
            go_ret3
            exact ⟨rfl, hb⟩
          | true =>
            have hch : isSa y = true := by unfold isSa; rw [c1, c2]; rfl
            go_wp2
            go_roundw
            case rel => exact ⟨t + 1, hlt, by go_num, HBG.out.2 hch, hb⟩
            case measure => simp [intOf]; omega
      · obtain rfl : t = n := by omega
        have hall : Hid (∀ f ∈ xs, isSa f = true) := fun f hf' => by
          obtain ⟨i, hi, rfl⟩ := List.getElem_of_mem hf'
          have := hf.out i (by omega)
          rwa [show xs.getD i 0 = xs[i] by simp [List.getD, hi]] at this
        clear hf
        have hany : ¬ (xs.any fun y => !isSa y) = true := fun hh => by
          obtain ⟨y, hy, h3⟩ := List.any_eq_true.1 hh
          rw [hall.out y hy] at h3
          cases h3
        obtain rfl : R = (acc k xs t, 0) := by rw [← hR.out, if_neg hany]
        clear hR hany
        obtain ⟨K, hK, hk4⟩ := k4 k
        have HK := (show Hid (∀ t, qtr k t = (K * t) % 4) from fun t => by unfold qtr; rw [hk4, Int.toNat_natCast])
        have HB := (show Hid _ from hb)
        have m1 : (wrap64 (k.tmod 4 + 4)).tmod 4 = (K : Int) := by
          have e1 : k.tmod 4 = if 0 ≤ k then k % 4 else -((-k) % 4) := by
            split
            · exact Int.tmod_eq_emod_of_nonneg (by assumption)
            · have := Int.neg_tmod (-k) 4
              rw [Int.neg_neg] at this
              rw [this, Int.tmod_eq_emod_of_nonneg (by omega)]
          have e2 : wrap64 (k.tmod 4 + 4) = k.tmod 4 + 4 := by rw [e1]; unfold wrap64; split <;> omega
          have e3 : 0 ≤ k.tmod 4 + 4 := by rw [e1]; split <;> omega
          rw [e2, Int.tmod_eq_emod_of_nonneg e3, e1]
          split <;> omega
        go_wp2
        clear m1 i1
        obtain ⟨V, hV⟩ : ∃ V, V = wr := ⟨_, rfl⟩
        subst hV
        go_loopw [8, 9, 11] (fun o u i wr => ∃ j : Nat, j ≤ t ∧ i = .int .i64 (j : Int) ∧ o = .float .f64 (acc k xs j).1 ∧ u = .float .f64 (acc k xs j).2 ∧ Below w.heap.size w wr) (fun _ _ i _ => t - (intOf i).toNat)
        case atStart => exact ⟨0, Nat.zero_le _, rfl, by unfold acc; rfl, by unfold acc; rfl, HB.out⟩
        case round =>
          obtain ⟨j, hj, rfl, rfl, rfl, hb⟩ := hrel
          by_cases hlt : j < t
          · have hi : (j : Int) < (t : Int) := by omega
            obtain ⟨b, o, rfl, hd⟩ := Fr.at HH.out (by omega)
            have g1 := cell_below (hd j (by omega)) hb
            clear hd
            obtain ⟨A1, A2⟩ := acc_ok (k := k) hall.out j (by omega) (by omega)
            have hx : Sm (xs.getD j 0) := isSa_ok (hall.out _ (by rw [show xs.getD j 0 = xs[j]'(by omega) by simp [List.getD, show j < xs.length by omega]]; exact List.getElem_mem _))
            have hac := acc_succ k xs j
            obtain ⟨y, hy⟩ : ∃ y, xs.getD j 0 = y := ⟨_, rfl⟩
            obtain ⟨re, hre⟩ : ∃ y, (acc k xs j).1 = y := ⟨_, rfl⟩
            obtain ⟨im, him⟩ : ∃ y, (acc k xs j).2 = y := ⟨_, rfl⟩
            have hac2 : Hid (acc k xs (j + 1) = stpT k j y (re, im)) := by rw [hac, hy, ← hre, ← him]; rfl
            rw [hy] at g1 hx
            rw [hre] at A1 ⊢
            rw [him] at A2 ⊢
            have a1 := fl_run (op := .add) (add_ac (by omega) A1 hx).1
            have a2 := fl_run (op := .add) (add_ac (by omega) A2 hx).1
            have a3 := fl_run (op := .sub) (sub_ac (by omega) A1 hx).1
            have a4 := fl_run (op := .sub) (sub_ac (by omega) A2 hx).1
            clear hac hy hre him A1 A2 hx
            have m2 : (wrap64 ((K : Int) * ((j : Int) % 4))).tmod 4 = ((qtr k j : Nat) : Int) := by
              rw [HK.out j]
              exact m2_of K j hK
            have h4 : qtr k j = 0 ∨ qtr k j = 1 ∨ qtr k j = 2 ∨ qtr k j = 3 := by rw [HK.out j]; omega
            rcases h4 with h4 | h4 | h4 | h4
            · have m3 : (wrap64 ((K : Int) * ((j : Int) % 4))).tmod 4 = 0 := by rw [m2, h4]; rfl
              clear m2
              have e9 : acc k xs (j + 1) = (fad re y, im) := by rw [hac2.out]; unfold stpT; rw [if_pos h4]
              have HE := (show Hid _ from e9)
              clear e9 a2 a3 a4 h4
              go_wp2
              go_roundw
              case rel => exact ⟨j + 1, hlt, by go_num, by rw [HE.out], by rw [HE.out], hb⟩
              case measure => simp [intOf]; omega
            · have m3 : (wrap64 ((K : Int) * ((j : Int) % 4))).tmod 4 = 1 := by rw [m2, h4]; rfl
              clear m2
              have e9 : acc k xs (j + 1) = (re, fad im y) := by rw [hac2.out]; unfold stpT; rw [h4]; rfl
              have HE := (show Hid _ from e9)
              clear e9 a1 a3 a4 h4
              go_wp2
              go_roundw
              case rel => exact ⟨j + 1, hlt, by go_num, by rw [HE.out], by rw [HE.out], hb⟩
              case measure => simp [intOf]; omega
            · have m3 : (wrap64 ((K : Int) * ((j : Int) % 4))).tmod 4 = 2 := by rw [m2, h4]; rfl
              clear m2
              have e9 : acc k xs (j + 1) = (fsu re y, im) := by rw [hac2.out]; unfold stpT; rw [h4]; rfl
              have HE := (show Hid _ from e9)
              clear e9 a1 a2 a4 h4
              go_wp2
              go_roundw
              case rel => exact ⟨j + 1, hlt, by go_num, by rw [HE.out], by rw [HE.out], hb⟩
              case measure => simp [intOf]; omega
            · have m3 : (wrap64 ((K : Int) * ((j : Int) % 4))).tmod 4 = 3 := by rw [m2, h4]; rfl
              clear m2
              have e9 : acc k xs (j + 1) = (re, fsu im y) := by rw [hac2.out]; unfold stpT; rw [h4]; rfl
              have HE := (show Hid _ from e9)
              clear e9 a1 a2 a3 h4
              go_wp2
              go_roundw
              case rel => exact ⟨j + 1, hlt, by go_num, by rw [HE.out], by rw [HE.out], hb⟩
              case measure => simp [intOf]; omega
          · obtain rfl : j = t := by omega
            go_wp2
            go_ret3
            exact ⟨rfl, hb⟩
end
end Go.Proofs.Ytcfjinpjijcheaa
