/-
  MatrixGroups: the walk.
-/
import Derived.Test.YtchmggehbajebaaGk
import Derived.Deep.RegionHeld3
namespace Go.Proofs.Ytchmggehbajebaa
open Go.RowKit
theorem Im.len {w : World} {v : Value} {r : Nat} {l l' : Nat → Nat} {M : Nat → Nat → Int} (h : Im w v r l M) (e : ∀ i, i < r → l i = l' i) : Im w v r l' M := by
  obtain ⟨rows, h1, h2⟩ := h
  exact ⟨rows, h1, fun i hi => by rw [← e i hi]; exact h2 i hi⟩
theorem im_form {w : World} {v : Value} {r : Nat} {l : Nat → Nat} {M : Nat → Nat → Int} (h : Im w v r l M) : ∃ p c, v = .slice p r c := by
  obtain ⟨rows, h1, _⟩ := h
  exact (St.sv h1).form
theorem fc_con {n m : Nat} (hn : n ≤ 255) (hm : m ≤ 255) : fc n (fun _ => m) = 0 := fc_ok (by omega) (fun k _ => by omega) (fun k _ => rfl)
theorem cw_big {r : Nat} {l : Nat → Nat} (h : fc r l = 0) : cw r l ≤ 255 := by
  unfold cw
  by_cases e : r = 0
  · rw [if_pos e]; omega
  · rw [if_neg e]; exact (fc_zero h).2.1 0 (by omega)
theorem cw_each {r : Nat} {l : Nat → Nat} (h : fc r l = 0) {k : Nat} (hk : k < r) : l k = cw r l := by
  unfold cw; rw [if_neg (by omega)]; exact (fc_zero h).2.2 k hk
theorem cw_no (l : Nat → Nat) : cw 0 l = 0 := by unfold cw; rw [if_pos rfl]
theorem cw_cons {n : Nat} (m : Nat) (h : n ≠ 0) : cw n (fun _ => m) = m := by unfold cw; rw [if_neg h]
theorem nuE_fam3 (M : Nat → Nat → Int) : ∃ g : Nat → Nat → BitVec 8, ∀ i j, nuE (g i j) = M i j % 256 :=
  ⟨fun i j => (nuE_sur (M i j)).choose, fun i j => (nuE_sur (M i j)).choose_spec⟩
section
attribute [local irreducible] Calls el nuE Im Jm Ir Jr tc fc cw mm dl
set_option maxHeartbeats 16000000 in
set_option maxRecDepth 1000000 in
theorem groupsLE (fl : Int) (vA vB vC : Value) (r1 r2 r3 : Nat) (l1 l2 l3 : Nat → Nat) (M1 M2 M3 : Nat → Nat → Int) (hr1 : r1 ≤ 5864062014805) (hl1 : ∀ i, i < r1 → l1 i ≤ 17592186044416) (hr2 : r2 ≤ 5864062014805) (hl2 : ∀ i, i < r2 → l2 i ≤ 17592186044416) (hr3 : r3 ≤ 5864062014805) (hl3 : ∀ i, i < r3 → l3 i ≤ 17592186044416) (hs : ∀ w : World, Calls Try.prog 9 #[.int .i64 fl] w fun e w' => e = .returned (.int .i64 256) ∧ w' = w) (w : World) (hA : Jm w vA r1 l1 M1) (hB : Jm w vB r2 l2 M2) (hC : Jm w vC r3 l3 M3) :
    Calls Try.prog 8 #[.agg #[.int .i64 fl, vA, vB, vC]] w fun e w' => e = .returned (.bool true) ∧ Below w.heap.size w w' := by
  have hb0 : Below w.heap.size w (w.alloc (.cells #[.int .i64 fl, vA, vB, vC] 83)) := (Below.refl _ _).alloc (Nat.le_refl _) _
  have q0 := ask_cell w #[.int .i64 fl, vA, vB, vC] 83 0 (.int .i64 fl) rfl
  have q1 := ask_cell w #[.int .i64 fl, vA, vB, vC] 83 1 vA rfl
  have q2 := ask_cell w #[.int .i64 fl, vA, vB, vC] 83 2 vB rfl
  have q3 := ask_cell w #[.int .i64 fl, vA, vB, vC] 83 3 vC rfl
  obtain ⟨g1, hg1⟩ := nuE_fam3 M1
  obtain ⟨g2, hg2⟩ := nuE_fam3 M2
  obtain ⟨g3, hg3⟩ := nuE_fam3 M3
  have HG1 : Hid (∀ i j, nuE (g1 i j) = M1 i j % 256) := hg1
  have HG2 : Hid (∀ i j, nuE (g2 i j) = M2 i j % 256) := hg2
  have HG3 : Hid (∀ i j, nuE (g3 i j) = M3 i j % 256) := hg3
  have hA0 := (show Hid _ from hA.below hb0)
  have hB0 := (show Hid _ from hB.below hb0)
  have hC0 := (show Hid _ from hC.below hb0)
  have HL1 : Hid (∀ i, i < r1 → l1 i ≤ 17592186044416) := hl1
  have HL2 : Hid (∀ i, i < r2 → l2 i ≤ 17592186044416) := hl2
  have HL3 : Hid (∀ i, i < r3 → l3 i ≤ 17592186044416) := hl3
  have HN1 : Hid (r1 ≤ 5864062014805) := hr1
  have HN2 : Hid (r2 ≤ 5864062014805) := hr2
  have HN3 : Hid (r3 ≤ 5864062014805) := hr3
  clear hg1 hg2 hg3 hr1 hl1 hr2 hl2 hr3 hl3 hA hB hC
  go_enter Try.func8, Try.ntmps8
  go_wp2_with (first
    | (go_at_call 9; refine (hs _).mono ?_; rintro e w' ⟨rfl, h⟩; obtain rfl := h.symm)
    | (go_at_call 10; refine (rows_any hA0.out 256 (by omega) HN1.out HL1.out).mono ?_; rintro e w1 ⟨v1, rfl, hI, hb1⟩; have hI1 : Im w1 v1 r1 l1 (fun i j => nuE (g1 i j)) := Im.congr hI (fun i _ j _ => (HG1.out i j).symm); obtain ⟨p1, k1, ex1⟩ := im_form hI1; subst ex1; have q21 := cell_below q2 hb1; have q31 := cell_below q3 hb1; have hB1 := (show Hid _ from Jm.below hB0.out hb1); have hC1 := (show Hid _ from Jm.below hC0.out hb1); clear hI)
    | (go_at_call 10; refine (rows_any hB1.out 256 (by omega) HN2.out HL2.out).mono ?_; rintro e w2 ⟨v2, rfl, hI, hb2⟩; have hI2 : Im w2 v2 r2 l2 (fun i j => nuE (g2 i j)) := Im.congr hI (fun i _ j _ => (HG2.out i j).symm); obtain ⟨p2, k2, ex2⟩ := im_form hI2; subst ex2; have q32 := cell_below q31 hb2; have hC2 := (show Hid _ from Jm.below hC1.out hb2); clear hI)
    | (go_at_call 10; refine (rows_any hC2.out 256 (by omega) HN3.out HL3.out).mono ?_; rintro e w3 ⟨v3, rfl, hI, hb3⟩; have hI3 : Im w3 v3 r3 l3 (fun i j => nuE (g3 i j)) := Im.congr hI (fun i _ j _ => (HG3.out i j).symm); obtain ⟨p3, k3, ex3⟩ := im_form hI3; subst ex3; clear hI)
    | (go_at_call 44; refine (known_any _).mono ?_; rintro e w4 ⟨rfl, hb4⟩))
  have HA : Hid (Im w4 (.slice p1 r1 k1) r1 l1 (fun i j => nuE (g1 i j))) := Im.below hI1 (bt hb2 (bt hb3 hb4))
  have HBm : Hid (Im w4 (.slice p2 r2 k2) r2 l2 (fun i j => nuE (g2 i j))) := Im.below hI2 (bt hb3 hb4)
  have HCm : Hid (Im w4 (.slice p3 r3 k3) r3 l3 (fun i j => nuE (g3 i j))) := Im.below hI3 hb4
  have HB4 := (show Hid _ from bt (bt (bt (bt hb0 hb1) hb2) hb3) hb4)
  have RA := (show Hid _ from right_any (Jm.lm (Im.jm HA.out)))
  clear hI1 hI2 hI3 hb1 hb2 hb3 hb4 q0 q1 q2 q3 q21 q31 q32 hA0 hB0 hC0 hB1 hC1 hC2
  by_cases f1 : fc r1 l1 = 0
  · have d1 : decide (fc r1 l1 = 0) = true := by simp [f1]
    rw [d1] at RA
    have F1 : Hid (fc r1 l1 = 0) := f1
    obtain ⟨c1, hc1⟩ : ∃ c1, c1 = cw r1 l1 := ⟨_, rfl⟩
    have HC1 : Hid (cw r1 l1 = c1) := hc1.symm
    have c1b : c1 ≤ 255 := by rw [hc1]; exact cw_big f1
    have r1b : r1 ≤ 255 := (fc_zero f1).1
    have WA := (show Hid _ from fun (W : World) (hb : Below w4.heap.size w4 W) => wide_any (Lm.below (Jm.lm (Im.jm HA.out)) hb) (by omega))
    rw [HC1.out] at WA
    clear d1 hc1 f1
    go_wp2_with (first
      | (go_at_call 45; refine RA.out.mono ?_; rintro e w5 ⟨rfl, hb5⟩)
      | (go_at_call 48; refine (WA.out _ hb5).mono ?_; rintro e w' ⟨rfl, h⟩; obtain rfl := h.symm)
      | (go_at_call 47; refine (lawUnit_core c1 (by omega) w5).mono ?_; rintro e w6 ⟨v6, rfl, hI6, hb6⟩; have hI6' : Jm w6 v6 c1 (fun _ => c1) (fun i j => nuE (dl fdE i j)) := Im.jm (Im.congr hI6 (fun i _ j _ => (nu_dlE i j).symm)))
      | (go_at_call 46; refine (lawTE (c := c1) (Im.jm (Im.below HA.out (bt hb5 hb6))) hI6' r1b c1b c1b HL1.out (fun i _ => by omega) (tc_ok F1.out (fc_con c1b c1b) HC1.out) (cw2 c1)).mono ?_; rintro e w7 ⟨v7, rfl, hI7, hb7⟩)
      | (go_at_call 47; refine (lawUnit_core r1 (by omega) w7).mono ?_; rintro e w8 ⟨v8, rfl, hI8, hb8⟩; have hI8' : Jm w8 v8 r1 (fun _ => r1) (fun i j => nuE (dl fdE i j)) := Im.jm (Im.congr hI8 (fun i _ j _ => (nu_dlE i j).symm)))
      | (go_at_call 46; refine (lawTE (c := c1) hI8' (Im.jm (Im.below HA.out (bt hb5 (bt hb6 (bt hb7 hb8))))) r1b r1b c1b (fun i _ => by omega) HL1.out (tc_ok (fc_con r1b r1b) F1.out (cw2 r1)) HC1.out).mono ?_; rintro e w9 ⟨v9, rfl, hI9, hb9⟩; have B9 := (show Hid _ from bt hb5 (bt hb6 (bt hb7 (bt hb8 hb9)))); have A9 := (show Hid (Jm w9 (.slice p1 r1 k1) r1 (fun _ => c1) (fun i j => nuE (g1 i j))) from Im.jm (Im.len (Im.below HA.out B9.out) (fun i hi => by rw [cw_each F1.out hi, HC1.out]))); have M9 := (show Hid (Jm w9 v7 r1 (fun _ => c1) (fun i j => nuE (g1 i j))) from Im.jm (Im.congr (Im.below hI7 (bt hb8 hb9)) (fun i hi j hj => by rw [mm_dl_r hj]))); have N9 := (show Hid (Jm w9 v9 r1 (fun _ => c1) (fun i j => nuE (g1 i j))) from Im.jm (Im.congr hI9 (fun i hi j hj => by rw [mm_dl_l hi]))))
      | (go_at_call 49; refine (alike_any M9.out A9.out (by omega) (fun i _ => by omega)).mono ?_; rintro e w10 ⟨rfl, hb10⟩)
      | (go_at_call 49; refine (alike_any (Jm.below N9.out hb10) (Jm.below A9.out hb10) (by omega) (fun i _ => by omega)).mono ?_; rintro e w11 ⟨rfl, hb11⟩))
    have HB11 := (show Hid _ from bt B9.out (bt hb10 hb11))
    have RA2 := (show Hid _ from right_any (Lm.below (Jm.lm (Im.jm HA.out)) HB11.out))
    rw [F1.out, show decide ((0 : Int) = 0) = true from rfl] at RA2
    have RB2 := (show Hid _ from fun (W : World) (hb : Below w4.heap.size w4 W) => right_any (Lm.below (Jm.lm (Im.jm HBm.out)) hb))
    have RC2 := (show Hid _ from fun (W : World) (hb : Below w4.heap.size w4 W) => right_any (Lm.below (Jm.lm (Im.jm HCm.out)) hb))
    have A11 := (show Hid (Im w11 (.slice p1 r1 k1) r1 l1 (fun i j => nuE (g1 i j))) from Im.below HA.out HB11.out)
    have HBW := (show Hid _ from bt HB4.out HB11.out)
    clear B9 A9 M9 N9 hI6 hI6' hI7 hI8 hI8' hI9 hb5 hb6 hb7 hb8 hb9 hb10 hb11 RA
    by_cases f2 : fc r2 l2 = 0
    · have F2 : Hid (fc r2 l2 = 0) := f2
      have d2 : decide (fc r2 l2 = 0) = true := by simp [f2]
      rw [d2] at RB2
      clear d2 f2
      obtain ⟨c2, hc2⟩ : ∃ c2, c2 = cw r2 l2 := ⟨_, rfl⟩
      have HC2 : Hid (cw r2 l2 = c2) := hc2.symm
      have c2b : c2 ≤ 255 := by rw [hc2]; exact cw_big F2.out
      have r2b : r2 ≤ 255 := (fc_zero F2.out).1
      have WB := (show Hid _ from fun (W : World) (hb : Below w4.heap.size w4 W) => wide_any (Lm.below (Jm.lm (Im.jm HBm.out)) hb) (by omega))
      rw [HC2.out] at WB
      clear hc2
      by_cases f3 : fc r3 l3 = 0
      · have F3 : Hid (fc r3 l3 = 0) := f3
        have d3 : decide (fc r3 l3 = 0) = true := by simp [f3]
        rw [d3] at RC2
        clear d3 f3
        by_cases e12 : c1 = r2
        · have n12 : ((c1 : Int) != (r2 : Int)) = false := by simp; omega
          by_cases e23 : c2 = r3
          · have n23 : ((c2 : Int) != (r3 : Int)) = false := by simp; omega
            obtain ⟨c3, hc3⟩ : ∃ c3, c3 = cw r3 l3 := ⟨_, rfl⟩
            have HC3 : Hid (cw r3 l3 = c3) := hc3.symm
            have c3b : c3 ≤ 255 := by rw [hc3]; exact cw_big F3.out
            have r3b : r3 ≤ 255 := (fc_zero F3.out).1
            have T1 : Hid (tc r1 l1 r2 l2 = 0) := tc_ok F1.out F2.out (by rw [HC1.out]; exact e12)
            have T2 : Hid (tc r2 l2 r3 l3 = 0) := tc_ok F2.out F3.out (by rw [HC2.out]; exact e23)
            have T3 : Hid (tc r1 (fun _ => c2) r3 l3 = 0) := tc_ok (fc_con r1b c2b) F3.out (by
              by_cases e : r1 = 0
              · have h1 := HC1.out
                rw [e, cw_no] at h1
                have h2 := HC2.out
                have e2 : r2 = 0 := by omega
                rw [e2, cw_no] at h2
                rw [e, cw_no]; omega
              · rw [cw_cons c2 e]; exact e23)
            have T4 : Hid (tc r1 l1 r2 (fun _ => c3) = 0) := tc_ok F1.out (fc_con r2b c3b) (by rw [HC1.out]; exact e12)
            have T5 : Hid (cw r2 (fun _ => c3) = c3) := by
              show _ = _
              by_cases e : r2 = 0
              · have h2 := HC2.out
                rw [e, cw_no] at h2
                have h3 := HC3.out
                have e3 : r3 = 0 := by omega
                rw [e3, cw_no] at h3
                rw [e, cw_no]; omega
              · exact cw_cons c3 e
            clear hc3
            go_wp2_with (first
              | (go_at_call 45; refine RA2.out.mono ?_; rintro e w12 ⟨rfl, hb12⟩)
              | (go_at_call 45; refine (RB2.out w12 (bt HB11.out hb12)).mono ?_; rintro e w13 ⟨rfl, hb13⟩)
              | (go_at_call 45; refine (RC2.out w13 (bt HB11.out (bt hb12 hb13))).mono ?_; rintro e w14 ⟨rfl, hb14⟩; have HB14 := (show Hid _ from bt HB11.out (bt hb12 (bt hb13 hb14))))
              | (go_at_call 48; refine (WA.out _ HB14.out).mono ?_; rintro e w' ⟨rfl, h⟩; obtain rfl := h.symm)
              | (go_at_call 48; refine (WB.out _ HB14.out).mono ?_; rintro e w' ⟨rfl, h⟩; obtain rfl := h.symm)
              | (go_at_call 46; refine (lawTE (c := c2) (Im.jm (Im.below HA.out HB14.out)) (Im.jm (Im.below HBm.out HB14.out)) r1b r2b c2b HL1.out HL2.out T1.out HC2.out).mono ?_; rintro e w15 ⟨v15, rfl, hI15, hb15⟩)
              | (go_at_call 46; refine (lawTE (c := c3) (Im.jm (Im.below HBm.out (bt HB14.out hb15))) (Im.jm (Im.below HCm.out (bt HB14.out hb15))) r2b r3b c3b HL2.out HL3.out T2.out HC3.out).mono ?_; rintro e w16 ⟨v16, rfl, hI16, hb16⟩)
              | (go_at_call 46; refine (lawTE (c := c3) (Im.jm (Im.below hI15 hb16)) (Im.jm (Im.below HCm.out (bt HB14.out (bt hb15 hb16)))) r1b r3b c3b (fun i _ => by omega) HL3.out T3.out HC3.out).mono ?_; rintro e w17 ⟨v17, rfl, hI17, hb17⟩)
              | (go_at_call 46; refine (lawTE (c := c3) (Im.jm (Im.below HA.out (bt HB14.out (bt hb15 (bt hb16 hb17))))) (Im.jm (Im.below hI16 hb17)) r1b r2b c3b HL1.out (fun i _ => by omega) T4.out T5.out).mono ?_; rintro e w18 ⟨v18, rfl, hI18, hb18⟩; have hI17' := Im.congr (Im.below hI17 hb18) (M' := fun i j => nuE (mm fdE r2 g1 (mm fdE r3 g2 g3) i j)) (fun i _ j _ => by rw [mm_assoc]))
              | (go_at_call 49; refine (alike_any (Im.jm hI17') (Im.jm hI18) (by omega) (fun i _ => by omega)).mono ?_; rintro e w19 ⟨rfl, hb19⟩))
            go_ret
            exact ⟨rfl, bt (bt HB4.out HB14.out) (bt hb15 (bt hb16 (bt hb17 (bt hb18 hb19))))⟩
          · have n23 : ((c2 : Int) != (r3 : Int)) = true := by simp; omega
            go_wp2_with (first
              | (go_at_call 45; refine RA2.out.mono ?_; rintro e w12 ⟨rfl, hb12⟩)
              | (go_at_call 45; refine (RB2.out w12 (bt HB11.out hb12)).mono ?_; rintro e w13 ⟨rfl, hb13⟩)
              | (go_at_call 45; refine (RC2.out w13 (bt HB11.out (bt hb12 hb13))).mono ?_; rintro e w14 ⟨rfl, hb14⟩; have HB14 := (show Hid _ from bt HB11.out (bt hb12 (bt hb13 hb14))))
              | (go_at_call 48; refine (WA.out _ HB14.out).mono ?_; rintro e w' ⟨rfl, h⟩; obtain rfl := h.symm)
              | (go_at_call 48; refine (WB.out _ HB14.out).mono ?_; rintro e w' ⟨rfl, h⟩; obtain rfl := h.symm))
            go_ret
            exact ⟨rfl, bt HBW.out (bt hb12 (bt hb13 hb14))⟩
        · have n12 : ((c1 : Int) != (r2 : Int)) = true := by simp; omega
          go_wp2_with (first
            | (go_at_call 45; refine RA2.out.mono ?_; rintro e w12 ⟨rfl, hb12⟩)
            | (go_at_call 45; refine (RB2.out w12 (bt HB11.out hb12)).mono ?_; rintro e w13 ⟨rfl, hb13⟩)
            | (go_at_call 45; refine (RC2.out w13 (bt HB11.out (bt hb12 hb13))).mono ?_; rintro e w14 ⟨rfl, hb14⟩; have HB14 := (show Hid _ from bt HB11.out (bt hb12 (bt hb13 hb14))))
            | (go_at_call 48; refine (WA.out _ HB14.out).mono ?_; rintro e w' ⟨rfl, h⟩; obtain rfl := h.symm))
          go_ret
          exact ⟨rfl, bt HBW.out (bt hb12 (bt hb13 hb14))⟩
      · have d3 : decide (fc r3 l3 = 0) = false := by simp [f3]
        rw [d3] at RC2
        clear d3 f3
        go_wp2_with (first
          | (go_at_call 45; refine RA2.out.mono ?_; rintro e w12 ⟨rfl, hb12⟩)
          | (go_at_call 45; refine (RB2.out w12 (bt HB11.out hb12)).mono ?_; rintro e w13 ⟨rfl, hb13⟩)
          | (go_at_call 45; refine (RC2.out w13 (bt HB11.out (bt hb12 hb13))).mono ?_; rintro e w14 ⟨rfl, hb14⟩))
        go_ret
        exact ⟨rfl, bt HBW.out (bt hb12 (bt hb13 hb14))⟩
    · have d2 : decide (fc r2 l2 = 0) = false := by simp [f2]
      rw [d2] at RB2
      clear d2 f2
      go_wp2_with (first
        | (go_at_call 45; refine RA2.out.mono ?_; rintro e w12 ⟨rfl, hb12⟩)
        | (go_at_call 45; refine (RB2.out w12 (bt HB11.out hb12)).mono ?_; rintro e w13 ⟨rfl, hb13⟩))
      go_ret
      exact ⟨rfl, bt HBW.out (bt hb12 hb13)⟩
  · have d1 : decide (fc r1 l1 = 0) = false := by simp [f1]
    rw [d1] at RA
    have RA2 := (show Hid _ from fun (W : World) (hb : Below w4.heap.size w4 W) => right_any (Lm.below (Jm.lm (Im.jm HA.out)) hb))
    rw [d1] at RA2
    clear d1 f1
    go_wp2_with (first
      | (go_at_call 45; refine RA.out.mono ?_; rintro e w5 ⟨rfl, hb5⟩)
      | (go_at_call 45; refine (RA2.out w5 hb5).mono ?_; rintro e w6 ⟨rfl, hb6⟩))
    go_ret
    exact ⟨rfl, bt (bt HB4.out hb5) hb6⟩
end
theorem nuB_fam3 (M : Nat → Nat → Int) : ∃ g : Nat → Nat → Bool, ∀ i j, nuB (g i j) = M i j % 2 :=
  ⟨fun i j => (nuB_sur (M i j)).choose, fun i j => (nuB_sur (M i j)).choose_spec⟩
section
attribute [local irreducible] Calls el nuB Im Jm Ir Jr tc fc cw mm dl
set_option maxHeartbeats 16000000 in
set_option maxRecDepth 1000000 in
theorem groupsLB (fl : Int) (vA vB vC : Value) (r1 r2 r3 : Nat) (l1 l2 l3 : Nat → Nat) (M1 M2 M3 : Nat → Nat → Int) (hr1 : r1 ≤ 5864062014805) (hl1 : ∀ i, i < r1 → l1 i ≤ 17592186044416) (hr2 : r2 ≤ 5864062014805) (hl2 : ∀ i, i < r2 → l2 i ≤ 17592186044416) (hr3 : r3 ≤ 5864062014805) (hl3 : ∀ i, i < r3 → l3 i ≤ 17592186044416) (hs : ∀ w : World, Calls Try.prog 9 #[.int .i64 fl] w fun e w' => e = .returned (.int .i64 2) ∧ w' = w) (w : World) (hA : Jm w vA r1 l1 M1) (hB : Jm w vB r2 l2 M2) (hC : Jm w vC r3 l3 M3) :
    Calls Try.prog 8 #[.agg #[.int .i64 fl, vA, vB, vC]] w fun e w' => e = .returned (.bool true) ∧ Below w.heap.size w w' := by
  have hb0 : Below w.heap.size w (w.alloc (.cells #[.int .i64 fl, vA, vB, vC] 83)) := (Below.refl _ _).alloc (Nat.le_refl _) _
  have q0 := ask_cell w #[.int .i64 fl, vA, vB, vC] 83 0 (.int .i64 fl) rfl
  have q1 := ask_cell w #[.int .i64 fl, vA, vB, vC] 83 1 vA rfl
  have q2 := ask_cell w #[.int .i64 fl, vA, vB, vC] 83 2 vB rfl
  have q3 := ask_cell w #[.int .i64 fl, vA, vB, vC] 83 3 vC rfl
  obtain ⟨g1, hg1⟩ := nuB_fam3 M1
  obtain ⟨g2, hg2⟩ := nuB_fam3 M2
  obtain ⟨g3, hg3⟩ := nuB_fam3 M3
  have HG1 : Hid (∀ i j, nuB (g1 i j) = M1 i j % 2) := hg1
  have HG2 : Hid (∀ i j, nuB (g2 i j) = M2 i j % 2) := hg2
  have HG3 : Hid (∀ i j, nuB (g3 i j) = M3 i j % 2) := hg3
  have hA0 := (show Hid _ from hA.below hb0)
  have hB0 := (show Hid _ from hB.below hb0)
  have hC0 := (show Hid _ from hC.below hb0)
  have HL1 : Hid (∀ i, i < r1 → l1 i ≤ 17592186044416) := hl1
  have HL2 : Hid (∀ i, i < r2 → l2 i ≤ 17592186044416) := hl2
  have HL3 : Hid (∀ i, i < r3 → l3 i ≤ 17592186044416) := hl3
  have HN1 : Hid (r1 ≤ 5864062014805) := hr1
  have HN2 : Hid (r2 ≤ 5864062014805) := hr2
  have HN3 : Hid (r3 ≤ 5864062014805) := hr3
  clear hg1 hg2 hg3 hr1 hl1 hr2 hl2 hr3 hl3 hA hB hC
  go_enter Try.func8, Try.ntmps8
  go_wp2_with (first
    | (go_at_call 9; refine (hs _).mono ?_; rintro e w' ⟨rfl, h⟩; obtain rfl := h.symm)
    | (go_at_call 10; refine (rows_any hA0.out 2 (by omega) HN1.out HL1.out).mono ?_; rintro e w1 ⟨v1, rfl, hI, hb1⟩; have hI1 : Im w1 v1 r1 l1 (fun i j => nuB (g1 i j)) := Im.congr hI (fun i _ j _ => (HG1.out i j).symm); obtain ⟨p1, k1, ex1⟩ := im_form hI1; subst ex1; have q21 := cell_below q2 hb1; have q31 := cell_below q3 hb1; have hB1 := (show Hid _ from Jm.below hB0.out hb1); have hC1 := (show Hid _ from Jm.below hC0.out hb1); clear hI)
    | (go_at_call 10; refine (rows_any hB1.out 2 (by omega) HN2.out HL2.out).mono ?_; rintro e w2 ⟨v2, rfl, hI, hb2⟩; have hI2 : Im w2 v2 r2 l2 (fun i j => nuB (g2 i j)) := Im.congr hI (fun i _ j _ => (HG2.out i j).symm); obtain ⟨p2, k2, ex2⟩ := im_form hI2; subst ex2; have q32 := cell_below q31 hb2; have hC2 := (show Hid _ from Jm.below hC1.out hb2); clear hI)
    | (go_at_call 10; refine (rows_any hC2.out 2 (by omega) HN3.out HL3.out).mono ?_; rintro e w3 ⟨v3, rfl, hI, hb3⟩; have hI3 : Im w3 v3 r3 l3 (fun i j => nuB (g3 i j)) := Im.congr hI (fun i _ j _ => (HG3.out i j).symm); obtain ⟨p3, k3, ex3⟩ := im_form hI3; subst ex3; clear hI)
    | (go_at_call 44; refine (known_any _).mono ?_; rintro e w4 ⟨rfl, hb4⟩))
  have HA : Hid (Im w4 (.slice p1 r1 k1) r1 l1 (fun i j => nuB (g1 i j))) := Im.below hI1 (bt hb2 (bt hb3 hb4))
  have HBm : Hid (Im w4 (.slice p2 r2 k2) r2 l2 (fun i j => nuB (g2 i j))) := Im.below hI2 (bt hb3 hb4)
  have HCm : Hid (Im w4 (.slice p3 r3 k3) r3 l3 (fun i j => nuB (g3 i j))) := Im.below hI3 hb4
  have HB4 := (show Hid _ from bt (bt (bt (bt hb0 hb1) hb2) hb3) hb4)
  have RA := (show Hid _ from right_any (Jm.lm (Im.jm HA.out)))
  clear hI1 hI2 hI3 hb1 hb2 hb3 hb4 q0 q1 q2 q3 q21 q31 q32 hA0 hB0 hC0 hB1 hC1 hC2
  by_cases f1 : fc r1 l1 = 0
  · have d1 : decide (fc r1 l1 = 0) = true := by simp [f1]
    rw [d1] at RA
    have F1 : Hid (fc r1 l1 = 0) := f1
    obtain ⟨c1, hc1⟩ : ∃ c1, c1 = cw r1 l1 := ⟨_, rfl⟩
    have HC1 : Hid (cw r1 l1 = c1) := hc1.symm
    have c1b : c1 ≤ 255 := by rw [hc1]; exact cw_big f1
    have r1b : r1 ≤ 255 := (fc_zero f1).1
    have WA := (show Hid _ from fun (W : World) (hb : Below w4.heap.size w4 W) => wide_any (Lm.below (Jm.lm (Im.jm HA.out)) hb) (by omega))
    rw [HC1.out] at WA
    clear d1 hc1 f1
    go_wp2_with (first
      | (go_at_call 45; refine RA.out.mono ?_; rintro e w5 ⟨rfl, hb5⟩)
      | (go_at_call 48; refine (WA.out _ hb5).mono ?_; rintro e w' ⟨rfl, h⟩; obtain rfl := h.symm)
      | (go_at_call 47; refine (lawUnit_core c1 (by omega) w5).mono ?_; rintro e w6 ⟨v6, rfl, hI6, hb6⟩; have hI6' : Jm w6 v6 c1 (fun _ => c1) (fun i j => nuB (dl fdB i j)) := Im.jm (Im.congr hI6 (fun i _ j _ => (nu_dlB i j).symm)))
      | (go_at_call 46; refine (lawTB (c := c1) (Im.jm (Im.below HA.out (bt hb5 hb6))) hI6' r1b c1b c1b HL1.out (fun i _ => by omega) (tc_ok F1.out (fc_con c1b c1b) HC1.out) (cw2 c1)).mono ?_; rintro e w7 ⟨v7, rfl, hI7, hb7⟩)
      | (go_at_call 47; refine (lawUnit_core r1 (by omega) w7).mono ?_; rintro e w8 ⟨v8, rfl, hI8, hb8⟩; have hI8' : Jm w8 v8 r1 (fun _ => r1) (fun i j => nuB (dl fdB i j)) := Im.jm (Im.congr hI8 (fun i _ j _ => (nu_dlB i j).symm)))
      | (go_at_call 46; refine (lawTB (c := c1) hI8' (Im.jm (Im.below HA.out (bt hb5 (bt hb6 (bt hb7 hb8))))) r1b r1b c1b (fun i _ => by omega) HL1.out (tc_ok (fc_con r1b r1b) F1.out (cw2 r1)) HC1.out).mono ?_; rintro e w9 ⟨v9, rfl, hI9, hb9⟩; have B9 := (show Hid _ from bt hb5 (bt hb6 (bt hb7 (bt hb8 hb9)))); have A9 := (show Hid (Jm w9 (.slice p1 r1 k1) r1 (fun _ => c1) (fun i j => nuB (g1 i j))) from Im.jm (Im.len (Im.below HA.out B9.out) (fun i hi => by rw [cw_each F1.out hi, HC1.out]))); have M9 := (show Hid (Jm w9 v7 r1 (fun _ => c1) (fun i j => nuB (g1 i j))) from Im.jm (Im.congr (Im.below hI7 (bt hb8 hb9)) (fun i hi j hj => by rw [mm_dl_r hj]))); have N9 := (show Hid (Jm w9 v9 r1 (fun _ => c1) (fun i j => nuB (g1 i j))) from Im.jm (Im.congr hI9 (fun i hi j hj => by rw [mm_dl_l hi]))))
      | (go_at_call 49; refine (alike_any M9.out A9.out (by omega) (fun i _ => by omega)).mono ?_; rintro e w10 ⟨rfl, hb10⟩)
      | (go_at_call 49; refine (alike_any (Jm.below N9.out hb10) (Jm.below A9.out hb10) (by omega) (fun i _ => by omega)).mono ?_; rintro e w11 ⟨rfl, hb11⟩))
    have HB11 := (show Hid _ from bt B9.out (bt hb10 hb11))
    have RA2 := (show Hid _ from right_any (Lm.below (Jm.lm (Im.jm HA.out)) HB11.out))
    rw [F1.out, show decide ((0 : Int) = 0) = true from rfl] at RA2
    have RB2 := (show Hid _ from fun (W : World) (hb : Below w4.heap.size w4 W) => right_any (Lm.below (Jm.lm (Im.jm HBm.out)) hb))
    have RC2 := (show Hid _ from fun (W : World) (hb : Below w4.heap.size w4 W) => right_any (Lm.below (Jm.lm (Im.jm HCm.out)) hb))
    have A11 := (show Hid (Im w11 (.slice p1 r1 k1) r1 l1 (fun i j => nuB (g1 i j))) from Im.below HA.out HB11.out)
    have HBW := (show Hid _ from bt HB4.out HB11.out)
    clear B9 A9 M9 N9 hI6 hI6' hI7 hI8 hI8' hI9 hb5 hb6 hb7 hb8 hb9 hb10 hb11 RA
    by_cases f2 : fc r2 l2 = 0
    · have F2 : Hid (fc r2 l2 = 0) := f2
      have d2 : decide (fc r2 l2 = 0) = true := by simp [f2]
      rw [d2] at RB2
      clear d2 f2
      obtain ⟨c2, hc2⟩ : ∃ c2, c2 = cw r2 l2 := ⟨_, rfl⟩
      have HC2 : Hid (cw r2 l2 = c2) := hc2.symm
      have c2b : c2 ≤ 255 := by rw [hc2]; exact cw_big F2.out
      have r2b : r2 ≤ 255 := (fc_zero F2.out).1
      have WB := (show Hid _ from fun (W : World) (hb : Below w4.heap.size w4 W) => wide_any (Lm.below (Jm.lm (Im.jm HBm.out)) hb) (by omega))
      rw [HC2.out] at WB
      clear hc2
      by_cases f3 : fc r3 l3 = 0
      · have F3 : Hid (fc r3 l3 = 0) := f3
        have d3 : decide (fc r3 l3 = 0) = true := by simp [f3]
        rw [d3] at RC2
        clear d3 f3
        by_cases e12 : c1 = r2
        · have n12 : ((c1 : Int) != (r2 : Int)) = false := by simp; omega
          by_cases e23 : c2 = r3
          · have n23 : ((c2 : Int) != (r3 : Int)) = false := by simp; omega
            obtain ⟨c3, hc3⟩ : ∃ c3, c3 = cw r3 l3 := ⟨_, rfl⟩
            have HC3 : Hid (cw r3 l3 = c3) := hc3.symm
            have c3b : c3 ≤ 255 := by rw [hc3]; exact cw_big F3.out
            have r3b : r3 ≤ 255 := (fc_zero F3.out).1
            have T1 : Hid (tc r1 l1 r2 l2 = 0) := tc_ok F1.out F2.out (by rw [HC1.out]; exact e12)
            have T2 : Hid (tc r2 l2 r3 l3 = 0) := tc_ok F2.out F3.out (by rw [HC2.out]; exact e23)
            have T3 : Hid (tc r1 (fun _ => c2) r3 l3 = 0) := tc_ok (fc_con r1b c2b) F3.out (by
              by_cases e : r1 = 0
              · have h1 := HC1.out
                rw [e, cw_no] at h1
                have h2 := HC2.out
                have e2 : r2 = 0 := by omega
                rw [e2, cw_no] at h2
                rw [e, cw_no]; omega
              · rw [cw_cons c2 e]; exact e23)
            have T4 : Hid (tc r1 l1 r2 (fun _ => c3) = 0) := tc_ok F1.out (fc_con r2b c3b) (by rw [HC1.out]; exact e12)
            have T5 : Hid (cw r2 (fun _ => c3) = c3) := by
              show _ = _
              by_cases e : r2 = 0
              · have h2 := HC2.out
                rw [e, cw_no] at h2
                have h3 := HC3.out
                have e3 : r3 = 0 := by omega
                rw [e3, cw_no] at h3
                rw [e, cw_no]; omega
              · exact cw_cons c3 e
            clear hc3
            go_wp2_with (first
              | (go_at_call 45; refine RA2.out.mono ?_; rintro e w12 ⟨rfl, hb12⟩)
              | (go_at_call 45; refine (RB2.out w12 (bt HB11.out hb12)).mono ?_; rintro e w13 ⟨rfl, hb13⟩)
              | (go_at_call 45; refine (RC2.out w13 (bt HB11.out (bt hb12 hb13))).mono ?_; rintro e w14 ⟨rfl, hb14⟩; have HB14 := (show Hid _ from bt HB11.out (bt hb12 (bt hb13 hb14))))
              | (go_at_call 48; refine (WA.out _ HB14.out).mono ?_; rintro e w' ⟨rfl, h⟩; obtain rfl := h.symm)
              | (go_at_call 48; refine (WB.out _ HB14.out).mono ?_; rintro e w' ⟨rfl, h⟩; obtain rfl := h.symm)
              | (go_at_call 46; refine (lawTB (c := c2) (Im.jm (Im.below HA.out HB14.out)) (Im.jm (Im.below HBm.out HB14.out)) r1b r2b c2b HL1.out HL2.out T1.out HC2.out).mono ?_; rintro e w15 ⟨v15, rfl, hI15, hb15⟩)
              | (go_at_call 46; refine (lawTB (c := c3) (Im.jm (Im.below HBm.out (bt HB14.out hb15))) (Im.jm (Im.below HCm.out (bt HB14.out hb15))) r2b r3b c3b HL2.out HL3.out T2.out HC3.out).mono ?_; rintro e w16 ⟨v16, rfl, hI16, hb16⟩)
              | (go_at_call 46; refine (lawTB (c := c3) (Im.jm (Im.below hI15 hb16)) (Im.jm (Im.below HCm.out (bt HB14.out (bt hb15 hb16)))) r1b r3b c3b (fun i _ => by omega) HL3.out T3.out HC3.out).mono ?_; rintro e w17 ⟨v17, rfl, hI17, hb17⟩)
              | (go_at_call 46; refine (lawTB (c := c3) (Im.jm (Im.below HA.out (bt HB14.out (bt hb15 (bt hb16 hb17))))) (Im.jm (Im.below hI16 hb17)) r1b r2b c3b HL1.out (fun i _ => by omega) T4.out T5.out).mono ?_; rintro e w18 ⟨v18, rfl, hI18, hb18⟩; have hI17' := Im.congr (Im.below hI17 hb18) (M' := fun i j => nuB (mm fdB r2 g1 (mm fdB r3 g2 g3) i j)) (fun i _ j _ => by rw [mm_assoc]))
              | (go_at_call 49; refine (alike_any (Im.jm hI17') (Im.jm hI18) (by omega) (fun i _ => by omega)).mono ?_; rintro e w19 ⟨rfl, hb19⟩))
            go_ret
            exact ⟨rfl, bt (bt HB4.out HB14.out) (bt hb15 (bt hb16 (bt hb17 (bt hb18 hb19))))⟩
          · have n23 : ((c2 : Int) != (r3 : Int)) = true := by simp; omega
            go_wp2_with (first
              | (go_at_call 45; refine RA2.out.mono ?_; rintro e w12 ⟨rfl, hb12⟩)
              | (go_at_call 45; refine (RB2.out w12 (bt HB11.out hb12)).mono ?_; rintro e w13 ⟨rfl, hb13⟩)
              | (go_at_call 45; refine (RC2.out w13 (bt HB11.out (bt hb12 hb13))).mono ?_; rintro e w14 ⟨rfl, hb14⟩; have HB14 := (show Hid _ from bt HB11.out (bt hb12 (bt hb13 hb14))))
              | (go_at_call 48; refine (WA.out _ HB14.out).mono ?_; rintro e w' ⟨rfl, h⟩; obtain rfl := h.symm)
              | (go_at_call 48; refine (WB.out _ HB14.out).mono ?_; rintro e w' ⟨rfl, h⟩; obtain rfl := h.symm))
            go_ret
            exact ⟨rfl, bt HBW.out (bt hb12 (bt hb13 hb14))⟩
        · have n12 : ((c1 : Int) != (r2 : Int)) = true := by simp; omega
          go_wp2_with (first
            | (go_at_call 45; refine RA2.out.mono ?_; rintro e w12 ⟨rfl, hb12⟩)
            | (go_at_call 45; refine (RB2.out w12 (bt HB11.out hb12)).mono ?_; rintro e w13 ⟨rfl, hb13⟩)
            | (go_at_call 45; refine (RC2.out w13 (bt HB11.out (bt hb12 hb13))).mono ?_; rintro e w14 ⟨rfl, hb14⟩; have HB14 := (show Hid _ from bt HB11.out (bt hb12 (bt hb13 hb14))))
            | (go_at_call 48; refine (WA.out _ HB14.out).mono ?_; rintro e w' ⟨rfl, h⟩; obtain rfl := h.symm))
          go_ret
          exact ⟨rfl, bt HBW.out (bt hb12 (bt hb13 hb14))⟩
      · have d3 : decide (fc r3 l3 = 0) = false := by simp [f3]
        rw [d3] at RC2
        clear d3 f3
        go_wp2_with (first
          | (go_at_call 45; refine RA2.out.mono ?_; rintro e w12 ⟨rfl, hb12⟩)
          | (go_at_call 45; refine (RB2.out w12 (bt HB11.out hb12)).mono ?_; rintro e w13 ⟨rfl, hb13⟩)
          | (go_at_call 45; refine (RC2.out w13 (bt HB11.out (bt hb12 hb13))).mono ?_; rintro e w14 ⟨rfl, hb14⟩))
        go_ret
        exact ⟨rfl, bt HBW.out (bt hb12 (bt hb13 hb14))⟩
    · have d2 : decide (fc r2 l2 = 0) = false := by simp [f2]
      rw [d2] at RB2
      clear d2 f2
      go_wp2_with (first
        | (go_at_call 45; refine RA2.out.mono ?_; rintro e w12 ⟨rfl, hb12⟩)
        | (go_at_call 45; refine (RB2.out w12 (bt HB11.out hb12)).mono ?_; rintro e w13 ⟨rfl, hb13⟩))
      go_ret
      exact ⟨rfl, bt HBW.out (bt hb12 hb13)⟩
  · have d1 : decide (fc r1 l1 = 0) = false := by simp [f1]
    rw [d1] at RA
    have RA2 := (show Hid _ from fun (W : World) (hb : Below w4.heap.size w4 W) => right_any (Lm.below (Jm.lm (Im.jm HA.out)) hb))
    rw [d1] at RA2
    clear d1 f1
    go_wp2_with (first
      | (go_at_call 45; refine RA.out.mono ?_; rintro e w5 ⟨rfl, hb5⟩)
      | (go_at_call 45; refine (RA2.out w5 hb5).mono ?_; rintro e w6 ⟨rfl, hb6⟩))
    go_ret
    exact ⟨rfl, bt (bt HB4.out hb5) hb6⟩
end
theorem nuF_fam3 (M : Nat → Nat → Int) : ∃ g : Nat → Nat → (Bool × Bool), ∀ i j, nuF (g i j) = M i j % 4 :=
  ⟨fun i j => (nuF_sur (M i j)).choose, fun i j => (nuF_sur (M i j)).choose_spec⟩
section
attribute [local irreducible] Calls el nuF Im Jm Ir Jr tc fc cw mm dl
set_option maxHeartbeats 16000000 in
set_option maxRecDepth 1000000 in
theorem groupsLF (fl : Int) (vA vB vC : Value) (r1 r2 r3 : Nat) (l1 l2 l3 : Nat → Nat) (M1 M2 M3 : Nat → Nat → Int) (hr1 : r1 ≤ 5864062014805) (hl1 : ∀ i, i < r1 → l1 i ≤ 17592186044416) (hr2 : r2 ≤ 5864062014805) (hl2 : ∀ i, i < r2 → l2 i ≤ 17592186044416) (hr3 : r3 ≤ 5864062014805) (hl3 : ∀ i, i < r3 → l3 i ≤ 17592186044416) (hs : ∀ w : World, Calls Try.prog 9 #[.int .i64 fl] w fun e w' => e = .returned (.int .i64 4) ∧ w' = w) (w : World) (hA : Jm w vA r1 l1 M1) (hB : Jm w vB r2 l2 M2) (hC : Jm w vC r3 l3 M3) :
    Calls Try.prog 8 #[.agg #[.int .i64 fl, vA, vB, vC]] w fun e w' => e = .returned (.bool true) ∧ Below w.heap.size w w' := by
  have hb0 : Below w.heap.size w (w.alloc (.cells #[.int .i64 fl, vA, vB, vC] 83)) := (Below.refl _ _).alloc (Nat.le_refl _) _
  have q0 := ask_cell w #[.int .i64 fl, vA, vB, vC] 83 0 (.int .i64 fl) rfl
  have q1 := ask_cell w #[.int .i64 fl, vA, vB, vC] 83 1 vA rfl
  have q2 := ask_cell w #[.int .i64 fl, vA, vB, vC] 83 2 vB rfl
  have q3 := ask_cell w #[.int .i64 fl, vA, vB, vC] 83 3 vC rfl
  obtain ⟨g1, hg1⟩ := nuF_fam3 M1
  obtain ⟨g2, hg2⟩ := nuF_fam3 M2
  obtain ⟨g3, hg3⟩ := nuF_fam3 M3
  have HG1 : Hid (∀ i j, nuF (g1 i j) = M1 i j % 4) := hg1
  have HG2 : Hid (∀ i j, nuF (g2 i j) = M2 i j % 4) := hg2
  have HG3 : Hid (∀ i j, nuF (g3 i j) = M3 i j % 4) := hg3
  have hA0 := (show Hid _ from hA.below hb0)
  have hB0 := (show Hid _ from hB.below hb0)
  have hC0 := (show Hid _ from hC.below hb0)
  have HL1 : Hid (∀ i, i < r1 → l1 i ≤ 17592186044416) := hl1
  have HL2 : Hid (∀ i, i < r2 → l2 i ≤ 17592186044416) := hl2
  have HL3 : Hid (∀ i, i < r3 → l3 i ≤ 17592186044416) := hl3
  have HN1 : Hid (r1 ≤ 5864062014805) := hr1
  have HN2 : Hid (r2 ≤ 5864062014805) := hr2
  have HN3 : Hid (r3 ≤ 5864062014805) := hr3
  clear hg1 hg2 hg3 hr1 hl1 hr2 hl2 hr3 hl3 hA hB hC
  go_enter Try.func8, Try.ntmps8
  go_wp2_with (first
    | (go_at_call 9; refine (hs _).mono ?_; rintro e w' ⟨rfl, h⟩; obtain rfl := h.symm)
    | (go_at_call 10; refine (rows_any hA0.out 4 (by omega) HN1.out HL1.out).mono ?_; rintro e w1 ⟨v1, rfl, hI, hb1⟩; have hI1 : Im w1 v1 r1 l1 (fun i j => nuF (g1 i j)) := Im.congr hI (fun i _ j _ => (HG1.out i j).symm); obtain ⟨p1, k1, ex1⟩ := im_form hI1; subst ex1; have q21 := cell_below q2 hb1; have q31 := cell_below q3 hb1; have hB1 := (show Hid _ from Jm.below hB0.out hb1); have hC1 := (show Hid _ from Jm.below hC0.out hb1); clear hI)
    | (go_at_call 10; refine (rows_any hB1.out 4 (by omega) HN2.out HL2.out).mono ?_; rintro e w2 ⟨v2, rfl, hI, hb2⟩; have hI2 : Im w2 v2 r2 l2 (fun i j => nuF (g2 i j)) := Im.congr hI (fun i _ j _ => (HG2.out i j).symm); obtain ⟨p2, k2, ex2⟩ := im_form hI2; subst ex2; have q32 := cell_below q31 hb2; have hC2 := (show Hid _ from Jm.below hC1.out hb2); clear hI)
    | (go_at_call 10; refine (rows_any hC2.out 4 (by omega) HN3.out HL3.out).mono ?_; rintro e w3 ⟨v3, rfl, hI, hb3⟩; have hI3 : Im w3 v3 r3 l3 (fun i j => nuF (g3 i j)) := Im.congr hI (fun i _ j _ => (HG3.out i j).symm); obtain ⟨p3, k3, ex3⟩ := im_form hI3; subst ex3; clear hI)
    | (go_at_call 44; refine (known_any _).mono ?_; rintro e w4 ⟨rfl, hb4⟩))
  have HA : Hid (Im w4 (.slice p1 r1 k1) r1 l1 (fun i j => nuF (g1 i j))) := Im.below hI1 (bt hb2 (bt hb3 hb4))
  have HBm : Hid (Im w4 (.slice p2 r2 k2) r2 l2 (fun i j => nuF (g2 i j))) := Im.below hI2 (bt hb3 hb4)
  have HCm : Hid (Im w4 (.slice p3 r3 k3) r3 l3 (fun i j => nuF (g3 i j))) := Im.below hI3 hb4
  have HB4 := (show Hid _ from bt (bt (bt (bt hb0 hb1) hb2) hb3) hb4)
  have RA := (show Hid _ from right_any (Jm.lm (Im.jm HA.out)))
  clear hI1 hI2 hI3 hb1 hb2 hb3 hb4 q0 q1 q2 q3 q21 q31 q32 hA0 hB0 hC0 hB1 hC1 hC2
  by_cases f1 : fc r1 l1 = 0
  · have d1 : decide (fc r1 l1 = 0) = true := by simp [f1]
    rw [d1] at RA
    have F1 : Hid (fc r1 l1 = 0) := f1
    obtain ⟨c1, hc1⟩ : ∃ c1, c1 = cw r1 l1 := ⟨_, rfl⟩
    have HC1 : Hid (cw r1 l1 = c1) := hc1.symm
    have c1b : c1 ≤ 255 := by rw [hc1]; exact cw_big f1
    have r1b : r1 ≤ 255 := (fc_zero f1).1
    have WA := (show Hid _ from fun (W : World) (hb : Below w4.heap.size w4 W) => wide_any (Lm.below (Jm.lm (Im.jm HA.out)) hb) (by omega))
    rw [HC1.out] at WA
    clear d1 hc1 f1
    go_wp2_with (first
      | (go_at_call 45; refine RA.out.mono ?_; rintro e w5 ⟨rfl, hb5⟩)
      | (go_at_call 48; refine (WA.out _ hb5).mono ?_; rintro e w' ⟨rfl, h⟩; obtain rfl := h.symm)
      | (go_at_call 47; refine (lawUnit_core c1 (by omega) w5).mono ?_; rintro e w6 ⟨v6, rfl, hI6, hb6⟩; have hI6' : Jm w6 v6 c1 (fun _ => c1) (fun i j => nuF (dl fdF i j)) := Im.jm (Im.congr hI6 (fun i _ j _ => (nu_dlF i j).symm)))
      | (go_at_call 46; refine (lawTF (c := c1) (Im.jm (Im.below HA.out (bt hb5 hb6))) hI6' r1b c1b c1b HL1.out (fun i _ => by omega) (tc_ok F1.out (fc_con c1b c1b) HC1.out) (cw2 c1)).mono ?_; rintro e w7 ⟨v7, rfl, hI7, hb7⟩)
      | (go_at_call 47; refine (lawUnit_core r1 (by omega) w7).mono ?_; rintro e w8 ⟨v8, rfl, hI8, hb8⟩; have hI8' : Jm w8 v8 r1 (fun _ => r1) (fun i j => nuF (dl fdF i j)) := Im.jm (Im.congr hI8 (fun i _ j _ => (nu_dlF i j).symm)))
      | (go_at_call 46; refine (lawTF (c := c1) hI8' (Im.jm (Im.below HA.out (bt hb5 (bt hb6 (bt hb7 hb8))))) r1b r1b c1b (fun i _ => by omega) HL1.out (tc_ok (fc_con r1b r1b) F1.out (cw2 r1)) HC1.out).mono ?_; rintro e w9 ⟨v9, rfl, hI9, hb9⟩; have B9 := (show Hid _ from bt hb5 (bt hb6 (bt hb7 (bt hb8 hb9)))); have A9 := (show Hid (Jm w9 (.slice p1 r1 k1) r1 (fun _ => c1) (fun i j => nuF (g1 i j))) from Im.jm (Im.len (Im.below HA.out B9.out) (fun i hi => by rw [cw_each F1.out hi, HC1.out]))); have M9 := (show Hid (Jm w9 v7 r1 (fun _ => c1) (fun i j => nuF (g1 i j))) from Im.jm (Im.congr (Im.below hI7 (bt hb8 hb9)) (fun i hi j hj => by rw [mm_dl_r hj]))); have N9 := (show Hid (Jm w9 v9 r1 (fun _ => c1) (fun i j => nuF (g1 i j))) from Im.jm (Im.congr hI9 (fun i hi j hj => by rw [mm_dl_l hi]))))
      | (go_at_call 49; refine (alike_any M9.out A9.out (by omega) (fun i _ => by omega)).mono ?_; rintro e w10 ⟨rfl, hb10⟩)
      | (go_at_call 49; refine (alike_any (Jm.below N9.out hb10) (Jm.below A9.out hb10) (by omega) (fun i _ => by omega)).mono ?_; rintro e w11 ⟨rfl, hb11⟩))
    have HB11 := (show Hid _ from bt B9.out (bt hb10 hb11))
    have RA2 := (show Hid _ from right_any (Lm.below (Jm.lm (Im.jm HA.out)) HB11.out))
    rw [F1.out, show decide ((0 : Int) = 0) = true from rfl] at RA2
    have RB2 := (show Hid _ from fun (W : World) (hb : Below w4.heap.size w4 W) => right_any (Lm.below (Jm.lm (Im.jm HBm.out)) hb))
    have RC2 := (show Hid _ from fun (W : World) (hb : Below w4.heap.size w4 W) => right_any (Lm.below (Jm.lm (Im.jm HCm.out)) hb))
    have A11 := (show Hid (Im w11 (.slice p1 r1 k1) r1 l1 (fun i j => nuF (g1 i j))) from Im.below HA.out HB11.out)
    have HBW := (show Hid _ from bt HB4.out HB11.out)
    clear B9 A9 M9 N9 hI6 hI6' hI7 hI8 hI8' hI9 hb5 hb6 hb7 hb8 hb9 hb10 hb11 RA
    by_cases f2 : fc r2 l2 = 0
    · have F2 : Hid (fc r2 l2 = 0) := f2
      have d2 : decide (fc r2 l2 = 0) = true := by simp [f2]
      rw [d2] at RB2
      clear d2 f2
      obtain ⟨c2, hc2⟩ : ∃ c2, c2 = cw r2 l2 := ⟨_, rfl⟩
      have HC2 : Hid (cw r2 l2 = c2) := hc2.symm
      have c2b : c2 ≤ 255 := by rw [hc2]; exact cw_big F2.out
      have r2b : r2 ≤ 255 := (fc_zero F2.out).1
      have WB := (show Hid _ from fun (W : World) (hb : Below w4.heap.size w4 W) => wide_any (Lm.below (Jm.lm (Im.jm HBm.out)) hb) (by omega))
      rw [HC2.out] at WB
      clear hc2
      by_cases f3 : fc r3 l3 = 0
      · have F3 : Hid (fc r3 l3 = 0) := f3
        have d3 : decide (fc r3 l3 = 0) = true := by simp [f3]
        rw [d3] at RC2
        clear d3 f3
        by_cases e12 : c1 = r2
        · have n12 : ((c1 : Int) != (r2 : Int)) = false := by simp; omega
          by_cases e23 : c2 = r3
          · have n23 : ((c2 : Int) != (r3 : Int)) = false := by simp; omega
            obtain ⟨c3, hc3⟩ : ∃ c3, c3 = cw r3 l3 := ⟨_, rfl⟩
            have HC3 : Hid (cw r3 l3 = c3) := hc3.symm
            have c3b : c3 ≤ 255 := by rw [hc3]; exact cw_big F3.out
            have r3b : r3 ≤ 255 := (fc_zero F3.out).1
            have T1 : Hid (tc r1 l1 r2 l2 = 0) := tc_ok F1.out F2.out (by rw [HC1.out]; exact e12)
            have T2 : Hid (tc r2 l2 r3 l3 = 0) := tc_ok F2.out F3.out (by rw [HC2.out]; exact e23)
            have T3 : Hid (tc r1 (fun _ => c2) r3 l3 = 0) := tc_ok (fc_con r1b c2b) F3.out (by
              by_cases e : r1 = 0
              · have h1 := HC1.out
                rw [e, cw_no] at h1
                have h2 := HC2.out
                have e2 : r2 = 0 := by omega
                rw [e2, cw_no] at h2
                rw [e, cw_no]; omega
              · rw [cw_cons c2 e]; exact e23)
            have T4 : Hid (tc r1 l1 r2 (fun _ => c3) = 0) := tc_ok F1.out (fc_con r2b c3b) (by rw [HC1.out]; exact e12)
            have T5 : Hid (cw r2 (fun _ => c3) = c3) := by
              show _ = _
              by_cases e : r2 = 0
              · have h2 := HC2.out
                rw [e, cw_no] at h2
                have h3 := HC3.out
                have e3 : r3 = 0 := by omega
                rw [e3, cw_no] at h3
                rw [e, cw_no]; omega
              · exact cw_cons c3 e
            clear hc3
            go_wp2_with (first
              | (go_at_call 45; refine RA2.out.mono ?_; rintro e w12 ⟨rfl, hb12⟩)
              | (go_at_call 45; refine (RB2.out w12 (bt HB11.out hb12)).mono ?_; rintro e w13 ⟨rfl, hb13⟩)
              | (go_at_call 45; refine (RC2.out w13 (bt HB11.out (bt hb12 hb13))).mono ?_; rintro e w14 ⟨rfl, hb14⟩; have HB14 := (show Hid _ from bt HB11.out (bt hb12 (bt hb13 hb14))))
              | (go_at_call 48; refine (WA.out _ HB14.out).mono ?_; rintro e w' ⟨rfl, h⟩; obtain rfl := h.symm)
              | (go_at_call 48; refine (WB.out _ HB14.out).mono ?_; rintro e w' ⟨rfl, h⟩; obtain rfl := h.symm)
              | (go_at_call 46; refine (lawTF (c := c2) (Im.jm (Im.below HA.out HB14.out)) (Im.jm (Im.below HBm.out HB14.out)) r1b r2b c2b HL1.out HL2.out T1.out HC2.out).mono ?_; rintro e w15 ⟨v15, rfl, hI15, hb15⟩)
              | (go_at_call 46; refine (lawTF (c := c3) (Im.jm (Im.below HBm.out (bt HB14.out hb15))) (Im.jm (Im.below HCm.out (bt HB14.out hb15))) r2b r3b c3b HL2.out HL3.out T2.out HC3.out).mono ?_; rintro e w16 ⟨v16, rfl, hI16, hb16⟩)
              | (go_at_call 46; refine (lawTF (c := c3) (Im.jm (Im.below hI15 hb16)) (Im.jm (Im.below HCm.out (bt HB14.out (bt hb15 hb16)))) r1b r3b c3b (fun i _ => by omega) HL3.out T3.out HC3.out).mono ?_; rintro e w17 ⟨v17, rfl, hI17, hb17⟩)
              | (go_at_call 46; refine (lawTF (c := c3) (Im.jm (Im.below HA.out (bt HB14.out (bt hb15 (bt hb16 hb17))))) (Im.jm (Im.below hI16 hb17)) r1b r2b c3b HL1.out (fun i _ => by omega) T4.out T5.out).mono ?_; rintro e w18 ⟨v18, rfl, hI18, hb18⟩; have hI17' := Im.congr (Im.below hI17 hb18) (M' := fun i j => nuF (mm fdF r2 g1 (mm fdF r3 g2 g3) i j)) (fun i _ j _ => by rw [mm_assoc]))
              | (go_at_call 49; refine (alike_any (Im.jm hI17') (Im.jm hI18) (by omega) (fun i _ => by omega)).mono ?_; rintro e w19 ⟨rfl, hb19⟩))
            go_ret
            exact ⟨rfl, bt (bt HB4.out HB14.out) (bt hb15 (bt hb16 (bt hb17 (bt hb18 hb19))))⟩
          · have n23 : ((c2 : Int) != (r3 : Int)) = true := by simp; omega
            go_wp2_with (first
              | (go_at_call 45; refine RA2.out.mono ?_; rintro e w12 ⟨rfl, hb12⟩)
              | (go_at_call 45; refine (RB2.out w12 (bt HB11.out hb12)).mono ?_; rintro e w13 ⟨rfl, hb13⟩)
              | (go_at_call 45; refine (RC2.out w13 (bt HB11.out (bt hb12 hb13))).mono ?_; rintro e w14 ⟨rfl, hb14⟩; have HB14 := (show Hid _ from bt HB11.out (bt hb12 (bt hb13 hb14))))
              | (go_at_call 48; refine (WA.out _ HB14.out).mono ?_; rintro e w' ⟨rfl, h⟩; obtain rfl := h.symm)
              | (go_at_call 48; refine (WB.out _ HB14.out).mono ?_; rintro e w' ⟨rfl, h⟩; obtain rfl := h.symm))
            go_ret
            exact ⟨rfl, bt HBW.out (bt hb12 (bt hb13 hb14))⟩
        · have n12 : ((c1 : Int) != (r2 : Int)) = true := by simp; omega
          go_wp2_with (first
            | (go_at_call 45; refine RA2.out.mono ?_; rintro e w12 ⟨rfl, hb12⟩)
            | (go_at_call 45; refine (RB2.out w12 (bt HB11.out hb12)).mono ?_; rintro e w13 ⟨rfl, hb13⟩)
            | (go_at_call 45; refine (RC2.out w13 (bt HB11.out (bt hb12 hb13))).mono ?_; rintro e w14 ⟨rfl, hb14⟩; have HB14 := (show Hid _ from bt HB11.out (bt hb12 (bt hb13 hb14))))
            | (go_at_call 48; refine (WA.out _ HB14.out).mono ?_; rintro e w' ⟨rfl, h⟩; obtain rfl := h.symm))
          go_ret
          exact ⟨rfl, bt HBW.out (bt hb12 (bt hb13 hb14))⟩
      · have d3 : decide (fc r3 l3 = 0) = false := by simp [f3]
        rw [d3] at RC2
        clear d3 f3
        go_wp2_with (first
          | (go_at_call 45; refine RA2.out.mono ?_; rintro e w12 ⟨rfl, hb12⟩)
          | (go_at_call 45; refine (RB2.out w12 (bt HB11.out hb12)).mono ?_; rintro e w13 ⟨rfl, hb13⟩)
          | (go_at_call 45; refine (RC2.out w13 (bt HB11.out (bt hb12 hb13))).mono ?_; rintro e w14 ⟨rfl, hb14⟩))
        go_ret
        exact ⟨rfl, bt HBW.out (bt hb12 (bt hb13 hb14))⟩
    · have d2 : decide (fc r2 l2 = 0) = false := by simp [f2]
      rw [d2] at RB2
      clear d2 f2
      go_wp2_with (first
        | (go_at_call 45; refine RA2.out.mono ?_; rintro e w12 ⟨rfl, hb12⟩)
        | (go_at_call 45; refine (RB2.out w12 (bt HB11.out hb12)).mono ?_; rintro e w13 ⟨rfl, hb13⟩))
      go_ret
      exact ⟨rfl, bt HBW.out (bt hb12 hb13)⟩
  · have d1 : decide (fc r1 l1 = 0) = false := by simp [f1]
    rw [d1] at RA
    have RA2 := (show Hid _ from fun (W : World) (hb : Below w4.heap.size w4 W) => right_any (Lm.below (Jm.lm (Im.jm HA.out)) hb))
    rw [d1] at RA2
    clear d1 f1
    go_wp2_with (first
      | (go_at_call 45; refine RA.out.mono ?_; rintro e w5 ⟨rfl, hb5⟩)
      | (go_at_call 45; refine (RA2.out w5 hb5).mono ?_; rintro e w6 ⟨rfl, hb6⟩))
    go_ret
    exact ⟨rfl, bt (bt HB4.out hb5) hb6⟩
end
theorem matrixGroups_walk (fl : Int) (vA vB vC : Value) (r1 r2 r3 : Nat) (l1 l2 l3 : Nat → Nat) (M1 M2 M3 : Nat → Nat → Int) (hr1 : r1 ≤ 5864062014805) (hr2 : r2 ≤ 5864062014805) (hr3 : r3 ≤ 5864062014805) (hl1 : ∀ i, i < r1 → l1 i ≤ 17592186044416) (hl2 : ∀ i, i < r2 → l2 i ≤ 17592186044416) (hl3 : ∀ i, i < r3 → l3 i ≤ 17592186044416) (w : World) (hA : Jm w vA r1 l1 M1) (hB : Jm w vB r2 l2 M2) (hC : Jm w vC r3 l3 M3) :
    Calls Try.prog 8 #[.agg #[.int .i64 fl, vA, vB, vC]] w fun e w' => e = .returned (.bool true) ∧ Below w.heap.size w w' := by
  obtain ⟨s, h, hs⟩ := size_any fl
  rcases h with rfl | rfl | rfl
  · exact groupsLE fl vA vB vC r1 r2 r3 l1 l2 l3 M1 M2 M3 hr1 hl1 hr2 hl2 hr3 hl3 hs w hA hB hC
  · exact groupsLB fl vA vB vC r1 r2 r3 l1 l2 l3 M1 M2 M3 hr1 hl1 hr2 hl2 hr3 hl3 hs w hA hB hC
  · exact groupsLF fl vA vB vC r1 r2 r3 l1 l2 l3 M1 M2 M3 hr1 hl1 hr2 hl2 hr3 hl3 hs w hA hB hC
end Go.Proofs.Ytchmggehbajebaa
