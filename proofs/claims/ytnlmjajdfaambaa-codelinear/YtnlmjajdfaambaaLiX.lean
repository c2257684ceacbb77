/-
  CodeLinear: the walk, the other side of 'min'.
-/
import Derived.Test.YtnlmjajdfaambaaLiW
namespace Go.Proofs.Ytnlmjajdfaambaa
open Go.RowKit
section
attribute [local irreducible] Calls el NmE NrE Cd Fac mm Jr Bm Br lv tiE Ov
set_option maxHeartbeats 32000000 in
set_option maxRecDepth 1000000 in
theorem codeLinear_x (K M : Int) (pb : Option Addr) (nb cb : Nat) (x : Nat → BitVec 8) (pP : Option Addr) (nP cP : Nat) (f : Nat → Int) (py : Option Addr) (ny cy : Nat) (y : Nat → BitVec 8) (s : BitVec 8) (w : World) (hnb : nb ≤ 140737488355328) (hcb : nb ≤ cb) (hny : ny ≤ 140737488355328) (hcy : ny ≤ cy) (hB : NrE w (.slice pb nb cb) nb x) (hP : Jr w (.slice pP nP cP) nP f) (hY : NrE w (.slice py ny cy) ny y) (hmin : ¬ (ny : Int) < (nb : Int)) :
    Calls Try.prog 6 #[.agg #[.int .i64 K, .int .i64 M, .slice pb nb cb, .slice pP nP cP], .slice py ny cy, .int .u8 (el s)] w fun e w' => e = .returned (.bool true) ∧ Below w.heap.size w w' := by
  obtain ⟨vP, hvP⟩ : ∃ vP : Value, vP = .slice pP nP cP := ⟨_, rfl⟩
  rw [← hvP] at hP ⊢
  have hb0 : Below w.heap.size w (w.alloc (.cells #[.int .i64 K, .int .i64 M, .slice pb nb cb, vP] 47)) := (Below.refl _ _).alloc (Nat.le_refl _) _
  have q0 := ask_cell w #[.int .i64 K, .int .i64 M, .slice pb nb cb, vP] 47 0 (.int .i64 K) rfl
  have q1 := ask_cell w #[.int .i64 K, .int .i64 M, .slice pb nb cb, vP] 47 1 (.int .i64 M) rfl
  have q2 := ask_cell w #[.int .i64 K, .int .i64 M, .slice pb nb cb, vP] 47 2 (.slice pb nb cb) rfl
  have q3 := ask_cell w #[.int .i64 K, .int .i64 M, .slice pb nb cb, vP] 47 3 vP rfl
  obtain ⟨W, hW⟩ : ∃ W, W = w.alloc (.cells #[.int .i64 K, .int .i64 M, .slice pb nb cb, vP] 47) := ⟨_, rfl⟩
  rw [← hW] at hb0 q0 q1 q2 q3
  have HW : Hid (w.alloc (.cells #[.int .i64 K, .int .i64 M, .slice pb nb cb, vP] 47) = W) := hW.symm
  have HB0 := (show Hid _ from nr_cut (q := nb) (NrE.below hB hb0) (by omega))
  have HY0 := (show Hid _ from nr_cut (q := nb) (NrE.below hY hb0) (by omega))
  have HP0 := (show Hid _ from Jr.below hP hb0)
  have HVP : Hid (vP = .slice pP nP cP) := hvP
  clear hW hB hY hP hvP
  have z1 : (nb : Int) ≤ (cb : Int) := by omega
  have z2 : (nb : Int) ≤ (cy : Int) := by omega
  have z3 : (0 : Int) ≤ (nb : Int) := by omega
  go_enter Try.func6, Try.ntmps6
  go_wp2_with (first
    | (go_at_call 24; rw [HW.out]; refine (awake_any W).mono ?_; rintro e w1 ⟨rfl, hb1⟩; have q01 := cell_below q0 hb1; have q11 := cell_below q1 hb1; have q21 := cell_below q2 hb1; have q31 := cell_below q3 hb1; clear q0 q1)
    | (go_at_call 25; refine (fit_ok K M (.slice pb nb cb) vP w1).mono ?_; rintro e w2 ⟨k, m, rfl, hk1, hm1, hmk, hkm, hb2⟩; have q22 := cell_below q21 hb2; have q32 := (show Hid _ from cell_below q31 hb2); have HB2 := (show Hid _ from bt (bt hb0 hb1) hb2); have HBX := (show Hid _ from NrE.below HB0.out (bt hb1 hb2)); have HBY := (show Hid _ from NrE.below HY0.out (bt hb1 hb2)); have HP2 := (show Hid _ from Jr.below HP0.out (bt hb1 hb2)); obtain ⟨n, hn⟩ : ∃ n, nb / k = n := ⟨_, rfl⟩; have HN : Hid (nb / k = n) := hn; have hnn : n ≤ 140737488355328 := (by have := Nat.div_le_self nb k; omega); clear hn; have e1 : wrap64 ((k : Int) + (m : Int)) = (k : Int) + (m : Int) := (by unfold wrap64; omega); have j0 : ((k : Int) + (m : Int) != (k : Int) + (m : Int)) = false := (by simp); have T1 : Hid True := trivial; clear q01 q11 q21 q31)
    | (go_at_call 26; revert T1; intro T1; refine (cut_core pb nb cb n k x w2 hk1 (by omega) (by omega) (by omega) HN HBX).mono ?_; rintro e w3 ⟨v3, rfl, hM3, hb3⟩; have HD := (show Hid _ from Bm.nm hM3); obtain ⟨p3, c3, e3⟩ := nmE_form HD.out; subst e3; obtain ⟨D, hDe⟩ : ∃ D, D = (fun i j => x (i * n + j)) := ⟨_, rfl⟩; rw [← hDe] at HD; clear hDe hM3 q22 T1)
    | (go_at_call 26; refine (cut_core py nb cy n k y w3 hk1 (by omega) (by omega) (by omega) HN (NrE.below HBY.out hb3)).mono ?_; rintro e w4 ⟨v4, rfl, hM4, hb4⟩; have HE := (show Hid _ from Bm.nm hM4); obtain ⟨p4, c4, e4⟩ := nmE_form HE.out; subst e4; obtain ⟨E, hEe⟩ : ∃ E, E = (fun i j => y (i * n + j)) := ⟨_, rfl⟩; rw [← hEe] at HE; clear hEe hM4)
    | (go_at_call 9; refine (new_ok k m hm1 hmk hkm w4).mono ?_; rintro e w5 ⟨v5, F, rfl, hC5, hF5, hb5⟩; have HC := (show Hid _ from hC5); have HF := (show Hid _ from hF5); obtain ⟨cb5, _, _, ev, _⟩ := cd_open hC5; subst ev; clear hC5 hF5))
  have HD5 := (show Hid _ from NmE.below HD.out (bt hb4 hb5))
  have HE5 := (show Hid _ from NmE.below HE.out hb5)
  have HX5 := (show Hid _ from bt (bt (bt HB2.out hb3) hb4) hb5)
  have q35 := (show Hid _ from cell_below q32.out (bt (bt hb3 hb4) hb5))
  have HP5 := (show Hid _ from Jr.below HP2.out (bt (bt hb3 hb4) hb5))
  obtain ⟨b3, o3, rowsD, ep3, hcD, hrD⟩ := nm_at HD5.out (by omega)
  subst ep3
  have HCD := (show Hid _ from hcD)
  have HRD := (show Hid _ from hrD)
  obtain ⟨i0, hif, hz0, hz1, hz2⟩ := info_parts infoY
  clear hcD hrD hb0 hb1 hb2 hb3 hb4 hb5 HW HB0 HY0 HP0 HP2 HB2 HBX HBY HD HE q32 q2 q3
  go_loopw [14, 16] (fun v i wr => ∃ (t : Nat) (rows : Nat → Value), t ≤ k ∧ i = .int .i64 t ∧ wr.ownsRow w5.heap.size 37 1 v t (lv rows t) ∧ Hid (∀ i, i < t → Br wr (rows i) n (fun c => tiE (D i c) s)) ∧ Below w5.heap.size w5 wr) (fun _ i _ => k - (intOf i).toNat)
  case atStart => exact ⟨0, fun _ => .bool false, Nat.zero_le _, rfl, lv_none _ _ _ _ _, fun i hi => by omega, Below.refl _ _⟩
  case round =>
    obtain ⟨t, rows, ht, rfl, hown, hR, hb⟩ := hrel
    by_cases hlt : t < k
    · have jl : (t : Int) < (k : Int) := by omega
      have M1 : Hid (t + 1 ≤ maxLen) := by show _ ≤ _; unfold maxLen; omega
      have g1 := cell_below (HCD.out t hlt) hb
      have SC := (show Hid _ from scale_nr (NrE.below (HRD.out t hlt) hb) s hnn)
      go_wp2_with (first
        | (go_at_call 28; refine SC.out.mono ?_; rintro e wx ⟨gx, rfl, hgx, hOx, hbx⟩; have hown2 := owns_below hown hbx; have hBx : Hid (Br wx (.slice (some ⟨gx, 0, none⟩) n n) n (fun c => tiE (D t c) s)) := br_ov hOx; clear hOx)
        | (at_builtin; refine wpList_append_own _ rfl _ _ 27 rfl w5.heap.size 37 i0 (.slice none 0 0) 1 24 Try.underlying27 hif hz0 hz1 hz2 rfl (by decide) _ _ _ rfl (hown2.alloc _) ⟨_, 0, none⟩ 1 1 [.slice (some ⟨gx, 0, none⟩) n n] rfl rfl (one_new _ _ _) (one_cellv rfl) M1.out (by omega) (by have := hb.size; have := hbx.size; simp at *; omega) ?_; intro v' wz hown' hgrow _))
      have hb3 := below_append ((bt hb hbx).alloc (by have := hb.size; have := hbx.size; omega) _) (by have := hb.size; have := hbx.size; simp at *; omega) hgrow (hown2.alloc _) (Nat.le_refl _)
      rw [push_lv] at hown'
      have hR3 : Hid (∀ i, i < t + 1 → Br wz ((fun i => if i = t then .slice (some ⟨gx, 0, none⟩) n n else rows i) i) n (fun c => tiE (D i c) s)) := push_br (l := fun _ => n) (M := fun i c => tiE (D i c) s) hown2 hgrow (fun i hi => (hR.out i hi).below hbx) hBx.out
      clear hown hgrow hR hown2 g1 hBx SC
      go_roundw
      case rel => exact ⟨t + 1, _, by omega, by go_num, hown', hR3, hb3⟩
      case measure => simp [intOf]; omega
    · obtain rfl : k = t := by omega
      obtain ⟨w6, h6⟩ : ∃ w6, w6 = wr := ⟨_, rfl⟩
      subst h6
      have HS := (show Hid _ from bm_nm hown hR.out)
      obtain ⟨pS, cS, eS⟩ := nmE_form HS.out
      subst eS
      have HC6 := (show Hid _ from Cd.below HC.out hb)
      have HB56 := (show Hid _ from hb)
      have HD6 := (show Hid _ from NmE.below HD5.out hb)
      have HE6 := (show Hid _ from NmE.below HE5.out hb)
      clear hown hR hb
      have T1 : Hid True := trivial
      have T2 : Hid True := trivial
      have T3 : Hid True := trivial
      go_wp2_with (first
        | (go_at_call 11; revert T1; intro T1; refine (encode_ok HC6.out HF.out hk1 hm1 hkm hnn HD6.out).mono ?_; rintro e w7 ⟨v7, rfl, hN7, hb7, hcp7⟩; have HN7 := (show Hid _ from hN7); obtain ⟨p7, c7, e7, hc7⟩ := hcp7; subst e7; clear hN7 T1)
        | (go_at_call 11; revert T2; intro T2; refine (encode_ok (Cd.below HC6.out hb7) HF.out hk1 hm1 hkm hnn (NmE.below HE6.out hb7)).mono ?_; rintro e w8 ⟨v8, rfl, hN8, hb8, hcp8⟩; have HN8 := (show Hid _ from hN8); obtain ⟨pW, cW, eW, hcW⟩ := hcp8; subst eW; clear hN8 T2)
        | (go_at_call 29; refine (plus4_any hk1 (by omega) hnn (NmE.below HD6.out (bt hb7 hb8)) (NmE.below HE6.out (bt hb7 hb8))).mono ?_; rintro e w9 ⟨v9, rfl, hN9, hb9⟩; have HN9 := (show Hid _ from hN9); clear hN9)
        | (go_at_call 11; revert T3; intro T3; refine (encode_ok (Cd.below HC6.out (bt (bt hb7 hb8) hb9)) HF.out hk1 hm1 hkm hnn HN9.out).mono ?_; rintro e w10 ⟨v10, rfl, hN10, hb10, hcp10⟩; have HN10 := (show Hid _ from hN10); obtain ⟨pU, cU, eU, hcU⟩ := hcp10; subst eU; clear hN10 T3)
        | (go_at_call 11; refine (encode_ok (Cd.below HC6.out (bt (bt hb7 hb8) (bt hb9 hb10))) HF.out hk1 hm1 hkm hnn (NmE.below HS.out (bt (bt hb7 hb8) (bt hb9 hb10)))).mono ?_; rintro e w11 ⟨v11, rfl, hN11, hb11, hcp11⟩; have HZ11 := (show Hid _ from hN11); obtain ⟨pZ, cZ, eZ, hcZ⟩ := hcp11; subst eZ; clear hN11))
      have HB6 := (show Hid _ from bt (bt (bt hb7 hb8) (bt hb9 hb10)) hb11)
      have HC11 := (show Hid _ from Cd.below HC6.out HB6.out)
      have HV11 := (show Hid _ from NmE.below HN7.out (bt (bt (bt hb8 hb9) hb10) hb11))
      have HW11 := (show Hid _ from NmE.below HN8.out (bt (bt hb9 hb10) hb11))
      have HU11 := (show Hid _ from NmE.below HN10.out hb11)
      have HD11 := (show Hid _ from NmE.below HD6.out HB6.out)
      obtain ⟨b4, o4, rowsB, ep4, hcB, hrB⟩ := nm_at (NmE.below HE6.out HB6.out) (by omega)
      subst ep4
      have HCB11 := (show Hid _ from hcB)
      have HRB11 := (show Hid _ from hrB)
      obtain ⟨b7, o7, rowsV, ep7, hcV, hrV⟩ := nm_at HV11.out (by omega)
      subst ep7
      have HCV11 := (show Hid _ from hcV)
      have HRV11 := (show Hid _ from hrV)
      have HX11 := (show Hid _ from bt HX5.out (bt HB56.out HB6.out))
      have q311 := (show Hid _ from cell_below q35.out (bt HB56.out HB6.out))
      have HB511 := (show Hid _ from bt HB56.out HB6.out)
      clear hcB hrB hcV hrV hb7 hb8 hb9 hb10 hb11 HN7 HN8 HN9 HN10 HS HC6 HD6 HE6 HC HD5 HE5 HX5 q35 HB6 HB56 HCD HRD
      go_loopw [15, 24] (fun v i wr => ∃ (t : Nat) (rows : Nat → Value), t ≤ k + m ∧ i = .int .i64 t ∧ wr.ownsRow w11.heap.size 37 1 v t (lv rows t) ∧ Hid (∀ i, i < t → Br wr (rows i) n (fun c => tiE (mm fdE k F D i c) s)) ∧ Below w11.heap.size w11 wr) (fun _ i _ => k + m - (intOf i).toNat)
      case atStart => exact ⟨0, fun _ => .bool false, Nat.zero_le _, rfl, lv_none _ _ _ _ _, fun i hi => by omega, Below.refl _ _⟩
      case round =>
        obtain ⟨t, rows, ht, rfl, hown, hR, hb⟩ := hrel
        by_cases hlt : t < k + m
        · have jl : (t : Int) < (k : Int) + (m : Int) := by omega
          have M1 : Hid (t + 1 ≤ maxLen) := by show _ ≤ _; unfold maxLen; omega
          have g1 := cell_below (HCV11.out t hlt) hb
          have SC := (show Hid _ from scale_nr (NrE.below (HRV11.out t hlt) hb) s hnn)
          go_wp2_with (first
            | (go_at_call 28; refine SC.out.mono ?_; rintro e wx ⟨gx, rfl, hgx, hOx, hbx⟩; have hown2 := owns_below hown hbx; have hBx : Hid (Br wx (.slice (some ⟨gx, 0, none⟩) n n) n (fun c => tiE (mm fdE k F D t c) s)) := br_ov hOx; clear hOx)
            | (at_builtin; refine wpList_append_own _ rfl _ _ 27 rfl w11.heap.size 37 i0 (.slice none 0 0) 1 24 Try.underlying27 hif hz0 hz1 hz2 rfl (by decide) _ _ _ rfl (hown2.alloc _) ⟨_, 0, none⟩ 1 1 [.slice (some ⟨gx, 0, none⟩) n n] rfl rfl (one_new _ _ _) (one_cellv rfl) M1.out (by omega) (by have := hb.size; have := hbx.size; simp at *; omega) ?_; intro v' wz hown' hgrow _))
          have hb3 := below_append ((bt hb hbx).alloc (by have := hb.size; have := hbx.size; omega) _) (by have := hb.size; have := hbx.size; simp at *; omega) hgrow (hown2.alloc _) (Nat.le_refl _)
          rw [push_lv] at hown'
          have hR3 : Hid (∀ i, i < t + 1 → Br wz ((fun i => if i = t then .slice (some ⟨gx, 0, none⟩) n n else rows i) i) n (fun c => tiE (mm fdE k F D i c) s)) := push_br (l := fun _ => n) (M := fun i c => tiE (mm fdE k F D i c) s) hown2 hgrow (fun i hi => (hR.out i hi).below hbx) hBx.out
          clear hown hgrow hR hown2 g1 hBx SC
          go_roundw
          case rel => exact ⟨t + 1, _, by omega, by go_num, hown', hR3, hb3⟩
          case measure => simp [intOf]; omega
        · obtain rfl : k + m = t := by omega
          obtain ⟨w12, h12⟩ : ∃ w12, w12 = wr := ⟨_, rfl⟩
          subst h12
          have HI := (show Hid _ from bm_nm hown hR.out)
          obtain ⟨pI, cI, eI⟩ := nmE_form HI.out
          subst eI
          have HB11 := (show Hid _ from hb)
          have HC8 := (show Hid _ from Cd.below HC11.out hb)
          have HV8 := (show Hid _ from NmE.below HV11.out hb)
          have HW8 := (show Hid _ from NmE.below HW11.out hb)
          have HU8 := (show Hid _ from NmE.below HU11.out hb)
          have HZ8 := (show Hid _ from NmE.below HZ11.out hb)
          have HD8 := (show Hid _ from NmE.below HD11.out hb)
          have HCB : Hid (∀ i, i < k → w12.cell? ⟨b4, o4 + i, none⟩ = some (rowsB i)) := fun i hi => cell_below (HCB11.out i hi) hb
          have HRB : Hid (∀ i, i < k → NrE w12 (rowsB i) n (E i)) := fun i hi => NrE.below (HRB11.out i hi) hb
          have HX8 := (show Hid _ from bt HX11.out hb)
          have HB512 := (show Hid _ from bt HB511.out hb)
          have q312 := cell_below q311.out hb
          clear hown hR hb HC11 HV11 HW11 HU11 HZ11 HD11 HCB11 HRB11 HX11 HCV11 HRV11 q311
          have q3v : w12.cell? ⟨w.heap.size, 3, none⟩ = some (.slice pP nP cP) := by rw [← HVP.out]; exact q312
          have HPv : Hid (Jr w12 (.slice pP nP cP) nP f) := by rw [← HVP.out]; exact Jr.below HP5.out HB512.out
          clear q312
          rcases nil_or nP with hP0 | ⟨hP0, hPp, hPd⟩
          · obtain ⟨pB, cB, eB, _⟩ := nr_un (HRB.out 0 (by omega))
            have HNB := (show Hid _ from HRB.out 0 (by omega))
            rw [eB] at HNB
            have TU := (show Hid _ from turn_core (a := 0) hk1 hm1 hkm hnn (by omega) HC8 HV8 HNB)
            rw [show ((0 : Nat) : Int) = (0 : Int) from rfl] at TU
            have y1 : w12.cell? ⟨b4, o4, none⟩ = some (rowsB 0) := HCB.out 0 (by omega)
            rw [eB] at y1
            have HY1 := (show Hid _ from y1)
            clear eB
            have jk0 : (0 : Int) < (k : Int) := by omega
            have jk1 : 0 < k := by omega
            go_wp2_with (first
              | (go_at_call 14; refine TU.out.mono ?_; rintro e w20 ⟨v20, rfl, hN20, hb20⟩; have HN20 := (show Hid _ from hN20); obtain ⟨p20, c20, e20⟩ := nmE_form hN20; subst e20; clear hN20 TU y1)
              | (go_at_call 20; refine (copied_core _ k c3 (fun _ => n) D w20 (by omega) (fun i _ => hnn) (NmE.below HD8.out hb20)).mono ?_; rintro e w21 ⟨v21, rfl, hM21, hb21⟩; obtain ⟨g8, cap8, N8, f8, e8, hg8, hr8, hO8, hf8⟩ := bm_open hM21 (by omega); subst e8; clear hM21; have y2 : w21.cell? ⟨b4, o4, none⟩ = some (.slice pB n cB) := cell_below HY1.out (bt hb20 hb21); have x1 := hO8.cell (show 0 < N8 by omega); have x2 := hO8.frozen 0; have EN := (show Hid _ from enc_put (cap := cap8) (a := 0) (Cd.below HC8.out hb20) HF.out hk1 hm1 hkm hnn (by omega) hb21 hg8 hO8 hr8 hf8 (NrE.below HNB.out hb20)); clear hb21 hO8 hf8)
              | (go_at_call 11; refine EN.out.mono ?_; rintro e w22 ⟨v22, rfl, hN22, hb22⟩; have HN22 := (show Hid _ from hN22); obtain ⟨p22, c22, e22⟩ := nmE_form hN22; subst e22; clear hN22 EN; have HB22 := (show Hid _ from bt hb20 hb22))
              | (go_at_call 29; refine (plus4_any (by omega) hkm hnn (NmE.below HV8.out HB22.out) (NmE.below HW8.out HB22.out)).mono ?_; rintro e w23 ⟨v23, rfl, hN23, hb23⟩; have HN23 := (show Hid _ from hN23); obtain ⟨p23, c23, e23⟩ := nmE_form hN23; subst e23; clear hN23; have HB23 := (show Hid _ from bt HB22.out hb23); have T8 : Hid True := trivial)
              | (go_at_call 17; revert T8; intro T8; refine (same_core pU p23 (k + m) cU c23 (fun _ => n) _ _ w23 (by omega) (NmE.below HU8.out HB23.out) HN23 (fun i _ j _ => mm_xor k F D E i j)).mono ?_; rintro e w24 ⟨rfl, hb24⟩; clear T8; have T9 : Hid True := trivial)
              | (go_at_call 17; revert T9; intro T9; refine (same_core pZ pI (k + m) cZ cI (fun _ => n) _ _ w24 (by omega) (NmE.below HZ8.out (bt HB23.out hb24)) (NmE.below HI.out (bt HB23.out hb24)) (fun i _ j _ => mm_scale k F D s i j)).mono ?_; rintro e w25 ⟨rfl, hb25⟩; clear T9)
              | (go_at_call 17; refine (same_core p20 p22 (k + m) c20 c22 (fun _ => n) _ _ w25 (by omega) (NmE.below HN20.out (bt (bt hb22 hb23) (bt hb24 hb25))) (NmE.below HN22.out (bt hb23 (bt hb24 hb25))) (fun i hi j _ => (turn_word HF.out (by omega) i j).resolve_right (by omega))).mono ?_; rintro e w26 ⟨rfl, hb26⟩))
            go_ret
            exact ⟨rfl, bt HX8.out (bt HB23.out (bt (bt hb24 hb25) hb26))⟩
          · obtain ⟨bP, oP, cP', eP, hcP⟩ := jr_cells HPv.out hPp
            injection eP with eP1 eP2 eP3
            subst eP1
            have yP : w12.cell? ⟨bP, oP, none⟩ = some (.int .i64 (f 0)) := hcP 0 hPp
            have jP : (0 : Int) < (nP : Int) := by omega
            clear hcP
            go_wp2_with (first
              | (go_at_call 30; refine (pick_ok (f 0) k hk1 (by omega) w12).mono ?_; rintro e w' ⟨ta, rfl, hta, h⟩; obtain rfl := h.symm; have jt : (ta : Int) < (k : Int) := (by omega); obtain ⟨pB, cB, eB, _⟩ := nr_un (HRB.out ta hta); have HNB := (show Hid _ from HRB.out ta hta); have y1 := HCB.out ta hta; rw [eB] at HNB y1; have HY1 := (show Hid _ from y1); clear eB; have TU := (show Hid _ from turn_core (a := ta) hk1 hm1 hkm hnn hta HC8 HV8 HNB))
              | (go_at_call 14; refine TU.out.mono ?_; rintro e w20 ⟨v20, rfl, hN20, hb20⟩; have HN20 := (show Hid _ from hN20); obtain ⟨p20, c20, e20⟩ := nmE_form hN20; subst e20; clear hN20 TU y1)
              | (go_at_call 20; refine (copied_core _ k c3 (fun _ => n) D w20 (by omega) (fun i _ => hnn) (NmE.below HD8.out hb20)).mono ?_; rintro e w21 ⟨v21, rfl, hM21, hb21⟩; obtain ⟨g8, cap8, N8, f8, e8, hg8, hr8, hO8, hf8⟩ := bm_open hM21 (by omega); subst e8; clear hM21; have y2 : w21.cell? ⟨b4, o4 + ta, none⟩ = some (.slice pB n cB) := cell_below HY1.out (bt hb20 hb21); have x1 := hO8.cell (show ta < N8 by omega); have x2 := hO8.frozen ta; have EN := (show Hid _ from enc_put (cap := cap8) (a := ta) (Cd.below HC8.out hb20) HF.out hk1 hm1 hkm hnn hta hb21 hg8 hO8 hr8 hf8 (NrE.below HNB.out hb20)); clear hb21 hO8 hf8)
              | (go_at_call 11; refine EN.out.mono ?_; rintro e w22 ⟨v22, rfl, hN22, hb22⟩; have HN22 := (show Hid _ from hN22); obtain ⟨p22, c22, e22⟩ := nmE_form hN22; subst e22; clear hN22 EN; have HB22 := (show Hid _ from bt hb20 hb22))
              | (go_at_call 29; refine (plus4_any (by omega) hkm hnn (NmE.below HV8.out HB22.out) (NmE.below HW8.out HB22.out)).mono ?_; rintro e w23 ⟨v23, rfl, hN23, hb23⟩; have HN23 := (show Hid _ from hN23); obtain ⟨p23, c23, e23⟩ := nmE_form hN23; subst e23; clear hN23; have HB23 := (show Hid _ from bt HB22.out hb23); have T8 : Hid True := trivial)
              | (go_at_call 17; revert T8; intro T8; refine (same_core pU p23 (k + m) cU c23 (fun _ => n) _ _ w23 (by omega) (NmE.below HU8.out HB23.out) HN23 (fun i _ j _ => mm_xor k F D E i j)).mono ?_; rintro e w24 ⟨rfl, hb24⟩; clear T8; have T9 : Hid True := trivial)
              | (go_at_call 17; revert T9; intro T9; refine (same_core pZ pI (k + m) cZ cI (fun _ => n) _ _ w24 (by omega) (NmE.below HZ8.out (bt HB23.out hb24)) (NmE.below HI.out (bt HB23.out hb24)) (fun i _ j _ => mm_scale k F D s i j)).mono ?_; rintro e w25 ⟨rfl, hb25⟩; clear T9)
              | (go_at_call 17; refine (same_core p20 p22 (k + m) c20 c22 (fun _ => n) _ _ w25 (by omega) (NmE.below HN20.out (bt (bt hb22 hb23) (bt hb24 hb25))) (NmE.below HN22.out (bt hb23 (bt hb24 hb25))) (fun i hi j _ => (turn_word HF.out hta i j).resolve_right (by omega))).mono ?_; rintro e w26 ⟨rfl, hb26⟩))
            go_ret
            exact ⟨rfl, bt HX8.out (bt HB23.out (bt (bt hb24 hb25) hb26))⟩

end
theorem codeLinear_walk (K M : Int) (pb : Option Addr) (nb cb : Nat) (x : Nat → BitVec 8) (vP : Value) (nP : Nat) (f : Nat → Int) (py : Option Addr) (ny cy : Nat) (y : Nat → BitVec 8) (s : BitVec 8) (w : World) (hnb : nb ≤ 140737488355328) (hcb : nb ≤ cb) (hny : ny ≤ 140737488355328) (hcy : ny ≤ cy) (hB : NrE w (.slice pb nb cb) nb x) (hP : Jr w vP nP f) (hY : NrE w (.slice py ny cy) ny y) :
    Calls Try.prog 6 #[.agg #[.int .i64 K, .int .i64 M, .slice pb nb cb, vP], .slice py ny cy, .int .u8 (el s)] w fun e w' => e = .returned (.bool true) ∧ Below w.heap.size w w' := by
  obtain ⟨pP, cP, e, _⟩ := id hP
  subst e
  by_cases h : (ny : Int) < (nb : Int)
  · exact codeLinear_y K M pb nb cb x pP nP cP f py ny cy y s w hnb hcb hny hcy hB hP hY h
  · exact codeLinear_x K M pb nb cb x pP nP cP f py ny cy y s w hnb hcb hny hcy hB hP hY h
end Go.Proofs.Ytnlmjajdfaambaa
