/-
  Layer 11's laws: 'do'.
-/
import Derived.Test.YtaddgmbglhdfdaaKe11
import Derived.Deep.CutBlock
namespace Go.Proofs.Ytaddgmbglhdfdaa
open Go.RowKit Go.Maps
section
attribute [local irreducible] Calls GB ftC anC Ac.v Lnt DrAt
set_option maxHeartbeats 8000000 in
set_option maxRecDepth 1000000 in
theorem do_gen {w : World} {db k0 : Nat} {σ : Ds} {F : Nat → Prop} (h : DrAt w db σ F) (ok : Okk k0 σ) (hk0 : k0 ≤ 134217728) (k : Int) (s : Ac) (l : Al) (hA : ∀ Y, Tn F w Y → AcAt Y s l) :
    Calls Try.prog 18 #[.pointer (some ⟨db, 0, none⟩), .agg (s.v k)] w fun e w' => (∃ u1 u2 u3 u4, ((anC (.int .i64 (σ.act k s.x s.y s.n l).1) u1 u2 u3 u4).all fun x => x.oneCell') = true ∧ e = .returned (.tuple #[.agg (anC (.int .i64 (σ.act k s.x s.y s.n l).1) u1 u2 u3 u4), .bool true])) ∧ DrAt w' db (σ.act k s.x s.y s.n l).2 (Fn F w w') ∧ Tn F w w' := by
  have HD := (show Hid (DrAt w db σ F) from h)
  have HA := (show Hid (AcAt w s l) from hA w (Tn.refl _ _))
  have H0 := (show Hid (∀ Y, Tn F w Y → AcAt Y s l) from hA)
  have HO := (show Hid (Okk k0 σ ∧ k0 ≤ 134217728) from ⟨ok, hk0⟩)
  clear h hA ok hk0
  go_enter Try.func18, Try.ntmps18
  go_upto_region 2 with (first
    | (refine wpList_bxB (cs := s.v k) rfl _ rfl rfl ?_; intro w1 hG1 hb1 hs1)
    | (have hx := hG2; refine wpList_alB (cs := anC (.int .i64 0) (.int .i64 0) (.slice none 0 0) (.slice none 0 0) (.slice none 0 0)) rfl rfl (by unfold anC; exact an0) ?_; intro w3 hG3 hb3 hs3; clear hx)
    | (refine wpList_alB (cs := anC (.int .i64 0) (.int .i64 0) (.slice none 0 0) (.slice none 0 0) (.slice none 0 0)) rfl rfl (by unfold anC; exact an0) ?_; intro w2 hG2 hb2 hs2))
  have B3 := (show Hid (Below w.heap.size w w3) from bt (bt hb1 hb2) hb3)
  have GA := (show Hid (GB w3 w.heap.size 46 (s.v k)) from (hG1.below hb2).below hb3)
  have GR := (show Hid (GB w3 w1.heap.size 49 (anC (.int .i64 0) (.int .i64 0) (.slice none 0 0) (.slice none 0 0) (.slice none 0 0))) from hG2.below hb3)
  have GN := (show Hid (GB w3 w2.heap.size 49 (anC (.int .i64 0) (.int .i64 0) (.slice none 0 0) (.slice none 0 0) (.slice none 0 0))) from hG3)
  have SZ := (show Hid (w.heap.size < w1.heap.size ∧ w1.heap.size < w2.heap.size ∧ w2.heap.size < w3.heap.size) from ⟨by have := hs1.out; omega, by have := hs2.out; omega, by have := hs3.out; omega⟩)
  clear hG1 hG2 hG3 hb1 hb2 hb3 hs1 hs2 hs3
  obtain ⟨_, _, _, _, c4, _⟩ := ac_c GA.out
  go_upto_region 3 with (go_at_call 39; refine (lent_any (HA.out.below B3.out).rx s.nd s.cd HA.out.dl HA.out.nd).mono ?_; rintro e w4 ⟨v4, rfl, hL4, hb4⟩)
  clear c4
  have GA4 := GA.out.below hb4
  have hfl := ac_fate GA4
  have LF4 := (show Hid (∀ X : World, Below w4.heap.size w4 X → Calls Try.prog 47 #[.agg (ftC (.slice s.qd s.nq s.cq) (.slice s.rd s.nr s.cr))] X _) from fun X hX => lentFate_any (((HA.out.below B3.out).below hb4).below hX).bl (((HA.out.below B3.out).below hb4).below hX).il HA.out.ql HA.out.rl HA.out.nq HA.out.nr)
  go_upto_region 4 with (first
    | (refine wpList_ldAt rfl _ _ rfl w.heap.size 5 rfl _ hfl ?_)
    | (go_at_call 47; refine (LF4.out _ (Below.refl _ _)).mono ?_; rintro e w5 ⟨v5, v6, rfl, hL5, hL6, hb5⟩)
    | (refine wpList_alB (cs := ftC (.slice none 0 0) (.slice none 0 0)) rfl rfl (by unfold ftC; exact ft0) ?_; intro w6 hG6 hb6 hs6)
    | (refine wpList_stB (cs := ftC v5 v6) rfl _ _ rfl rfl w5.heap.size rfl rfl hG6 (by unfold ftC; exact size_Ft) (by unfold ftC; rfl) (ftC_one (lnt_one hL5) (lnt_one hL6)) ?_; intro w7 hG7 hg7 hs7))
  have GA6 := (GA4.below hb5).below hb6
  have GR6 := ((GR.out.below hb4).below hb5).below hb6
  have GN6 := ((GN.out.below hb4).below hb5).below hb6
  have n6 : w3.heap.size ≤ w5.heap.size := Nat.le_trans hb4.size hb5.size
  have GA7 := (show Hid (GB w7 w.heap.size 46 (s.v k)) from GA6.kept hg7 (by intro e; injection e with e; have := SZ.out; omega))
  have GR7 := (show Hid (GB w7 w1.heap.size 49 (anC (.int .i64 0) (.int .i64 0) (.slice none 0 0) (.slice none 0 0) (.slice none 0 0))) from GR6.kept hg7 (by intro e; injection e with e; have := SZ.out; omega))
  have GN7 := (show Hid (GB w7 w2.heap.size 49 (anC (.int .i64 0) (.int .i64 0) (.slice none 0 0) (.slice none 0 0) (.slice none 0 0))) from GN6.kept hg7 (by intro e; injection e with e; have := SZ.out; omega))
  have GF7 := (show Hid (GB w7 w5.heap.size 30 (ftC v5 v6)) from hG7)
  have L4 := (show Hid (Lnt w7 w3.heap.size 5 v4 (l.d.map u8v) (mks 66)) from ((hL4.below hb5).below hb6).but hG6 (by decide) hg7)
  have L5 := (show Hid (Lnt w7 w4.heap.size 4 v5 (l.dirs.map bov) mkB) from (hL5.below hb6).but hG6 (by decide) hg7)
  have L6 := (show Hid (Lnt w7 w4.heap.size 3 v6 (l.cuts.map inv6) mkI) from (hL6.below hb6).but hG6 (by decide) hg7)
  have B6 : Below w.heap.size w w6 := bt (bt (bt B3.out hb4) hb5) hb6
  have B7 := (show Hid (Below w.heap.size w w7) from B6.grown hg7 B6.size (fun j hj => by injection hj with hj; have := B3.out.size; omega))
  have SW := (show Hid (w3.heap.size ≤ w4.heap.size ∧ w4.heap.size ≤ w5.heap.size ∧ w5.heap.size < w7.heap.size) from ⟨hb4.size, hb5.size, by have := hs6.out; have := hs7.out; omega⟩)
  clear GA4 GA6 GR6 GN6 n6 GA GR GN hG6 hG7 hL4 hL5 hL6 hb4 hb5 hb6 hg7 hs6 hs7 B6 hfl LF4
  obtain ⟨g4, cap4, rfl, hg4, hl4⟩ := lnt_form L4.out
  obtain ⟨g5, cap5, rfl, hg5, hl5⟩ := lnt_form L5.out
  obtain ⟨g6, cap6, rfl, hg6, hl6⟩ := lnt_form L6.out
  have L4 := (show Hid (Lnt w7 w3.heap.size 5 (.slice (some ⟨g4, 0, none⟩) l.d.length cap4) (l.d.map u8v) (mks 66)) from by have h9 := L4.out; rw [List.length_map] at h9; exact h9)
  have L5 := (show Hid (Lnt w7 w4.heap.size 4 (.slice (some ⟨g5, 0, none⟩) l.dirs.length cap5) (l.dirs.map bov) mkB) from by have h9 := L5.out; rw [List.length_map] at h9; exact h9)
  have L6 := (show Hid (Lnt w7 w4.heap.size 3 (.slice (some ⟨g6, 0, none⟩) l.cuts.length cap6) (l.cuts.map inv6) mkI) from by have h9 := L6.out; rw [List.length_map] at h9; exact h9)
  have GF7 := (show Hid (GB w7 w5.heap.size 30 (ftC (.slice (some ⟨g5, 0, none⟩) l.dirs.length cap5) (.slice (some ⟨g6, 0, none⟩) l.cuts.length cap6))) from by have h9 := GF7.out; rw [List.length_map, List.length_map] at h9; exact h9)
  have N0 := (show Hid (∀ b, F b → b < w.heap.size) from drat_lt HD.out)
  have NG := (show Hid (w3.heap.size ≤ g4 ∧ g4 < w7.heap.size ∧ w4.heap.size ≤ g5 ∧ g5 < w7.heap.size ∧ w4.heap.size ≤ g6 ∧ g6 < w7.heap.size) from ⟨hg4, hl4, hg5, hl5, hg6, hl6⟩)
  clear hg4 hl4 hg5 hl5 hg6 hl6
  have DW := (show Hid (DrAt w7 db σ F) from HD.out.below B7.out)
  have HF := (show Hid (¬ F w2.heap.size) from fun h => by have := N0.out _ h; have := SZ.out; omega)
  have HX := (show Hid (s.x.length ≤ 140737488355328 ∧ s.x.length ≤ 9223372036854775807 ∧ s.y.length ≤ 9223372036854775807 ∧ l.d.length ≤ 140737488355328) from by
    have h1 := HA.out.nx; have h2 := HA.out.ny; have h3 := HA.out.nd; have h4 := HA.out.dl
    refine ⟨by omega, by omega, by omega, by omega⟩)
  have OK := (show Hid (Okd σ ∧ Okp σ) from ⟨HO.out.1.okd HO.out.2, HO.out.1.okp HO.out.2⟩)
  have BL := (show Hid (∀ i, (σ.body i).data.length ≤ 140737488355328) from fun i => by have := HO.out.1.bl i; have := HO.out.2; omega)
  have SA := (show Hid (∀ i, (σ.body i).safe ≤ (σ.body i).data.length) from HO.out.1.sa)
  have SS := (show Hid (Maps.size σ.st ≤ 8000000000000) from by have := HO.out.1.ss; have := HO.out.2; show _ ≤ _; omega)
  have UU := (show Hid (-1152921504606846976 ≤ σ.used ∧ σ.used ≤ 1152921504606846976) from by have h1 := HO.out.1.u0; have h2 := HO.out.1.u1; have := HO.out.2; constructor <;> omega)
  have RM := (show Hid (∀ i, σ.find s.x = .inr i → σ.used + (l.d.length : Int) ≤ (σ.room : Int) → (σ.body i).data.length + l.d.length ≤ 140737488355328) from fun i _ _ => by have := HO.out.1.bl i; have := HO.out.2; have := HA.out.nd; have := HA.out.dl; omega)
  have N4 := (show Hid (∀ b o, (some ⟨g4, 0, none⟩ : Option Addr) = some ⟨b, o, none⟩ → ¬ F b) from fun b o e hF => by
    injection e with e; injection e with e1 e2; subst e1
    have := N0.out _ hF; have := NG.out; have := SZ.out; omega)
  have CRH := (show Hid (Calls Try.prog 20 #[.pointer (some ⟨db, 0, none⟩), .agg (ftC (.slice (some ⟨g5, 0, none⟩) l.dirs.length cap5) (.slice (some ⟨g6, 0, none⟩) l.cuts.length cap6))] w7 fun e w' => e = .returned (.int .i64 0) ∧ DrAt w' db (σ.crash l.dirs l.cuts) (Fn F w7 w') ∧ Tn F w7 w') from by unfold ftC; exact crash_any DW.out HO.out.1 HO.out.2 (some ⟨g5, 0, none⟩) l.dirs.length cap5 l.dirs rfl (lnt_bls L5.out) (some ⟨g6, 0, none⟩) l.cuts.length cap6 l.cuts rfl (lnt_ils L6.out) (by have := HA.out.ql; have := HA.out.nq; omega) (by have := HA.out.rl; have := HA.out.nr; omega) (fun b o e hF => by
    injection e with e; injection e with e1 e2; subst e1
    have := N0.out _ hF; have := NG.out; have := SZ.out; have := SW.out; omega))
  obtain ⟨c0, _⟩ := ac_c GA7.out
  go_upto_block 0 with fail
  clear c0
  go_cut [9] from 19 to 137 (fun v wx => v = .int .i64 (σ.act k s.x s.y s.n l).1 ∧ Hid (DoSw w7 db w2.heap.size F (σ.act k s.x s.y s.n l).2 wx))
  case first =>
    obtain ⟨c0, c1, c2, c3, c4, c5, c6⟩ := ac_c GA7.out
    by_cases e0 : k = 0
    · subst e0
      go_wp2_with (go_at_call 13; refine (create_any DW.out OK.out.1 s.x HX.out.1).mono ?_; rintro e Y ⟨rfl, hD, hT⟩)
      go_meet
      case rel =>
        rw [act_0]
        exact ⟨rfl, DoSw.drive hD hT GN7.out HF.out⟩
    by_cases e1 : k = 1
    · subst e1
      go_wp2_with (go_at_call 14; refine (append_any DW.out OK.out.1 s.x HX.out.2.1 (some ⟨g4, 0, none⟩) l.d.length cap4 l.d L4.out.rx rfl HX.out.2.2.2 RM.out).mono ?_; rintro e Y ⟨rfl, hD, hT⟩)
      go_meet
      case rel =>
        rw [act_1]
        exact ⟨rfl, DoSw.drive hD hT GN7.out HF.out⟩
    by_cases e2 : k = 2
    · subst e2
      go_wp2_with (go_at_call 15; refine (sync_any DW.out s.x HX.out.2.1).mono ?_; rintro e Y ⟨rfl, hD, hT⟩)
      go_meet
      case rel =>
        rw [act_2]
        exact ⟨rfl, DoSw.drive hD hT GN7.out HF.out⟩
    by_cases e3 : k = 3
    · subst e3
      go_wp2_with (go_at_call 48; refine (rename_any DW.out OK.out.1 s.x s.y HX.out.2.1 HX.out.2.2.1).mono ?_; rintro e Y ⟨rfl, hD, hT⟩)
      go_meet
      case rel =>
        rw [act_3]
        exact ⟨rfl, DoSw.drive hD hT GN7.out HF.out⟩
    by_cases e4 : k = 4
    · subst e4
      go_wp2_with (go_at_call 49; refine (remove_any DW.out OK.out.1 s.x HX.out.2.1).mono ?_; rintro e Y ⟨rfl, hD, hT⟩)
      go_meet
      case rel =>
        rw [act_4]
        exact ⟨rfl, DoSw.drive hD hT GN7.out HF.out⟩
    by_cases e5 : k = 5
    · subst e5
      go_wp2_with (go_at_call 16; refine (syncDir_any DW.out OK.out.2).mono ?_; rintro e Y ⟨rfl, hD, hT⟩)
      go_meet
      case rel =>
        rw [act_5]
        exact ⟨rfl, DoSw.drive hD hT GN7.out HF.out⟩
    by_cases e6 : k = 6
    · subst e6
      go_wp2_with (go_at_call 50; refine (read_any DW.out s.x HX.out.2.1 (fun i _ => BL.out i)).mono ?_; rintro e Y ⟨u, rfl, hO, hb⟩; obtain ⟨pu, cu, rfl, _⟩ := own_form hO; have hc := (an_c (GN7.out.below hb)).2.2.1; have hf := (GN7.out.below hb).frozen 2)
      go_meet
      case rel =>
        rw [act_6]
        exact ⟨rfl, DoSw.tell DW.out hb (an_set2 (GN7.out.below hb) _) (set_grown _ _ _ _) HF.out rfl rfl rfl rfl⟩
    by_cases e7 : k = 7
    · subst e7
      go_wp2_with (go_at_call 38; refine (list_any DW.out SS.out).mono ?_; rintro e Y ⟨u, rfl, hO, hb⟩; obtain ⟨pu, cu, rfl, _⟩ := own_form hO; have hc := (an_c (GN7.out.below hb)).2.2.2.1; have hf := (GN7.out.below hb).frozen 3)
      go_meet
      case rel =>
        rw [act_7]
        exact ⟨rfl, DoSw.tell DW.out hb (an_set3 (GN7.out.below hb) _) (set_grown _ _ _ _) HF.out rfl rfl rfl rfl⟩
    by_cases e8 : k = 8
    · subst e8
      go_wp2_with (go_at_call 37; refine (used_any DW.out).mono ?_; rintro e Y ⟨rfl, h9⟩; obtain rfl := h9.symm; have hb := Below.refl w7.heap.size w7; have hc := (an_c (GN7.out.below hb)).2.1; have hf := (GN7.out.below hb).frozen 1)
      go_meet
      case rel =>
        rw [act_8]
        exact ⟨rfl, DoSw.tell DW.out (Below.refl _ _) (an_set1 GN7.out _) (set_grown _ _ _ _) HF.out rfl rfl rfl rfl⟩
    by_cases e9 : k = 9
    · subst e9
      go_wp2_with (go_at_call 22; refine (pending_any DW.out).mono ?_; rintro e Y ⟨rfl, h9⟩; obtain rfl := h9.symm; have hb := Below.refl w7.heap.size w7; have hc := (an_c (GN7.out.below hb)).2.1; have hf := (GN7.out.below hb).frozen 1)
      go_meet
      case rel =>
        rw [act_9]
        exact ⟨rfl, DoSw.tell DW.out (Below.refl _ _) (an_set1 GN7.out _) (set_grown _ _ _ _) HF.out rfl rfl rfl rfl⟩
    by_cases e10 : k = 10
    · subst e10
      go_wp2_with (go_at_call 21; refine (loose_any DW.out s.x HX.out.2.1 SA.out BL.out).mono ?_; rintro e Y ⟨rfl, hb⟩; have hc := (an_c (GN7.out.below hb)).2.1; have hf := (GN7.out.below hb).frozen 1)
      go_meet
      case rel =>
        rw [act_10]
        exact ⟨rfl, DoSw.tell DW.out hb (an_set1 (GN7.out.below hb) _) (set_grown _ _ _ _) HF.out rfl rfl rfl rfl⟩
    by_cases e11 : k = 11
    · subst e11
      go_wp2_with (go_at_call 24; refine (image_any DW.out HO.out.1 HO.out.2).mono ?_; rintro e Y ⟨u, rfl, hO, hb⟩; obtain ⟨pu, nu, cu, rfl⟩ := fs_form hO; have hc := (an_c (GN7.out.below hb)).2.2.2.2; have hf := (GN7.out.below hb).frozen 4)
      go_meet
      case rel =>
        rw [act_11]
        exact ⟨rfl, DoSw.tell DW.out hb (an_set4 (GN7.out.below hb) _) (set_grown _ _ _ _) HF.out rfl rfl rfl rfl⟩
    by_cases e12 : k = 12
    · subst e12
      go_wp2_with (go_at_call 28; refine (safe_any DW.out HO.out.1 HO.out.2).mono ?_; rintro e Y ⟨u, rfl, hO, hb⟩; obtain ⟨pu, nu, cu, rfl⟩ := fs_form hO; have hc := (an_c (GN7.out.below hb)).2.2.2.2; have hf := (GN7.out.below hb).frozen 4)
      go_meet
      case rel =>
        rw [act_12]
        exact ⟨rfl, DoSw.tell DW.out hb (an_set4 (GN7.out.below hb) _) (set_grown _ _ _ _) HF.out rfl rfl rfl rfl⟩
    by_cases e13 : k = 13
    · subst e13
      go_wp2_with (first
        | (refine wpList_ldB rfl _ rfl w5.heap.size rfl GF7.out Try.underlying30 (by unfold ftC; exact size_Ft) ?_)
        | (go_at_call 20; refine (CRH.out).mono ?_; rintro e Y ⟨rfl, hD, hT⟩))
      go_meet
      case rel =>
        rw [act_13]
        exact ⟨rfl, DoSw.drive hD hT GN7.out HF.out⟩
    by_cases e14 : k = 14
    · subst e14
      go_wp2_with (go_at_call 51; refine (flip_any DW.out s.x HX.out.2.1 s.n (some ⟨g4, 0, none⟩) l.d.length cap4 l.d L4.out.rx rfl HX.out.2.2.2 N4.out BL.out).mono ?_; rintro e Y ⟨rfl, hD, hT⟩)
      go_meet
      case rel =>
        rw [act_14]
        exact ⟨rfl, DoSw.fn hD hT GN7.out HF.out⟩
    by_cases e15 : k = 15
    · subst e15
      go_wp2_with (go_at_call 52; refine (cut_any DW.out s.x HX.out.2.1 s.n UU.out BL.out).mono ?_; rintro e Y ⟨rfl, hD, hT⟩)
      go_meet
      case rel =>
        rw [act_15]
        exact ⟨rfl, DoSw.fn hD hT GN7.out HF.out⟩
    by_cases e16 : k = 16
    · subst e16
      go_wp2_with (go_at_call 35; refine (wipe_any DW.out).mono ?_; rintro e Y ⟨rfl, hD, hT⟩)
      go_meet
      case rel =>
        rw [act_16]
        exact ⟨rfl, DoSw.fn hD hT GN7.out HF.out⟩
    by_cases e17 : k = 17
    · subst e17
      go_wp2_with (go_at_call 53; refine (drest_any _ _ _).mono ?_; rintro e Y ⟨⟨r, rfl⟩, h9⟩; obtain rfl := h9.symm)
      go_meet
      case rel =>
        rw [act_17]
        exact ⟨rfl, DoSw.fn DW.out (Tn.refl _ _) GN7.out HF.out⟩
    have f0 : (k == 0) = false := by simp [e0]
    have f1 : (k == 1) = false := by simp [e1]
    have f2 : (k == 2) = false := by simp [e2]
    have f3 : (k == 3) = false := by simp [e3]
    have f4 : (k == 4) = false := by simp [e4]
    have f5 : (k == 5) = false := by simp [e5]
    have f6 : (k == 6) = false := by simp [e6]
    have f7 : (k == 7) = false := by simp [e7]
    have f8 : (k == 8) = false := by simp [e8]
    have f9 : (k == 9) = false := by simp [e9]
    have f10 : (k == 10) = false := by simp [e10]
    have f11 : (k == 11) = false := by simp [e11]
    have f12 : (k == 12) = false := by simp [e12]
    have f13 : (k == 13) = false := by simp [e13]
    have f14 : (k == 14) = false := by simp [e14]
    have f15 : (k == 15) = false := by simp [e15]
    have f16 : (k == 16) = false := by simp [e16]
    have f17 : (k == 17) = false := by simp [e17]
    go_wp2
    go_meet
    case rel =>
      rw [act_no σ s.x s.y s.n l e0 e1 e2 e3 e4 e5 e6 e10 e13 e14 e15 e16]
      exact ⟨rfl, DoSw.fn DW.out (Tn.refl _ _) GN7.out HF.out⟩
  case rest =>
    obtain ⟨rfl, hS⟩ := hcut
    have ST := (show Hid (Tn (fun b => F b ∨ b = w2.heap.size) w7 wc) from hS.out.T)
    have NB := (show Hid (∀ g, w.heap.size ≤ g → g ≠ w2.heap.size → ¬ (F g ∨ g = w2.heap.size)) from fun g h1 h2 h3 => by
      rcases h3 with h3 | h3
      · have := N0.out g h3; omega
      · exact h2 h3)
    have GAc := (show Hid (GB wc w.heap.size 46 (s.v k)) from GA7.out.tn ST.out (NB.out _ (Nat.le_refl _) (by have := SZ.out; omega)))
    have GRc := (show Hid (GB wc w1.heap.size 49 (anC (.int .i64 0) (.int .i64 0) (.slice none 0 0) (.slice none 0 0) (.slice none 0 0))) from GR7.out.tn ST.out (NB.out _ (by have := SZ.out; omega) (by have := SZ.out; omega)))
    have GFc := (show Hid (GB wc w5.heap.size 30 (ftC (.slice (some ⟨g5, 0, none⟩) l.dirs.length cap5) (.slice (some ⟨g6, 0, none⟩) l.cuts.length cap6))) from GF7.out.tn ST.out (NB.out _ (by have := SZ.out; have := SW.out; omega) (by have := SZ.out; have := SW.out; omega)))
    have L4c := (show Hid _ from L4.out.tn ST.out (fun b hb => by have := SZ.out; rcases hb with hb | hb; have := N0.out b hb; omega; omega))
    have L5c := (show Hid _ from L5.out.tn ST.out (fun b hb => by have := SZ.out; have := SW.out; rcases hb with hb | hb; have := N0.out b hb; omega; omega))
    have L6c := (show Hid _ from L6.out.tn ST.out (fun b hb => by have := SZ.out; have := SW.out; rcases hb with hb | hb; have := N0.out b hb; omega; omega))
    have W0c := (show Hid (Tn F w wc) from ⟨ST.out.os.trans B7.out.os, ST.out.tape.trans B7.out.tape, ST.out.output.trans B7.out.output, Nat.le_trans B7.out.size ST.out.size, fun g hg hn => (ST.out.block g (Nat.lt_of_lt_of_le hg B7.out.size) (fun hb => by rcases hb with hb | hb; exact hn hb; have := SZ.out; omega)).trans (B7.out.block g hg)⟩)
    obtain ⟨u1, u2, u3, u4, GNc, hone⟩ := hS.out.A
    obtain ⟨a0, a1, a2, a3, a4⟩ := an_c GNc
    have f0 := GNc.frozen 0
    go_upto_region 43 with (go_at_call 12; refine (lnum_any _ _).mono ?_; rintro e wn ⟨rfl, h9⟩; obtain rfl := h9.symm)
    have GX0 := an_set0 GNc (.int .i64 (σ.act k s.x s.y s.n l).1)
    have gX0 := set_grown wc w2.heap.size 0 (.int .i64 (σ.act k s.x s.y s.n l).1)
    generalize wc.setCell ⟨w2.heap.size, 0, none⟩ (.int .i64 (σ.act k s.x s.y s.n l).1) = X at *
    have TX := (show Hid (Tn (· = w2.heap.size) wc X) from Tn.grown gX0 (fun g e => by injection e with e; exact e.symm))
    have GNx := (show Hid (GB X w2.heap.size 49 (anC (.int .i64 (σ.act k s.x s.y s.n l).1) u1 u2 u3 u4)) from GX0)
    have GAx := (show Hid (GB X w.heap.size 46 (s.v k)) from GAc.out.tn TX.out (by have := SZ.out; omega))
    have GRx := (show Hid (GB X w1.heap.size 49 (anC (.int .i64 0) (.int .i64 0) (.slice none 0 0) (.slice none 0 0) (.slice none 0 0))) from GRc.out.tn TX.out (by have := SZ.out; omega))
    have GFx := (show Hid (GB X w5.heap.size 30 (ftC (.slice (some ⟨g5, 0, none⟩) l.dirs.length cap5) (.slice (some ⟨g6, 0, none⟩) l.cuts.length cap6))) from GFc.out.tn TX.out (by have := SZ.out; have := SW.out; omega))
    have L4x := (show Hid (Lnt X w3.heap.size 5 (.slice (some ⟨g4, 0, none⟩) l.d.length cap4) (l.d.map u8v) (mks 66)) from L4c.out.tn TX.out (fun b hb => by have := SZ.out; omega))
    have L5x := (show Hid (Lnt X w4.heap.size 4 (.slice (some ⟨g5, 0, none⟩) l.dirs.length cap5) (l.dirs.map bov) mkB) from L5c.out.tn TX.out (fun b hb => by have := SZ.out; have := SW.out; omega))
    have L6x := (show Hid (Lnt X w4.heap.size 3 (.slice (some ⟨g6, 0, none⟩) l.cuts.length cap6) (l.cuts.map inv6) mkI) from L6c.out.tn TX.out (fun b hb => by have := SZ.out; have := SW.out; omega))
    have AX := (show Hid (AcAt X s l) from H0.out X ⟨TX.out.os.trans W0c.out.os, TX.out.tape.trans W0c.out.tape, TX.out.output.trans W0c.out.output, Nat.le_trans W0c.out.size TX.out.size, fun g hg hn => (TX.out.block g (Nat.lt_of_lt_of_le hg W0c.out.size) (fun hb => by have := SZ.out; omega)).trans (W0c.out.block g hg hn)⟩)
    clear GAc GRc GFc L4c L5c L6c GX0 gX0 GNc a0 a1 a2 a3 a4 f0 L4 L5 L6 GA7 GR7 GN7 GF7 CRH RM N4 UU SS SA BL OK HX DW h9
    obtain ⟨_, _, _, _, c4, _⟩ := ac_c GAx.out
    go_upto_region 44 with (first
      | (go_at_call 40; refine (kept_any L4x.out AX.out.rx s.nd s.cd HA.out.dl HA.out.nd).mono ?_; rintro e Xk ⟨rfl, hbk⟩; have hft := (GFx.out.below hbk).run Try.underlying30 (by unfold ftC; exact size_Ft); have hac := ac_fate (GAx.out.below hbk))
      | (refine wpList_ldAtg rfl _ _ rfl w5.heap.size 0 rfl _ hft ?_)
      | (refine wpList_ldAtg rfl _ _ rfl w.heap.size 5 rfl _ hac ?_)
      | (go_at_call 54; refine (keptFate_any (L5x.out.below hbk) (L6x.out.below hbk) (AX.out.below hbk).bl (AX.out.below hbk).il HA.out.ql HA.out.rl HA.out.nq HA.out.nr).mono ?_; rintro e Xf ⟨rfl, hTf⟩))
    have SX := TX.out.size
    have Sk := hbk.size
    have NF := (show Hid (∀ b, ((Value.slice (some ⟨g5, 0, none⟩) l.dirs.length cap5).ownBlock = some b ∨ (Value.slice (some ⟨g6, 0, none⟩) l.cuts.length cap6).ownBlock = some b) → b = g5 ∨ b = g6) from fun b hb => by
      rcases hb with hb | hb
      · simp [Value.ownBlock] at hb; exact .inl hb.symm
      · simp [Value.ownBlock] at hb; exact .inr hb.symm)
    have L4f := (show Hid (Lnt Xf w3.heap.size 5 (.slice (some ⟨g4, 0, none⟩) l.d.length cap4) (l.d.map u8v) (mks 66)) from (L4x.out.below hbk).tn2 hTf (fun g e h9 => by
      rcases h9 with h9 | h9
      · exact lnt_ne (L4x.out.below hbk) (L5x.out.below hbk) (by decide) e h9
      · exact lnt_ne (L4x.out.below hbk) (L6x.out.below hbk) (by decide) e h9))
    have GNf := (show Hid (GB Xf w2.heap.size 49 (anC (.int .i64 (σ.act k s.x s.y s.n l).1) u1 u2 u3 u4)) from (GNx.out.below hbk).tn hTf (fun h9 => by have := NF.out _ h9; have := SZ.out; have := SW.out; have := NG.out; omega))
    have GRf := (show Hid (GB Xf w1.heap.size 49 (anC (.int .i64 0) (.int .i64 0) (.slice none 0 0) (.slice none 0 0) (.slice none 0 0))) from (GRx.out.below hbk).tn hTf (fun h9 => by have := NF.out _ h9; have := SZ.out; have := SW.out; have := NG.out; omega))
    have TF := (show Hid (Tn (fun b => w.heap.size ≤ b ∧ b < w7.heap.size) wc Xf) from ((TX.out.more (fun b e => by have := SZ.out; have := SW.out; omega)).trans (Tn.of_below hbk)).trans (hTf.more (fun b h9 => by have := NF.out _ h9; have := SZ.out; have := SW.out; have := NG.out; omega)))
    have HM := (show Hid (l.d.length ≤ 134217728) from by have := HA.out.dl; have := HA.out.nd; show _ ≤ _; omega)
    clear hft hac hTf hbk GAx GFx L4x L5x L6x AX GNx GRx TX SX Sk c4
    go_upto_region 46 with (go_at_call 41; refine (spoil_any L4f.out HM.out).mono ?_; rintro e Xs ⟨⟨r9, rfl⟩, hTs, hss⟩)
    have N4 : ∀ b, (Value.slice (some ⟨g4, 0, none⟩) l.d.length cap4).ownBlock = some b → b = g4 := fun b hb => by simp [Value.ownBlock] at hb; exact hb.symm
    have GNs := (show Hid (GB Xs w2.heap.size 49 (anC (.int .i64 (σ.act k s.x s.y s.n l).1) u1 u2 u3 u4)) from GNf.out.tn hTs (fun h9 => by have := N4 _ h9; have := SZ.out; have := SW.out; have := NG.out; omega))
    have GRs := (show Hid (GB Xs w1.heap.size 49 (anC (.int .i64 0) (.int .i64 0) (.slice none 0 0) (.slice none 0 0) (.slice none 0 0))) from GRf.out.tn hTs (fun h9 => by have := N4 _ h9; have := SZ.out; have := SW.out; have := NG.out; omega))
    have TS := (show Hid (Tn (fun b => w.heap.size ≤ b ∧ b < w7.heap.size) wc Xs) from TF.out.trans (hTs.more (fun b h9 => by have := N4 _ h9; have := SZ.out; have := SW.out; have := NG.out; omega)))
    have ON := (show Hid (((anC (.int .i64 (σ.act k s.x s.y s.n l).1) u1 u2 u3 u4).all fun x => x.oneCell') = true) from anC_any hone)
    clear hTs hss N4 GNf GRf TF L4f HM
    go_wp2_with (first
      | (refine wpList_ldB rfl _ rfl w2.heap.size rfl GNs.out Try.underlying49 (by unfold anC; exact size_An) ?_)
      | (refine wpList_stB (cs := anC (.int .i64 (σ.act k s.x s.y s.n l).1) u1 u2 u3 u4) rfl _ _ rfl rfl w1.heap.size rfl rfl GRs.out (by unfold anC; exact size_An) (by unfold anC; rfl) ON.out ?_; intro Z hGZ hgZ hsZ))
    refine bodyPost_ret (res_B2 rfl _ _ w1.heap.size rfl hGZ Try.underlying49 (by unfold anC; exact size_An)) rfl ?_
    obtain ⟨hD9, hT9⟩ := do_end B7.out N0.out (ga := w2.heap.size) (by have := SZ.out; omega) (by have := SZ.out; have := SW.out; omega) hS.out.D ST.out (TS.out.trans (Tn.grown hgZ (fun g e => by injection e with e; have := SZ.out; have := SW.out; omega)))
    exact ⟨⟨u1, u2, u3, u4, ON.out, rfl⟩, hD9, hT9⟩
theorem do_one {w0 w : World} {db k0 : Nat} {σ : Ds} {F : Nat → Prop} (h : DrAt w db σ F) (ok : Okk k0 σ) (hk0 : k0 ≤ 134217728) (h0 : Below w0.heap.size w0 w) (hF0 : ∀ b, F b → w0.heap.size ≤ b) (k : Int) (s : Ac) (l : Al) (hA : AcAt w0 s l) :
    Calls Try.prog 18 #[.pointer (some ⟨db, 0, none⟩), .agg (s.v k)] w fun e w' => (∃ u1 u2 u3 u4, ((anC (.int .i64 (σ.act k s.x s.y s.n l).1) u1 u2 u3 u4).all fun x => x.oneCell') = true ∧ e = .returned (.tuple #[.agg (anC (.int .i64 (σ.act k s.x s.y s.n l).1) u1 u2 u3 u4), .bool true])) ∧ DrAt w' db (σ.act k s.x s.y s.n l).2 (Fn F w w') ∧ Tn F w w' := do_gen h ok hk0 k s l (fun _ hY => hA.below (tn_bel h0 hY hF0))
theorem do_any {w0 w : World} {db k0 : Nat} {σ : Ds} {F : Nat → Prop} (h : DrAt w db σ F) (ok : Okk k0 σ) (hk0 : k0 ≤ 134217728) (h0 : Below w0.heap.size w0 w) (hF0 : ∀ b, F b → w0.heap.size ≤ b) (k : Int) (s : Ac) (l : Al) (hA : AcAt w0 s l) :
    Calls Try.prog 18 #[.pointer (some ⟨db, 0, none⟩), .agg (s.v k)] w fun e w' => (∃ u1 u2 u3 u4, e = .returned (.tuple #[.agg (anC (.int .i64 (σ.act k s.x s.y s.n l).1) u1 u2 u3 u4), .bool true])) ∧ DrAt w' db (σ.act k s.x s.y s.n l).2 (Fn F w w') ∧ Tn F w w' := by
  refine (do_one h ok hk0 h0 hF0 k s l hA).mono ?_
  rintro e w' ⟨⟨u1, u2, u3, u4, _, e1⟩, h1, h2⟩
  exact ⟨⟨u1, u2, u3, u4, e1⟩, h1, h2⟩
end
end Go.Proofs.Ytaddgmbglhdfdaa
