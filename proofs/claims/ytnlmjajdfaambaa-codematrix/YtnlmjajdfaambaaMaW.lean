/-
  CodeMatrix: the walk.
-/
import Derived.Test.YtnlmjajdfaambaaEq4
import Derived.Test.YtnlmjajdfaambaaOa
namespace Go.Proofs.Ytnlmjajdfaambaa
open Go.RowKit
theorem two_ways (nb n1 : Nat) : ∃ n0, n0 ≤ nb ∧ n0 ≤ n1 ∧ (((n1 : Int) < (nb : Int) ∧ n0 = n1) ∨ (¬ (n1 : Int) < (nb : Int) ∧ n0 = nb)) := by
  by_cases h : (n1 : Int) < (nb : Int)
  · exact ⟨n1, by omega, by omega, .inl ⟨h, rfl⟩⟩
  · exact ⟨nb, by omega, by omega, .inr ⟨h, rfl⟩⟩
theorem zero_or (n : Nat) : n = 0 ∨ (¬ n = 0 ∧ 0 < n) := by omega
theorem hit_sel (P : List Nat) (N : Nat) : hit P N = (sel P true N).length := by
  induction N with
  | zero => rfl
  | succ N ih =>
    rw [hit_succ, ih]
    by_cases h : N ∈ P
    · rw [if_pos h, sel_yes (by rw [decide_eq_true h]; rfl), List.length_append]; rfl
    · rw [if_neg h, sel_no (by rw [decide_eq_false h]; decide)]; rfl
theorem sel_enough {P : List Nat} {k m : Nat} (hP : P.length ≤ m) : k ≤ (sel P false (k + m)).length := by
  have h1 := sel_len P (k + m)
  have h2 := hit_le P (k + m)
  rw [hit_sel] at h2
  omega
theorem jr_pvs {w : World} {b : Nat} {v : Value} {S : List Nat} {k : Nat} (h : w.ownsRow b 3 1 v S.length (pvs S)) (hk : S.length = k) : Jr w v k (fun j => (S.getD j 0 : Nat)) := by
  rw [pvs_lv, hk] at h
  exact St.sv (owns_st1 h)
theorem sel_getD {P : List Nat} {b : Bool} {N i : Nat} (h : i < (sel P b N).length) : (sel P b N).getD i 0 < N := by
  rw [List.getD_eq_getElem?_getD, List.getElem?_eq_getElem h]
  exact (sel_mem (List.getElem_mem h)).1
theorem sel_getD_ne {P : List Nat} {b : Bool} {N i j : Nat} (hi : i < (sel P b N).length) (hj : j < (sel P b N).length) (hne : i ≠ j) : (sel P b N).getD i 0 ≠ (sel P b N).getD j 0 := by
  rw [List.getD_eq_getElem?_getD, List.getElem?_eq_getElem hi, List.getD_eq_getElem?_getD, List.getElem?_eq_getElem hj]
  have hp : (sel P b N).Pairwise (· < ·) := List.Pairwise.filter _ List.pairwise_lt_range
  show (sel P b N)[i] ≠ (sel P b N)[j]
  rcases Nat.lt_or_ge i j with h1 | h1
  · have := List.pairwise_iff_getElem.1 hp i j hi hj h1; omega
  · have := List.pairwise_iff_getElem.1 hp j i hj hi (by omega); omega
/-- The picked rows: no error, their number, an inverse. -/
theorem picked {k m : Nat} {F : Nat → Nat → BitVec 8} {P : List Nat} {i : Nat} (hF : Fac k F) (hkm : k + m ≤ 255) (hi : i ≤ k + m) (hl : (sel P false i).length = k) :
    rc (k + m) (fun _ => k) k (fun j => ((sel P false i).getD j 0 : Nat)) = 0 ∧ Has k (fun t j => F (((sel P false i).getD t 0 : Nat) : Int).toNat j) := by
  have hlt : ∀ t, t < k → (sel P false i).getD t 0 < k + m := fun t ht => Nat.lt_of_lt_of_le (sel_getD (by omega)) hi
  refine ⟨rc_ok (fc_ok (by omega) (fun _ _ => by omega) (fun _ _ => rfl)) (by omega) (fun t ht => ?_), ?_⟩
  · have h := hlt t ht
    show bad (k + m) (((sel P false i).getD t 0 : Nat) : Int) = false
    obtain ⟨z, hz⟩ : ∃ z, (sel P false i).getD t 0 = z := ⟨_, rfl⟩
    rw [hz] at h ⊢
    unfold bad
    simp
    omega
  · exact hF.has (p := fun t => (sel P false i).getD t 0) (fun t ht => by have := hlt t ht; omega) (fun a ha b hb hne => sel_getD_ne (by omega) (by omega) hne)
theorem cw_one {r : Nat} (n : Nat) (h : 1 ≤ r) : cw r (fun _ => n) = n := by unfold cw; rw [if_neg (by omega)]
theorem sq_one {k : Nat} (h : 1 ≤ k) (h2 : k ≤ 255) : sq k (fun _ => k) = 0 := by
  unfold sq
  rw [fc_ok (by omega) (fun _ _ => by omega) (fun _ _ => rfl), cw_one k h]
  simp
theorem tc_one {r k n : Nat} (h : 1 ≤ r) (h2 : r ≤ 255) (hk : 1 ≤ k) (hk2 : k ≤ 255) (hn : n ≤ 255) : tc r (fun _ => k) k (fun _ => n) = 0 :=
  tc_ok (fc_ok (by omega) (fun _ _ => by omega) (fun _ _ => rfl)) (fc_ok (by omega) (fun _ _ => by omega) (fun _ _ => rfl)) (cw_one k h)
theorem places_gen {w : World} {v : Value} {q k m : Nat} {f : Nat → Int} (h : Jr w v q f) (hk : 1 ≤ k) (hkm : k + m ≤ 255) :
    Calls Try.prog 31 #[v, .int .i64 ((k : Int) + (m : Int)), .int .i64 (m : Int)] w fun e w' => ∃ (P : List Nat) (g : Nat), e = .returned (.slice (some ⟨g, 0, none⟩) (k + m) (k + m)) ∧ P.length ≤ m ∧ Ov w' 4 g (bm P) (k + m) ∧ Below w.heap.size w w' := by
  have h1 := places_ok (N := k + m) (m := m) h (by omega) (by omega) (by omega)
  rw [Int.natCast_add] at h1
  exact h1.mono fun e w' ⟨P, he, hP, hO, hb⟩ => ⟨P, _, he, hP, hO, hb⟩
theorem times_mm {b : Nat} {w : World} {v : Value} {r k n : Nat} {F D : Nat → Nat → BitVec 8} (hk : 1 ≤ k) (h : GxE b w v r (cw k (fun _ => n)) (fun i j => skk plE oE (fun t => tiE (F i t) (D t j)) k)) : NmE w v r (fun _ => n) (mm fdE k F D) := by
  rw [cw_one n hk] at h
  exact nm_congr (GxE.nm h) (fun i _ j _ => skk_mm k F D i j)
/-- A rank is whole where there is an inverse. -/
theorem rank_whole {k d : Nat} {P A N E F : Nat → Nat → BitVec 8} {pv : Nat → Nat} (h : Ech fdE k k d A N E F pv) (hA : ∀ i, i < k → ∀ j, j < k → A i j = P i j) (hP : Has k P) : d = k := by
  rcases Nat.lt_or_ge d k with hd | hd
  · obtain ⟨X, hX⟩ := hP
    exact absurd hd (fun hd => (h.few hd hA hX).elim)
  · have := h.dr; omega
section
attribute [local irreducible] Calls el NmE NrE Cd Fac mm Jr Bm bm Ov Br sel thr pvs lv Has rc rn cw sq tc skk fc tiE plE
set_option maxHeartbeats 64000000 in
set_option maxRecDepth 1000000 in
theorem codeMatrix_walk (K M : Int) (pb : Option Addr) (nb cb : Nat) (x : Nat → BitVec 8) (vP : Value) (nP : Nat) (f : Nat → Int) (w : World) (hnb : nb ≤ 140737488355328) (hcb : nb ≤ cb) (hB : NrE w (.slice pb nb cb) nb x) (hP : Jr w vP nP f) :
    Calls Try.prog 8 #[.agg #[.int .i64 K, .int .i64 M, .slice pb nb cb, vP]] w fun e w' => e = .returned (.bool true) ∧ Below w.heap.size w w' := by
  have hb0 : Below w.heap.size w (w.alloc (.cells #[.int .i64 K, .int .i64 M, .slice pb nb cb, vP] 47)) := (Below.refl _ _).alloc (Nat.le_refl _) _
  have q0 := ask_cell w #[.int .i64 K, .int .i64 M, .slice pb nb cb, vP] 47 0 (.int .i64 K) rfl
  have q1 := ask_cell w #[.int .i64 K, .int .i64 M, .slice pb nb cb, vP] 47 1 (.int .i64 M) rfl
  have q2 := ask_cell w #[.int .i64 K, .int .i64 M, .slice pb nb cb, vP] 47 2 (.slice pb nb cb) rfl
  have q3 := ask_cell w #[.int .i64 K, .int .i64 M, .slice pb nb cb, vP] 47 3 vP rfl
  obtain ⟨W, hW⟩ : ∃ W, W = w.alloc (.cells #[.int .i64 K, .int .i64 M, .slice pb nb cb, vP] 47) := ⟨_, rfl⟩
  rw [← hW] at hb0 q0 q1 q2 q3
  have HW : Hid (w.alloc (.cells #[.int .i64 K, .int .i64 M, .slice pb nb cb, vP] 47) = W) := hW.symm
  have HB0 := (show Hid _ from NrE.below hB hb0)
  have HP0 := (show Hid _ from Jr.below hP hb0)
  clear hW hB hP
  go_enter Try.func8, Try.ntmps8
  go_wp2_with (first
    | (go_at_call 24; rw [HW.out]; refine (awake_any W).mono ?_; rintro e w1 ⟨rfl, hb1⟩; have q01 := cell_below q0 hb1; have q11 := cell_below q1 hb1; have q21 := cell_below q2 hb1; have q31 := (show Hid _ from cell_below q3 hb1); have P1 := (show Hid _ from pick_ok K 24 (by omega) (by omega) w1); clear q0 q1 q2 q3)
    | (go_at_call 30; revert P1; intro P1; refine P1.out.mono ?_; rintro e w' ⟨t, rfl, ht, h⟩; obtain rfl := h.symm; obtain ⟨k, hk⟩ : ∃ k, k = 1 + t := ⟨_, rfl⟩; have hk1 : 1 ≤ k := (by omega); have hk24 : k ≤ 24 := (by omega); have HK : Hid ((1 : Int) + (t : Int) = (k : Int)) := (by show _ = _; omega); clear P1 hk)
    | (go_at_call 30; rw [HK.out]; refine (pick_ok M k hk1 (by omega) w1).mono ?_; rintro e w' ⟨t2, rfl, ht2, h⟩; obtain rfl := h.symm; obtain ⟨m, hm⟩ : ∃ m, m = 1 + t2 := ⟨_, rfl⟩; have hm1 : 1 ≤ m := (by omega); have hmk : m ≤ k := (by omega); have hkm : k + m ≤ 255 := (by omega); have HM : Hid ((1 : Int) + (t2 : Int) = (m : Int)) := (by show _ = _; omega); clear hm; have e1 : wrap64 ((k : Int) + (m : Int)) = (k : Int) + (m : Int) := (by unfold wrap64; omega); have j0 : ((k : Int) + (m : Int) != (k : Int) + (m : Int)) = false := (by simp); obtain ⟨n1, hn1⟩ : ∃ n1, n1 = 255 * k := ⟨_, rfl⟩; have e255 : wrap64 (255 * (k : Int)) = (n1 : Int) := (by unfold wrap64; omega); obtain ⟨n0, hA0, hA1, hA2⟩ := two_ways nb n1; have HN1 : Hid (n0 ≤ 255 * k) := (by show _ ≤ _; omega); have HCUT : Hid ((if 255 * (k : Int) < (nb : Int) then 255 * (k : Int) else (nb : Int)).toNat = n0) := (by show _ = _; split <;> omega); clear e255 hn1; rcases hA2 with ⟨hmin, rfl⟩ | ⟨hmin, rfl⟩)
    | (go_at_call 9; rw [HM.out]; refine (new_ok k m hm1 hmk hkm w1).mono ?_; rintro e w3 ⟨v3, F, rfl, hC3, hF3, hb3⟩; have HC := (show Hid _ from hC3); have HF := (show Hid _ from hF3); have q23 := cell_below q21 hb3; obtain ⟨cb3, _, _, ev, _⟩ := cd_open hC3; subst ev; clear hC3 hF3)
    | (go_at_call 15; refine (matrix_core hk1 hkm HC.out).mono ?_; rintro e w4 ⟨B4, ρ4, rfl, hG4, _, hb4⟩; have q24 := cell_below q23 hb4; have HM4 := (show Hid _ from gr_nm hG4); clear hG4 q23)
    | (go_at_call 32; revert HM4; intro HM4; refine (elems4_ok (by omega) (fun _ _ => by omega) HM4.out).mono ?_; rintro e w5 ⟨vA, rfl, hA5, hb5⟩; have q25 := cell_below q24 hb5; have HA := (show Hid _ from hA5); obtain ⟨pA, cA, eA⟩ := nmE_form hA5; subst eA; clear hA5 HM4 q24; have hz1 : (n0 : Int) ≤ (cb : Int) := (by omega); have hz2 : (0 : Int) ≤ (n0 : Int) := (by omega); obtain ⟨n, hn⟩ : ∃ n, n0 / k = n := ⟨_, rfl⟩; have HN : Hid (n0 / k = n) := hn; have hnn : n ≤ 255 := (by rw [← hn]; exact Nat.div_le_of_le_mul (by rw [Nat.mul_comm]; exact HN1.out)); clear hn; have HB15 := (show Hid _ from bt (bt hb3 hb4) hb5))
    | (go_at_call 26; (first | rw [HCUT.out] | skip); refine (cut_core pb n0 cb n k x w5 hk1 (by omega) (by omega) (by omega) HN (nr_cut (q := n0) (NrE.below (NrE.below HB0.out hb1) HB15.out) (by omega))).mono ?_; rintro e w6 ⟨v6, rfl, hM6, hb6⟩; have HD := (show Hid _ from Bm.nm hM6); obtain ⟨p6, c6, e6⟩ := nmE_form HD.out; subst e6; obtain ⟨D, hDe⟩ : ∃ D, D = (fun i j => x (i * n + j)) := ⟨_, rfl⟩; rw [← hDe] at HD; clear hDe hM6 q25)
    | (go_at_call 11; refine (encode_ok (Cd.below HC.out (bt (bt hb4 hb5) hb6)) HF.out hk1 hm1 hkm (by omega) HD.out).mono ?_; rintro e w7 ⟨v7, rfl, hN7, hb7, hcp7⟩; have HN7 := (show Hid _ from hN7); obtain ⟨p7, c7, e7, hc7⟩ := hcp7; subst e7; have HD7 := (show Hid _ from NmE.below HD.out hb7); obtain ⟨b6, o6, rows6, ep6, hc6, hn6⟩ := nm_at HD7.out (by omega); subst ep6; obtain ⟨pr, cr, er, _⟩ := nr_un (hn6 0 (by omega)); have g0 : w7.cell? ⟨b6, o6, none⟩ = some (.slice pr n cr) := (by have h := hc6 0 (by omega); rw [er] at h; exact h); clear hc6 hn6 er hN7; have jk : (0 : Int) < (k : Int) := (by omega); have HX7 := (show Hid _ from bt (bt (bt (bt hb0 hb1) HB15.out) hb6) hb7); have HB17 := (show Hid _ from bt (bt HB15.out hb6) hb7); have HA7 := (show Hid _ from NmE.below HA.out (bt hb6 hb7)); have q37 := cell_below q31.out HB17.out; have PL7 := (show Hid _ from places_gen (k := k) (m := m) (Jr.below HP0.out (bt hb1 HB17.out)) hk1 hkm); have T1 : Hid True := trivial; rcases zero_or n with hn0 | ⟨hn0, hnp⟩)
    | (go_at_call 32; revert T1; intro T1; refine (elems4_ok (by omega) (fun _ _ => hnn) HD7.out).mono ?_; rintro e w8 ⟨vE, rfl, hE8, hb8⟩; have HE8 := (show Hid _ from hE8); clear hE8 T1 q37 PL7)
    | (go_at_call 33; refine (timesE_new (NmE.below HA7.out hb8) HE8.out (tc_one (by omega) (by omega) hk1 (by omega) hnn)).mono ?_; rintro e w10 ⟨vT, rfl, hG10, hb10⟩; have HT10 := (show Hid _ from times_mm hk1 hG10); obtain ⟨pT, cT, eT⟩ := nmE_form HT10.out; subst eT; clear hG10)
    | (go_at_call 32; refine (elems4_ok (by omega) (fun _ _ => hnn) (NmE.below HN7.out (bt hb8 hb10))).mono ?_; rintro e w11 ⟨vV, rfl, hV11, hb11⟩; have HV11 := (show Hid _ from hV11); obtain ⟨pV, cV, eV⟩ := nmE_form hV11; subst eV; clear hV11)
    | (go_at_call 34; refine (equal4_core pT pV (k + m) cT cV n _ _ w11 (by omega) hnn (NmE.below HT10.out hb11) HV11 (fun i _ j _ => rfl)).mono ?_; rintro e w12 ⟨rfl, hb12⟩; have HB712 := (show Hid _ from bt (bt (bt hb8 hb10) hb11) hb12); have q312 := cell_below (cell_below q31.out HB17.out) HB712.out; have PL12 := (show Hid _ from places_gen (k := k) (m := m) (Jr.below HP0.out (bt hb1 (bt HB17.out HB712.out))) hk1 hkm))
    | (go_at_call 31; revert PL12; intro PL12; refine PL12.out.mono ?_; rintro e w9 ⟨P, g9, rfl, hP9, hO9, hb9⟩; have HO9 := (show Hid _ from hO9); have HP9 := (show Hid _ from hP9); have HX9 := (show Hid _ from bt (bt HX7.out HB712.out) hb9); have HA9 := (show Hid _ from NmE.below HA7.out (bt HB712.out hb9)); clear PL12 hO9 hP9 hb9 q312 hb8 hb10 hb11 hb12 HE8 HT10 HV11 HB712)
    | (go_at_call 31; revert PL7; intro PL7; refine PL7.out.mono ?_; rintro e w9 ⟨P, g9, rfl, hP9, hO9, hb9⟩; have HO9 := (show Hid _ from hO9); have HP9 := (show Hid _ from hP9); have HX9 := (show Hid _ from bt HX7.out hb9); have HA9 := (show Hid _ from NmE.below HA7.out hb9); clear PL7 hO9 hP9 hb9 q37 T1))
  all_goals
    obtain ⟨i1, hi1, hz01, hz11, hz21⟩ := info_parts infoI
    clear hb0 hb1 hb3 hb4 hb5 hb6 hb7 HB0 HP0 HW HB15 HB17 HA HA7 HD HD7 HN7 HC q31
    obtain ⟨N, hNe⟩ : ∃ N, N = k + m := ⟨_, rfl⟩
    have HNE : Hid (N = k + m) := hNe
    rw [← hNe] at HO9
    rw [show k + m = N from hNe.symm]
    have hN255 : N ≤ 255 := by omega
    clear hNe
    go_loopw [12, 14] (fun v t wr => ∃ i : Nat, i ≤ N ∧ t = .int .i64 i ∧ wr.ownsRow w9.heap.size 3 1 v (sel P false i).length (pvs (sel P false i)) ∧ Hid ((sel P false i).length ≤ k) ∧ Below w9.heap.size w9 wr) (fun _ t _ => N - (intOf t).toNat)
    case atStart => exact ⟨0, Nat.zero_le _, rfl, by rw [sel_zero]; unfold pvs; exact World.ownsRow_nil _ _ _ _, by show _ ≤ _; rw [sel_zero]; exact Nat.zero_le _, Below.refl _ _⟩
    case round =>
      obtain ⟨i, hi, rfl, hown, hlk, hb⟩ := hrel
      obtain ⟨q, hq⟩ : ∃ q, (sel P false i).length = q := ⟨_, rfl⟩
      obtain ⟨pv, cv, ev, hqc⟩ := own_form hown
      subst ev
      have HQ : Hid ((sel P false i).length = q) := hq
      rw [hq] at hown ⊢
      clear hq
      have hqk : q ≤ k := by have := hlk.out; have := HQ.out; omega
      by_cases hlt : i < N
      · have j1 : (i : Int) < (N : Int) := by omega
        by_cases hql : q < k
        · have j2 : (q : Int) < (k : Int) := by omega
          have g1 := cell_below (HO9.out.cell hlt) hb
          have M1 : Hid (q + 1 ≤ maxLen) := by show _ ≤ _; unfold maxLen; omega
          have M3 : Hid (∀ o : Obj, w9.heap.size ≤ (wr.alloc o).heap.size) := fun o => by have := hb.size; simp; omega
          clear hqc hlk
          by_cases hin : i ∈ P
          · rw [bm_in hin] at g1
            go_wp2
            go_roundw
            case rel => exact ⟨i + 1, by omega, by go_num, by rw [sel_no (by rw [decide_eq_true hin]; decide), HQ.out]; exact hown, by show _ ≤ _; rw [sel_no (by rw [decide_eq_true hin]; decide), HQ.out]; exact hqk, hb⟩
            case measure => simp [intOf]; omega
          · rw [bm_out hin] at g1
            go_wp2_with (at_builtin; refine wpList_append_own _ rfl _ _ 45 rfl w9.heap.size 3 i1 (.int .i64 0) 1 8 Try.underlying45 hi1 hz01 hz11 hz21 rfl (by decide) _ _ _ rfl (hown.alloc _) ⟨wr.heap.size, 0, none⟩ 1 1 [.int .i64 (i : Int)] rfl rfl (one_new _ _ _) (one_cellv rfl) M1.out (by omega) (M3.out _) ?_; intro v' w8 hown' hgrow _)
            have hb8 := below_append (hb.alloc hb.size _) (M3.out _) hgrow (hown.alloc _) (Nat.le_refl _)
            have es := sel_yes (P := P) (b := false) (i := i) (by rw [decide_eq_false hin]; rfl)
            have el8 : (sel P false (i + 1)).length = q + 1 := by rw [es, List.length_append, HQ.out]; rfl
            rw [pvs_app, ← es] at hown'
            clear hown hgrow
            go_roundw
            case rel => first | exact ⟨i + 1, by omega, by go_num, by rw [el8]; exact hown', by show _ ≤ _; rw [el8]; exact hql, hb8⟩ | exact ⟨_, _, ⟨i + 1, by omega, rfl, by rw [el8]; exact hown', by show _ ≤ _; rw [el8]; exact hql, hb8⟩, rfl, by go_num⟩ | ((repeat apply Exists.intro); exact ⟨⟨i + 1, by omega, by go_num, by rw [el8]; exact hown', by show _ ≤ _; rw [el8]; exact hql, hb8⟩, rfl⟩)
            case measure => simp [intOf]; omega
        · have j2 : ¬ (q : Int) < (k : Int) := by omega
          have HL : Hid ((sel P false i).length = k) := by show _ = _; have := HQ.out; omega
          rw [HNE.out] at hi
          have HPK := (show Hid _ from picked (m := m) (P := P) (i := i) HF.out hkm hi HL.out)
          have HJR := (show Hid _ from jr_pvs (b := w9.heap.size) (v := .slice pv q cv) (S := sel P false i) (by rw [HQ.out]; exact hown) HL.out)
          have RW := (show Hid _ from rowsE_any (NmE.below HA9.out hb) HJR.out)
          rw [HPK.out.1, rn_ok HPK.out.1, cw_one k (by omega), ← HNE.out] at RW
          have HBr := (show Hid _ from bt HX9.out hb)
          clear hown hb HJR
          go_wp2_with (first
            | (go_at_call 35; refine RW.out.mono ?_; rintro e w13 ⟨vR, rfl, hN13, hb13⟩; have HN13 := (show Hid _ from hN13); obtain ⟨pR, cR, eR⟩ := nmE_form hN13; subst eR; clear hN13 RW)
            | (go_at_call 36; refine (inverse_ok HN13.out (sq_one hk1 (by omega)) HPK.out.2).mono ?_; rintro e w14 ⟨v14, X14, rfl, hG14, _, _, hb14⟩; obtain ⟨p14, c14, e14⟩ := nmE_form (GxE.nm hG14); subst e14; clear hG14)
            | (go_at_call 37; refine (rank_core pR k cR (fun _ => k) _ w14 (fc_ok (by omega) (fun _ _ => by omega) (fun _ _ => rfl)) (NmE.below HN13.out hb14)).mono ?_; rintro e w15 ⟨d, A15, N15, E15, F15, pv15, rfl, hE15, hA15, hb15⟩; rw [cw_one k hk1] at hE15 hA15; obtain rfl := rank_whole hE15 hA15 HPK.out.2; clear hE15 hA15))
          go_ret
          exact ⟨rfl, bt (bt (bt HBr.out hb13) hb14) hb15⟩
      · obtain rfl : i = N := by omega
        have HL : Hid ((sel P false i).length = k) := by
          have h := sel_enough (P := P) (k := k) (m := m) HP9.out
          rw [← HNE.out] at h
          show _ = _
          have := HQ.out
          omega
        have hi : i ≤ k + m := by rw [HNE.out]; exact Nat.le_refl _
        have HPK := (show Hid _ from picked (m := m) (P := P) (i := i) HF.out hkm hi HL.out)
        have HJR := (show Hid _ from jr_pvs (b := w9.heap.size) (v := .slice pv q cv) (S := sel P false i) (by rw [HQ.out]; exact hown) HL.out)
        have RW := (show Hid _ from rowsE_any (NmE.below HA9.out hb) HJR.out)
        rw [HPK.out.1, rn_ok HPK.out.1, cw_one k (by omega), ← HNE.out] at RW
        have HBr := (show Hid _ from bt HX9.out hb)
        clear hown hb HJR
        go_wp2_with (first
          | (go_at_call 35; refine RW.out.mono ?_; rintro e w13 ⟨vR, rfl, hN13, hb13⟩; have HN13 := (show Hid _ from hN13); obtain ⟨pR, cR, eR⟩ := nmE_form hN13; subst eR; clear hN13 RW)
          | (go_at_call 36; refine (inverse_ok HN13.out (sq_one hk1 (by omega)) HPK.out.2).mono ?_; rintro e w14 ⟨v14, X14, rfl, hG14, _, _, hb14⟩; obtain ⟨p14, c14, e14⟩ := nmE_form (GxE.nm hG14); subst e14; clear hG14)
          | (go_at_call 37; refine (rank_core pR k cR (fun _ => k) _ w14 (fc_ok (by omega) (fun _ _ => by omega) (fun _ _ => rfl)) (NmE.below HN13.out hb14)).mono ?_; rintro e w15 ⟨d, A15, N15, E15, F15, pv15, rfl, hE15, hA15, hb15⟩; rw [cw_one k hk1] at hE15 hA15; obtain rfl := rank_whole hE15 hA15 HPK.out.2; clear hE15 hA15))
        go_ret
        exact ⟨rfl, bt (bt (bt HBr.out hb13) hb14) hb15⟩
end
end Go.Proofs.Ytnlmjajdfaambaa
