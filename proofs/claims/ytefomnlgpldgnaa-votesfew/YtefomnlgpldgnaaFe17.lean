/-
  VotesFew.
-/
import Derived.Test.YtefomnlgpldgnaaMo17
import Derived.Test.YtefomnlgpldgnaaBs17
import Derived.Deep.DeepCutAuto
namespace Go.Proofs.Ytefomnlgpldgnaa
open Go.RowKit
theorem rgl_cells4 {w : World} {v : Value} {L : List Grp} (h : Rgl w v L) : ∃ p c, v = .slice p L.length c ∧ ∀ i, i < L.length → ∃ b o, p = some ⟨b, o, none⟩ ∧ w.cell? ⟨b, o + i * 4, none⟩ = some (.int .i64 (L.getD i ((0, 0, 0), [])).1.1) ∧ w.cell? ⟨b, o + i * 4 + 1, none⟩ = some (.int .i64 (L.getD i ((0, 0, 0), [])).1.2.1) ∧ w.cell? ⟨b, o + i * 4 + 2, none⟩ = some (.int .i64 (L.getD i ((0, 0, 0), [])).1.2.2) ∧ ∃ q c', w.cell? ⟨b, o + i * 4 + 3, none⟩ = some (.slice q (L.getD i ((0, 0, 0), [])).2.length c') := by
  obtain ⟨p, c, B, es, e, _, hA, h⟩ := h
  refine ⟨p, c, e, fun i hi => ?_⟩
  rcases h with h | ⟨b, o, e2, h⟩
  · subst h; simp at hi
  · refine ⟨b, o, e2, ?_⟩
    obtain ⟨h1, _, q, c', h3, _⟩ := hA.2 i hi
    rw [← h1]
    refine ⟨h i hi 0 _ rfl, h i hi 1 _ rfl, h i hi 2 _ rfl, q, c', ?_⟩
    rw [← h3]
    exact h i hi 3 _ rfl
theorem grp_at {s : Shs} {n i : Nat} (hi : i < (grps s n).length) : ((grps s n).getD i ((0, 0, 0), [])).2.length = cn s n ((grps s n).getD i ((0, 0, 0), [])).1 := by
  have hm : (grps s n).getD i ((0, 0, 0), []) ∈ grps s n := by
    rw [List.getD_eq_getElem?_getD, List.getElem?_eq_getElem hi]
    exact List.getElem_mem hi
  unfold cn
  rw [← (isG_grps s n).pls _ hm]
theorem grp_older {s : Shs} {n i : Nat} (hi : i + 1 < (grps s n).length) : older ((grps s n).getD (i + 1) ((0, 0, 0), [])).1 ((grps s n).getD i ((0, 0, 0), [])).1 = true := by
  have h := List.pairwise_iff_getElem.1 (isG_grps s n).ord i (i + 1) (by omega) hi (by omega)
  rw [List.getD_eq_getElem?_getD, List.getD_eq_getElem?_getD, List.getElem?_eq_getElem hi, List.getElem?_eq_getElem (show i < (grps s n).length by omega)]
  exact h
theorem grp_mem {s : Shs} {n i : Nat} (hi : i < (grps s n).length) : (grps s n).getD i ((0, 0, 0), []) ∈ grps s n := by
  rw [List.getD_eq_getElem?_getD, List.getElem?_eq_getElem hi]
  exact List.getElem_mem hi
theorem totG_le (l : List Grp) (t : Nat) : totG (l.take t) ≤ totG l := by
  have h : totG (l.take t) + totG (l.drop t) = totG l := by
    unfold totG
    rw [← List.sum_append, ← List.map_append, List.take_append_drop]
  omega
theorem cntG_le (K : Int) (l : List Grp) (t : Nat) : cntG K (l.take t) ≤ l.length := by
  unfold cntG
  exact Nat.le_trans (List.length_filter_le _ _) (by rw [List.length_take]; omega)
theorem xctG_le (K : Int) (l : List Grp) (t : Nat) : xctG K (l.take t) ≤ l.length := by
  unfold xctG
  exact Nat.le_trans (List.length_filter_le _ _) (by rw [List.length_take]; omega)
theorem stale_len (ss : Nat → Sn) (n : Nat) (k : Wg) : (stl ss n 1 k).length + cn (shs ss) n k = n := by
  have h := filt_not (List.range n) (sh (shs ss) k)
  rw [List.length_range] at h
  exact h
theorem on_sl17 {w : World} {B : Nat} {v : Value} {L : List Nat} (h : On w B v L) : ∃ p c, v = .slice p L.length c := own_shape h
section
attribute [local irreducible] Calls GB Sn.cs shC vdC cn jdg grps totG cntG xctG shd stl On
set_option maxHeartbeats 16000000 in
set_option maxRecDepth 1000000 in
theorem votesFew_walk (k m b : Int) (hm : In64 m) {w : World} {p : Option Addr} {n c : Nat} {ss : Nat → Sn} (HS : SnL w p n ss) (hn : n ≤ 1172812402926) (hI : ∀ i, i < n → InW (ss i).wg) (h1 : ∀ i, i < n → (ss i).bv.oneCell' = true) :
    Calls Try.prog 4 #[.agg (shC k m b), .slice p n c] w fun e w' => e = .returned (.bool true) ∧ Below w.heap.size w w' := by
  have HL := (show Hid (SnL w p n ss) from HS)
  have FT := (show Hid (∀ W : World, _) from fun W => rfits_any k m b W)
  have JU := (show Hid (∀ W : World, Below w.heap.size w W → JAns k m b (.slice p n c) W (jdg k m b (shs ss) n).kd (jdg k m b (shs ss) n).wg (jdg k m b (shs ss) n).pl.length) from fun W hW => jans_of (judge_any k m b hm (HS.below hW) (by omega) hI h1) rfl rfl rfl)
  cases hs : shB k m b with
  | false =>
    rw [hs] at FT
    have hj : jdg k m b (shs ss) n = ⟨3, (0, 0, 0), []⟩ := by unfold jdg fitB; rw [hs]; rfl
    rw [hj] at JU
    simp only [List.length_nil] at JU
    clear hs hI HS hm hn h1 hj
    go_enter Try.func4, Try.ntmps4
    go_wp2_with (first
      | (refine wpList_stB (cs := vdC 3 (0, 0, 0) (.slice q11 0 c11)) rfl _ _ rfl rfl w11.heap.size rfl rfl hG12 (size_Vd' _ _ _) (vdC_same _ _ _ _ _ _) (vdC_one _ _ _ rfl) ?_; intro w13 hV13 hg13 hs13; have HP13 := (show Hid (Below w11.heap.size w11 w13) from grown_below hb12 hg13 hb12.size (Nat.le_refl _)); have HV13 := (show Hid (GB w13 w11.heap.size 42 (vdC 3 (0, 0, 0) (.slice q11 0 c11))) from hV13); have ca0 := hV13.cell 0; have ca1 := hV13.cell 1; have ca2 := hV13.cell 2; have ca3 := hV13.cell 3; have ca4 := hV13.cell 4; unfold vdC at ca0 ca1 ca2 ca3 ca4; simp only [List.getElem?_toArray, List.getElem?_cons_zero, List.getElem?_cons_succ] at ca0 ca1 ca2 ca3 ca4; have HBJ := (show Hid (Below w3.heap.size w3 w13) from bt hb11 HP13.out);  clear hV13 hg13 hs13 hG12 hb12 hb11)
      | (refine wpList_alB rfl rfl vd0 ?_; intro w12 hG12 hb12 hs12; have hu := hb11; clear hu hs12)
      | (go_at_call 10; refine Calls.mono (JU.out _ HB3.out) ?_; rintro e w11 ⟨q11, c11, rfl, hb11⟩)
      | (refine wpList_ldB rfl _ rfl w.heap.size rfl hG3 Try.underlying23 (size_Sp' _ _ _) ?_)
      | (go_at_call 7; refine (FT.out _).mono ?_; rintro e w3 ⟨rfl, hb3⟩; have hG3 := hG2.below hb3; have HB3 := (show Hid (Below w.heap.size w w3) from bt (bt hb1 hb2) hb3); obtain ⟨s0, s1⟩ := gb_sh hG3; clear hG2 hb1 hb2 hb3)
      | (refine wpList_ldB rfl _ rfl w.heap.size rfl hG2 Try.underlying23 (size_Sp' _ _ _) ?_)
      | (go_at_call 6; refine (awake_any _).mono ?_; rintro e w2 ⟨rfl, hb2⟩; have hG2 := hG1.below hb2; clear hG1)
      | (refine wpList_bxB rfl _ rfl rfl ?_; intro w1 hG1 hb1 hs1; clear hs1))
    go_ret
    exact ⟨rfl, bt HB3.out HBJ.out⟩
  | true =>
    rw [hs] at FT
    have hsh := (shB_iff k m b).1 hs
    unfold shp at hsh
    have wkm : wrap64 (k + m) = k + m := add_kk (by omega) (by omega) (by omega)
    by_cases hnk : (n : Int) = k + m
    · have hfit : fitB k m b n = true := by unfold fitB; rw [hs, decide_eq_true hnk]; rfl
      have d6 : ((n : Int) != k + m) = false := by simp [hnk]
      have HN := (show Hid (2 ≤ n ∧ n ≤ 255) from ⟨by omega, by omega⟩)
      have GR := (show Hid (∀ W : World, Below w.heap.size w W → Calls Try.prog 13 #[.slice p n c] W fun e w' => ∃ v, e = .returned v ∧ Rgl w' v (grps (shs ss) n) ∧ Below W.heap.size W w') from fun W hW => by
        refine (groups_any (c := c) (HS.below hW) (by omega) hI).mono ?_
        rintro e w' ⟨g2, cap2, l2, vs2, rfl, hI2, hV2, hb⟩
        obtain rfl := hI2.eq (isG_grps _ _)
        exact ⟨_, rfl, rgl_gv hV2, hb⟩)
      have SF := (show Hid (∀ W : World, Below w.heap.size w W → ∀ q : Wg, Calls Try.prog 9 #[.slice p n c, .agg #[.int .i64 q.1, .int .i64 q.2.1], .int .i64 q.2.2] W fun e w' => e = .returned (.int .i64 (cn (shs ss) n q : Int)) ∧ Below W.heap.size W w') from fun W hW q => shows_any (HS.below hW) (by omega) q)
      have ST := (show Hid (∀ W : World, Below w.heap.size w W → ∀ (q : Wg) (pv : Value), Calls Try.prog 14 #[.slice p n c, .agg (vdC 1 q pv)] W fun e w' => ∃ v, e = .returned v ∧ On w' W.heap.size v (stl ss n 1 q) ∧ Below W.heap.size W w') from fun W hW q pv => stale_any (HS.below hW) (by omega) h1 1 q pv)
      have HLN := (show Hid ((grps (shs ss) n).length ≤ 255) from by have := (isG_grps (shs ss) n).lenG; show _ ≤ _; omega)
      have HGA := (show Hid (∀ i, i < (grps (shs ss) n).length → ((grps (shs ss) n).getD i ((0, 0, 0), [])).2.length = cn (shs ss) n ((grps (shs ss) n).getD i ((0, 0, 0), [])).1) from fun i hi => grp_at hi)
      have HGO := (show Hid (∀ i, i + 1 < (grps (shs ss) n).length → older ((grps (shs ss) n).getD (i + 1) ((0, 0, 0), [])).1 ((grps (shs ss) n).getD i ((0, 0, 0), [])).1 = true) from fun i hi => grp_older hi)
      have HTT := (show Hid (totG (grps (shs ss) n) = shd (shs ss) n) from tot_grps _ _)
      have HFW := (show Hid _ from few (s := shs ss) hfit)
      have HCZ := (show Hid _ from cnt_zero (s := shs ss) hfit)
      have HJ1 := (show Hid ((jdg k m b (shs ss) n).kd = 1 → k ≤ ((jdg k m b (shs ss) n).pl.length : Int) ∧ (jdg k m b (shs ss) n).pl.length = cn (shs ss) n (jdg k m b (shs ss) n).wg ∧ ∀ i, i < (grps (shs ss) n).length → k ≤ (((grps (shs ss) n).getD i ((0, 0, 0), [])).2.length : Int) → older (jdg k m b (shs ss) n).wg ((grps (shs ss) n).getD i ((0, 0, 0), [])).1 = false) from fun h => by
        obtain ⟨a, b, c⟩ := jdg_one hfit h
        exact ⟨a, b, fun i hi hk => c _ (grp_mem hi) hk⟩)
      have HSL := (show Hid (∀ q : Wg, (stl ss n 1 q).length + cn (shs ss) n q = n) from fun q => stale_len ss n q)
      have HSH := (show Hid (∀ t, t ≤ n → shd (shs ss) t ≤ 255) from fun t ht => by have := shd_le (shs ss) t; have := HN.out; omega)
      have HTL := (show Hid (∀ t, totG ((grps (shs ss) n).take t) ≤ 255) from fun t => by
        have h1 := totG_le (grps (shs ss) n) t
        have h2 := shd_le (shs ss) n
        have h3 := HTT.out
        have := HN.out
        omega)
      clear hs hsh hnk hfit hI HS hm hn h1
      generalize hG : grps (shs ss) n = G at *
      clear hG
      go_enter Try.func4, Try.ntmps4
      go_wp2_with (first
        | (go_at_call 13; refine (GR.out _ HB3.out).mono ?_; rintro e w4 ⟨v4, rfl, hR4, hb4⟩; obtain ⟨p4, c4, e4, hQ4⟩ := rgl_cells4 hR4; subst e4; have HQ := (show Hid _ from hQ4); have HG4 := (show Hid (GB w4 w.heap.size 23 (shC k m b)) from hG3.below hb4); have HB4 := (show Hid (Below w.heap.size w w4) from bt HB3.out hb4); clear hR4 hQ4 hG3 hb4 s0 s1)
        | (go_at_call 7; refine (FT.out _).mono ?_; rintro e w3 ⟨rfl, hb3⟩; have hG3 := hG2.below hb3; have HB3 := (show Hid (Below w.heap.size w w3) from bt (bt hb1 hb2) hb3); obtain ⟨s0, s1⟩ := gb_sh hG3; clear hG2 hb1 hb2 hb3)
        | (refine wpList_ldB rfl _ rfl w.heap.size rfl hG2 Try.underlying23 (size_Sp' _ _ _) ?_)
        | (go_at_call 6; refine (awake_any _).mono ?_; rintro e w2 ⟨rfl, hb2⟩; have hG2 := hG1.below hb2; clear hG1)
        | (refine wpList_bxB rfl _ rfl rfl ?_; intro w1 hG1 hb1 hs1; clear hs1))
      go_loopw [9, 10, 11, 12] (fun c e a i wr => ∃ t : Nat, t ≤ G.length ∧ i = .int .i64 (t : Int) ∧ c = .int .i64 (cntG k (G.take t) : Int) ∧ e = .int .i64 (xctG k (G.take t) : Int) ∧ a = .int .i64 (totG (G.take t) : Int) ∧ Hid (Below w4.heap.size w4 wr)) (fun _ _ _ i _ => G.length - (intOf i).toNat)
      case atStart => exact ⟨0, Nat.zero_le _, rfl, by rw [List.take_zero]; unfold cntG; rfl, by rw [List.take_zero]; unfold xctG; rfl, by rw [List.take_zero]; unfold totG; rfl, Below.refl _ _⟩
      case round =>
        obtain ⟨t, ht, rfl, rfl, rfl, rfl, hB⟩ := hrel
        by_cases hlt : t < G.length
        · have hi : (t : Int) < (G.length : Int) := by omega
          have hgt := HGA.out t hlt
          have hgo := HGO.out (t - 1)
          have hC := cnt_snoc k (G.take t) (G.getD t ((0, 0, 0), []))
          have hE := xct_snoc k (G.take t) (G.getD t ((0, 0, 0), []))
          have hA := tot_snoc (G.take t) (G.getD t ((0, 0, 0), []))
          rw [← take_one hlt] at hC hE hA
          have hTL := HTL.out (t + 1)
          have hCL := cntG_le k G t
          have hEL := xctG_le k G t
          obtain ⟨b4, o4, e4, x1, x2, x3, q4, cc4, x4⟩ := HQ.out t hlt
          have WT := (show Hid (wrap64 ((t : Int) + 1) = ((t + 1 : Nat) : Int)) from by have := HLN.out; show _ = _; unfold wrap64; omega)
          have HT := (show Hid (t < G.length) from hlt)
          obtain ⟨W0, hW0⟩ : ∃ W0, W0 = wr := ⟨_, rfl⟩
          subst hW0
          have HBb := (show Hid (Below w4.heap.size w4 W0) from hB.out)
          have x1 := cell_below x1 hB.out
          have x2 := cell_below x2 hB.out
          have x3 := cell_below x3 hB.out
          have x4 := cell_below x4 hB.out
          obtain ⟨s0, s1⟩ := gb_sh (HG4.out.below hB.out)
          clear s1
          rw [hA] at hTL
          obtain ⟨q, Lqs⟩ : ∃ x : Grp, G.getD t ((0, 0, 0), []) = x := ⟨_, rfl⟩
          rw [Lqs] at hgt hC hE hA x1 x2 x3 x4 hTL
          obtain ⟨⟨q1, q2, q3⟩, ql⟩ := q
          simp only at hgt hC hE hA x1 x2 x3 x4 hTL
          have HC := (show Hid _ from hC)
          have HE := (show Hid _ from hE)
          have HA := (show Hid _ from hA)
          obtain ⟨C0, hC0⟩ : ∃ C0, cntG k (G.take t) = C0 := ⟨_, rfl⟩
          obtain ⟨E0, hE0⟩ : ∃ E0, xctG k (G.take t) = E0 := ⟨_, rfl⟩
          obtain ⟨A0, hA0⟩ : ∃ A0, totG (G.take t) = A0 := ⟨_, rfl⟩
          rw [hC0] at HC hCL ⊢
          rw [hE0] at HE hEL ⊢
          rw [hA0] at HA hTL ⊢
          obtain ⟨Lq, hLq⟩ : ∃ Lq, ql.length = Lq := ⟨_, rfl⟩
          rw [hLq] at HC HE HA hTL hgt x4
          have wa : wrap64 ((A0 : Int) + (Lq : Int)) = ((A0 + Lq : Nat) : Int) := by unfold wrap64; omega
          have WC := (show Hid (wrap64 ((C0 : Int) + 1) = ((C0 + 1 : Nat) : Int)) from by have := HLN.out; show _ = _; unfold wrap64; omega)
          have WE := (show Hid (wrap64 ((E0 : Int) + 1) = ((E0 + 1 : Nat) : Int)) from by have := HLN.out; show _ = _; unfold wrap64; omega)
          have SFt := (show Hid (∀ W : World, Below w.heap.size w W → Calls Try.prog 9 #[.slice p n c, .agg #[.int .i64 q1, .int .i64 q2], .int .i64 q3] W fun e w' => e = .returned (.int .i64 (Lq : Int)) ∧ Below W.heap.size W w') from fun W hW => by have h := SF.out W hW (q1, q2, q3); rw [← hgt] at h; exact h)
          have dl : ((Lq : Int) != (Lq : Int)) = false := by simp
          by_cases ht0 : t = 0
          · have hz : ¬ ((t : Int) > 0) := by omega
            have HZ0 := (show Hid (t = 0) from ht0)
            subst e4
            clear hC hE hA hC0 hE0 hA0 hLq hgt hgo hCL hEL hTL hlt ht Lqs hB ht0
            go_wp2_with (fail)
            as_aux_lemma =>
              obtain ⟨wd1, hwd⟩ : ∃ wq, wq = W0.drew := ⟨_, rfl⟩
              have bd : Below W0.heap.size W0 wd1 := by rw [hwd]; exact (Below.refl _ _).drew
              have HBc := (show Hid (Below w4.heap.size w4 wd1) from bt HBb.out bd)
              refine wp_region_held_drew (S := fun X => X.cell? ⟨b4, o4 + t * 4, none⟩ = some (.int .i64 q1) ∧ X.cell? ⟨b4, o4 + t * 4 + 1, none⟩ = some (.int .i64 q2) ∧ X.cell? ⟨b4, o4 + t * 4 + 2, none⟩ = some (.int .i64 q3) ∧ X.cell? ⟨b4, o4 + t * 4 + 3, none⟩ = some (.slice q4 Lq cc4) ∧ X.cell? ⟨w.heap.size, 0, none⟩ = some (.int .i64 k)) (by kernel_rfl) (by rw [← hwd]; exact ⟨cell_below x1 bd, cell_below x2 bd, cell_below x3 bd, cell_below x4 bd, cell_below s0 bd⟩) (fun hHeld => ?_)
              rw [← hwd] at hHeld ⊢
              clear x1 x2 x3 x4 s0 bd hwd
              refine takeHr (i := 0) (d := some 63) (v := ?v2) rfl rfl (by kernel_rfl) (by kernel_rfl) (by kernel_rfl) (fun _ _ _ h => h) (Or.inl ⟨by rfl, ?hy2⟩) hHeld ?rest2
              case hy2 => intro X hSw; obtain ⟨g0, g1, g2, g3, g4⟩ := hSw; go_simp <;> first | with_reducible rfl | exact HZ0.out
              try simp only [Act.put, List.setIfInBounds_toArray, List.set_cons_zero, List.set_cons_succ]
              refine takeHr (i := 1) (d := some 64) (v := .bool false) rfl rfl (by kernel_rfl) (by kernel_rfl) (by kernel_rfl) (fun _ _ _ h => h) (Or.inl ⟨by rfl, ?hy3⟩) hHeld ?rest3
              case hy3 => intro X hSw; obtain ⟨g0, g1, g2, g3, g4⟩ := hSw; go_simp <;> first | with_reducible rfl | exact HZ0.out
              try simp only [Act.put, List.setIfInBounds_toArray, List.set_cons_zero, List.set_cons_succ]
              refine takeHr (i := 2) (d := some 65) (v := .bool false) rfl rfl (by kernel_rfl) (by kernel_rfl) (by kernel_rfl) (fun _ _ _ h => h) (Or.inl ⟨by rfl, ?hy4⟩) hHeld ?rest4
              case hy4 => intro X hSw; obtain ⟨g0, g1, g2, g3, g4⟩ := hSw; go_simp <;> first | with_reducible rfl | exact HZ0.out
              try simp only [Act.put, List.setIfInBounds_toArray, List.set_cons_zero, List.set_cons_succ]
              refine takeHr (i := 3) (d := some 66) (v := undef) rfl rfl (by kernel_rfl) (by kernel_rfl) (by kernel_rfl) (fun _ _ _ h => h) (Or.inr ⟨by rfl, rfl⟩) hHeld ?_
              try simp only [Act.put, List.setIfInBounds_toArray, List.set_cons_zero, List.set_cons_succ]
              refine takeHr (i := 4) (d := some 67) (v := undef) rfl rfl (by kernel_rfl) (by kernel_rfl) (by kernel_rfl) (fun _ _ _ h => h) (Or.inr ⟨by rfl, rfl⟩) hHeld ?_
              try simp only [Act.put, List.setIfInBounds_toArray, List.set_cons_zero, List.set_cons_succ]
              refine takeHr (i := 5) (d := some 68) (v := undef) rfl rfl (by kernel_rfl) (by kernel_rfl) (by kernel_rfl) (fun _ _ _ h => h) (Or.inr ⟨by rfl, rfl⟩) hHeld ?_
              try simp only [Act.put, List.setIfInBounds_toArray, List.set_cons_zero, List.set_cons_succ]
              refine takeHr (i := 6) (d := some 69) (v := undef) rfl rfl (by kernel_rfl) (by kernel_rfl) (by kernel_rfl) (fun _ _ _ h => h) (Or.inr ⟨by rfl, rfl⟩) hHeld ?_
              try simp only [Act.put, List.setIfInBounds_toArray, List.set_cons_zero, List.set_cons_succ]
              refine takeHr (i := 7) (d := some 70) (v := undef) rfl rfl (by kernel_rfl) (by kernel_rfl) (by kernel_rfl) (fun _ _ _ h => h) (Or.inr ⟨by rfl, rfl⟩) hHeld ?_
              try simp only [Act.put, List.setIfInBounds_toArray, List.set_cons_zero, List.set_cons_succ]
              refine takeHr (i := 8) (d := some 71) (v := undef) rfl rfl (by kernel_rfl) (by kernel_rfl) (by kernel_rfl) (fun _ _ _ h => h) (Or.inr ⟨by rfl, rfl⟩) hHeld ?_
              try simp only [Act.put, List.setIfInBounds_toArray, List.set_cons_zero, List.set_cons_succ]
              refine takeHr (i := 9) (d := some 72) (v := undef) rfl rfl (by kernel_rfl) (by kernel_rfl) (by kernel_rfl) (fun _ _ _ h => h) (Or.inr ⟨by rfl, rfl⟩) hHeld ?_
              try simp only [Act.put, List.setIfInBounds_toArray, List.set_cons_zero, List.set_cons_succ]
              refine takeHr (i := 10) (d := some 73) (v := undef) rfl rfl (by kernel_rfl) (by kernel_rfl) (by kernel_rfl) (fun _ _ _ h => h) (Or.inr ⟨by rfl, rfl⟩) hHeld ?_
              try simp only [Act.put, List.setIfInBounds_toArray, List.set_cons_zero, List.set_cons_succ]
              refine takeHr (i := 11) (d := some 74) (v := undef) rfl rfl (by kernel_rfl) (by kernel_rfl) (by kernel_rfl) (fun _ _ _ h => h) (Or.inr ⟨by rfl, rfl⟩) hHeld ?_
              try simp only [Act.put, List.setIfInBounds_toArray, List.set_cons_zero, List.set_cons_succ]
              refine takeHr (i := 12) (d := some 75) (v := undef) rfl rfl (by kernel_rfl) (by kernel_rfl) (by kernel_rfl) (fun _ _ _ h => h) (Or.inr ⟨by rfl, rfl⟩) hHeld ?_
              try simp only [Act.put, List.setIfInBounds_toArray, List.set_cons_zero, List.set_cons_succ]
              refine takeHr (i := 13) (d := some 76) (v := undef) rfl rfl (by kernel_rfl) (by kernel_rfl) (by kernel_rfl) (fun _ _ _ h => h) (Or.inr ⟨by rfl, rfl⟩) hHeld ?_
              try simp only [Act.put, List.setIfInBounds_toArray, List.set_cons_zero, List.set_cons_succ]
              refine takeHr (i := 14) (d := some 77) (v := undef) rfl rfl (by kernel_rfl) (by kernel_rfl) (by kernel_rfl) (fun _ _ _ h => h) (Or.inr ⟨by rfl, rfl⟩) hHeld ?_
              try simp only [Act.put, List.setIfInBounds_toArray, List.set_cons_zero, List.set_cons_succ]
              refine takeHr (i := 15) (d := some 78) (v := undef) rfl rfl (by kernel_rfl) (by kernel_rfl) (by kernel_rfl) (fun _ _ _ h => h) (Or.inr ⟨by rfl, rfl⟩) hHeld ?_
              try simp only [Act.put, List.setIfInBounds_toArray, List.set_cons_zero, List.set_cons_succ]
              refine takeHr (i := 16) (d := some 79) (v := undef) rfl rfl (by kernel_rfl) (by kernel_rfl) (by kernel_rfl) (fun _ _ _ h => h) (Or.inr ⟨by rfl, rfl⟩) hHeld ?_
              try simp only [Act.put, List.setIfInBounds_toArray, List.set_cons_zero, List.set_cons_succ]
              refine takeHr (i := 17) (d := some 80) (v := undef) rfl rfl (by kernel_rfl) (by kernel_rfl) (by kernel_rfl) (fun _ _ _ h => h) (Or.inr ⟨by rfl, rfl⟩) hHeld ?_
              try simp only [Act.put, List.setIfInBounds_toArray, List.set_cons_zero, List.set_cons_succ]
              refine takeHr (i := 18) (d := some 81) (v := undef) rfl rfl (by kernel_rfl) (by kernel_rfl) (by kernel_rfl) (fun _ _ _ h => h) (Or.inr ⟨by rfl, rfl⟩) hHeld ?_
              try simp only [Act.put, List.setIfInBounds_toArray, List.set_cons_zero, List.set_cons_succ]
              refine takeHr (i := 19) (d := some 82) (v := undef) rfl rfl (by kernel_rfl) (by kernel_rfl) (by kernel_rfl) (fun _ _ _ h => h) (Or.inr ⟨by rfl, rfl⟩) hHeld ?_
              try simp only [Act.put, List.setIfInBounds_toArray, List.set_cons_zero, List.set_cons_succ]
              refine takeHr (i := 20) (d := some 83) (v := undef) rfl rfl (by kernel_rfl) (by kernel_rfl) (by kernel_rfl) (fun _ _ _ h => h) (Or.inr ⟨by rfl, rfl⟩) hHeld ?_
              try simp only [Act.put, List.setIfInBounds_toArray, List.set_cons_zero, List.set_cons_succ]
              refine takeHr (i := 21) (d := some 84) (v := undef) rfl rfl (by kernel_rfl) (by kernel_rfl) (by kernel_rfl) (fun _ _ _ h => h) (Or.inr ⟨by rfl, rfl⟩) hHeld ?_
              try simp only [Act.put, List.setIfInBounds_toArray, List.set_cons_zero, List.set_cons_succ]
              refine takeHr (i := 22) (d := some 85) (v := undef) rfl rfl (by kernel_rfl) (by kernel_rfl) (by kernel_rfl) (fun _ _ _ h => h) (Or.inr ⟨by rfl, rfl⟩) hHeld ?_
              try simp only [Act.put, List.setIfInBounds_toArray, List.set_cons_zero, List.set_cons_succ]
              refine takeHr (i := 23) (d := some 86) (v := undef) rfl rfl (by kernel_rfl) (by kernel_rfl) (by kernel_rfl) (fun _ _ _ h => h) (Or.inr ⟨by rfl, rfl⟩) hHeld ?_
              try simp only [Act.put, List.setIfInBounds_toArray, List.set_cons_zero, List.set_cons_succ]
              refine takeHr (i := 24) (d := some 87) (v := undef) rfl rfl (by kernel_rfl) (by kernel_rfl) (by kernel_rfl) (fun _ _ _ h => h) (Or.inr ⟨by rfl, rfl⟩) hHeld ?_
              try simp only [Act.put, List.setIfInBounds_toArray, List.set_cons_zero, List.set_cons_succ]
              refine takeHr (i := 25) (d := some 88) (v := undef) rfl rfl (by kernel_rfl) (by kernel_rfl) (by kernel_rfl) (fun _ _ _ h => h) (Or.inr ⟨by rfl, rfl⟩) hHeld ?_
              try simp only [Act.put, List.setIfInBounds_toArray, List.set_cons_zero, List.set_cons_succ]
              refine takeHr (i := 26) (d := some 89) (v := undef) rfl rfl (by kernel_rfl) (by kernel_rfl) (by kernel_rfl) (fun _ _ _ h => h) (Or.inr ⟨by rfl, rfl⟩) hHeld ?_
              try simp only [Act.put, List.setIfInBounds_toArray, List.set_cons_zero, List.set_cons_succ]
              refine takeHr (i := 27) (d := some 90) (v := .bool false) rfl rfl (by kernel_rfl) (by kernel_rfl) (by kernel_rfl) (fun _ _ _ h => h) (Or.inl ⟨by rfl, ?hy29⟩) hHeld ?rest29
              case hy29 => intro X hSw; obtain ⟨g0, g1, g2, g3, g4⟩ := hSw; go_simp <;> first | with_reducible rfl | exact HZ0.out
              try simp only [Act.put, List.setIfInBounds_toArray, List.set_cons_zero, List.set_cons_succ]
              refine takeHr (i := 28) (d := some 91) (v := .bool false) rfl rfl (by kernel_rfl) (by kernel_rfl) (by kernel_rfl) (fun _ _ _ h => h) (Or.inl ⟨by rfl, ?hy30⟩) hHeld ?rest30
              case hy30 => intro X hSw; obtain ⟨g0, g1, g2, g3, g4⟩ := hSw; go_simp <;> first | with_reducible rfl | exact HZ0.out
              try simp only [Act.put, List.setIfInBounds_toArray, List.set_cons_zero, List.set_cons_succ]
              refine takeHr (i := 29) (d := some 92) (v := ?v31) rfl rfl (by kernel_rfl) (by kernel_rfl) (by kernel_rfl) (fun _ _ _ h => h) (Or.inl ⟨by rfl, ?hy31⟩) hHeld ?rest31
              case hy31 => intro X hSw; obtain ⟨g0, g1, g2, g3, g4⟩ := hSw; go_simp <;> first | with_reducible rfl | exact HZ0.out
              try simp only [Act.put, List.setIfInBounds_toArray, List.set_cons_zero, List.set_cons_succ]
              refine takeHr (i := 30) (d := some 93) (v := ?v32) rfl rfl (by kernel_rfl) (by kernel_rfl) (by kernel_rfl) (fun _ _ _ h => h) (Or.inl ⟨by rfl, ?hy32⟩) hHeld ?rest32
              case hy32 => intro X hSw; obtain ⟨g0, g1, g2, g3, g4⟩ := hSw; go_simp <;> first | with_reducible rfl | exact HZ0.out
              try simp only [Act.put, List.setIfInBounds_toArray, List.set_cons_zero, List.set_cons_succ]
              refine takeHr (i := 31) (d := some 94) (v := .pointer (some ⟨b4, o4 + t * 4, none⟩)) rfl rfl (by kernel_rfl) (by kernel_rfl) (by kernel_rfl) (fun _ _ _ h => h) (Or.inl ⟨by rfl, ?hy33⟩) hHeld ?rest33
              case hy33 => intro X hSw; obtain ⟨g0, g1, g2, g3, g4⟩ := hSw; go_simp <;> first | with_reducible rfl | exact HZ0.out
              try simp only [Act.put, List.setIfInBounds_toArray, List.set_cons_zero, List.set_cons_succ]
              refine takeHr (i := 32) (d := some 95) (v := ?v34) rfl rfl (by kernel_rfl) (by kernel_rfl) (by kernel_rfl) (fun _ _ _ h => h) (Or.inl ⟨by rfl, ?hy34⟩) hHeld ?rest34
              case hy34 => intro X hSw; obtain ⟨g0, g1, g2, g3, g4⟩ := hSw; go_simp <;> first | with_reducible rfl | exact HZ0.out
              try simp only [Act.put, List.setIfInBounds_toArray, List.set_cons_zero, List.set_cons_succ]
              refine takeHr (i := 33) (d := some 96) (v := ?v35) rfl rfl (by kernel_rfl) (by kernel_rfl) (by kernel_rfl) (fun _ _ _ h => h) (Or.inl ⟨by rfl, ?hy35⟩) hHeld ?rest35
              case hy35 => intro X hSw; obtain ⟨g0, g1, g2, g3, g4⟩ := hSw; go_simp <;> first | with_reducible rfl | exact HZ0.out
              try simp only [Act.put, List.setIfInBounds_toArray, List.set_cons_zero, List.set_cons_succ]
              refine takeHr (i := 34) (d := some 97) (v := ?v36) rfl rfl (by kernel_rfl) (by kernel_rfl) (by kernel_rfl) (fun _ _ _ h => h) (Or.inl ⟨by rfl, ?hy36⟩) hHeld ?rest36
              case hy36 => intro X hSw; obtain ⟨g0, g1, g2, g3, g4⟩ := hSw; go_simp <;> first | with_reducible rfl | exact HZ0.out
              try simp only [Act.put, List.setIfInBounds_toArray, List.set_cons_zero, List.set_cons_succ]
              refine takeHr (i := 35) (d := some 98) (v := ?v37) rfl rfl (by kernel_rfl) (by kernel_rfl) (by kernel_rfl) (fun _ _ _ h => h) (Or.inl ⟨by rfl, ?hy37⟩) hHeld ?rest37
              case hy37 => intro X hSw; obtain ⟨g0, g1, g2, g3, g4⟩ := hSw; go_simp <;> first | with_reducible rfl | exact HZ0.out
              try simp only [Act.put, List.setIfInBounds_toArray, List.set_cons_zero, List.set_cons_succ]
              refine takeHr (i := 36) (d := some 99) (v := ?v38) rfl rfl (by kernel_rfl) (by kernel_rfl) (by kernel_rfl) (fun _ _ _ h => h) (Or.inl ⟨by rfl, ?hy38⟩) hHeld ?rest38
              case hy38 => intro X hSw; obtain ⟨g0, g1, g2, g3, g4⟩ := hSw; go_simp <;> first | with_reducible rfl | exact HZ0.out
              try simp only [Act.put, List.setIfInBounds_toArray, List.set_cons_zero, List.set_cons_succ]
              refine takeHr (i := 37) (d := some 100) (v := ?v39) rfl rfl (by kernel_rfl) (by kernel_rfl) (by kernel_rfl) (fun _ _ _ h => h) (Or.inl ⟨by rfl, ?hy39⟩) hHeld ?rest39
              case hy39 => intro X hSw; obtain ⟨g0, g1, g2, g3, g4⟩ := hSw; go_simp <;> first | with_reducible rfl | exact HZ0.out
              try simp only [Act.put, List.setIfInBounds_toArray, List.set_cons_zero, List.set_cons_succ]
              refine takeHr (i := 38) (d := some 101) (v := .pointer (some ⟨b4, o4 + t * 4, none⟩)) rfl rfl (by kernel_rfl) (by kernel_rfl) (by kernel_rfl) (fun _ _ _ h => h) (Or.inl ⟨by rfl, ?hy40⟩) hHeld ?rest40
              case hy40 => intro X hSw; obtain ⟨g0, g1, g2, g3, g4⟩ := hSw; go_simp <;> first | with_reducible rfl | exact HZ0.out
              try simp only [Act.put, List.setIfInBounds_toArray, List.set_cons_zero, List.set_cons_succ]
              refine takeHr (i := 39) (d := some 102) (v := ?v41) rfl rfl (by kernel_rfl) (by kernel_rfl) (by kernel_rfl) (fun _ _ _ h => h) (Or.inl ⟨by rfl, ?hy41⟩) hHeld ?rest41
              case hy41 => intro X hSw; obtain ⟨g0, g1, g2, g3, g4⟩ := hSw; go_simp <;> first | with_reducible rfl | exact HZ0.out
              try simp only [Act.put, List.setIfInBounds_toArray, List.set_cons_zero, List.set_cons_succ]
              refine takeHr (i := 40) (d := some 103) (v := ?v42) rfl rfl (by kernel_rfl) (by kernel_rfl) (by kernel_rfl) (fun _ _ _ h => h) (Or.inl ⟨by rfl, ?hy42⟩) hHeld ?rest42
              case hy42 => intro X hSw; obtain ⟨g0, g1, g2, g3, g4⟩ := hSw; go_simp <;> first | with_reducible rfl | exact HZ0.out
              try simp only [Act.put, List.setIfInBounds_toArray, List.set_cons_zero, List.set_cons_succ]
              refine takeHr (i := 41) (d := some 104) (v := ?v43) rfl rfl (by kernel_rfl) (by kernel_rfl) (by kernel_rfl) (fun _ _ _ h => h) (Or.inl ⟨by rfl, ?hy43⟩) hHeld ?rest43
              case hy43 => intro X hSw; obtain ⟨g0, g1, g2, g3, g4⟩ := hSw; go_simp <;> first | with_reducible rfl | exact HZ0.out
              try simp only [Act.put, List.setIfInBounds_toArray, List.set_cons_zero, List.set_cons_succ]
              refine takeHr (i := 42) (d := some 105) (v := ?v44) rfl rfl (by kernel_rfl) (by kernel_rfl) (by kernel_rfl) (fun _ _ _ h => h) (Or.inl ⟨by rfl, ?hy44⟩) hHeld ?rest44
              case hy44 => intro X hSw; obtain ⟨g0, g1, g2, g3, g4⟩ := hSw; go_simp <;> first | with_reducible rfl | exact HZ0.out
              try simp only [Act.put, List.setIfInBounds_toArray, List.set_cons_zero, List.set_cons_succ]
              refine takeHr (i := 43) (d := some 106) (v := .pointer (some ⟨b4, o4 + t * 4, none⟩)) rfl rfl (by kernel_rfl) (by kernel_rfl) (by kernel_rfl) (fun _ _ _ h => h) (Or.inl ⟨by rfl, ?hy45⟩) hHeld ?rest45
              case hy45 => intro X hSw; obtain ⟨g0, g1, g2, g3, g4⟩ := hSw; go_simp <;> first | with_reducible rfl | exact HZ0.out
              try simp only [Act.put, List.setIfInBounds_toArray, List.set_cons_zero, List.set_cons_succ]
              refine takeHr (i := 44) (d := some 107) (v := ?v46) rfl rfl (by kernel_rfl) (by kernel_rfl) (by kernel_rfl) (fun _ _ _ h => h) (Or.inl ⟨by rfl, ?hy46⟩) hHeld ?rest46
              case hy46 => intro X hSw; obtain ⟨g0, g1, g2, g3, g4⟩ := hSw; go_simp <;> first | with_reducible rfl | exact HZ0.out
              try simp only [Act.put, List.setIfInBounds_toArray, List.set_cons_zero, List.set_cons_succ]
              refine takeHr (i := 45) (d := some 108) (v := ?v47) rfl rfl (by kernel_rfl) (by kernel_rfl) (by kernel_rfl) (fun _ _ _ h => h) (Or.inl ⟨by rfl, ?hy47⟩) hHeld ?rest47
              case hy47 => intro X hSw; obtain ⟨g0, g1, g2, g3, g4⟩ := hSw; go_simp <;> first | with_reducible rfl | exact HZ0.out
              try simp only [Act.put, List.setIfInBounds_toArray, List.set_cons_zero, List.set_cons_succ]
              refine wpAnyH_ready (rs := [46]) (by kernel_rfl) (by simp) ?_
              refine AllReadyH.cons (o := { dst := some 109, op := Op.call { callee := Callee.value (Operand.func 9), args := #[Operand.tmp 98, Operand.tmp 103, Operand.tmp 108], argTypes := #[24, 31, 3] }, type := 3, pos := "outright.go:129", after := #[{ on := 35, ground := Ground.data }, { on := 40, ground := Ground.data }, { on := 45, ground := Ground.data }, { on := 28, ground := Ground.chain }, { on := 28, ground := Ground.guard }], guard := some (28, false) }) rfl (fun Kq hKq => ?_) AllReadyH.nil
              · go_simp
                refine (SFt.out _ (bt HB4.out HBc.out)).mono ?_
                rintro e w48x ⟨rfl, hb48⟩
                replace HBc := (show Hid _ from bt HBc.out hb48)
                refine hKq.out _ _ ⟨cell_below hHeld.1 hb48, cell_below hHeld.2.1 hb48, cell_below hHeld.2.2.1 hb48, cell_below hHeld.2.2.2.1 hb48, cell_below hHeld.2.2.2.2 hb48⟩ (fun hHeld => ?_)
                clear hKq Kq
                try simp only [Act.put, List.setIfInBounds_toArray, List.set_cons_zero, List.set_cons_succ]
                refine takeHr (i := 47) (d := some 110) (v := .bool false) rfl rfl (by kernel_rfl) (by kernel_rfl) (by kernel_rfl) (fun _ _ _ h => h) (Or.inl ⟨by rfl, ?hy49⟩) hHeld ?rest49
                case hy49 => intro X hSw; obtain ⟨g0, g1, g2, g3, g4⟩ := hSw; go_simp <;> first | with_reducible rfl | exact HZ0.out
                try simp only [Act.put, List.setIfInBounds_toArray, List.set_cons_zero, List.set_cons_succ]
                refine takeHr (i := 48) (d := some 111) (v := .bool false) rfl rfl (by kernel_rfl) (by kernel_rfl) (by kernel_rfl) (fun _ _ _ h => h) (Or.inl ⟨by rfl, ?hy50⟩) hHeld ?rest50
                case hy50 => intro X hSw; obtain ⟨g0, g1, g2, g3, g4⟩ := hSw; go_simp <;> first | with_reducible rfl | exact HZ0.out
                try simp only [Act.put, List.setIfInBounds_toArray, List.set_cons_zero, List.set_cons_succ]
                refine wpAnyH_done (by kernel_rfl) ?_ _
                have x1 := hHeld.1
                have x2 := hHeld.2.1
                have x3 := hHeld.2.2.1
                have x4 := hHeld.2.2.2.1
                have s0 := hHeld.2.2.2.2
                clear hHeld
                by_cases hk : k ≤ (Lq : Int)
                · have HK := (show Hid (k ≤ (Lq : Int)) from hk)
                  by_cases hq : (Lq : Int) = k
                  · have HQE := (show Hid ((Lq : Int) = k) from hq)
                    have dq : ((Lq : Int) == k) = true := by simp [hq]
                    clear hq
                    go_wp2_with (fail)
                    go_quiet (fail)
                    have bq := below_drewN (Below.refl w48x.heap.size w48x) nq
                    have x4 := cell_below x4 bq
                    have s0 := cell_below s0 bq
                    replace HBc := (show Hid _ from bt HBc.out bq)
                    clear bq
                    generalize World.drewN w48x nq = wq at *
                    go_wp2_with (fail)
                    go_quiet (fail)
                    go_wp2_with (fail)
                    go_roundw
                    case rel => exact ⟨t + 1, HT.out, by first | rw [WT.out] | go_num, by rw [HC.out, if_pos HK.out]; first | rw [WC.out] | go_num, by rw [HE.out, if_pos HQE.out]; first | rw [WE.out] | go_num, by rw [HA.out, Int.natCast_add], below_drewN HBc.out _⟩
                    case measure => first | (rw [WT.out]; exact meas_v17 HT.out) | exact meas_v17 HT.out
                  · have HQE := (show Hid (¬ (Lq : Int) = k) from hq)
                    have dq : ((Lq : Int) == k) = false := by simp [hq]
                    clear hq
                    go_wp2_with (fail)
                    go_quiet (fail)
                    have bq := below_drewN (Below.refl w48x.heap.size w48x) nq
                    have x4 := cell_below x4 bq
                    have s0 := cell_below s0 bq
                    replace HBc := (show Hid _ from bt HBc.out bq)
                    clear bq
                    generalize World.drewN w48x nq = wq at *
                    go_wp2_with (fail)
                    go_quiet (fail)
                    go_wp2_with (fail)
                    go_roundw
                    case rel => exact ⟨t + 1, HT.out, by first | rw [WT.out] | go_num, by rw [HC.out, if_pos HK.out]; first | rw [WC.out] | go_num, by rw [HE.out, if_neg (by have h9 := HQE.out; first | exact h9 | omega)]; rfl, by rw [HA.out, Int.natCast_add], below_drewN HBc.out _⟩
                    case measure => first | (rw [WT.out]; exact meas_v17 HT.out) | exact meas_v17 HT.out
                · have HK := (show Hid (¬ k ≤ (Lq : Int)) from hk)
                  have HQE := (show Hid (¬ (Lq : Int) = k) from fun h => hk (by omega))
                  have dq : ((Lq : Int) == k) = false := by simp; omega
                  go_wp2_with (fail)
                  go_quiet (fail)
                  have bq := below_drewN (Below.refl w48x.heap.size w48x) nq
                  have x4 := cell_below x4 bq
                  have s0 := cell_below s0 bq
                  replace HBc := (show Hid _ from bt HBc.out bq)
                  clear bq
                  generalize World.drewN w48x nq = wq at *
                  go_wp2_with (fail)
                  go_quiet (fail)
                  go_wp2_with (fail)
                  go_roundw
                  case rel => exact ⟨t + 1, HT.out, by first | rw [WT.out] | go_num, by rw [HC.out, if_neg (by have h9 := HK.out; omega)]; rfl, by rw [HE.out, if_neg (by have h9 := HQE.out; first | exact h9 | omega)]; rfl, by rw [HA.out, Int.natCast_add], below_drewN HBc.out _⟩
                  case measure => first | (rw [WT.out]; exact meas_v17 HT.out) | exact meas_v17 HT.out
          · have hz : ((t : Int) > 0) := by omega
            have HZ0 := (show Hid (0 < t) from by show _ < _; omega)
            obtain ⟨u, hu⟩ : ∃ u : Nat, t = u + 1 := ⟨t - 1, by omega⟩
            have hul : u < G.length := by omega
            obtain ⟨b5, o5, e5, y1, y2, y3, _⟩ := HQ.out u hul
            rw [e4] at e5
            injection e5 with e5
            injection e5 with e5 e6
            subst e5 e6
            subst e4
            have y1 := cell_below y1 HBb.out
            have y2 := cell_below y2 HBb.out
            have y3 := cell_below y3 HBb.out
            have hold : older (q1, q2, q3) (G.getD u ((0, 0, 0), [])).1 = true := by
              have h := hgo (by omega)
              rw [show t - 1 = u by omega, show u + 1 = t by omega, Lqs] at h
              exact h
            obtain ⟨r, hr⟩ : ∃ r, (G.getD u ((0, 0, 0), [])).1 = r := ⟨_, rfl⟩
            rw [hr] at hold y1 y2 y3
            obtain ⟨r1, r2, r3⟩ := r
            simp only at y1 y2 y3
            have ws : IntKind.i64.wrap ((t : Int) - 1) = (u : Int) := by rw [IntKind.wrap_i64]; have := HLN.out; omega
            have hiu : (u : Int) < (G.length : Int) := by omega
            have OLt := (show Hid (∀ W : World, Calls Try.prog 12 #[.agg #[.int .i64 q1, .int .i64 q2], .int .i64 q3, .agg #[.int .i64 r1, .int .i64 r2], .int .i64 r3] W fun e w' => e = .returned (.bool true) ∧ Below W.heap.size W w') from fun W => by have h := rolder_any (q1, q2, q3) (r1, r2, r3) W; rw [hold] at h; exact h)
            clear hC hE hA hC0 hE0 hA0 hLq hgt hgo hCL hEL hTL hlt ht Lqs hB ht0 hu hul hold hr
            go_wp2_with (fail)
            as_aux_lemma =>
              obtain ⟨wd51, hwd⟩ : ∃ wq, wq = W0.drew := ⟨_, rfl⟩
              have bd : Below W0.heap.size W0 wd51 := by rw [hwd]; exact (Below.refl _ _).drew
              have HBc := (show Hid (Below w4.heap.size w4 wd51) from bt HBb.out bd)
              refine wp_region_held_drew (S := fun X => X.cell? ⟨b4, o4 + t * 4, none⟩ = some (.int .i64 q1) ∧ X.cell? ⟨b4, o4 + t * 4 + 1, none⟩ = some (.int .i64 q2) ∧ X.cell? ⟨b4, o4 + t * 4 + 2, none⟩ = some (.int .i64 q3) ∧ X.cell? ⟨b4, o4 + t * 4 + 3, none⟩ = some (.slice q4 Lq cc4) ∧ X.cell? ⟨w.heap.size, 0, none⟩ = some (.int .i64 k) ∧ X.cell? ⟨b4, o4 + u * 4, none⟩ = some (.int .i64 r1) ∧ X.cell? ⟨b4, o4 + u * 4 + 1, none⟩ = some (.int .i64 r2) ∧ X.cell? ⟨b4, o4 + u * 4 + 2, none⟩ = some (.int .i64 r3)) (by kernel_rfl) (by rw [← hwd]; exact ⟨cell_below x1 bd, cell_below x2 bd, cell_below x3 bd, cell_below x4 bd, cell_below s0 bd, cell_below y1 bd, cell_below y2 bd, cell_below y3 bd⟩) (fun hHeld => ?_)
              rw [← hwd] at hHeld ⊢
              clear x1 x2 x3 x4 s0 y1 y2 y3 bd hwd
              refine takeHr (i := 0) (d := some 63) (v := ?v52) rfl rfl (by kernel_rfl) (by kernel_rfl) (by kernel_rfl) (fun _ _ _ h => h) (Or.inl ⟨by rfl, ?hy52⟩) hHeld ?rest52
              case hy52 => intro X hSw; obtain ⟨g0, g1, g2, g3, g4, g5, g6, g7⟩ := hSw; go_simp <;> first | with_reducible rfl | exact ws | exact HZ0.out
              try simp only [Act.put, List.setIfInBounds_toArray, List.set_cons_zero, List.set_cons_succ]
              refine takeHr (i := 1) (d := some 64) (v := .bool true) rfl rfl (by kernel_rfl) (by kernel_rfl) (by kernel_rfl) (fun _ _ _ h => h) (Or.inl ⟨by rfl, ?hy53⟩) hHeld ?rest53
              case hy53 => intro X hSw; obtain ⟨g0, g1, g2, g3, g4, g5, g6, g7⟩ := hSw; go_simp <;> first | with_reducible rfl | exact ws | exact HZ0.out
              try simp only [Act.put, List.setIfInBounds_toArray, List.set_cons_zero, List.set_cons_succ]
              refine takeHr (i := 2) (d := some 65) (v := .bool true) rfl rfl (by kernel_rfl) (by kernel_rfl) (by kernel_rfl) (fun _ _ _ h => h) (Or.inl ⟨by rfl, ?hy54⟩) hHeld ?rest54
              case hy54 => intro X hSw; obtain ⟨g0, g1, g2, g3, g4, g5, g6, g7⟩ := hSw; go_simp <;> first | with_reducible rfl | exact ws | exact HZ0.out
              try simp only [Act.put, List.setIfInBounds_toArray, List.set_cons_zero, List.set_cons_succ]
              refine takeHr (i := 3) (d := some 66) (v := ?v55) rfl rfl (by kernel_rfl) (by kernel_rfl) (by kernel_rfl) (fun _ _ _ h => h) (Or.inl ⟨by rfl, ?hy55⟩) hHeld ?rest55
              case hy55 => intro X hSw; obtain ⟨g0, g1, g2, g3, g4, g5, g6, g7⟩ := hSw; go_simp <;> first | with_reducible rfl | exact ws | exact HZ0.out
              try simp only [Act.put, List.setIfInBounds_toArray, List.set_cons_zero, List.set_cons_succ]
              refine takeHr (i := 4) (d := some 67) (v := ?v56) rfl rfl (by kernel_rfl) (by kernel_rfl) (by kernel_rfl) (fun _ _ _ h => h) (Or.inl ⟨by rfl, ?hy56⟩) hHeld ?rest56
              case hy56 => intro X hSw; obtain ⟨g0, g1, g2, g3, g4, g5, g6, g7⟩ := hSw; go_simp <;> first | with_reducible rfl | exact ws | exact HZ0.out
              try simp only [Act.put, List.setIfInBounds_toArray, List.set_cons_zero, List.set_cons_succ]
              refine takeHr (i := 5) (d := some 68) (v := .pointer (some ⟨b4, o4 + t * 4, none⟩)) rfl rfl (by kernel_rfl) (by kernel_rfl) (by kernel_rfl) (fun _ _ _ h => h) (Or.inl ⟨by rfl, ?hy57⟩) hHeld ?rest57
              case hy57 => intro X hSw; obtain ⟨g0, g1, g2, g3, g4, g5, g6, g7⟩ := hSw; go_simp <;> first | with_reducible rfl | exact ws | exact HZ0.out
              try simp only [Act.put, List.setIfInBounds_toArray, List.set_cons_zero, List.set_cons_succ]
              refine takeHr (i := 6) (d := some 69) (v := ?v58) rfl rfl (by kernel_rfl) (by kernel_rfl) (by kernel_rfl) (fun _ _ _ h => h) (Or.inl ⟨by rfl, ?hy58⟩) hHeld ?rest58
              case hy58 => intro X hSw; obtain ⟨g0, g1, g2, g3, g4, g5, g6, g7⟩ := hSw; go_simp <;> first | with_reducible rfl | exact ws | exact HZ0.out
              try simp only [Act.put, List.setIfInBounds_toArray, List.set_cons_zero, List.set_cons_succ]
              refine takeHr (i := 7) (d := some 70) (v := ?v59) rfl rfl (by kernel_rfl) (by kernel_rfl) (by kernel_rfl) (fun _ _ _ h => h) (Or.inl ⟨by rfl, ?hy59⟩) hHeld ?rest59
              case hy59 => intro X hSw; obtain ⟨g0, g1, g2, g3, g4, g5, g6, g7⟩ := hSw; go_simp <;> first | with_reducible rfl | exact ws | exact HZ0.out
              try simp only [Act.put, List.setIfInBounds_toArray, List.set_cons_zero, List.set_cons_succ]
              refine takeHr (i := 8) (d := some 71) (v := ?v60) rfl rfl (by kernel_rfl) (by kernel_rfl) (by kernel_rfl) (fun _ _ _ h => h) (Or.inl ⟨by rfl, ?hy60⟩) hHeld ?rest60
              case hy60 => intro X hSw; obtain ⟨g0, g1, g2, g3, g4, g5, g6, g7⟩ := hSw; go_simp <;> first | with_reducible rfl | exact ws | exact HZ0.out
              try simp only [Act.put, List.setIfInBounds_toArray, List.set_cons_zero, List.set_cons_succ]
              refine takeHr (i := 9) (d := some 72) (v := ?v61) rfl rfl (by kernel_rfl) (by kernel_rfl) (by kernel_rfl) (fun _ _ _ h => h) (Or.inl ⟨by rfl, ?hy61⟩) hHeld ?rest61
              case hy61 => intro X hSw; obtain ⟨g0, g1, g2, g3, g4, g5, g6, g7⟩ := hSw; go_simp <;> first | with_reducible rfl | exact ws | exact HZ0.out
              try simp only [Act.put, List.setIfInBounds_toArray, List.set_cons_zero, List.set_cons_succ]
              refine takeHr (i := 10) (d := some 73) (v := .pointer (some ⟨b4, o4 + t * 4, none⟩)) rfl rfl (by kernel_rfl) (by kernel_rfl) (by kernel_rfl) (fun _ _ _ h => h) (Or.inl ⟨by rfl, ?hy62⟩) hHeld ?rest62
              case hy62 => intro X hSw; obtain ⟨g0, g1, g2, g3, g4, g5, g6, g7⟩ := hSw; go_simp <;> first | with_reducible rfl | exact ws | exact HZ0.out
              try simp only [Act.put, List.setIfInBounds_toArray, List.set_cons_zero, List.set_cons_succ]
              refine takeHr (i := 11) (d := some 74) (v := ?v63) rfl rfl (by kernel_rfl) (by kernel_rfl) (by kernel_rfl) (fun _ _ _ h => h) (Or.inl ⟨by rfl, ?hy63⟩) hHeld ?rest63
              case hy63 => intro X hSw; obtain ⟨g0, g1, g2, g3, g4, g5, g6, g7⟩ := hSw; go_simp <;> first | with_reducible rfl | exact ws | exact HZ0.out
              try simp only [Act.put, List.setIfInBounds_toArray, List.set_cons_zero, List.set_cons_succ]
              refine takeHr (i := 12) (d := some 75) (v := ?v64) rfl rfl (by kernel_rfl) (by kernel_rfl) (by kernel_rfl) (fun _ _ _ h => h) (Or.inl ⟨by rfl, ?hy64⟩) hHeld ?rest64
              case hy64 => intro X hSw; obtain ⟨g0, g1, g2, g3, g4, g5, g6, g7⟩ := hSw; go_simp <;> first | with_reducible rfl | exact ws | exact HZ0.out
              try simp only [Act.put, List.setIfInBounds_toArray, List.set_cons_zero, List.set_cons_succ]
              refine takeHr (i := 13) (d := some 76) (v := ?v65) rfl rfl (by kernel_rfl) (by kernel_rfl) (by kernel_rfl) (fun _ _ _ h => h) (Or.inl ⟨by rfl, ?hy65⟩) hHeld ?rest65
              case hy65 => intro X hSw; obtain ⟨g0, g1, g2, g3, g4, g5, g6, g7⟩ := hSw; go_simp <;> first | with_reducible rfl | exact ws | exact HZ0.out
              try simp only [Act.put, List.setIfInBounds_toArray, List.set_cons_zero, List.set_cons_succ]
              refine takeHr (i := 14) (d := some 77) (v := ?v66) rfl rfl (by kernel_rfl) (by kernel_rfl) (by kernel_rfl) (fun _ _ _ h => h) (Or.inl ⟨by rfl, ?hy66⟩) hHeld ?rest66
              case hy66 => intro X hSw; obtain ⟨g0, g1, g2, g3, g4, g5, g6, g7⟩ := hSw; go_simp <;> first | with_reducible rfl | exact ws | exact HZ0.out
              try simp only [Act.put, List.setIfInBounds_toArray, List.set_cons_zero, List.set_cons_succ]
              refine takeHr (i := 15) (d := some 78) (v := .int .i64 (u : Int)) rfl rfl (by kernel_rfl) (by kernel_rfl) (by kernel_rfl) (fun _ _ _ h => h) (Or.inl ⟨by rfl, ?hy67⟩) hHeld ?rest67
              case hy67 => intro X hSw; obtain ⟨g0, g1, g2, g3, g4, g5, g6, g7⟩ := hSw; go_simp <;> first | with_reducible rfl | exact ws | exact HZ0.out
              try simp only [Act.put, List.setIfInBounds_toArray, List.set_cons_zero, List.set_cons_succ]
              refine takeHr (i := 16) (d := some 79) (v := .pointer (some ⟨b4, o4 + u * 4, none⟩)) rfl rfl (by kernel_rfl) (by kernel_rfl) (by kernel_rfl) (fun _ _ _ h => h) (Or.inl ⟨by rfl, ?hy68⟩) hHeld ?rest68
              case hy68 => intro X hSw; obtain ⟨g0, g1, g2, g3, g4, g5, g6, g7⟩ := hSw; go_simp <;> first | with_reducible rfl | exact ws | exact HZ0.out
              try simp only [Act.put, List.setIfInBounds_toArray, List.set_cons_zero, List.set_cons_succ]
              refine takeHr (i := 17) (d := some 80) (v := ?v69) rfl rfl (by kernel_rfl) (by kernel_rfl) (by kernel_rfl) (fun _ _ _ h => h) (Or.inl ⟨by rfl, ?hy69⟩) hHeld ?rest69
              case hy69 => intro X hSw; obtain ⟨g0, g1, g2, g3, g4, g5, g6, g7⟩ := hSw; go_simp <;> first | with_reducible rfl | exact ws | exact HZ0.out
              try simp only [Act.put, List.setIfInBounds_toArray, List.set_cons_zero, List.set_cons_succ]
              refine takeHr (i := 18) (d := some 81) (v := ?v70) rfl rfl (by kernel_rfl) (by kernel_rfl) (by kernel_rfl) (fun _ _ _ h => h) (Or.inl ⟨by rfl, ?hy70⟩) hHeld ?rest70
              case hy70 => intro X hSw; obtain ⟨g0, g1, g2, g3, g4, g5, g6, g7⟩ := hSw; go_simp <;> first | with_reducible rfl | exact ws | exact HZ0.out
              try simp only [Act.put, List.setIfInBounds_toArray, List.set_cons_zero, List.set_cons_succ]
              refine takeHr (i := 19) (d := some 82) (v := ?v71) rfl rfl (by kernel_rfl) (by kernel_rfl) (by kernel_rfl) (fun _ _ _ h => h) (Or.inl ⟨by rfl, ?hy71⟩) hHeld ?rest71
              case hy71 => intro X hSw; obtain ⟨g0, g1, g2, g3, g4, g5, g6, g7⟩ := hSw; go_simp <;> first | with_reducible rfl | exact ws | exact HZ0.out
              try simp only [Act.put, List.setIfInBounds_toArray, List.set_cons_zero, List.set_cons_succ]
              refine takeHr (i := 20) (d := some 83) (v := ?v72) rfl rfl (by kernel_rfl) (by kernel_rfl) (by kernel_rfl) (fun _ _ _ h => h) (Or.inl ⟨by rfl, ?hy72⟩) hHeld ?rest72
              case hy72 => intro X hSw; obtain ⟨g0, g1, g2, g3, g4, g5, g6, g7⟩ := hSw; go_simp <;> first | with_reducible rfl | exact ws | exact HZ0.out
              try simp only [Act.put, List.setIfInBounds_toArray, List.set_cons_zero, List.set_cons_succ]
              refine takeHr (i := 21) (d := some 84) (v := .int .i64 (u : Int)) rfl rfl (by kernel_rfl) (by kernel_rfl) (by kernel_rfl) (fun _ _ _ h => h) (Or.inl ⟨by rfl, ?hy73⟩) hHeld ?rest73
              case hy73 => intro X hSw; obtain ⟨g0, g1, g2, g3, g4, g5, g6, g7⟩ := hSw; go_simp <;> first | with_reducible rfl | exact ws | exact HZ0.out
              try simp only [Act.put, List.setIfInBounds_toArray, List.set_cons_zero, List.set_cons_succ]
              refine takeHr (i := 22) (d := some 85) (v := .pointer (some ⟨b4, o4 + u * 4, none⟩)) rfl rfl (by kernel_rfl) (by kernel_rfl) (by kernel_rfl) (fun _ _ _ h => h) (Or.inl ⟨by rfl, ?hy74⟩) hHeld ?rest74
              case hy74 => intro X hSw; obtain ⟨g0, g1, g2, g3, g4, g5, g6, g7⟩ := hSw; go_simp <;> first | with_reducible rfl | exact ws | exact HZ0.out
              try simp only [Act.put, List.setIfInBounds_toArray, List.set_cons_zero, List.set_cons_succ]
              refine takeHr (i := 23) (d := some 86) (v := ?v75) rfl rfl (by kernel_rfl) (by kernel_rfl) (by kernel_rfl) (fun _ _ _ h => h) (Or.inl ⟨by rfl, ?hy75⟩) hHeld ?rest75
              case hy75 => intro X hSw; obtain ⟨g0, g1, g2, g3, g4, g5, g6, g7⟩ := hSw; go_simp <;> first | with_reducible rfl | exact ws | exact HZ0.out
              try simp only [Act.put, List.setIfInBounds_toArray, List.set_cons_zero, List.set_cons_succ]
              refine takeHr (i := 24) (d := some 87) (v := ?v76) rfl rfl (by kernel_rfl) (by kernel_rfl) (by kernel_rfl) (fun _ _ _ h => h) (Or.inl ⟨by rfl, ?hy76⟩) hHeld ?rest76
              case hy76 => intro X hSw; obtain ⟨g0, g1, g2, g3, g4, g5, g6, g7⟩ := hSw; go_simp <;> first | with_reducible rfl | exact ws | exact HZ0.out
              try simp only [Act.put, List.setIfInBounds_toArray, List.set_cons_zero, List.set_cons_succ]
              refine wpAnyH_ready (rs := [25]) (by kernel_rfl) (by simp) ?_
              refine AllReadyH.cons (o := { dst := some 88, op := Op.call { callee := Callee.value (Operand.func 12), args := #[Operand.tmp 70, Operand.tmp 75, Operand.tmp 81, Operand.tmp 87], argTypes := #[31, 3, 31, 3] }, type := 4, pos := "outright.go:129", after := #[{ on := 7, ground := Ground.data }, { on := 12, ground := Ground.data }, { on := 18, ground := Ground.data }, { on := 24, ground := Ground.data }, { on := 2, ground := Ground.chain }, { on := 2, ground := Ground.guard }], guard := some (2, true) }) rfl (fun Kq hKq => ?_) AllReadyH.nil
              · go_simp
                refine (OLt.out _).mono ?_
                rintro e w77x ⟨rfl, hb77⟩
                replace HBc := (show Hid _ from bt HBc.out hb77)
                refine hKq.out _ _ ⟨cell_below hHeld.1 hb77, cell_below hHeld.2.1 hb77, cell_below hHeld.2.2.1 hb77, cell_below hHeld.2.2.2.1 hb77, cell_below hHeld.2.2.2.2.1 hb77, cell_below hHeld.2.2.2.2.2.1 hb77, cell_below hHeld.2.2.2.2.2.2.1 hb77, cell_below hHeld.2.2.2.2.2.2.2 hb77⟩ (fun hHeld => ?_)
                clear hKq Kq
                try simp only [Act.put, List.setIfInBounds_toArray, List.set_cons_zero, List.set_cons_succ]
                refine takeHr (i := 26) (d := some 89) (v := .bool false) rfl rfl (by kernel_rfl) (by kernel_rfl) (by kernel_rfl) (fun _ _ _ h => h) (Or.inl ⟨by rfl, ?hy78⟩) hHeld ?rest78
                case hy78 => intro X hSw; obtain ⟨g0, g1, g2, g3, g4, g5, g6, g7⟩ := hSw; go_simp <;> first | with_reducible rfl | exact ws | exact HZ0.out
                try simp only [Act.put, List.setIfInBounds_toArray, List.set_cons_zero, List.set_cons_succ]
                refine takeHr (i := 27) (d := some 90) (v := .bool false) rfl rfl (by kernel_rfl) (by kernel_rfl) (by kernel_rfl) (fun _ _ _ h => h) (Or.inl ⟨by rfl, ?hy79⟩) hHeld ?rest79
                case hy79 => intro X hSw; obtain ⟨g0, g1, g2, g3, g4, g5, g6, g7⟩ := hSw; go_simp <;> first | with_reducible rfl | exact ws | exact HZ0.out
                try simp only [Act.put, List.setIfInBounds_toArray, List.set_cons_zero, List.set_cons_succ]
                refine takeHr (i := 28) (d := some 91) (v := .bool false) rfl rfl (by kernel_rfl) (by kernel_rfl) (by kernel_rfl) (fun _ _ _ h => h) (Or.inl ⟨by rfl, ?hy80⟩) hHeld ?rest80
                case hy80 => intro X hSw; obtain ⟨g0, g1, g2, g3, g4, g5, g6, g7⟩ := hSw; go_simp <;> first | with_reducible rfl | exact ws | exact HZ0.out
                try simp only [Act.put, List.setIfInBounds_toArray, List.set_cons_zero, List.set_cons_succ]
                refine takeHr (i := 29) (d := some 92) (v := ?v81) rfl rfl (by kernel_rfl) (by kernel_rfl) (by kernel_rfl) (fun _ _ _ h => h) (Or.inl ⟨by rfl, ?hy81⟩) hHeld ?rest81
                case hy81 => intro X hSw; obtain ⟨g0, g1, g2, g3, g4, g5, g6, g7⟩ := hSw; go_simp <;> first | with_reducible rfl | exact ws | exact HZ0.out
                try simp only [Act.put, List.setIfInBounds_toArray, List.set_cons_zero, List.set_cons_succ]
                refine takeHr (i := 30) (d := some 93) (v := ?v82) rfl rfl (by kernel_rfl) (by kernel_rfl) (by kernel_rfl) (fun _ _ _ h => h) (Or.inl ⟨by rfl, ?hy82⟩) hHeld ?rest82
                case hy82 => intro X hSw; obtain ⟨g0, g1, g2, g3, g4, g5, g6, g7⟩ := hSw; go_simp <;> first | with_reducible rfl | exact ws | exact HZ0.out
                try simp only [Act.put, List.setIfInBounds_toArray, List.set_cons_zero, List.set_cons_succ]
                refine takeHr (i := 31) (d := some 94) (v := .pointer (some ⟨b4, o4 + t * 4, none⟩)) rfl rfl (by kernel_rfl) (by kernel_rfl) (by kernel_rfl) (fun _ _ _ h => h) (Or.inl ⟨by rfl, ?hy83⟩) hHeld ?rest83
                case hy83 => intro X hSw; obtain ⟨g0, g1, g2, g3, g4, g5, g6, g7⟩ := hSw; go_simp <;> first | with_reducible rfl | exact ws | exact HZ0.out
                try simp only [Act.put, List.setIfInBounds_toArray, List.set_cons_zero, List.set_cons_succ]
                refine takeHr (i := 32) (d := some 95) (v := ?v84) rfl rfl (by kernel_rfl) (by kernel_rfl) (by kernel_rfl) (fun _ _ _ h => h) (Or.inl ⟨by rfl, ?hy84⟩) hHeld ?rest84
                case hy84 => intro X hSw; obtain ⟨g0, g1, g2, g3, g4, g5, g6, g7⟩ := hSw; go_simp <;> first | with_reducible rfl | exact ws | exact HZ0.out
                try simp only [Act.put, List.setIfInBounds_toArray, List.set_cons_zero, List.set_cons_succ]
                refine takeHr (i := 33) (d := some 96) (v := ?v85) rfl rfl (by kernel_rfl) (by kernel_rfl) (by kernel_rfl) (fun _ _ _ h => h) (Or.inl ⟨by rfl, ?hy85⟩) hHeld ?rest85
                case hy85 => intro X hSw; obtain ⟨g0, g1, g2, g3, g4, g5, g6, g7⟩ := hSw; go_simp <;> first | with_reducible rfl | exact ws | exact HZ0.out
                try simp only [Act.put, List.setIfInBounds_toArray, List.set_cons_zero, List.set_cons_succ]
                refine takeHr (i := 34) (d := some 97) (v := ?v86) rfl rfl (by kernel_rfl) (by kernel_rfl) (by kernel_rfl) (fun _ _ _ h => h) (Or.inl ⟨by rfl, ?hy86⟩) hHeld ?rest86
                case hy86 => intro X hSw; obtain ⟨g0, g1, g2, g3, g4, g5, g6, g7⟩ := hSw; go_simp <;> first | with_reducible rfl | exact ws | exact HZ0.out
                try simp only [Act.put, List.setIfInBounds_toArray, List.set_cons_zero, List.set_cons_succ]
                refine takeHr (i := 35) (d := some 98) (v := ?v87) rfl rfl (by kernel_rfl) (by kernel_rfl) (by kernel_rfl) (fun _ _ _ h => h) (Or.inl ⟨by rfl, ?hy87⟩) hHeld ?rest87
                case hy87 => intro X hSw; obtain ⟨g0, g1, g2, g3, g4, g5, g6, g7⟩ := hSw; go_simp <;> first | with_reducible rfl | exact ws | exact HZ0.out
                try simp only [Act.put, List.setIfInBounds_toArray, List.set_cons_zero, List.set_cons_succ]
                refine takeHr (i := 36) (d := some 99) (v := ?v88) rfl rfl (by kernel_rfl) (by kernel_rfl) (by kernel_rfl) (fun _ _ _ h => h) (Or.inl ⟨by rfl, ?hy88⟩) hHeld ?rest88
                case hy88 => intro X hSw; obtain ⟨g0, g1, g2, g3, g4, g5, g6, g7⟩ := hSw; go_simp <;> first | with_reducible rfl | exact ws | exact HZ0.out
                try simp only [Act.put, List.setIfInBounds_toArray, List.set_cons_zero, List.set_cons_succ]
                refine takeHr (i := 37) (d := some 100) (v := ?v89) rfl rfl (by kernel_rfl) (by kernel_rfl) (by kernel_rfl) (fun _ _ _ h => h) (Or.inl ⟨by rfl, ?hy89⟩) hHeld ?rest89
                case hy89 => intro X hSw; obtain ⟨g0, g1, g2, g3, g4, g5, g6, g7⟩ := hSw; go_simp <;> first | with_reducible rfl | exact ws | exact HZ0.out
                try simp only [Act.put, List.setIfInBounds_toArray, List.set_cons_zero, List.set_cons_succ]
                refine takeHr (i := 38) (d := some 101) (v := .pointer (some ⟨b4, o4 + t * 4, none⟩)) rfl rfl (by kernel_rfl) (by kernel_rfl) (by kernel_rfl) (fun _ _ _ h => h) (Or.inl ⟨by rfl, ?hy90⟩) hHeld ?rest90
                case hy90 => intro X hSw; obtain ⟨g0, g1, g2, g3, g4, g5, g6, g7⟩ := hSw; go_simp <;> first | with_reducible rfl | exact ws | exact HZ0.out
                try simp only [Act.put, List.setIfInBounds_toArray, List.set_cons_zero, List.set_cons_succ]
                refine takeHr (i := 39) (d := some 102) (v := ?v91) rfl rfl (by kernel_rfl) (by kernel_rfl) (by kernel_rfl) (fun _ _ _ h => h) (Or.inl ⟨by rfl, ?hy91⟩) hHeld ?rest91
                case hy91 => intro X hSw; obtain ⟨g0, g1, g2, g3, g4, g5, g6, g7⟩ := hSw; go_simp <;> first | with_reducible rfl | exact ws | exact HZ0.out
                try simp only [Act.put, List.setIfInBounds_toArray, List.set_cons_zero, List.set_cons_succ]
                refine takeHr (i := 40) (d := some 103) (v := ?v92) rfl rfl (by kernel_rfl) (by kernel_rfl) (by kernel_rfl) (fun _ _ _ h => h) (Or.inl ⟨by rfl, ?hy92⟩) hHeld ?rest92
                case hy92 => intro X hSw; obtain ⟨g0, g1, g2, g3, g4, g5, g6, g7⟩ := hSw; go_simp <;> first | with_reducible rfl | exact ws | exact HZ0.out
                try simp only [Act.put, List.setIfInBounds_toArray, List.set_cons_zero, List.set_cons_succ]
                refine takeHr (i := 41) (d := some 104) (v := ?v93) rfl rfl (by kernel_rfl) (by kernel_rfl) (by kernel_rfl) (fun _ _ _ h => h) (Or.inl ⟨by rfl, ?hy93⟩) hHeld ?rest93
                case hy93 => intro X hSw; obtain ⟨g0, g1, g2, g3, g4, g5, g6, g7⟩ := hSw; go_simp <;> first | with_reducible rfl | exact ws | exact HZ0.out
                try simp only [Act.put, List.setIfInBounds_toArray, List.set_cons_zero, List.set_cons_succ]
                refine takeHr (i := 42) (d := some 105) (v := ?v94) rfl rfl (by kernel_rfl) (by kernel_rfl) (by kernel_rfl) (fun _ _ _ h => h) (Or.inl ⟨by rfl, ?hy94⟩) hHeld ?rest94
                case hy94 => intro X hSw; obtain ⟨g0, g1, g2, g3, g4, g5, g6, g7⟩ := hSw; go_simp <;> first | with_reducible rfl | exact ws | exact HZ0.out
                try simp only [Act.put, List.setIfInBounds_toArray, List.set_cons_zero, List.set_cons_succ]
                refine takeHr (i := 43) (d := some 106) (v := .pointer (some ⟨b4, o4 + t * 4, none⟩)) rfl rfl (by kernel_rfl) (by kernel_rfl) (by kernel_rfl) (fun _ _ _ h => h) (Or.inl ⟨by rfl, ?hy95⟩) hHeld ?rest95
                case hy95 => intro X hSw; obtain ⟨g0, g1, g2, g3, g4, g5, g6, g7⟩ := hSw; go_simp <;> first | with_reducible rfl | exact ws | exact HZ0.out
                try simp only [Act.put, List.setIfInBounds_toArray, List.set_cons_zero, List.set_cons_succ]
                refine takeHr (i := 44) (d := some 107) (v := ?v96) rfl rfl (by kernel_rfl) (by kernel_rfl) (by kernel_rfl) (fun _ _ _ h => h) (Or.inl ⟨by rfl, ?hy96⟩) hHeld ?rest96
                case hy96 => intro X hSw; obtain ⟨g0, g1, g2, g3, g4, g5, g6, g7⟩ := hSw; go_simp <;> first | with_reducible rfl | exact ws | exact HZ0.out
                try simp only [Act.put, List.setIfInBounds_toArray, List.set_cons_zero, List.set_cons_succ]
                refine takeHr (i := 45) (d := some 108) (v := ?v97) rfl rfl (by kernel_rfl) (by kernel_rfl) (by kernel_rfl) (fun _ _ _ h => h) (Or.inl ⟨by rfl, ?hy97⟩) hHeld ?rest97
                case hy97 => intro X hSw; obtain ⟨g0, g1, g2, g3, g4, g5, g6, g7⟩ := hSw; go_simp <;> first | with_reducible rfl | exact ws | exact HZ0.out
                try simp only [Act.put, List.setIfInBounds_toArray, List.set_cons_zero, List.set_cons_succ]
                refine wpAnyH_ready (rs := [46]) (by kernel_rfl) (by simp) ?_
                refine AllReadyH.cons (o := { dst := some 109, op := Op.call { callee := Callee.value (Operand.func 9), args := #[Operand.tmp 98, Operand.tmp 103, Operand.tmp 108], argTypes := #[24, 31, 3] }, type := 3, pos := "outright.go:129", after := #[{ on := 35, ground := Ground.data }, { on := 40, ground := Ground.data }, { on := 45, ground := Ground.data }, { on := 28, ground := Ground.chain }, { on := 28, ground := Ground.guard }], guard := some (28, false) }) rfl (fun Kq hKq => ?_) AllReadyH.nil
                · go_simp
                  refine (SFt.out _ (bt HB4.out HBc.out)).mono ?_
                  rintro e w98x ⟨rfl, hb98⟩
                  replace HBc := (show Hid _ from bt HBc.out hb98)
                  refine hKq.out _ _ ⟨cell_below hHeld.1 hb98, cell_below hHeld.2.1 hb98, cell_below hHeld.2.2.1 hb98, cell_below hHeld.2.2.2.1 hb98, cell_below hHeld.2.2.2.2.1 hb98, cell_below hHeld.2.2.2.2.2.1 hb98, cell_below hHeld.2.2.2.2.2.2.1 hb98, cell_below hHeld.2.2.2.2.2.2.2 hb98⟩ (fun hHeld => ?_)
                  clear hKq Kq
                  try simp only [Act.put, List.setIfInBounds_toArray, List.set_cons_zero, List.set_cons_succ]
                  refine takeHr (i := 47) (d := some 110) (v := .bool false) rfl rfl (by kernel_rfl) (by kernel_rfl) (by kernel_rfl) (fun _ _ _ h => h) (Or.inl ⟨by rfl, ?hy99⟩) hHeld ?rest99
                  case hy99 => intro X hSw; obtain ⟨g0, g1, g2, g3, g4, g5, g6, g7⟩ := hSw; go_simp <;> first | with_reducible rfl | exact ws | exact HZ0.out
                  try simp only [Act.put, List.setIfInBounds_toArray, List.set_cons_zero, List.set_cons_succ]
                  refine takeHr (i := 48) (d := some 111) (v := .bool false) rfl rfl (by kernel_rfl) (by kernel_rfl) (by kernel_rfl) (fun _ _ _ h => h) (Or.inl ⟨by rfl, ?hy100⟩) hHeld ?rest100
                  case hy100 => intro X hSw; obtain ⟨g0, g1, g2, g3, g4, g5, g6, g7⟩ := hSw; go_simp <;> first | with_reducible rfl | exact ws | exact HZ0.out
                  try simp only [Act.put, List.setIfInBounds_toArray, List.set_cons_zero, List.set_cons_succ]
                  refine wpAnyH_done (by kernel_rfl) ?_ _
                  have x1 := hHeld.1
                  have x2 := hHeld.2.1
                  have x3 := hHeld.2.2.1
                  have x4 := hHeld.2.2.2.1
                  have s0 := hHeld.2.2.2.2.1
                  have y1 := hHeld.2.2.2.2.2.1
                  have y2 := hHeld.2.2.2.2.2.2.1
                  have y3 := hHeld.2.2.2.2.2.2.2
                  clear hHeld
                  by_cases hk : k ≤ (Lq : Int)
                  · have HK := (show Hid (k ≤ (Lq : Int)) from hk)
                    by_cases hq : (Lq : Int) = k
                    · have HQE := (show Hid ((Lq : Int) = k) from hq)
                      have dq : ((Lq : Int) == k) = true := by simp [hq]
                      clear hq
                      go_wp2_with (fail)
                      go_quiet (fail)
                      have bq := below_drewN (Below.refl w98x.heap.size w98x) nq
                      have x4 := cell_below x4 bq
                      have s0 := cell_below s0 bq
                      replace HBc := (show Hid _ from bt HBc.out bq)
                      clear bq
                      generalize World.drewN w98x nq = wq at *
                      go_wp2_with (fail)
                      go_quiet (fail)
                      go_wp2_with (fail)
                      go_roundw
                      case rel => exact ⟨t + 1, HT.out, by first | rw [WT.out] | go_num, by rw [HC.out, if_pos HK.out]; first | rw [WC.out] | go_num, by rw [HE.out, if_pos HQE.out]; first | rw [WE.out] | go_num, by rw [HA.out, Int.natCast_add], below_drewN HBc.out _⟩
                      case measure => first | (rw [WT.out]; exact meas_v17 HT.out) | exact meas_v17 HT.out
                    · have HQE := (show Hid (¬ (Lq : Int) = k) from hq)
                      have dq : ((Lq : Int) == k) = false := by simp [hq]
                      clear hq
                      go_wp2_with (fail)
                      go_quiet (fail)
                      have bq := below_drewN (Below.refl w98x.heap.size w98x) nq
                      have x4 := cell_below x4 bq
                      have s0 := cell_below s0 bq
                      replace HBc := (show Hid _ from bt HBc.out bq)
                      clear bq
                      generalize World.drewN w98x nq = wq at *
                      go_wp2_with (fail)
                      go_quiet (fail)
                      go_wp2_with (fail)
                      go_roundw
                      case rel => exact ⟨t + 1, HT.out, by first | rw [WT.out] | go_num, by rw [HC.out, if_pos HK.out]; first | rw [WC.out] | go_num, by rw [HE.out, if_neg (by have h9 := HQE.out; first | exact h9 | omega)]; rfl, by rw [HA.out, Int.natCast_add], below_drewN HBc.out _⟩
                      case measure => first | (rw [WT.out]; exact meas_v17 HT.out) | exact meas_v17 HT.out
                  · have HK := (show Hid (¬ k ≤ (Lq : Int)) from hk)
                    have HQE := (show Hid (¬ (Lq : Int) = k) from fun h => hk (by omega))
                    have dq : ((Lq : Int) == k) = false := by simp; omega
                    go_wp2_with (fail)
                    go_quiet (fail)
                    have bq := below_drewN (Below.refl w98x.heap.size w98x) nq
                    have x4 := cell_below x4 bq
                    have s0 := cell_below s0 bq
                    replace HBc := (show Hid _ from bt HBc.out bq)
                    clear bq
                    generalize World.drewN w98x nq = wq at *
                    go_wp2_with (fail)
                    go_quiet (fail)
                    go_wp2_with (fail)
                    go_roundw
                    case rel => exact ⟨t + 1, HT.out, by first | rw [WT.out] | go_num, by rw [HC.out, if_neg (by have h9 := HK.out; omega)]; rfl, by rw [HE.out, if_neg (by have h9 := HQE.out; first | exact h9 | omega)]; rfl, by rw [HA.out, Int.natCast_add], below_drewN HBc.out _⟩
                    case measure => first | (rw [WT.out]; exact meas_v17 HT.out) | exact meas_v17 HT.out
        · obtain rfl : t = G.length := by omega
          rw [List.take_length]
          have hnn : ¬ ((G.length : Int) < (G.length : Int)) := by omega
          obtain ⟨W5, hW5⟩ : ∃ W5, W5 = wr := ⟨_, rfl⟩
          subst hW5
          have HB5 := (show Hid (Below w4.heap.size w4 W5) from hB.out)
          clear hB ht hlt HGA HGO HTL
          go_wp2_with (fail)
          go_loopw [13, 14] (fun s i wr => ∃ t : Nat, t ≤ n ∧ i = .int .i64 (t : Int) ∧ s = .int .i64 (shd (shs ss) t : Int) ∧ Hid (Below W5.heap.size W5 wr)) (fun _ i _ => n - (intOf i).toNat)
          case atStart => exact ⟨0, Nat.zero_le _, rfl, by unfold shd; rfl, Below.refl _ _⟩
          case round =>
            obtain ⟨t, ht, rfl, rfl, hB⟩ := hrel
            by_cases hlt : t < n
            · have hi : (t : Int) < (n : Int) := by omega
              obtain ⟨b6, o6, e6, hAt⟩ := (HL.out.below (bt (bt HB4.out HB5.out) hB.out)).at hlt
              subst e6
              have c0 := hAt.cells.kd
              have WT := (show Hid (wrap64 ((t : Int) + 1) = ((t + 1 : Nat) : Int)) from by have := HN.out; show _ = _; unfold wrap64; omega)
              have WS := (show Hid (wrap64 ((shd (shs ss) t : Int) + 1) = ((shd (shs ss) t + 1 : Nat) : Int)) from by have := HSH.out t ht; show _ = _; unfold wrap64; omega)
              have HX := (show Hid _ from shd_succ (shs ss) t)
              have HT := (show Hid (t < n) from hlt)
              generalize shd (shs ss) t = h0 at *
              clear hlt ht hAt
              by_cases h2 : (ss t).kd = 2
              · have HK := (show Hid ((shs ss t).1 = 2) from h2)
                rw [h2] at c0
                clear h2
                go_wp2_with (fail)
                go_roundw
                case rel => exact ⟨t + 1, HT.out, by first | rw [WT.out] | go_num, by rw [HX.out, if_pos HK.out]; first | rw [WS.out] | go_num, hB⟩
                case measure => first | (rw [WT.out]; exact meas_v17 HT.out) | exact meas_v17 HT.out
              · have HK := (show Hid (¬ (shs ss t).1 = 2) from h2)
                have d2 : ((ss t).kd == 2) = false := by simp [h2]
                clear h2
                go_wp2_with (fail)
                go_roundw
                case rel => exact ⟨t + 1, HT.out, by first | rw [WT.out] | go_num, by rw [HX.out, if_neg HK.out]; rfl, hB⟩
                case measure => first | (rw [WT.out]; exact meas_v17 HT.out) | exact meas_v17 HT.out
            · obtain rfl : n = t := by omega
              have hnn : ¬ ((n : Int) < (n : Int)) := by omega
              obtain ⟨W6, hW6⟩ : ∃ W6, W6 = wr := ⟨_, rfl⟩
              subst hW6
              have HB6 := (show Hid (Below w4.heap.size w4 W6) from bt HB5.out hB.out)
              have hG6 := HG4.out.below HB6.out
              obtain ⟨s0, s1⟩ := gb_sh hG6
              rw [← HTT.out]
              have HFW1 := HFW.out.1
              have HFW2 := HFW.out.2
              have HCZ' := HCZ.out
              clear hB ht hlt HTT HSH HFW HCZ HB5
              generalize totG G = A0 at *
              generalize cntG k G = C0 at *
              generalize xctG k G = E0 at *
              have hcn : cn (shs ss) n = cn (shs ss) n := rfl
              clear hcn
              generalize hJ : jdg k m b (shs ss) n = V at *
              clear hJ
              obtain ⟨kv, ⟨v1, v2, v3⟩, plv⟩ := V
              simp only at JU HJ1 HCZ'
              generalize plv.length = Lv at *
              clear plv
              have da : ((A0 : Int) != (A0 : Int)) = false := by simp
              rcases (show C0 = 2 ∨ C0 = 0 ∨ C0 = 1 by omega) with hC2 | hC2 | hC2
              · subst hC2
                obtain ⟨hkm, hE2⟩ := HFW2 rfl
                subst hE2
                have hkv : kv = 1 := by
                  rcases Decidable.em (kv = 1) with h | h
                  · exact h
                  · have := HCZ'.2 h; omega
                subst hkv
                subst hkm
                have dk : (k != k) = false := by simp
                clear HFW1 HFW2 HCZ'
                as_aux_lemma =>
                  obtain ⟨hKL, hLV, hOL⟩ := HJ1.out rfl
                  have HLV := (show Hid (Lv = cn (shs ss) n (v1, v2, v3)) from hLV)
                  have HOL := (show Hid (∀ i, i < G.length → k ≤ ((G.getD i ((0, 0, 0), [])).2.length : Int) → older (v1, v2, v3) (G.getD i ((0, 0, 0), [])).1 = false) from hOL)
                  have SFv := (show Hid (∀ W : World, Below w.heap.size w W → Calls Try.prog 9 #[.slice p n c, .agg #[.int .i64 v1, .int .i64 v2], .int .i64 v3] W fun e w' => e = .returned (.int .i64 (Lv : Int)) ∧ Below W.heap.size W w') from fun W hW => by have h := SF.out W hW (v1, v2, v3); rw [← hLV] at h; exact h)
                  have hkl : ¬ ((Lv : Int) < k) := by omega
                  have dl : ((Lv : Int) != (Lv : Int)) = false := by simp
                  clear hKL hLV hOL HJ1 SF
                  go_upto_if 169 with fail
                  go_wp2_with (first
                    | (refine wpList_stB (cs := vdC 1 (v1, v2, v3) (.slice q11 Lv c11)) rfl _ _ rfl rfl w11.heap.size rfl rfl hG12 (size_Vd' _ _ _) (vdC_same _ _ _ _ _ _) (vdC_one _ _ _ rfl) ?_; intro w13 hV13 hg13 hs13; have HP13 := (show Hid (Below w11.heap.size w11 w13) from grown_below hb12 hg13 hb12.size (Nat.le_refl _)); have HV13 := (show Hid (GB w13 w11.heap.size 42 (vdC 1 (v1, v2, v3) (.slice q11 Lv c11))) from hV13); have ca0 := hV13.cell 0; have ca1 := hV13.cell 1; have ca2 := hV13.cell 2; have ca3 := hV13.cell 3; have ca4 := hV13.cell 4; unfold vdC at ca0 ca1 ca2 ca3 ca4; simp only [List.getElem?_toArray, List.getElem?_cons_zero, List.getElem?_cons_succ] at ca0 ca1 ca2 ca3 ca4; have HBJ := (show Hid (Below W6.heap.size W6 w13) from bt hb11 HP13.out); have HG13 := (show Hid (GB w13 w.heap.size 23 (shC k k b)) from hG6.below HBJ.out); obtain ⟨s0, s1⟩ := gb_sh HG13.out; clear hV13 hg13 hs13 hG12 hb12 hb11)
                    | (refine wpList_alB rfl rfl vd0 ?_; intro w12 hG12 hb12 hs12; have hu := hb11; clear hu hs12)
                    | (go_at_call 10; refine Calls.mono (JU.out _ (bt HB4.out HB6.out)) ?_; rintro e w11 ⟨q11, c11, rfl, hb11⟩)
                    | (refine wpList_ldB rfl _ rfl w.heap.size rfl hG6 Try.underlying23 (size_Sp' _ _ _) ?_))
                  have HB13 := (show Hid (Below w.heap.size w w13) from bt (bt HB4.out HB6.out) HBJ.out)
                  have HBb := (show Hid (Below w13.heap.size w13 w13) from Below.refl _ _)
                  clear s1
                  obtain ⟨wd179, hwd⟩ : ∃ wq, wq = w13.drew := ⟨_, rfl⟩
                  have bd : Below w13.heap.size w13 wd179 := by rw [hwd]; exact (Below.refl _ _).drew
                  have HBc := (show Hid (Below w13.heap.size w13 wd179) from bt HBb.out bd)
                  refine wp_region_held_drew (S := fun X => X.cell? ⟨w11.heap.size, 0, none⟩ = some (.int .i64 1) ∧ X.cell? ⟨w11.heap.size, 1, none⟩ = some (.int .i64 v1) ∧ X.cell? ⟨w11.heap.size, 2, none⟩ = some (.int .i64 v2) ∧ X.cell? ⟨w11.heap.size, 3, none⟩ = some (.int .i64 v3) ∧ X.cell? ⟨w11.heap.size, 4, none⟩ = some (.slice q11 Lv c11) ∧ X.cell? ⟨w.heap.size, 0, none⟩ = some (.int .i64 k)) (by kernel_rfl) (by rw [← hwd]; exact ⟨cell_below ca0 bd, cell_below ca1 bd, cell_below ca2 bd, cell_below ca3 bd, cell_below ca4 bd, cell_below s0 bd⟩) (fun hHeld => ?_)
                  rw [← hwd] at hHeld ⊢
                  clear ca0 ca1 ca2 ca3 ca4 s0 bd hwd
                  refine takeHr (i := 0) (d := some 178) (v := ?v180) rfl rfl (by kernel_rfl) (by kernel_rfl) (by kernel_rfl) (fun _ _ _ h => h) (Or.inl ⟨by rfl, ?hy180⟩) hHeld ?rest180
                  case hy180 => intro X hSw; obtain ⟨g0, g1, g2, g3, g4, g5⟩ := hSw; go_simp <;> first | with_reducible rfl
                  try simp only [Act.put, List.setIfInBounds_toArray, List.set_cons_zero, List.set_cons_succ]
                  refine takeHr (i := 1) (d := some 179) (v := ?v181) rfl rfl (by kernel_rfl) (by kernel_rfl) (by kernel_rfl) (fun _ _ _ h => h) (Or.inl ⟨by rfl, ?hy181⟩) hHeld ?rest181
                  case hy181 => intro X hSw; obtain ⟨g0, g1, g2, g3, g4, g5⟩ := hSw; go_simp <;> first | with_reducible rfl
                  try simp only [Act.put, List.setIfInBounds_toArray, List.set_cons_zero, List.set_cons_succ]
                  refine takeHr (i := 2) (d := some 180) (v := .bool false) rfl rfl (by kernel_rfl) (by kernel_rfl) (by kernel_rfl) (fun _ _ _ h => h) (Or.inl ⟨by rfl, ?hy182⟩) hHeld ?rest182
                  case hy182 => intro X hSw; obtain ⟨g0, g1, g2, g3, g4, g5⟩ := hSw; go_simp <;> first | with_reducible rfl
                  try simp only [Act.put, List.setIfInBounds_toArray, List.set_cons_zero, List.set_cons_succ]
                  refine takeHr (i := 3) (d := some 181) (v := .bool false) rfl rfl (by kernel_rfl) (by kernel_rfl) (by kernel_rfl) (fun _ _ _ h => h) (Or.inl ⟨by rfl, ?hy183⟩) hHeld ?rest183
                  case hy183 => intro X hSw; obtain ⟨g0, g1, g2, g3, g4, g5⟩ := hSw; go_simp <;> first | with_reducible rfl
                  try simp only [Act.put, List.setIfInBounds_toArray, List.set_cons_zero, List.set_cons_succ]
                  refine takeHr (i := 4) (d := some 182) (v := ?v184) rfl rfl (by kernel_rfl) (by kernel_rfl) (by kernel_rfl) (fun _ _ _ h => h) (Or.inl ⟨by rfl, ?hy184⟩) hHeld ?rest184
                  case hy184 => intro X hSw; obtain ⟨g0, g1, g2, g3, g4, g5⟩ := hSw; go_simp <;> first | with_reducible rfl
                  try simp only [Act.put, List.setIfInBounds_toArray, List.set_cons_zero, List.set_cons_succ]
                  refine takeHr (i := 5) (d := some 183) (v := ?v185) rfl rfl (by kernel_rfl) (by kernel_rfl) (by kernel_rfl) (fun _ _ _ h => h) (Or.inl ⟨by rfl, ?hy185⟩) hHeld ?rest185
                  case hy185 => intro X hSw; obtain ⟨g0, g1, g2, g3, g4, g5⟩ := hSw; go_simp <;> first | with_reducible rfl
                  try simp only [Act.put, List.setIfInBounds_toArray, List.set_cons_zero, List.set_cons_succ]
                  refine takeHr (i := 6) (d := some 184) (v := ?v186) rfl rfl (by kernel_rfl) (by kernel_rfl) (by kernel_rfl) (fun _ _ _ h => h) (Or.inl ⟨by rfl, ?hy186⟩) hHeld ?rest186
                  case hy186 => intro X hSw; obtain ⟨g0, g1, g2, g3, g4, g5⟩ := hSw; go_simp <;> first | with_reducible rfl
                  try simp only [Act.put, List.setIfInBounds_toArray, List.set_cons_zero, List.set_cons_succ]
                  refine takeHr (i := 7) (d := some 185) (v := ?v187) rfl rfl (by kernel_rfl) (by kernel_rfl) (by kernel_rfl) (fun _ _ _ h => h) (Or.inl ⟨by rfl, ?hy187⟩) hHeld ?rest187
                  case hy187 => intro X hSw; obtain ⟨g0, g1, g2, g3, g4, g5⟩ := hSw; go_simp <;> first | with_reducible rfl
                  try simp only [Act.put, List.setIfInBounds_toArray, List.set_cons_zero, List.set_cons_succ]
                  refine takeHr (i := 8) (d := some 186) (v := ?v188) rfl rfl (by kernel_rfl) (by kernel_rfl) (by kernel_rfl) (fun _ _ _ h => h) (Or.inl ⟨by rfl, ?hy188⟩) hHeld ?rest188
                  case hy188 => intro X hSw; obtain ⟨g0, g1, g2, g3, g4, g5⟩ := hSw; go_simp <;> first | with_reducible rfl
                  try simp only [Act.put, List.setIfInBounds_toArray, List.set_cons_zero, List.set_cons_succ]
                  refine takeHr (i := 9) (d := some 187) (v := .bool false) rfl rfl (by kernel_rfl) (by kernel_rfl) (by kernel_rfl) (fun _ _ _ h => h) (Or.inl ⟨by rfl, ?hy189⟩) hHeld ?rest189
                  case hy189 => intro X hSw; obtain ⟨g0, g1, g2, g3, g4, g5⟩ := hSw; go_simp <;> first | with_reducible rfl
                  try simp only [Act.put, List.setIfInBounds_toArray, List.set_cons_zero, List.set_cons_succ]
                  refine takeHr (i := 10) (d := some 188) (v := .bool false) rfl rfl (by kernel_rfl) (by kernel_rfl) (by kernel_rfl) (fun _ _ _ h => h) (Or.inl ⟨by rfl, ?hy190⟩) hHeld ?rest190
                  case hy190 => intro X hSw; obtain ⟨g0, g1, g2, g3, g4, g5⟩ := hSw; go_simp <;> first | with_reducible rfl
                  try simp only [Act.put, List.setIfInBounds_toArray, List.set_cons_zero, List.set_cons_succ]
                  refine takeHr (i := 11) (d := some 189) (v := .bool false) rfl rfl (by kernel_rfl) (by kernel_rfl) (by kernel_rfl) (fun _ _ _ h => h) (Or.inl ⟨by rfl, ?hy191⟩) hHeld ?rest191
                  case hy191 => intro X hSw; obtain ⟨g0, g1, g2, g3, g4, g5⟩ := hSw; go_simp <;> first | with_reducible rfl
                  try simp only [Act.put, List.setIfInBounds_toArray, List.set_cons_zero, List.set_cons_succ]
                  refine takeHr (i := 12) (d := some 190) (v := ?v192) rfl rfl (by kernel_rfl) (by kernel_rfl) (by kernel_rfl) (fun _ _ _ h => h) (Or.inl ⟨by rfl, ?hy192⟩) hHeld ?rest192
                  case hy192 => intro X hSw; obtain ⟨g0, g1, g2, g3, g4, g5⟩ := hSw; go_simp <;> first | with_reducible rfl
                  try simp only [Act.put, List.setIfInBounds_toArray, List.set_cons_zero, List.set_cons_succ]
                  refine takeHr (i := 13) (d := some 191) (v := ?v193) rfl rfl (by kernel_rfl) (by kernel_rfl) (by kernel_rfl) (fun _ _ _ h => h) (Or.inl ⟨by rfl, ?hy193⟩) hHeld ?rest193
                  case hy193 => intro X hSw; obtain ⟨g0, g1, g2, g3, g4, g5⟩ := hSw; go_simp <;> first | with_reducible rfl
                  try simp only [Act.put, List.setIfInBounds_toArray, List.set_cons_zero, List.set_cons_succ]
                  refine takeHr (i := 14) (d := some 192) (v := ?v194) rfl rfl (by kernel_rfl) (by kernel_rfl) (by kernel_rfl) (fun _ _ _ h => h) (Or.inl ⟨by rfl, ?hy194⟩) hHeld ?rest194
                  case hy194 => intro X hSw; obtain ⟨g0, g1, g2, g3, g4, g5⟩ := hSw; go_simp <;> first | with_reducible rfl
                  try simp only [Act.put, List.setIfInBounds_toArray, List.set_cons_zero, List.set_cons_succ]
                  refine takeHr (i := 15) (d := some 193) (v := ?v195) rfl rfl (by kernel_rfl) (by kernel_rfl) (by kernel_rfl) (fun _ _ _ h => h) (Or.inl ⟨by rfl, ?hy195⟩) hHeld ?rest195
                  case hy195 => intro X hSw; obtain ⟨g0, g1, g2, g3, g4, g5⟩ := hSw; go_simp <;> first | with_reducible rfl
                  try simp only [Act.put, List.setIfInBounds_toArray, List.set_cons_zero, List.set_cons_succ]
                  refine takeHr (i := 16) (d := some 194) (v := ?v196) rfl rfl (by kernel_rfl) (by kernel_rfl) (by kernel_rfl) (fun _ _ _ h => h) (Or.inl ⟨by rfl, ?hy196⟩) hHeld ?rest196
                  case hy196 => intro X hSw; obtain ⟨g0, g1, g2, g3, g4, g5⟩ := hSw; go_simp <;> first | with_reducible rfl
                  try simp only [Act.put, List.setIfInBounds_toArray, List.set_cons_zero, List.set_cons_succ]
                  refine takeHr (i := 17) (d := some 195) (v := ?v197) rfl rfl (by kernel_rfl) (by kernel_rfl) (by kernel_rfl) (fun _ _ _ h => h) (Or.inl ⟨by rfl, ?hy197⟩) hHeld ?rest197
                  case hy197 => intro X hSw; obtain ⟨g0, g1, g2, g3, g4, g5⟩ := hSw; go_simp <;> first | with_reducible rfl
                  try simp only [Act.put, List.setIfInBounds_toArray, List.set_cons_zero, List.set_cons_succ]
                  refine takeHr (i := 18) (d := some 196) (v := ?v198) rfl rfl (by kernel_rfl) (by kernel_rfl) (by kernel_rfl) (fun _ _ _ h => h) (Or.inl ⟨by rfl, ?hy198⟩) hHeld ?rest198
                  case hy198 => intro X hSw; obtain ⟨g0, g1, g2, g3, g4, g5⟩ := hSw; go_simp <;> first | with_reducible rfl
                  try simp only [Act.put, List.setIfInBounds_toArray, List.set_cons_zero, List.set_cons_succ]
                  refine takeHr (i := 19) (d := some 197) (v := ?v199) rfl rfl (by kernel_rfl) (by kernel_rfl) (by kernel_rfl) (fun _ _ _ h => h) (Or.inl ⟨by rfl, ?hy199⟩) hHeld ?rest199
                  case hy199 => intro X hSw; obtain ⟨g0, g1, g2, g3, g4, g5⟩ := hSw; go_simp <;> first | with_reducible rfl
                  try simp only [Act.put, List.setIfInBounds_toArray, List.set_cons_zero, List.set_cons_succ]
                  refine wpAnyH_ready (rs := [20]) (by kernel_rfl) (by simp) ?_
                  refine AllReadyH.cons (o := { dst := some 198, op := Op.call { callee := Callee.value (Operand.func 9), args := #[Operand.tmp 193, Operand.tmp 195, Operand.tmp 197], argTypes := #[24, 31, 3] }, type := 3, pos := "outright.go:152", after := #[{ on := 15, ground := Ground.data }, { on := 17, ground := Ground.data }, { on := 19, ground := Ground.data }, { on := 11, ground := Ground.chain }, { on := 11, ground := Ground.guard }], guard := some (11, false) }) rfl (fun Kq hKq => ?_) AllReadyH.nil
                  · go_simp
                    refine (SFv.out _ (bt HB13.out HBc.out)).mono ?_
                    rintro e w200x ⟨rfl, hb200⟩
                    replace HBc := (show Hid _ from bt HBc.out hb200)
                    refine hKq.out _ _ ⟨cell_below hHeld.1 hb200, cell_below hHeld.2.1 hb200, cell_below hHeld.2.2.1 hb200, cell_below hHeld.2.2.2.1 hb200, cell_below hHeld.2.2.2.2.1 hb200, cell_below hHeld.2.2.2.2.2 hb200⟩ (fun hHeld => ?_)
                    clear hKq Kq
                    try simp only [Act.put, List.setIfInBounds_toArray, List.set_cons_zero, List.set_cons_succ]
                    refine takeHr (i := 21) (d := some 199) (v := .bool false) rfl rfl (by kernel_rfl) (by kernel_rfl) (by kernel_rfl) (fun _ _ _ h => h) (Or.inl ⟨by rfl, ?hy201⟩) hHeld ?rest201
                    case hy201 => intro X hSw; obtain ⟨g0, g1, g2, g3, g4, g5⟩ := hSw; go_simp <;> first | with_reducible rfl
                    try simp only [Act.put, List.setIfInBounds_toArray, List.set_cons_zero, List.set_cons_succ]
                    refine takeHr (i := 22) (d := some 200) (v := .bool false) rfl rfl (by kernel_rfl) (by kernel_rfl) (by kernel_rfl) (fun _ _ _ h => h) (Or.inl ⟨by rfl, ?hy202⟩) hHeld ?rest202
                    case hy202 => intro X hSw; obtain ⟨g0, g1, g2, g3, g4, g5⟩ := hSw; go_simp <;> first | with_reducible rfl
                    try simp only [Act.put, List.setIfInBounds_toArray, List.set_cons_zero, List.set_cons_succ]
                    refine wpAnyH_done (by kernel_rfl) ?_ _
                    have ca0 := hHeld.1
                    have ca1 := hHeld.2.1
                    have ca2 := hHeld.2.2.1
                    have ca3 := hHeld.2.2.2.1
                    have ca4 := hHeld.2.2.2.2.1
                    have s0 := hHeld.2.2.2.2.2
                    clear hHeld
                    have HBd := HBc
                    clear HBc ca0 ca4
                    go_wp2_with (fail)
                    go_loopw [16] (fun i wr => ∃ t : Nat, t ≤ G.length ∧ i = .int .i64 (t : Int) ∧ Hid (Below w200x.heap.size w200x wr)) (fun i _ => G.length - (intOf i).toNat)
                    case atStart => exact ⟨0, Nat.zero_le _, rfl, Below.refl _ _⟩
                    case round =>
                      obtain ⟨t, ht, rfl, hB⟩ := hrel
                      by_cases hlt : t < G.length
                      · have hi : (t : Int) < (G.length : Int) := by omega
                        have hol := HOL.out t hlt
                        obtain ⟨b4, o4, e4, x1, x2, x3, q4, cc4, x4⟩ := HQ.out t hlt
                        subst e4
                        have WT := (show Hid (wrap64 ((t : Int) + 1) = ((t + 1 : Nat) : Int)) from by have := HLN.out; show _ = _; unfold wrap64; omega)
                        have HT := (show Hid (t < G.length) from hlt)
                        obtain ⟨W0, hW0⟩ : ∃ W0, W0 = wr := ⟨_, rfl⟩
                        subst hW0
                        have HBb := (show Hid (Below w200x.heap.size w200x W0) from hB.out)
                        have bx := bt (bt HB6.out (bt HBJ.out HBd.out)) hB.out
                        have x1 := cell_below x1 bx
                        have x2 := cell_below x2 bx
                        have x3 := cell_below x3 bx
                        have x4 := cell_below x4 bx
                        have ca1 := cell_below ca1 hB.out
                        have ca2 := cell_below ca2 hB.out
                        have ca3 := cell_below ca3 hB.out
                        have s0 := cell_below s0 hB.out
                        obtain ⟨q, Lqs⟩ : ∃ x : Grp, G.getD t ((0, 0, 0), []) = x := ⟨_, rfl⟩
                        rw [Lqs] at hol x1 x2 x3 x4
                        obtain ⟨⟨q1, q2, q3⟩, ql⟩ := q
                        simp only at hol x1 x2 x3 x4
                        obtain ⟨Lq, hLq⟩ : ∃ Lq, ql.length = Lq := ⟨_, rfl⟩
                        rw [hLq] at hol x4
                        by_cases hk : k ≤ (Lq : Int)
                        · have hold := hol hk
                          have OLt := (show Hid (∀ W : World, Calls Try.prog 12 #[.agg #[.int .i64 v1, .int .i64 v2], .int .i64 v3, .agg #[.int .i64 q1, .int .i64 q2], .int .i64 q3] W fun e w' => e = .returned (.bool false) ∧ Below W.heap.size W w') from fun W => by have h := rolder_any (v1, v2, v3) (q1, q2, q3) W; rw [hold] at h; exact h)
                          clear hol hold Lqs hLq hlt ht bx hB
                          go_wp2_with (fail)
                          as_aux_lemma =>
                            obtain ⟨wd203, hwd⟩ : ∃ wq, wq = W0.drew := ⟨_, rfl⟩
                            have bd : Below W0.heap.size W0 wd203 := by rw [hwd]; exact (Below.refl _ _).drew
                            have HBc := (show Hid (Below w200x.heap.size w200x wd203) from bt HBb.out bd)
                            refine wp_region_held_drew (S := fun X => X.cell? ⟨w11.heap.size, 1, none⟩ = some (.int .i64 v1) ∧ X.cell? ⟨w11.heap.size, 2, none⟩ = some (.int .i64 v2) ∧ X.cell? ⟨w11.heap.size, 3, none⟩ = some (.int .i64 v3) ∧ X.cell? ⟨w.heap.size, 0, none⟩ = some (.int .i64 k) ∧ X.cell? ⟨b4, o4 + t * 4, none⟩ = some (.int .i64 q1) ∧ X.cell? ⟨b4, o4 + t * 4 + 1, none⟩ = some (.int .i64 q2) ∧ X.cell? ⟨b4, o4 + t * 4 + 2, none⟩ = some (.int .i64 q3) ∧ X.cell? ⟨b4, o4 + t * 4 + 3, none⟩ = some (.slice q4 Lq cc4)) (by kernel_rfl) (by rw [← hwd]; exact ⟨cell_below ca1 bd, cell_below ca2 bd, cell_below ca3 bd, cell_below s0 bd, cell_below x1 bd, cell_below x2 bd, cell_below x3 bd, cell_below x4 bd⟩) (fun hHeld => ?_)
                            rw [← hwd] at hHeld ⊢
                            clear ca1 ca2 ca3 s0 x1 x2 x3 x4 bd hwd
                            refine takeHr (i := 0) (d := some 207) (v := ?v204) rfl rfl (by kernel_rfl) (by kernel_rfl) (by kernel_rfl) (fun _ _ _ h => h) (Or.inl ⟨by rfl, ?hy204⟩) hHeld ?rest204
                            case hy204 => intro X hSw; obtain ⟨g0, g1, g2, g3, g4, g5, g6, g7⟩ := hSw; go_simp <;> first | with_reducible rfl
                            try simp only [Act.put, List.setIfInBounds_toArray, List.set_cons_zero, List.set_cons_succ]
                            refine takeHr (i := 1) (d := some 208) (v := ?v205) rfl rfl (by kernel_rfl) (by kernel_rfl) (by kernel_rfl) (fun _ _ _ h => h) (Or.inl ⟨by rfl, ?hy205⟩) hHeld ?rest205
                            case hy205 => intro X hSw; obtain ⟨g0, g1, g2, g3, g4, g5, g6, g7⟩ := hSw; go_simp <;> first | with_reducible rfl
                            try simp only [Act.put, List.setIfInBounds_toArray, List.set_cons_zero, List.set_cons_succ]
                            refine takeHr (i := 2) (d := some 209) (v := .pointer (some ⟨b4, o4 + t * 4, none⟩)) rfl rfl (by kernel_rfl) (by kernel_rfl) (by kernel_rfl) (fun _ _ _ h => h) (Or.inl ⟨by rfl, ?hy206⟩) hHeld ?rest206
                            case hy206 => intro X hSw; obtain ⟨g0, g1, g2, g3, g4, g5, g6, g7⟩ := hSw; go_simp <;> first | with_reducible rfl
                            try simp only [Act.put, List.setIfInBounds_toArray, List.set_cons_zero, List.set_cons_succ]
                            refine takeHr (i := 3) (d := some 210) (v := ?v207) rfl rfl (by kernel_rfl) (by kernel_rfl) (by kernel_rfl) (fun _ _ _ h => h) (Or.inl ⟨by rfl, ?hy207⟩) hHeld ?rest207
                            case hy207 => intro X hSw; obtain ⟨g0, g1, g2, g3, g4, g5, g6, g7⟩ := hSw; go_simp <;> first | with_reducible rfl
                            try simp only [Act.put, List.setIfInBounds_toArray, List.set_cons_zero, List.set_cons_succ]
                            refine takeHr (i := 4) (d := some 211) (v := ?v208) rfl rfl (by kernel_rfl) (by kernel_rfl) (by kernel_rfl) (fun _ _ _ h => h) (Or.inl ⟨by rfl, ?hy208⟩) hHeld ?rest208
                            case hy208 => intro X hSw; obtain ⟨g0, g1, g2, g3, g4, g5, g6, g7⟩ := hSw; go_simp <;> first | with_reducible rfl
                            try simp only [Act.put, List.setIfInBounds_toArray, List.set_cons_zero, List.set_cons_succ]
                            refine takeHr (i := 5) (d := some 212) (v := ?v209) rfl rfl (by kernel_rfl) (by kernel_rfl) (by kernel_rfl) (fun _ _ _ h => h) (Or.inl ⟨by rfl, ?hy209⟩) hHeld ?rest209
                            case hy209 => intro X hSw; obtain ⟨g0, g1, g2, g3, g4, g5, g6, g7⟩ := hSw; go_simp <;> first | with_reducible rfl
                            try simp only [Act.put, List.setIfInBounds_toArray, List.set_cons_zero, List.set_cons_succ]
                            refine takeHr (i := 6) (d := some 213) (v := ?v210) rfl rfl (by kernel_rfl) (by kernel_rfl) (by kernel_rfl) (fun _ _ _ h => h) (Or.inl ⟨by rfl, ?hy210⟩) hHeld ?rest210
                            case hy210 => intro X hSw; obtain ⟨g0, g1, g2, g3, g4, g5, g6, g7⟩ := hSw; go_simp <;> first | with_reducible rfl
                            try simp only [Act.put, List.setIfInBounds_toArray, List.set_cons_zero, List.set_cons_succ]
                            refine takeHr (i := 7) (d := some 214) (v := ?v211) rfl rfl (by kernel_rfl) (by kernel_rfl) (by kernel_rfl) (fun _ _ _ h => h) (Or.inl ⟨by rfl, ?hy211⟩) hHeld ?rest211
                            case hy211 => intro X hSw; obtain ⟨g0, g1, g2, g3, g4, g5, g6, g7⟩ := hSw; go_simp <;> first | with_reducible rfl
                            try simp only [Act.put, List.setIfInBounds_toArray, List.set_cons_zero, List.set_cons_succ]
                            refine takeHr (i := 8) (d := some 215) (v := .bool true) rfl rfl (by kernel_rfl) (by kernel_rfl) (by kernel_rfl) (fun _ _ _ h => h) (Or.inl ⟨by rfl, ?hy212⟩) hHeld ?rest212
                            case hy212 => intro X hSw; obtain ⟨g0, g1, g2, g3, g4, g5, g6, g7⟩ := hSw; go_simp <;> first | with_reducible rfl
                            try simp only [Act.put, List.setIfInBounds_toArray, List.set_cons_zero, List.set_cons_succ]
                            refine takeHr (i := 9) (d := some 216) (v := .bool true) rfl rfl (by kernel_rfl) (by kernel_rfl) (by kernel_rfl) (fun _ _ _ h => h) (Or.inl ⟨by rfl, ?hy213⟩) hHeld ?rest213
                            case hy213 => intro X hSw; obtain ⟨g0, g1, g2, g3, g4, g5, g6, g7⟩ := hSw; go_simp <;> first | with_reducible rfl
                            try simp only [Act.put, List.setIfInBounds_toArray, List.set_cons_zero, List.set_cons_succ]
                            refine takeHr (i := 10) (d := some 217) (v := ?v214) rfl rfl (by kernel_rfl) (by kernel_rfl) (by kernel_rfl) (fun _ _ _ h => h) (Or.inl ⟨by rfl, ?hy214⟩) hHeld ?rest214
                            case hy214 => intro X hSw; obtain ⟨g0, g1, g2, g3, g4, g5, g6, g7⟩ := hSw; go_simp <;> first | with_reducible rfl
                            try simp only [Act.put, List.setIfInBounds_toArray, List.set_cons_zero, List.set_cons_succ]
                            refine takeHr (i := 11) (d := some 218) (v := ?v215) rfl rfl (by kernel_rfl) (by kernel_rfl) (by kernel_rfl) (fun _ _ _ h => h) (Or.inl ⟨by rfl, ?hy215⟩) hHeld ?rest215
                            case hy215 => intro X hSw; obtain ⟨g0, g1, g2, g3, g4, g5, g6, g7⟩ := hSw; go_simp <;> first | with_reducible rfl
                            try simp only [Act.put, List.setIfInBounds_toArray, List.set_cons_zero, List.set_cons_succ]
                            refine takeHr (i := 12) (d := some 219) (v := ?v216) rfl rfl (by kernel_rfl) (by kernel_rfl) (by kernel_rfl) (fun _ _ _ h => h) (Or.inl ⟨by rfl, ?hy216⟩) hHeld ?rest216
                            case hy216 => intro X hSw; obtain ⟨g0, g1, g2, g3, g4, g5, g6, g7⟩ := hSw; go_simp <;> first | with_reducible rfl
                            try simp only [Act.put, List.setIfInBounds_toArray, List.set_cons_zero, List.set_cons_succ]
                            refine takeHr (i := 13) (d := some 220) (v := ?v217) rfl rfl (by kernel_rfl) (by kernel_rfl) (by kernel_rfl) (fun _ _ _ h => h) (Or.inl ⟨by rfl, ?hy217⟩) hHeld ?rest217
                            case hy217 => intro X hSw; obtain ⟨g0, g1, g2, g3, g4, g5, g6, g7⟩ := hSw; go_simp <;> first | with_reducible rfl
                            try simp only [Act.put, List.setIfInBounds_toArray, List.set_cons_zero, List.set_cons_succ]
                            refine takeHr (i := 14) (d := some 221) (v := ?v218) rfl rfl (by kernel_rfl) (by kernel_rfl) (by kernel_rfl) (fun _ _ _ h => h) (Or.inl ⟨by rfl, ?hy218⟩) hHeld ?rest218
                            case hy218 => intro X hSw; obtain ⟨g0, g1, g2, g3, g4, g5, g6, g7⟩ := hSw; go_simp <;> first | with_reducible rfl
                            try simp only [Act.put, List.setIfInBounds_toArray, List.set_cons_zero, List.set_cons_succ]
                            refine takeHr (i := 15) (d := some 222) (v := ?v219) rfl rfl (by kernel_rfl) (by kernel_rfl) (by kernel_rfl) (fun _ _ _ h => h) (Or.inl ⟨by rfl, ?hy219⟩) hHeld ?rest219
                            case hy219 => intro X hSw; obtain ⟨g0, g1, g2, g3, g4, g5, g6, g7⟩ := hSw; go_simp <;> first | with_reducible rfl
                            try simp only [Act.put, List.setIfInBounds_toArray, List.set_cons_zero, List.set_cons_succ]
                            refine takeHr (i := 16) (d := some 223) (v := .pointer (some ⟨b4, o4 + t * 4, none⟩)) rfl rfl (by kernel_rfl) (by kernel_rfl) (by kernel_rfl) (fun _ _ _ h => h) (Or.inl ⟨by rfl, ?hy220⟩) hHeld ?rest220
                            case hy220 => intro X hSw; obtain ⟨g0, g1, g2, g3, g4, g5, g6, g7⟩ := hSw; go_simp <;> first | with_reducible rfl
                            try simp only [Act.put, List.setIfInBounds_toArray, List.set_cons_zero, List.set_cons_succ]
                            refine takeHr (i := 17) (d := some 224) (v := ?v221) rfl rfl (by kernel_rfl) (by kernel_rfl) (by kernel_rfl) (fun _ _ _ h => h) (Or.inl ⟨by rfl, ?hy221⟩) hHeld ?rest221
                            case hy221 => intro X hSw; obtain ⟨g0, g1, g2, g3, g4, g5, g6, g7⟩ := hSw; go_simp <;> first | with_reducible rfl
                            try simp only [Act.put, List.setIfInBounds_toArray, List.set_cons_zero, List.set_cons_succ]
                            refine takeHr (i := 18) (d := some 225) (v := ?v222) rfl rfl (by kernel_rfl) (by kernel_rfl) (by kernel_rfl) (fun _ _ _ h => h) (Or.inl ⟨by rfl, ?hy222⟩) hHeld ?rest222
                            case hy222 => intro X hSw; obtain ⟨g0, g1, g2, g3, g4, g5, g6, g7⟩ := hSw; go_simp <;> first | with_reducible rfl
                            try simp only [Act.put, List.setIfInBounds_toArray, List.set_cons_zero, List.set_cons_succ]
                            refine takeHr (i := 19) (d := some 226) (v := ?v223) rfl rfl (by kernel_rfl) (by kernel_rfl) (by kernel_rfl) (fun _ _ _ h => h) (Or.inl ⟨by rfl, ?hy223⟩) hHeld ?rest223
                            case hy223 => intro X hSw; obtain ⟨g0, g1, g2, g3, g4, g5, g6, g7⟩ := hSw; go_simp <;> first | with_reducible rfl
                            try simp only [Act.put, List.setIfInBounds_toArray, List.set_cons_zero, List.set_cons_succ]
                            refine takeHr (i := 20) (d := some 227) (v := ?v224) rfl rfl (by kernel_rfl) (by kernel_rfl) (by kernel_rfl) (fun _ _ _ h => h) (Or.inl ⟨by rfl, ?hy224⟩) hHeld ?rest224
                            case hy224 => intro X hSw; obtain ⟨g0, g1, g2, g3, g4, g5, g6, g7⟩ := hSw; go_simp <;> first | with_reducible rfl
                            try simp only [Act.put, List.setIfInBounds_toArray, List.set_cons_zero, List.set_cons_succ]
                            refine takeHr (i := 21) (d := some 228) (v := .pointer (some ⟨b4, o4 + t * 4, none⟩)) rfl rfl (by kernel_rfl) (by kernel_rfl) (by kernel_rfl) (fun _ _ _ h => h) (Or.inl ⟨by rfl, ?hy225⟩) hHeld ?rest225
                            case hy225 => intro X hSw; obtain ⟨g0, g1, g2, g3, g4, g5, g6, g7⟩ := hSw; go_simp <;> first | with_reducible rfl
                            try simp only [Act.put, List.setIfInBounds_toArray, List.set_cons_zero, List.set_cons_succ]
                            refine takeHr (i := 22) (d := some 229) (v := ?v226) rfl rfl (by kernel_rfl) (by kernel_rfl) (by kernel_rfl) (fun _ _ _ h => h) (Or.inl ⟨by rfl, ?hy226⟩) hHeld ?rest226
                            case hy226 => intro X hSw; obtain ⟨g0, g1, g2, g3, g4, g5, g6, g7⟩ := hSw; go_simp <;> first | with_reducible rfl
                            try simp only [Act.put, List.setIfInBounds_toArray, List.set_cons_zero, List.set_cons_succ]
                            refine takeHr (i := 23) (d := some 230) (v := ?v227) rfl rfl (by kernel_rfl) (by kernel_rfl) (by kernel_rfl) (fun _ _ _ h => h) (Or.inl ⟨by rfl, ?hy227⟩) hHeld ?rest227
                            case hy227 => intro X hSw; obtain ⟨g0, g1, g2, g3, g4, g5, g6, g7⟩ := hSw; go_simp <;> first | with_reducible rfl
                            try simp only [Act.put, List.setIfInBounds_toArray, List.set_cons_zero, List.set_cons_succ]
                            refine wpAnyH_ready (rs := [24]) (by kernel_rfl) (by simp) ?_
                            refine AllReadyH.cons (o := { dst := some 231, op := Op.call { callee := Callee.value (Operand.func 12), args := #[Operand.tmp 218, Operand.tmp 220, Operand.tmp 225, Operand.tmp 230], argTypes := #[31, 3, 31, 3] }, type := 4, pos := "outright.go:156", after := #[{ on := 11, ground := Ground.data }, { on := 13, ground := Ground.data }, { on := 18, ground := Ground.data }, { on := 23, ground := Ground.data }, { on := 9, ground := Ground.chain }, { on := 9, ground := Ground.guard }], guard := some (9, true) }) rfl (fun Kq hKq => ?_) AllReadyH.nil
                            · go_simp
                              refine (OLt.out _).mono ?_
                              rintro e w228x ⟨rfl, hb228⟩
                              replace HBc := (show Hid _ from bt HBc.out hb228)
                              refine hKq.out _ _ ⟨cell_below hHeld.1 hb228, cell_below hHeld.2.1 hb228, cell_below hHeld.2.2.1 hb228, cell_below hHeld.2.2.2.1 hb228, cell_below hHeld.2.2.2.2.1 hb228, cell_below hHeld.2.2.2.2.2.1 hb228, cell_below hHeld.2.2.2.2.2.2.1 hb228, cell_below hHeld.2.2.2.2.2.2.2 hb228⟩ (fun hHeld => ?_)
                              clear hKq Kq
                              try simp only [Act.put, List.setIfInBounds_toArray, List.set_cons_zero, List.set_cons_succ]
                              refine takeHr (i := 25) (d := some 232) (v := .bool false) rfl rfl (by kernel_rfl) (by kernel_rfl) (by kernel_rfl) (fun _ _ _ h => h) (Or.inl ⟨by rfl, ?hy229⟩) hHeld ?rest229
                              case hy229 => intro X hSw; obtain ⟨g0, g1, g2, g3, g4, g5, g6, g7⟩ := hSw; go_simp <;> first | with_reducible rfl
                              try simp only [Act.put, List.setIfInBounds_toArray, List.set_cons_zero, List.set_cons_succ]
                              refine wpAnyH_done (by kernel_rfl) ?_ _
                              have ca1 := hHeld.1
                              have ca2 := hHeld.2.1
                              have ca3 := hHeld.2.2.1
                              have s0 := hHeld.2.2.2.1
                              have x1 := hHeld.2.2.2.2.1
                              have x2 := hHeld.2.2.2.2.2.1
                              have x3 := hHeld.2.2.2.2.2.2.1
                              have x4 := hHeld.2.2.2.2.2.2.2
                              clear hHeld
                              go_wp2_with (fail)
                              go_roundw
                              case rel => exact ⟨t + 1, HT.out, by first | rw [WT.out] | go_num, HBc⟩
                              case measure => first | (rw [WT.out]; exact meas_v17 HT.out) | exact meas_v17 HT.out
                        · clear hol Lqs hLq hlt ht bx hB
                          go_wp2_with (fail)
                          as_aux_lemma =>
                            obtain ⟨wd230, hwd⟩ : ∃ wq, wq = W0.drew := ⟨_, rfl⟩
                            have bd : Below W0.heap.size W0 wd230 := by rw [hwd]; exact (Below.refl _ _).drew
                            have HBc := (show Hid (Below w200x.heap.size w200x wd230) from bt HBb.out bd)
                            refine wp_region_held_drew (S := fun X => X.cell? ⟨w11.heap.size, 1, none⟩ = some (.int .i64 v1) ∧ X.cell? ⟨w11.heap.size, 2, none⟩ = some (.int .i64 v2) ∧ X.cell? ⟨w11.heap.size, 3, none⟩ = some (.int .i64 v3) ∧ X.cell? ⟨w.heap.size, 0, none⟩ = some (.int .i64 k) ∧ X.cell? ⟨b4, o4 + t * 4, none⟩ = some (.int .i64 q1) ∧ X.cell? ⟨b4, o4 + t * 4 + 1, none⟩ = some (.int .i64 q2) ∧ X.cell? ⟨b4, o4 + t * 4 + 2, none⟩ = some (.int .i64 q3) ∧ X.cell? ⟨b4, o4 + t * 4 + 3, none⟩ = some (.slice q4 Lq cc4)) (by kernel_rfl) (by rw [← hwd]; exact ⟨cell_below ca1 bd, cell_below ca2 bd, cell_below ca3 bd, cell_below s0 bd, cell_below x1 bd, cell_below x2 bd, cell_below x3 bd, cell_below x4 bd⟩) (fun hHeld => ?_)
                            rw [← hwd] at hHeld ⊢
                            clear ca1 ca2 ca3 s0 x1 x2 x3 x4 bd hwd
                            refine takeHr (i := 0) (d := some 207) (v := ?v231) rfl rfl (by kernel_rfl) (by kernel_rfl) (by kernel_rfl) (fun _ _ _ h => h) (Or.inl ⟨by rfl, ?hy231⟩) hHeld ?rest231
                            case hy231 => intro X hSw; obtain ⟨g0, g1, g2, g3, g4, g5, g6, g7⟩ := hSw; go_simp <;> first | with_reducible rfl
                            try simp only [Act.put, List.setIfInBounds_toArray, List.set_cons_zero, List.set_cons_succ]
                            refine takeHr (i := 1) (d := some 208) (v := ?v232) rfl rfl (by kernel_rfl) (by kernel_rfl) (by kernel_rfl) (fun _ _ _ h => h) (Or.inl ⟨by rfl, ?hy232⟩) hHeld ?rest232
                            case hy232 => intro X hSw; obtain ⟨g0, g1, g2, g3, g4, g5, g6, g7⟩ := hSw; go_simp <;> first | with_reducible rfl
                            try simp only [Act.put, List.setIfInBounds_toArray, List.set_cons_zero, List.set_cons_succ]
                            refine takeHr (i := 2) (d := some 209) (v := .pointer (some ⟨b4, o4 + t * 4, none⟩)) rfl rfl (by kernel_rfl) (by kernel_rfl) (by kernel_rfl) (fun _ _ _ h => h) (Or.inl ⟨by rfl, ?hy233⟩) hHeld ?rest233
                            case hy233 => intro X hSw; obtain ⟨g0, g1, g2, g3, g4, g5, g6, g7⟩ := hSw; go_simp <;> first | with_reducible rfl
                            try simp only [Act.put, List.setIfInBounds_toArray, List.set_cons_zero, List.set_cons_succ]
                            refine takeHr (i := 3) (d := some 210) (v := ?v234) rfl rfl (by kernel_rfl) (by kernel_rfl) (by kernel_rfl) (fun _ _ _ h => h) (Or.inl ⟨by rfl, ?hy234⟩) hHeld ?rest234
                            case hy234 => intro X hSw; obtain ⟨g0, g1, g2, g3, g4, g5, g6, g7⟩ := hSw; go_simp <;> first | with_reducible rfl
                            try simp only [Act.put, List.setIfInBounds_toArray, List.set_cons_zero, List.set_cons_succ]
                            refine takeHr (i := 4) (d := some 211) (v := ?v235) rfl rfl (by kernel_rfl) (by kernel_rfl) (by kernel_rfl) (fun _ _ _ h => h) (Or.inl ⟨by rfl, ?hy235⟩) hHeld ?rest235
                            case hy235 => intro X hSw; obtain ⟨g0, g1, g2, g3, g4, g5, g6, g7⟩ := hSw; go_simp <;> first | with_reducible rfl
                            try simp only [Act.put, List.setIfInBounds_toArray, List.set_cons_zero, List.set_cons_succ]
                            refine takeHr (i := 5) (d := some 212) (v := ?v236) rfl rfl (by kernel_rfl) (by kernel_rfl) (by kernel_rfl) (fun _ _ _ h => h) (Or.inl ⟨by rfl, ?hy236⟩) hHeld ?rest236
                            case hy236 => intro X hSw; obtain ⟨g0, g1, g2, g3, g4, g5, g6, g7⟩ := hSw; go_simp <;> first | with_reducible rfl
                            try simp only [Act.put, List.setIfInBounds_toArray, List.set_cons_zero, List.set_cons_succ]
                            refine takeHr (i := 6) (d := some 213) (v := ?v237) rfl rfl (by kernel_rfl) (by kernel_rfl) (by kernel_rfl) (fun _ _ _ h => h) (Or.inl ⟨by rfl, ?hy237⟩) hHeld ?rest237
                            case hy237 => intro X hSw; obtain ⟨g0, g1, g2, g3, g4, g5, g6, g7⟩ := hSw; go_simp <;> first | with_reducible rfl
                            try simp only [Act.put, List.setIfInBounds_toArray, List.set_cons_zero, List.set_cons_succ]
                            refine takeHr (i := 7) (d := some 214) (v := ?v238) rfl rfl (by kernel_rfl) (by kernel_rfl) (by kernel_rfl) (fun _ _ _ h => h) (Or.inl ⟨by rfl, ?hy238⟩) hHeld ?rest238
                            case hy238 => intro X hSw; obtain ⟨g0, g1, g2, g3, g4, g5, g6, g7⟩ := hSw; go_simp <;> first | with_reducible rfl
                            try simp only [Act.put, List.setIfInBounds_toArray, List.set_cons_zero, List.set_cons_succ]
                            refine takeHr (i := 8) (d := some 215) (v := .bool false) rfl rfl (by kernel_rfl) (by kernel_rfl) (by kernel_rfl) (fun _ _ _ h => h) (Or.inl ⟨by rfl, ?hy239⟩) hHeld ?rest239
                            case hy239 => intro X hSw; obtain ⟨g0, g1, g2, g3, g4, g5, g6, g7⟩ := hSw; go_simp <;> first | with_reducible rfl
                            try simp only [Act.put, List.setIfInBounds_toArray, List.set_cons_zero, List.set_cons_succ]
                            refine takeHr (i := 9) (d := some 216) (v := .bool false) rfl rfl (by kernel_rfl) (by kernel_rfl) (by kernel_rfl) (fun _ _ _ h => h) (Or.inl ⟨by rfl, ?hy240⟩) hHeld ?rest240
                            case hy240 => intro X hSw; obtain ⟨g0, g1, g2, g3, g4, g5, g6, g7⟩ := hSw; go_simp <;> first | with_reducible rfl
                            try simp only [Act.put, List.setIfInBounds_toArray, List.set_cons_zero, List.set_cons_succ]
                            refine takeHr (i := 10) (d := some 217) (v := undef) rfl rfl (by kernel_rfl) (by kernel_rfl) (by kernel_rfl) (fun _ _ _ h => h) (Or.inr ⟨by rfl, rfl⟩) hHeld ?_
                            try simp only [Act.put, List.setIfInBounds_toArray, List.set_cons_zero, List.set_cons_succ]
                            refine takeHr (i := 11) (d := some 218) (v := undef) rfl rfl (by kernel_rfl) (by kernel_rfl) (by kernel_rfl) (fun _ _ _ h => h) (Or.inr ⟨by rfl, rfl⟩) hHeld ?_
                            try simp only [Act.put, List.setIfInBounds_toArray, List.set_cons_zero, List.set_cons_succ]
                            refine takeHr (i := 12) (d := some 219) (v := undef) rfl rfl (by kernel_rfl) (by kernel_rfl) (by kernel_rfl) (fun _ _ _ h => h) (Or.inr ⟨by rfl, rfl⟩) hHeld ?_
                            try simp only [Act.put, List.setIfInBounds_toArray, List.set_cons_zero, List.set_cons_succ]
                            refine takeHr (i := 13) (d := some 220) (v := undef) rfl rfl (by kernel_rfl) (by kernel_rfl) (by kernel_rfl) (fun _ _ _ h => h) (Or.inr ⟨by rfl, rfl⟩) hHeld ?_
                            try simp only [Act.put, List.setIfInBounds_toArray, List.set_cons_zero, List.set_cons_succ]
                            refine takeHr (i := 14) (d := some 221) (v := undef) rfl rfl (by kernel_rfl) (by kernel_rfl) (by kernel_rfl) (fun _ _ _ h => h) (Or.inr ⟨by rfl, rfl⟩) hHeld ?_
                            try simp only [Act.put, List.setIfInBounds_toArray, List.set_cons_zero, List.set_cons_succ]
                            refine takeHr (i := 15) (d := some 222) (v := undef) rfl rfl (by kernel_rfl) (by kernel_rfl) (by kernel_rfl) (fun _ _ _ h => h) (Or.inr ⟨by rfl, rfl⟩) hHeld ?_
                            try simp only [Act.put, List.setIfInBounds_toArray, List.set_cons_zero, List.set_cons_succ]
                            refine takeHr (i := 16) (d := some 223) (v := undef) rfl rfl (by kernel_rfl) (by kernel_rfl) (by kernel_rfl) (fun _ _ _ h => h) (Or.inr ⟨by rfl, rfl⟩) hHeld ?_
                            try simp only [Act.put, List.setIfInBounds_toArray, List.set_cons_zero, List.set_cons_succ]
                            refine takeHr (i := 17) (d := some 224) (v := undef) rfl rfl (by kernel_rfl) (by kernel_rfl) (by kernel_rfl) (fun _ _ _ h => h) (Or.inr ⟨by rfl, rfl⟩) hHeld ?_
                            try simp only [Act.put, List.setIfInBounds_toArray, List.set_cons_zero, List.set_cons_succ]
                            refine takeHr (i := 18) (d := some 225) (v := undef) rfl rfl (by kernel_rfl) (by kernel_rfl) (by kernel_rfl) (fun _ _ _ h => h) (Or.inr ⟨by rfl, rfl⟩) hHeld ?_
                            try simp only [Act.put, List.setIfInBounds_toArray, List.set_cons_zero, List.set_cons_succ]
                            refine takeHr (i := 19) (d := some 226) (v := undef) rfl rfl (by kernel_rfl) (by kernel_rfl) (by kernel_rfl) (fun _ _ _ h => h) (Or.inr ⟨by rfl, rfl⟩) hHeld ?_
                            try simp only [Act.put, List.setIfInBounds_toArray, List.set_cons_zero, List.set_cons_succ]
                            refine takeHr (i := 20) (d := some 227) (v := undef) rfl rfl (by kernel_rfl) (by kernel_rfl) (by kernel_rfl) (fun _ _ _ h => h) (Or.inr ⟨by rfl, rfl⟩) hHeld ?_
                            try simp only [Act.put, List.setIfInBounds_toArray, List.set_cons_zero, List.set_cons_succ]
                            refine takeHr (i := 21) (d := some 228) (v := undef) rfl rfl (by kernel_rfl) (by kernel_rfl) (by kernel_rfl) (fun _ _ _ h => h) (Or.inr ⟨by rfl, rfl⟩) hHeld ?_
                            try simp only [Act.put, List.setIfInBounds_toArray, List.set_cons_zero, List.set_cons_succ]
                            refine takeHr (i := 22) (d := some 229) (v := undef) rfl rfl (by kernel_rfl) (by kernel_rfl) (by kernel_rfl) (fun _ _ _ h => h) (Or.inr ⟨by rfl, rfl⟩) hHeld ?_
                            try simp only [Act.put, List.setIfInBounds_toArray, List.set_cons_zero, List.set_cons_succ]
                            refine takeHr (i := 23) (d := some 230) (v := undef) rfl rfl (by kernel_rfl) (by kernel_rfl) (by kernel_rfl) (fun _ _ _ h => h) (Or.inr ⟨by rfl, rfl⟩) hHeld ?_
                            try simp only [Act.put, List.setIfInBounds_toArray, List.set_cons_zero, List.set_cons_succ]
                            refine takeHr (i := 24) (d := some 231) (v := undef) rfl rfl (by kernel_rfl) (by kernel_rfl) (by kernel_rfl) (fun _ _ _ h => h) (Or.inr ⟨by rfl, rfl⟩) hHeld ?_
                            try simp only [Act.put, List.setIfInBounds_toArray, List.set_cons_zero, List.set_cons_succ]
                            refine takeHr (i := 25) (d := some 232) (v := .bool false) rfl rfl (by kernel_rfl) (by kernel_rfl) (by kernel_rfl) (fun _ _ _ h => h) (Or.inl ⟨by rfl, ?hy256⟩) hHeld ?rest256
                            case hy256 => intro X hSw; obtain ⟨g0, g1, g2, g3, g4, g5, g6, g7⟩ := hSw; go_simp <;> first | with_reducible rfl
                            try simp only [Act.put, List.setIfInBounds_toArray, List.set_cons_zero, List.set_cons_succ]
                            refine wpAnyH_done (by kernel_rfl) ?_ _
                            have ca1 := hHeld.1
                            have ca2 := hHeld.2.1
                            have ca3 := hHeld.2.2.1
                            have s0 := hHeld.2.2.2.1
                            have x1 := hHeld.2.2.2.2.1
                            have x2 := hHeld.2.2.2.2.2.1
                            have x3 := hHeld.2.2.2.2.2.2.1
                            have x4 := hHeld.2.2.2.2.2.2.2
                            clear hHeld
                            go_wp2_with (fail)
                            go_roundw
                            case rel => exact ⟨t + 1, HT.out, by first | rw [WT.out] | go_num, HBc⟩
                            case measure => first | (rw [WT.out]; exact meas_v17 HT.out) | exact meas_v17 HT.out
                      · obtain rfl : t = G.length := by omega
                        have hnn : ¬ ((G.length : Int) < (G.length : Int)) := by omega
                        obtain ⟨W7, hW7⟩ : ∃ W7, W7 = wr := ⟨_, rfl⟩
                        subst hW7
                        have hV7 := HV13.out.below (bt HBd.out hB.out)
                        have HB7 := (show Hid (Below w.heap.size w W7) from bt HB13.out (bt HBd.out hB.out))
                        clear ca1 ca2 ca3 s0 ht hlt
                        go_wp2_with (first
                          | (refine wpList_ldB rfl _ rfl w11.heap.size rfl hV7 Try.underlying42 (size_Vd' _ _ _) ?_)
                          | (go_at_call 14; refine (ST.out _ HB7.out (v1, v2, v3) _).mono ?_; rintro e w20 ⟨v20, rfl, hO20, hb20⟩; obtain ⟨p20, c20, e20⟩ := on_sl17 hO20; subst e20; have hV20 := hV7.below hb20; have c4 := hV20.cell 4; unfold vdC at c4; simp only [List.getElem?_toArray, List.getElem?_cons_zero, List.getElem?_cons_succ] at c4; have hsl := HSL.out (v1, v2, v3); rw [← HLV.out] at hsl; generalize (stl ss n 1 (v1, v2, v3)).length = Ls at *; have wn : wrap64 ((Ls : Int) + (Lv : Int)) = (n : Int) := (by have := HN.out; unfold wrap64; omega); clear hO20 hsl))
                        go_ret
                        exact ⟨rfl, bt HB7.out hb20⟩
              · subst hC2
                have hkv : ¬ kv = 1 := HCZ'.1 rfl
                have dv : (kv != 1) = true := by simp [hkv]
                clear HFW1 HFW2 HCZ' HJ1 hkv
                as_aux_lemma =>
                  go_upto_if 169 with fail
                  go_wp2_with (first
                    | (refine wpList_stB (cs := vdC kv (v1, v2, v3) (.slice q11 Lv c11)) rfl _ _ rfl rfl w11.heap.size rfl rfl hG12 (size_Vd' _ _ _) (vdC_same _ _ _ _ _ _) (vdC_one _ _ _ rfl) ?_; intro w13 hV13 hg13 hs13; have HP13 := (show Hid (Below w11.heap.size w11 w13) from grown_below hb12 hg13 hb12.size (Nat.le_refl _)); have HV13 := (show Hid (GB w13 w11.heap.size 42 (vdC kv (v1, v2, v3) (.slice q11 Lv c11))) from hV13); have ca0 := hV13.cell 0; have ca1 := hV13.cell 1; have ca2 := hV13.cell 2; have ca3 := hV13.cell 3; have ca4 := hV13.cell 4; unfold vdC at ca0 ca1 ca2 ca3 ca4; simp only [List.getElem?_toArray, List.getElem?_cons_zero, List.getElem?_cons_succ] at ca0 ca1 ca2 ca3 ca4; have HBJ := (show Hid (Below W6.heap.size W6 w13) from bt hb11 HP13.out);  clear hV13 hg13 hs13 hG12 hb12 hb11)
                    | (refine wpList_alB rfl rfl vd0 ?_; intro w12 hG12 hb12 hs12; have hu := hb11; clear hu hs12)
                    | (go_at_call 10; refine Calls.mono (JU.out _ (bt HB4.out HB6.out)) ?_; rintro e w11 ⟨q11, c11, rfl, hb11⟩)
                    | (refine wpList_ldB rfl _ rfl w.heap.size rfl hG6 Try.underlying23 (size_Sp' _ _ _) ?_))
                  go_ret
                  exact ⟨rfl, bt (bt HB4.out HB6.out) HBJ.out⟩
              · subst hC2
                have hkv : kv = 1 := by
                  rcases Decidable.em (kv = 1) with h | h
                  · exact h
                  · have := HCZ'.2 h; omega
                subst hkv
                clear HFW1 HFW2 HCZ'
                as_aux_lemma =>
                  obtain ⟨hKL, hLV, hOL⟩ := HJ1.out rfl
                  have HLV := (show Hid (Lv = cn (shs ss) n (v1, v2, v3)) from hLV)
                  have HOL := (show Hid (∀ i, i < G.length → k ≤ ((G.getD i ((0, 0, 0), [])).2.length : Int) → older (v1, v2, v3) (G.getD i ((0, 0, 0), [])).1 = false) from hOL)
                  have SFv := (show Hid (∀ W : World, Below w.heap.size w W → Calls Try.prog 9 #[.slice p n c, .agg #[.int .i64 v1, .int .i64 v2], .int .i64 v3] W fun e w' => e = .returned (.int .i64 (Lv : Int)) ∧ Below W.heap.size W w') from fun W hW => by have h := SF.out W hW (v1, v2, v3); rw [← hLV] at h; exact h)
                  have hkl : ¬ ((Lv : Int) < k) := by omega
                  have dl : ((Lv : Int) != (Lv : Int)) = false := by simp
                  clear hKL hLV hOL HJ1 SF
                  go_upto_if 169 with fail
                  go_wp2_with (first
                    | (refine wpList_stB (cs := vdC 1 (v1, v2, v3) (.slice q11 Lv c11)) rfl _ _ rfl rfl w11.heap.size rfl rfl hG12 (size_Vd' _ _ _) (vdC_same _ _ _ _ _ _) (vdC_one _ _ _ rfl) ?_; intro w13 hV13 hg13 hs13; have HP13 := (show Hid (Below w11.heap.size w11 w13) from grown_below hb12 hg13 hb12.size (Nat.le_refl _)); have HV13 := (show Hid (GB w13 w11.heap.size 42 (vdC 1 (v1, v2, v3) (.slice q11 Lv c11))) from hV13); have ca0 := hV13.cell 0; have ca1 := hV13.cell 1; have ca2 := hV13.cell 2; have ca3 := hV13.cell 3; have ca4 := hV13.cell 4; unfold vdC at ca0 ca1 ca2 ca3 ca4; simp only [List.getElem?_toArray, List.getElem?_cons_zero, List.getElem?_cons_succ] at ca0 ca1 ca2 ca3 ca4; have HBJ := (show Hid (Below W6.heap.size W6 w13) from bt hb11 HP13.out); have HG13 := (show Hid (GB w13 w.heap.size 23 (shC k m b)) from hG6.below HBJ.out); obtain ⟨s0, s1⟩ := gb_sh HG13.out; clear hV13 hg13 hs13 hG12 hb12 hb11)
                    | (refine wpList_alB rfl rfl vd0 ?_; intro w12 hG12 hb12 hs12; have hu := hb11; clear hu hs12)
                    | (go_at_call 10; refine Calls.mono (JU.out _ (bt HB4.out HB6.out)) ?_; rintro e w11 ⟨q11, c11, rfl, hb11⟩)
                    | (refine wpList_ldB rfl _ rfl w.heap.size rfl hG6 Try.underlying23 (size_Sp' _ _ _) ?_))
                  have HB13 := (show Hid (Below w.heap.size w w13) from bt (bt HB4.out HB6.out) HBJ.out)
                  have HBb := (show Hid (Below w13.heap.size w13 w13) from Below.refl _ _)
                  clear s1
                  obtain ⟨wd101, hwd⟩ : ∃ wq, wq = w13.drew := ⟨_, rfl⟩
                  have bd : Below w13.heap.size w13 wd101 := by rw [hwd]; exact (Below.refl _ _).drew
                  have HBc := (show Hid (Below w13.heap.size w13 wd101) from bt HBb.out bd)
                  refine wp_region_held_drew (S := fun X => X.cell? ⟨w11.heap.size, 0, none⟩ = some (.int .i64 1) ∧ X.cell? ⟨w11.heap.size, 1, none⟩ = some (.int .i64 v1) ∧ X.cell? ⟨w11.heap.size, 2, none⟩ = some (.int .i64 v2) ∧ X.cell? ⟨w11.heap.size, 3, none⟩ = some (.int .i64 v3) ∧ X.cell? ⟨w11.heap.size, 4, none⟩ = some (.slice q11 Lv c11) ∧ X.cell? ⟨w.heap.size, 0, none⟩ = some (.int .i64 k)) (by kernel_rfl) (by rw [← hwd]; exact ⟨cell_below ca0 bd, cell_below ca1 bd, cell_below ca2 bd, cell_below ca3 bd, cell_below ca4 bd, cell_below s0 bd⟩) (fun hHeld => ?_)
                  rw [← hwd] at hHeld ⊢
                  clear ca0 ca1 ca2 ca3 ca4 s0 bd hwd
                  refine takeHr (i := 0) (d := some 178) (v := ?v102) rfl rfl (by kernel_rfl) (by kernel_rfl) (by kernel_rfl) (fun _ _ _ h => h) (Or.inl ⟨by rfl, ?hy102⟩) hHeld ?rest102
                  case hy102 => intro X hSw; obtain ⟨g0, g1, g2, g3, g4, g5⟩ := hSw; go_simp <;> first | with_reducible rfl
                  try simp only [Act.put, List.setIfInBounds_toArray, List.set_cons_zero, List.set_cons_succ]
                  refine takeHr (i := 1) (d := some 179) (v := ?v103) rfl rfl (by kernel_rfl) (by kernel_rfl) (by kernel_rfl) (fun _ _ _ h => h) (Or.inl ⟨by rfl, ?hy103⟩) hHeld ?rest103
                  case hy103 => intro X hSw; obtain ⟨g0, g1, g2, g3, g4, g5⟩ := hSw; go_simp <;> first | with_reducible rfl
                  try simp only [Act.put, List.setIfInBounds_toArray, List.set_cons_zero, List.set_cons_succ]
                  refine takeHr (i := 2) (d := some 180) (v := .bool false) rfl rfl (by kernel_rfl) (by kernel_rfl) (by kernel_rfl) (fun _ _ _ h => h) (Or.inl ⟨by rfl, ?hy104⟩) hHeld ?rest104
                  case hy104 => intro X hSw; obtain ⟨g0, g1, g2, g3, g4, g5⟩ := hSw; go_simp <;> first | with_reducible rfl
                  try simp only [Act.put, List.setIfInBounds_toArray, List.set_cons_zero, List.set_cons_succ]
                  refine takeHr (i := 3) (d := some 181) (v := .bool false) rfl rfl (by kernel_rfl) (by kernel_rfl) (by kernel_rfl) (fun _ _ _ h => h) (Or.inl ⟨by rfl, ?hy105⟩) hHeld ?rest105
                  case hy105 => intro X hSw; obtain ⟨g0, g1, g2, g3, g4, g5⟩ := hSw; go_simp <;> first | with_reducible rfl
                  try simp only [Act.put, List.setIfInBounds_toArray, List.set_cons_zero, List.set_cons_succ]
                  refine takeHr (i := 4) (d := some 182) (v := ?v106) rfl rfl (by kernel_rfl) (by kernel_rfl) (by kernel_rfl) (fun _ _ _ h => h) (Or.inl ⟨by rfl, ?hy106⟩) hHeld ?rest106
                  case hy106 => intro X hSw; obtain ⟨g0, g1, g2, g3, g4, g5⟩ := hSw; go_simp <;> first | with_reducible rfl
                  try simp only [Act.put, List.setIfInBounds_toArray, List.set_cons_zero, List.set_cons_succ]
                  refine takeHr (i := 5) (d := some 183) (v := ?v107) rfl rfl (by kernel_rfl) (by kernel_rfl) (by kernel_rfl) (fun _ _ _ h => h) (Or.inl ⟨by rfl, ?hy107⟩) hHeld ?rest107
                  case hy107 => intro X hSw; obtain ⟨g0, g1, g2, g3, g4, g5⟩ := hSw; go_simp <;> first | with_reducible rfl
                  try simp only [Act.put, List.setIfInBounds_toArray, List.set_cons_zero, List.set_cons_succ]
                  refine takeHr (i := 6) (d := some 184) (v := ?v108) rfl rfl (by kernel_rfl) (by kernel_rfl) (by kernel_rfl) (fun _ _ _ h => h) (Or.inl ⟨by rfl, ?hy108⟩) hHeld ?rest108
                  case hy108 => intro X hSw; obtain ⟨g0, g1, g2, g3, g4, g5⟩ := hSw; go_simp <;> first | with_reducible rfl
                  try simp only [Act.put, List.setIfInBounds_toArray, List.set_cons_zero, List.set_cons_succ]
                  refine takeHr (i := 7) (d := some 185) (v := ?v109) rfl rfl (by kernel_rfl) (by kernel_rfl) (by kernel_rfl) (fun _ _ _ h => h) (Or.inl ⟨by rfl, ?hy109⟩) hHeld ?rest109
                  case hy109 => intro X hSw; obtain ⟨g0, g1, g2, g3, g4, g5⟩ := hSw; go_simp <;> first | with_reducible rfl
                  try simp only [Act.put, List.setIfInBounds_toArray, List.set_cons_zero, List.set_cons_succ]
                  refine takeHr (i := 8) (d := some 186) (v := ?v110) rfl rfl (by kernel_rfl) (by kernel_rfl) (by kernel_rfl) (fun _ _ _ h => h) (Or.inl ⟨by rfl, ?hy110⟩) hHeld ?rest110
                  case hy110 => intro X hSw; obtain ⟨g0, g1, g2, g3, g4, g5⟩ := hSw; go_simp <;> first | with_reducible rfl
                  try simp only [Act.put, List.setIfInBounds_toArray, List.set_cons_zero, List.set_cons_succ]
                  refine takeHr (i := 9) (d := some 187) (v := .bool false) rfl rfl (by kernel_rfl) (by kernel_rfl) (by kernel_rfl) (fun _ _ _ h => h) (Or.inl ⟨by rfl, ?hy111⟩) hHeld ?rest111
                  case hy111 => intro X hSw; obtain ⟨g0, g1, g2, g3, g4, g5⟩ := hSw; go_simp <;> first | with_reducible rfl
                  try simp only [Act.put, List.setIfInBounds_toArray, List.set_cons_zero, List.set_cons_succ]
                  refine takeHr (i := 10) (d := some 188) (v := .bool false) rfl rfl (by kernel_rfl) (by kernel_rfl) (by kernel_rfl) (fun _ _ _ h => h) (Or.inl ⟨by rfl, ?hy112⟩) hHeld ?rest112
                  case hy112 => intro X hSw; obtain ⟨g0, g1, g2, g3, g4, g5⟩ := hSw; go_simp <;> first | with_reducible rfl
                  try simp only [Act.put, List.setIfInBounds_toArray, List.set_cons_zero, List.set_cons_succ]
                  refine takeHr (i := 11) (d := some 189) (v := .bool false) rfl rfl (by kernel_rfl) (by kernel_rfl) (by kernel_rfl) (fun _ _ _ h => h) (Or.inl ⟨by rfl, ?hy113⟩) hHeld ?rest113
                  case hy113 => intro X hSw; obtain ⟨g0, g1, g2, g3, g4, g5⟩ := hSw; go_simp <;> first | with_reducible rfl
                  try simp only [Act.put, List.setIfInBounds_toArray, List.set_cons_zero, List.set_cons_succ]
                  refine takeHr (i := 12) (d := some 190) (v := ?v114) rfl rfl (by kernel_rfl) (by kernel_rfl) (by kernel_rfl) (fun _ _ _ h => h) (Or.inl ⟨by rfl, ?hy114⟩) hHeld ?rest114
                  case hy114 => intro X hSw; obtain ⟨g0, g1, g2, g3, g4, g5⟩ := hSw; go_simp <;> first | with_reducible rfl
                  try simp only [Act.put, List.setIfInBounds_toArray, List.set_cons_zero, List.set_cons_succ]
                  refine takeHr (i := 13) (d := some 191) (v := ?v115) rfl rfl (by kernel_rfl) (by kernel_rfl) (by kernel_rfl) (fun _ _ _ h => h) (Or.inl ⟨by rfl, ?hy115⟩) hHeld ?rest115
                  case hy115 => intro X hSw; obtain ⟨g0, g1, g2, g3, g4, g5⟩ := hSw; go_simp <;> first | with_reducible rfl
                  try simp only [Act.put, List.setIfInBounds_toArray, List.set_cons_zero, List.set_cons_succ]
                  refine takeHr (i := 14) (d := some 192) (v := ?v116) rfl rfl (by kernel_rfl) (by kernel_rfl) (by kernel_rfl) (fun _ _ _ h => h) (Or.inl ⟨by rfl, ?hy116⟩) hHeld ?rest116
                  case hy116 => intro X hSw; obtain ⟨g0, g1, g2, g3, g4, g5⟩ := hSw; go_simp <;> first | with_reducible rfl
                  try simp only [Act.put, List.setIfInBounds_toArray, List.set_cons_zero, List.set_cons_succ]
                  refine takeHr (i := 15) (d := some 193) (v := ?v117) rfl rfl (by kernel_rfl) (by kernel_rfl) (by kernel_rfl) (fun _ _ _ h => h) (Or.inl ⟨by rfl, ?hy117⟩) hHeld ?rest117
                  case hy117 => intro X hSw; obtain ⟨g0, g1, g2, g3, g4, g5⟩ := hSw; go_simp <;> first | with_reducible rfl
                  try simp only [Act.put, List.setIfInBounds_toArray, List.set_cons_zero, List.set_cons_succ]
                  refine takeHr (i := 16) (d := some 194) (v := ?v118) rfl rfl (by kernel_rfl) (by kernel_rfl) (by kernel_rfl) (fun _ _ _ h => h) (Or.inl ⟨by rfl, ?hy118⟩) hHeld ?rest118
                  case hy118 => intro X hSw; obtain ⟨g0, g1, g2, g3, g4, g5⟩ := hSw; go_simp <;> first | with_reducible rfl
                  try simp only [Act.put, List.setIfInBounds_toArray, List.set_cons_zero, List.set_cons_succ]
                  refine takeHr (i := 17) (d := some 195) (v := ?v119) rfl rfl (by kernel_rfl) (by kernel_rfl) (by kernel_rfl) (fun _ _ _ h => h) (Or.inl ⟨by rfl, ?hy119⟩) hHeld ?rest119
                  case hy119 => intro X hSw; obtain ⟨g0, g1, g2, g3, g4, g5⟩ := hSw; go_simp <;> first | with_reducible rfl
                  try simp only [Act.put, List.setIfInBounds_toArray, List.set_cons_zero, List.set_cons_succ]
                  refine takeHr (i := 18) (d := some 196) (v := ?v120) rfl rfl (by kernel_rfl) (by kernel_rfl) (by kernel_rfl) (fun _ _ _ h => h) (Or.inl ⟨by rfl, ?hy120⟩) hHeld ?rest120
                  case hy120 => intro X hSw; obtain ⟨g0, g1, g2, g3, g4, g5⟩ := hSw; go_simp <;> first | with_reducible rfl
                  try simp only [Act.put, List.setIfInBounds_toArray, List.set_cons_zero, List.set_cons_succ]
                  refine takeHr (i := 19) (d := some 197) (v := ?v121) rfl rfl (by kernel_rfl) (by kernel_rfl) (by kernel_rfl) (fun _ _ _ h => h) (Or.inl ⟨by rfl, ?hy121⟩) hHeld ?rest121
                  case hy121 => intro X hSw; obtain ⟨g0, g1, g2, g3, g4, g5⟩ := hSw; go_simp <;> first | with_reducible rfl
                  try simp only [Act.put, List.setIfInBounds_toArray, List.set_cons_zero, List.set_cons_succ]
                  refine wpAnyH_ready (rs := [20]) (by kernel_rfl) (by simp) ?_
                  refine AllReadyH.cons (o := { dst := some 198, op := Op.call { callee := Callee.value (Operand.func 9), args := #[Operand.tmp 193, Operand.tmp 195, Operand.tmp 197], argTypes := #[24, 31, 3] }, type := 3, pos := "outright.go:152", after := #[{ on := 15, ground := Ground.data }, { on := 17, ground := Ground.data }, { on := 19, ground := Ground.data }, { on := 11, ground := Ground.chain }, { on := 11, ground := Ground.guard }], guard := some (11, false) }) rfl (fun Kq hKq => ?_) AllReadyH.nil
                  · go_simp
                    refine (SFv.out _ (bt HB13.out HBc.out)).mono ?_
                    rintro e w122x ⟨rfl, hb122⟩
                    replace HBc := (show Hid _ from bt HBc.out hb122)
                    refine hKq.out _ _ ⟨cell_below hHeld.1 hb122, cell_below hHeld.2.1 hb122, cell_below hHeld.2.2.1 hb122, cell_below hHeld.2.2.2.1 hb122, cell_below hHeld.2.2.2.2.1 hb122, cell_below hHeld.2.2.2.2.2 hb122⟩ (fun hHeld => ?_)
                    clear hKq Kq
                    try simp only [Act.put, List.setIfInBounds_toArray, List.set_cons_zero, List.set_cons_succ]
                    refine takeHr (i := 21) (d := some 199) (v := .bool false) rfl rfl (by kernel_rfl) (by kernel_rfl) (by kernel_rfl) (fun _ _ _ h => h) (Or.inl ⟨by rfl, ?hy123⟩) hHeld ?rest123
                    case hy123 => intro X hSw; obtain ⟨g0, g1, g2, g3, g4, g5⟩ := hSw; go_simp <;> first | with_reducible rfl
                    try simp only [Act.put, List.setIfInBounds_toArray, List.set_cons_zero, List.set_cons_succ]
                    refine takeHr (i := 22) (d := some 200) (v := .bool false) rfl rfl (by kernel_rfl) (by kernel_rfl) (by kernel_rfl) (fun _ _ _ h => h) (Or.inl ⟨by rfl, ?hy124⟩) hHeld ?rest124
                    case hy124 => intro X hSw; obtain ⟨g0, g1, g2, g3, g4, g5⟩ := hSw; go_simp <;> first | with_reducible rfl
                    try simp only [Act.put, List.setIfInBounds_toArray, List.set_cons_zero, List.set_cons_succ]
                    refine wpAnyH_done (by kernel_rfl) ?_ _
                    have ca0 := hHeld.1
                    have ca1 := hHeld.2.1
                    have ca2 := hHeld.2.2.1
                    have ca3 := hHeld.2.2.2.1
                    have ca4 := hHeld.2.2.2.2.1
                    have s0 := hHeld.2.2.2.2.2
                    clear hHeld
                    have HBd := HBc
                    clear HBc ca0 ca4
                    go_wp2_with (fail)
                    go_loopw [16] (fun i wr => ∃ t : Nat, t ≤ G.length ∧ i = .int .i64 (t : Int) ∧ Hid (Below w122x.heap.size w122x wr)) (fun i _ => G.length - (intOf i).toNat)
                    case atStart => exact ⟨0, Nat.zero_le _, rfl, Below.refl _ _⟩
                    case round =>
                      obtain ⟨t, ht, rfl, hB⟩ := hrel
                      by_cases hlt : t < G.length
                      · have hi : (t : Int) < (G.length : Int) := by omega
                        have hol := HOL.out t hlt
                        obtain ⟨b4, o4, e4, x1, x2, x3, q4, cc4, x4⟩ := HQ.out t hlt
                        subst e4
                        have WT := (show Hid (wrap64 ((t : Int) + 1) = ((t + 1 : Nat) : Int)) from by have := HLN.out; show _ = _; unfold wrap64; omega)
                        have HT := (show Hid (t < G.length) from hlt)
                        obtain ⟨W0, hW0⟩ : ∃ W0, W0 = wr := ⟨_, rfl⟩
                        subst hW0
                        have HBb := (show Hid (Below w122x.heap.size w122x W0) from hB.out)
                        have bx := bt (bt HB6.out (bt HBJ.out HBd.out)) hB.out
                        have x1 := cell_below x1 bx
                        have x2 := cell_below x2 bx
                        have x3 := cell_below x3 bx
                        have x4 := cell_below x4 bx
                        have ca1 := cell_below ca1 hB.out
                        have ca2 := cell_below ca2 hB.out
                        have ca3 := cell_below ca3 hB.out
                        have s0 := cell_below s0 hB.out
                        obtain ⟨q, Lqs⟩ : ∃ x : Grp, G.getD t ((0, 0, 0), []) = x := ⟨_, rfl⟩
                        rw [Lqs] at hol x1 x2 x3 x4
                        obtain ⟨⟨q1, q2, q3⟩, ql⟩ := q
                        simp only at hol x1 x2 x3 x4
                        obtain ⟨Lq, hLq⟩ : ∃ Lq, ql.length = Lq := ⟨_, rfl⟩
                        rw [hLq] at hol x4
                        by_cases hk : k ≤ (Lq : Int)
                        · have hold := hol hk
                          have OLt := (show Hid (∀ W : World, Calls Try.prog 12 #[.agg #[.int .i64 v1, .int .i64 v2], .int .i64 v3, .agg #[.int .i64 q1, .int .i64 q2], .int .i64 q3] W fun e w' => e = .returned (.bool false) ∧ Below W.heap.size W w') from fun W => by have h := rolder_any (v1, v2, v3) (q1, q2, q3) W; rw [hold] at h; exact h)
                          clear hol hold Lqs hLq hlt ht bx hB
                          go_wp2_with (fail)
                          as_aux_lemma =>
                            obtain ⟨wd125, hwd⟩ : ∃ wq, wq = W0.drew := ⟨_, rfl⟩
                            have bd : Below W0.heap.size W0 wd125 := by rw [hwd]; exact (Below.refl _ _).drew
                            have HBc := (show Hid (Below w122x.heap.size w122x wd125) from bt HBb.out bd)
                            refine wp_region_held_drew (S := fun X => X.cell? ⟨w11.heap.size, 1, none⟩ = some (.int .i64 v1) ∧ X.cell? ⟨w11.heap.size, 2, none⟩ = some (.int .i64 v2) ∧ X.cell? ⟨w11.heap.size, 3, none⟩ = some (.int .i64 v3) ∧ X.cell? ⟨w.heap.size, 0, none⟩ = some (.int .i64 k) ∧ X.cell? ⟨b4, o4 + t * 4, none⟩ = some (.int .i64 q1) ∧ X.cell? ⟨b4, o4 + t * 4 + 1, none⟩ = some (.int .i64 q2) ∧ X.cell? ⟨b4, o4 + t * 4 + 2, none⟩ = some (.int .i64 q3) ∧ X.cell? ⟨b4, o4 + t * 4 + 3, none⟩ = some (.slice q4 Lq cc4)) (by kernel_rfl) (by rw [← hwd]; exact ⟨cell_below ca1 bd, cell_below ca2 bd, cell_below ca3 bd, cell_below s0 bd, cell_below x1 bd, cell_below x2 bd, cell_below x3 bd, cell_below x4 bd⟩) (fun hHeld => ?_)
                            rw [← hwd] at hHeld ⊢
                            clear ca1 ca2 ca3 s0 x1 x2 x3 x4 bd hwd
                            refine takeHr (i := 0) (d := some 207) (v := ?v126) rfl rfl (by kernel_rfl) (by kernel_rfl) (by kernel_rfl) (fun _ _ _ h => h) (Or.inl ⟨by rfl, ?hy126⟩) hHeld ?rest126
                            case hy126 => intro X hSw; obtain ⟨g0, g1, g2, g3, g4, g5, g6, g7⟩ := hSw; go_simp <;> first | with_reducible rfl
                            try simp only [Act.put, List.setIfInBounds_toArray, List.set_cons_zero, List.set_cons_succ]
                            refine takeHr (i := 1) (d := some 208) (v := ?v127) rfl rfl (by kernel_rfl) (by kernel_rfl) (by kernel_rfl) (fun _ _ _ h => h) (Or.inl ⟨by rfl, ?hy127⟩) hHeld ?rest127
                            case hy127 => intro X hSw; obtain ⟨g0, g1, g2, g3, g4, g5, g6, g7⟩ := hSw; go_simp <;> first | with_reducible rfl
                            try simp only [Act.put, List.setIfInBounds_toArray, List.set_cons_zero, List.set_cons_succ]
                            refine takeHr (i := 2) (d := some 209) (v := .pointer (some ⟨b4, o4 + t * 4, none⟩)) rfl rfl (by kernel_rfl) (by kernel_rfl) (by kernel_rfl) (fun _ _ _ h => h) (Or.inl ⟨by rfl, ?hy128⟩) hHeld ?rest128
                            case hy128 => intro X hSw; obtain ⟨g0, g1, g2, g3, g4, g5, g6, g7⟩ := hSw; go_simp <;> first | with_reducible rfl
                            try simp only [Act.put, List.setIfInBounds_toArray, List.set_cons_zero, List.set_cons_succ]
                            refine takeHr (i := 3) (d := some 210) (v := ?v129) rfl rfl (by kernel_rfl) (by kernel_rfl) (by kernel_rfl) (fun _ _ _ h => h) (Or.inl ⟨by rfl, ?hy129⟩) hHeld ?rest129
                            case hy129 => intro X hSw; obtain ⟨g0, g1, g2, g3, g4, g5, g6, g7⟩ := hSw; go_simp <;> first | with_reducible rfl
                            try simp only [Act.put, List.setIfInBounds_toArray, List.set_cons_zero, List.set_cons_succ]
                            refine takeHr (i := 4) (d := some 211) (v := ?v130) rfl rfl (by kernel_rfl) (by kernel_rfl) (by kernel_rfl) (fun _ _ _ h => h) (Or.inl ⟨by rfl, ?hy130⟩) hHeld ?rest130
                            case hy130 => intro X hSw; obtain ⟨g0, g1, g2, g3, g4, g5, g6, g7⟩ := hSw; go_simp <;> first | with_reducible rfl
                            try simp only [Act.put, List.setIfInBounds_toArray, List.set_cons_zero, List.set_cons_succ]
                            refine takeHr (i := 5) (d := some 212) (v := ?v131) rfl rfl (by kernel_rfl) (by kernel_rfl) (by kernel_rfl) (fun _ _ _ h => h) (Or.inl ⟨by rfl, ?hy131⟩) hHeld ?rest131
                            case hy131 => intro X hSw; obtain ⟨g0, g1, g2, g3, g4, g5, g6, g7⟩ := hSw; go_simp <;> first | with_reducible rfl
                            try simp only [Act.put, List.setIfInBounds_toArray, List.set_cons_zero, List.set_cons_succ]
                            refine takeHr (i := 6) (d := some 213) (v := ?v132) rfl rfl (by kernel_rfl) (by kernel_rfl) (by kernel_rfl) (fun _ _ _ h => h) (Or.inl ⟨by rfl, ?hy132⟩) hHeld ?rest132
                            case hy132 => intro X hSw; obtain ⟨g0, g1, g2, g3, g4, g5, g6, g7⟩ := hSw; go_simp <;> first | with_reducible rfl
                            try simp only [Act.put, List.setIfInBounds_toArray, List.set_cons_zero, List.set_cons_succ]
                            refine takeHr (i := 7) (d := some 214) (v := ?v133) rfl rfl (by kernel_rfl) (by kernel_rfl) (by kernel_rfl) (fun _ _ _ h => h) (Or.inl ⟨by rfl, ?hy133⟩) hHeld ?rest133
                            case hy133 => intro X hSw; obtain ⟨g0, g1, g2, g3, g4, g5, g6, g7⟩ := hSw; go_simp <;> first | with_reducible rfl
                            try simp only [Act.put, List.setIfInBounds_toArray, List.set_cons_zero, List.set_cons_succ]
                            refine takeHr (i := 8) (d := some 215) (v := .bool true) rfl rfl (by kernel_rfl) (by kernel_rfl) (by kernel_rfl) (fun _ _ _ h => h) (Or.inl ⟨by rfl, ?hy134⟩) hHeld ?rest134
                            case hy134 => intro X hSw; obtain ⟨g0, g1, g2, g3, g4, g5, g6, g7⟩ := hSw; go_simp <;> first | with_reducible rfl
                            try simp only [Act.put, List.setIfInBounds_toArray, List.set_cons_zero, List.set_cons_succ]
                            refine takeHr (i := 9) (d := some 216) (v := .bool true) rfl rfl (by kernel_rfl) (by kernel_rfl) (by kernel_rfl) (fun _ _ _ h => h) (Or.inl ⟨by rfl, ?hy135⟩) hHeld ?rest135
                            case hy135 => intro X hSw; obtain ⟨g0, g1, g2, g3, g4, g5, g6, g7⟩ := hSw; go_simp <;> first | with_reducible rfl
                            try simp only [Act.put, List.setIfInBounds_toArray, List.set_cons_zero, List.set_cons_succ]
                            refine takeHr (i := 10) (d := some 217) (v := ?v136) rfl rfl (by kernel_rfl) (by kernel_rfl) (by kernel_rfl) (fun _ _ _ h => h) (Or.inl ⟨by rfl, ?hy136⟩) hHeld ?rest136
                            case hy136 => intro X hSw; obtain ⟨g0, g1, g2, g3, g4, g5, g6, g7⟩ := hSw; go_simp <;> first | with_reducible rfl
                            try simp only [Act.put, List.setIfInBounds_toArray, List.set_cons_zero, List.set_cons_succ]
                            refine takeHr (i := 11) (d := some 218) (v := ?v137) rfl rfl (by kernel_rfl) (by kernel_rfl) (by kernel_rfl) (fun _ _ _ h => h) (Or.inl ⟨by rfl, ?hy137⟩) hHeld ?rest137
                            case hy137 => intro X hSw; obtain ⟨g0, g1, g2, g3, g4, g5, g6, g7⟩ := hSw; go_simp <;> first | with_reducible rfl
                            try simp only [Act.put, List.setIfInBounds_toArray, List.set_cons_zero, List.set_cons_succ]
                            refine takeHr (i := 12) (d := some 219) (v := ?v138) rfl rfl (by kernel_rfl) (by kernel_rfl) (by kernel_rfl) (fun _ _ _ h => h) (Or.inl ⟨by rfl, ?hy138⟩) hHeld ?rest138
                            case hy138 => intro X hSw; obtain ⟨g0, g1, g2, g3, g4, g5, g6, g7⟩ := hSw; go_simp <;> first | with_reducible rfl
                            try simp only [Act.put, List.setIfInBounds_toArray, List.set_cons_zero, List.set_cons_succ]
                            refine takeHr (i := 13) (d := some 220) (v := ?v139) rfl rfl (by kernel_rfl) (by kernel_rfl) (by kernel_rfl) (fun _ _ _ h => h) (Or.inl ⟨by rfl, ?hy139⟩) hHeld ?rest139
                            case hy139 => intro X hSw; obtain ⟨g0, g1, g2, g3, g4, g5, g6, g7⟩ := hSw; go_simp <;> first | with_reducible rfl
                            try simp only [Act.put, List.setIfInBounds_toArray, List.set_cons_zero, List.set_cons_succ]
                            refine takeHr (i := 14) (d := some 221) (v := ?v140) rfl rfl (by kernel_rfl) (by kernel_rfl) (by kernel_rfl) (fun _ _ _ h => h) (Or.inl ⟨by rfl, ?hy140⟩) hHeld ?rest140
                            case hy140 => intro X hSw; obtain ⟨g0, g1, g2, g3, g4, g5, g6, g7⟩ := hSw; go_simp <;> first | with_reducible rfl
                            try simp only [Act.put, List.setIfInBounds_toArray, List.set_cons_zero, List.set_cons_succ]
                            refine takeHr (i := 15) (d := some 222) (v := ?v141) rfl rfl (by kernel_rfl) (by kernel_rfl) (by kernel_rfl) (fun _ _ _ h => h) (Or.inl ⟨by rfl, ?hy141⟩) hHeld ?rest141
                            case hy141 => intro X hSw; obtain ⟨g0, g1, g2, g3, g4, g5, g6, g7⟩ := hSw; go_simp <;> first | with_reducible rfl
                            try simp only [Act.put, List.setIfInBounds_toArray, List.set_cons_zero, List.set_cons_succ]
                            refine takeHr (i := 16) (d := some 223) (v := .pointer (some ⟨b4, o4 + t * 4, none⟩)) rfl rfl (by kernel_rfl) (by kernel_rfl) (by kernel_rfl) (fun _ _ _ h => h) (Or.inl ⟨by rfl, ?hy142⟩) hHeld ?rest142
                            case hy142 => intro X hSw; obtain ⟨g0, g1, g2, g3, g4, g5, g6, g7⟩ := hSw; go_simp <;> first | with_reducible rfl
                            try simp only [Act.put, List.setIfInBounds_toArray, List.set_cons_zero, List.set_cons_succ]
                            refine takeHr (i := 17) (d := some 224) (v := ?v143) rfl rfl (by kernel_rfl) (by kernel_rfl) (by kernel_rfl) (fun _ _ _ h => h) (Or.inl ⟨by rfl, ?hy143⟩) hHeld ?rest143
                            case hy143 => intro X hSw; obtain ⟨g0, g1, g2, g3, g4, g5, g6, g7⟩ := hSw; go_simp <;> first | with_reducible rfl
                            try simp only [Act.put, List.setIfInBounds_toArray, List.set_cons_zero, List.set_cons_succ]
                            refine takeHr (i := 18) (d := some 225) (v := ?v144) rfl rfl (by kernel_rfl) (by kernel_rfl) (by kernel_rfl) (fun _ _ _ h => h) (Or.inl ⟨by rfl, ?hy144⟩) hHeld ?rest144
                            case hy144 => intro X hSw; obtain ⟨g0, g1, g2, g3, g4, g5, g6, g7⟩ := hSw; go_simp <;> first | with_reducible rfl
                            try simp only [Act.put, List.setIfInBounds_toArray, List.set_cons_zero, List.set_cons_succ]
                            refine takeHr (i := 19) (d := some 226) (v := ?v145) rfl rfl (by kernel_rfl) (by kernel_rfl) (by kernel_rfl) (fun _ _ _ h => h) (Or.inl ⟨by rfl, ?hy145⟩) hHeld ?rest145
                            case hy145 => intro X hSw; obtain ⟨g0, g1, g2, g3, g4, g5, g6, g7⟩ := hSw; go_simp <;> first | with_reducible rfl
                            try simp only [Act.put, List.setIfInBounds_toArray, List.set_cons_zero, List.set_cons_succ]
                            refine takeHr (i := 20) (d := some 227) (v := ?v146) rfl rfl (by kernel_rfl) (by kernel_rfl) (by kernel_rfl) (fun _ _ _ h => h) (Or.inl ⟨by rfl, ?hy146⟩) hHeld ?rest146
                            case hy146 => intro X hSw; obtain ⟨g0, g1, g2, g3, g4, g5, g6, g7⟩ := hSw; go_simp <;> first | with_reducible rfl
                            try simp only [Act.put, List.setIfInBounds_toArray, List.set_cons_zero, List.set_cons_succ]
                            refine takeHr (i := 21) (d := some 228) (v := .pointer (some ⟨b4, o4 + t * 4, none⟩)) rfl rfl (by kernel_rfl) (by kernel_rfl) (by kernel_rfl) (fun _ _ _ h => h) (Or.inl ⟨by rfl, ?hy147⟩) hHeld ?rest147
                            case hy147 => intro X hSw; obtain ⟨g0, g1, g2, g3, g4, g5, g6, g7⟩ := hSw; go_simp <;> first | with_reducible rfl
                            try simp only [Act.put, List.setIfInBounds_toArray, List.set_cons_zero, List.set_cons_succ]
                            refine takeHr (i := 22) (d := some 229) (v := ?v148) rfl rfl (by kernel_rfl) (by kernel_rfl) (by kernel_rfl) (fun _ _ _ h => h) (Or.inl ⟨by rfl, ?hy148⟩) hHeld ?rest148
                            case hy148 => intro X hSw; obtain ⟨g0, g1, g2, g3, g4, g5, g6, g7⟩ := hSw; go_simp <;> first | with_reducible rfl
                            try simp only [Act.put, List.setIfInBounds_toArray, List.set_cons_zero, List.set_cons_succ]
                            refine takeHr (i := 23) (d := some 230) (v := ?v149) rfl rfl (by kernel_rfl) (by kernel_rfl) (by kernel_rfl) (fun _ _ _ h => h) (Or.inl ⟨by rfl, ?hy149⟩) hHeld ?rest149
                            case hy149 => intro X hSw; obtain ⟨g0, g1, g2, g3, g4, g5, g6, g7⟩ := hSw; go_simp <;> first | with_reducible rfl
                            try simp only [Act.put, List.setIfInBounds_toArray, List.set_cons_zero, List.set_cons_succ]
                            refine wpAnyH_ready (rs := [24]) (by kernel_rfl) (by simp) ?_
                            refine AllReadyH.cons (o := { dst := some 231, op := Op.call { callee := Callee.value (Operand.func 12), args := #[Operand.tmp 218, Operand.tmp 220, Operand.tmp 225, Operand.tmp 230], argTypes := #[31, 3, 31, 3] }, type := 4, pos := "outright.go:156", after := #[{ on := 11, ground := Ground.data }, { on := 13, ground := Ground.data }, { on := 18, ground := Ground.data }, { on := 23, ground := Ground.data }, { on := 9, ground := Ground.chain }, { on := 9, ground := Ground.guard }], guard := some (9, true) }) rfl (fun Kq hKq => ?_) AllReadyH.nil
                            · go_simp
                              refine (OLt.out _).mono ?_
                              rintro e w150x ⟨rfl, hb150⟩
                              replace HBc := (show Hid _ from bt HBc.out hb150)
                              refine hKq.out _ _ ⟨cell_below hHeld.1 hb150, cell_below hHeld.2.1 hb150, cell_below hHeld.2.2.1 hb150, cell_below hHeld.2.2.2.1 hb150, cell_below hHeld.2.2.2.2.1 hb150, cell_below hHeld.2.2.2.2.2.1 hb150, cell_below hHeld.2.2.2.2.2.2.1 hb150, cell_below hHeld.2.2.2.2.2.2.2 hb150⟩ (fun hHeld => ?_)
                              clear hKq Kq
                              try simp only [Act.put, List.setIfInBounds_toArray, List.set_cons_zero, List.set_cons_succ]
                              refine takeHr (i := 25) (d := some 232) (v := .bool false) rfl rfl (by kernel_rfl) (by kernel_rfl) (by kernel_rfl) (fun _ _ _ h => h) (Or.inl ⟨by rfl, ?hy151⟩) hHeld ?rest151
                              case hy151 => intro X hSw; obtain ⟨g0, g1, g2, g3, g4, g5, g6, g7⟩ := hSw; go_simp <;> first | with_reducible rfl
                              try simp only [Act.put, List.setIfInBounds_toArray, List.set_cons_zero, List.set_cons_succ]
                              refine wpAnyH_done (by kernel_rfl) ?_ _
                              have ca1 := hHeld.1
                              have ca2 := hHeld.2.1
                              have ca3 := hHeld.2.2.1
                              have s0 := hHeld.2.2.2.1
                              have x1 := hHeld.2.2.2.2.1
                              have x2 := hHeld.2.2.2.2.2.1
                              have x3 := hHeld.2.2.2.2.2.2.1
                              have x4 := hHeld.2.2.2.2.2.2.2
                              clear hHeld
                              go_wp2_with (fail)
                              go_roundw
                              case rel => exact ⟨t + 1, HT.out, by first | rw [WT.out] | go_num, HBc⟩
                              case measure => first | (rw [WT.out]; exact meas_v17 HT.out) | exact meas_v17 HT.out
                        · clear hol Lqs hLq hlt ht bx hB
                          go_wp2_with (fail)
                          as_aux_lemma =>
                            obtain ⟨wd152, hwd⟩ : ∃ wq, wq = W0.drew := ⟨_, rfl⟩
                            have bd : Below W0.heap.size W0 wd152 := by rw [hwd]; exact (Below.refl _ _).drew
                            have HBc := (show Hid (Below w122x.heap.size w122x wd152) from bt HBb.out bd)
                            refine wp_region_held_drew (S := fun X => X.cell? ⟨w11.heap.size, 1, none⟩ = some (.int .i64 v1) ∧ X.cell? ⟨w11.heap.size, 2, none⟩ = some (.int .i64 v2) ∧ X.cell? ⟨w11.heap.size, 3, none⟩ = some (.int .i64 v3) ∧ X.cell? ⟨w.heap.size, 0, none⟩ = some (.int .i64 k) ∧ X.cell? ⟨b4, o4 + t * 4, none⟩ = some (.int .i64 q1) ∧ X.cell? ⟨b4, o4 + t * 4 + 1, none⟩ = some (.int .i64 q2) ∧ X.cell? ⟨b4, o4 + t * 4 + 2, none⟩ = some (.int .i64 q3) ∧ X.cell? ⟨b4, o4 + t * 4 + 3, none⟩ = some (.slice q4 Lq cc4)) (by kernel_rfl) (by rw [← hwd]; exact ⟨cell_below ca1 bd, cell_below ca2 bd, cell_below ca3 bd, cell_below s0 bd, cell_below x1 bd, cell_below x2 bd, cell_below x3 bd, cell_below x4 bd⟩) (fun hHeld => ?_)
                            rw [← hwd] at hHeld ⊢
                            clear ca1 ca2 ca3 s0 x1 x2 x3 x4 bd hwd
                            refine takeHr (i := 0) (d := some 207) (v := ?v153) rfl rfl (by kernel_rfl) (by kernel_rfl) (by kernel_rfl) (fun _ _ _ h => h) (Or.inl ⟨by rfl, ?hy153⟩) hHeld ?rest153
                            case hy153 => intro X hSw; obtain ⟨g0, g1, g2, g3, g4, g5, g6, g7⟩ := hSw; go_simp <;> first | with_reducible rfl
                            try simp only [Act.put, List.setIfInBounds_toArray, List.set_cons_zero, List.set_cons_succ]
                            refine takeHr (i := 1) (d := some 208) (v := ?v154) rfl rfl (by kernel_rfl) (by kernel_rfl) (by kernel_rfl) (fun _ _ _ h => h) (Or.inl ⟨by rfl, ?hy154⟩) hHeld ?rest154
                            case hy154 => intro X hSw; obtain ⟨g0, g1, g2, g3, g4, g5, g6, g7⟩ := hSw; go_simp <;> first | with_reducible rfl
                            try simp only [Act.put, List.setIfInBounds_toArray, List.set_cons_zero, List.set_cons_succ]
                            refine takeHr (i := 2) (d := some 209) (v := .pointer (some ⟨b4, o4 + t * 4, none⟩)) rfl rfl (by kernel_rfl) (by kernel_rfl) (by kernel_rfl) (fun _ _ _ h => h) (Or.inl ⟨by rfl, ?hy155⟩) hHeld ?rest155
                            case hy155 => intro X hSw; obtain ⟨g0, g1, g2, g3, g4, g5, g6, g7⟩ := hSw; go_simp <;> first | with_reducible rfl
                            try simp only [Act.put, List.setIfInBounds_toArray, List.set_cons_zero, List.set_cons_succ]
                            refine takeHr (i := 3) (d := some 210) (v := ?v156) rfl rfl (by kernel_rfl) (by kernel_rfl) (by kernel_rfl) (fun _ _ _ h => h) (Or.inl ⟨by rfl, ?hy156⟩) hHeld ?rest156
                            case hy156 => intro X hSw; obtain ⟨g0, g1, g2, g3, g4, g5, g6, g7⟩ := hSw; go_simp <;> first | with_reducible rfl
                            try simp only [Act.put, List.setIfInBounds_toArray, List.set_cons_zero, List.set_cons_succ]
                            refine takeHr (i := 4) (d := some 211) (v := ?v157) rfl rfl (by kernel_rfl) (by kernel_rfl) (by kernel_rfl) (fun _ _ _ h => h) (Or.inl ⟨by rfl, ?hy157⟩) hHeld ?rest157
                            case hy157 => intro X hSw; obtain ⟨g0, g1, g2, g3, g4, g5, g6, g7⟩ := hSw; go_simp <;> first | with_reducible rfl
                            try simp only [Act.put, List.setIfInBounds_toArray, List.set_cons_zero, List.set_cons_succ]
                            refine takeHr (i := 5) (d := some 212) (v := ?v158) rfl rfl (by kernel_rfl) (by kernel_rfl) (by kernel_rfl) (fun _ _ _ h => h) (Or.inl ⟨by rfl, ?hy158⟩) hHeld ?rest158
                            case hy158 => intro X hSw; obtain ⟨g0, g1, g2, g3, g4, g5, g6, g7⟩ := hSw; go_simp <;> first | with_reducible rfl
                            try simp only [Act.put, List.setIfInBounds_toArray, List.set_cons_zero, List.set_cons_succ]
                            refine takeHr (i := 6) (d := some 213) (v := ?v159) rfl rfl (by kernel_rfl) (by kernel_rfl) (by kernel_rfl) (fun _ _ _ h => h) (Or.inl ⟨by rfl, ?hy159⟩) hHeld ?rest159
                            case hy159 => intro X hSw; obtain ⟨g0, g1, g2, g3, g4, g5, g6, g7⟩ := hSw; go_simp <;> first | with_reducible rfl
                            try simp only [Act.put, List.setIfInBounds_toArray, List.set_cons_zero, List.set_cons_succ]
                            refine takeHr (i := 7) (d := some 214) (v := ?v160) rfl rfl (by kernel_rfl) (by kernel_rfl) (by kernel_rfl) (fun _ _ _ h => h) (Or.inl ⟨by rfl, ?hy160⟩) hHeld ?rest160
                            case hy160 => intro X hSw; obtain ⟨g0, g1, g2, g3, g4, g5, g6, g7⟩ := hSw; go_simp <;> first | with_reducible rfl
                            try simp only [Act.put, List.setIfInBounds_toArray, List.set_cons_zero, List.set_cons_succ]
                            refine takeHr (i := 8) (d := some 215) (v := .bool false) rfl rfl (by kernel_rfl) (by kernel_rfl) (by kernel_rfl) (fun _ _ _ h => h) (Or.inl ⟨by rfl, ?hy161⟩) hHeld ?rest161
                            case hy161 => intro X hSw; obtain ⟨g0, g1, g2, g3, g4, g5, g6, g7⟩ := hSw; go_simp <;> first | with_reducible rfl
                            try simp only [Act.put, List.setIfInBounds_toArray, List.set_cons_zero, List.set_cons_succ]
                            refine takeHr (i := 9) (d := some 216) (v := .bool false) rfl rfl (by kernel_rfl) (by kernel_rfl) (by kernel_rfl) (fun _ _ _ h => h) (Or.inl ⟨by rfl, ?hy162⟩) hHeld ?rest162
                            case hy162 => intro X hSw; obtain ⟨g0, g1, g2, g3, g4, g5, g6, g7⟩ := hSw; go_simp <;> first | with_reducible rfl
                            try simp only [Act.put, List.setIfInBounds_toArray, List.set_cons_zero, List.set_cons_succ]
                            refine takeHr (i := 10) (d := some 217) (v := undef) rfl rfl (by kernel_rfl) (by kernel_rfl) (by kernel_rfl) (fun _ _ _ h => h) (Or.inr ⟨by rfl, rfl⟩) hHeld ?_
                            try simp only [Act.put, List.setIfInBounds_toArray, List.set_cons_zero, List.set_cons_succ]
                            refine takeHr (i := 11) (d := some 218) (v := undef) rfl rfl (by kernel_rfl) (by kernel_rfl) (by kernel_rfl) (fun _ _ _ h => h) (Or.inr ⟨by rfl, rfl⟩) hHeld ?_
                            try simp only [Act.put, List.setIfInBounds_toArray, List.set_cons_zero, List.set_cons_succ]
                            refine takeHr (i := 12) (d := some 219) (v := undef) rfl rfl (by kernel_rfl) (by kernel_rfl) (by kernel_rfl) (fun _ _ _ h => h) (Or.inr ⟨by rfl, rfl⟩) hHeld ?_
                            try simp only [Act.put, List.setIfInBounds_toArray, List.set_cons_zero, List.set_cons_succ]
                            refine takeHr (i := 13) (d := some 220) (v := undef) rfl rfl (by kernel_rfl) (by kernel_rfl) (by kernel_rfl) (fun _ _ _ h => h) (Or.inr ⟨by rfl, rfl⟩) hHeld ?_
                            try simp only [Act.put, List.setIfInBounds_toArray, List.set_cons_zero, List.set_cons_succ]
                            refine takeHr (i := 14) (d := some 221) (v := undef) rfl rfl (by kernel_rfl) (by kernel_rfl) (by kernel_rfl) (fun _ _ _ h => h) (Or.inr ⟨by rfl, rfl⟩) hHeld ?_
                            try simp only [Act.put, List.setIfInBounds_toArray, List.set_cons_zero, List.set_cons_succ]
                            refine takeHr (i := 15) (d := some 222) (v := undef) rfl rfl (by kernel_rfl) (by kernel_rfl) (by kernel_rfl) (fun _ _ _ h => h) (Or.inr ⟨by rfl, rfl⟩) hHeld ?_
                            try simp only [Act.put, List.setIfInBounds_toArray, List.set_cons_zero, List.set_cons_succ]
                            refine takeHr (i := 16) (d := some 223) (v := undef) rfl rfl (by kernel_rfl) (by kernel_rfl) (by kernel_rfl) (fun _ _ _ h => h) (Or.inr ⟨by rfl, rfl⟩) hHeld ?_
                            try simp only [Act.put, List.setIfInBounds_toArray, List.set_cons_zero, List.set_cons_succ]
                            refine takeHr (i := 17) (d := some 224) (v := undef) rfl rfl (by kernel_rfl) (by kernel_rfl) (by kernel_rfl) (fun _ _ _ h => h) (Or.inr ⟨by rfl, rfl⟩) hHeld ?_
                            try simp only [Act.put, List.setIfInBounds_toArray, List.set_cons_zero, List.set_cons_succ]
                            refine takeHr (i := 18) (d := some 225) (v := undef) rfl rfl (by kernel_rfl) (by kernel_rfl) (by kernel_rfl) (fun _ _ _ h => h) (Or.inr ⟨by rfl, rfl⟩) hHeld ?_
                            try simp only [Act.put, List.setIfInBounds_toArray, List.set_cons_zero, List.set_cons_succ]
                            refine takeHr (i := 19) (d := some 226) (v := undef) rfl rfl (by kernel_rfl) (by kernel_rfl) (by kernel_rfl) (fun _ _ _ h => h) (Or.inr ⟨by rfl, rfl⟩) hHeld ?_
                            try simp only [Act.put, List.setIfInBounds_toArray, List.set_cons_zero, List.set_cons_succ]
                            refine takeHr (i := 20) (d := some 227) (v := undef) rfl rfl (by kernel_rfl) (by kernel_rfl) (by kernel_rfl) (fun _ _ _ h => h) (Or.inr ⟨by rfl, rfl⟩) hHeld ?_
                            try simp only [Act.put, List.setIfInBounds_toArray, List.set_cons_zero, List.set_cons_succ]
                            refine takeHr (i := 21) (d := some 228) (v := undef) rfl rfl (by kernel_rfl) (by kernel_rfl) (by kernel_rfl) (fun _ _ _ h => h) (Or.inr ⟨by rfl, rfl⟩) hHeld ?_
                            try simp only [Act.put, List.setIfInBounds_toArray, List.set_cons_zero, List.set_cons_succ]
                            refine takeHr (i := 22) (d := some 229) (v := undef) rfl rfl (by kernel_rfl) (by kernel_rfl) (by kernel_rfl) (fun _ _ _ h => h) (Or.inr ⟨by rfl, rfl⟩) hHeld ?_
                            try simp only [Act.put, List.setIfInBounds_toArray, List.set_cons_zero, List.set_cons_succ]
                            refine takeHr (i := 23) (d := some 230) (v := undef) rfl rfl (by kernel_rfl) (by kernel_rfl) (by kernel_rfl) (fun _ _ _ h => h) (Or.inr ⟨by rfl, rfl⟩) hHeld ?_
                            try simp only [Act.put, List.setIfInBounds_toArray, List.set_cons_zero, List.set_cons_succ]
                            refine takeHr (i := 24) (d := some 231) (v := undef) rfl rfl (by kernel_rfl) (by kernel_rfl) (by kernel_rfl) (fun _ _ _ h => h) (Or.inr ⟨by rfl, rfl⟩) hHeld ?_
                            try simp only [Act.put, List.setIfInBounds_toArray, List.set_cons_zero, List.set_cons_succ]
                            refine takeHr (i := 25) (d := some 232) (v := .bool false) rfl rfl (by kernel_rfl) (by kernel_rfl) (by kernel_rfl) (fun _ _ _ h => h) (Or.inl ⟨by rfl, ?hy178⟩) hHeld ?rest178
                            case hy178 => intro X hSw; obtain ⟨g0, g1, g2, g3, g4, g5, g6, g7⟩ := hSw; go_simp <;> first | with_reducible rfl
                            try simp only [Act.put, List.setIfInBounds_toArray, List.set_cons_zero, List.set_cons_succ]
                            refine wpAnyH_done (by kernel_rfl) ?_ _
                            have ca1 := hHeld.1
                            have ca2 := hHeld.2.1
                            have ca3 := hHeld.2.2.1
                            have s0 := hHeld.2.2.2.1
                            have x1 := hHeld.2.2.2.2.1
                            have x2 := hHeld.2.2.2.2.2.1
                            have x3 := hHeld.2.2.2.2.2.2.1
                            have x4 := hHeld.2.2.2.2.2.2.2
                            clear hHeld
                            go_wp2_with (fail)
                            go_roundw
                            case rel => exact ⟨t + 1, HT.out, by first | rw [WT.out] | go_num, HBc⟩
                            case measure => first | (rw [WT.out]; exact meas_v17 HT.out) | exact meas_v17 HT.out
                      · obtain rfl : t = G.length := by omega
                        have hnn : ¬ ((G.length : Int) < (G.length : Int)) := by omega
                        obtain ⟨W7, hW7⟩ : ∃ W7, W7 = wr := ⟨_, rfl⟩
                        subst hW7
                        have hV7 := HV13.out.below (bt HBd.out hB.out)
                        have HB7 := (show Hid (Below w.heap.size w W7) from bt HB13.out (bt HBd.out hB.out))
                        clear ca1 ca2 ca3 s0 ht hlt
                        go_wp2_with (first
                          | (refine wpList_ldB rfl _ rfl w11.heap.size rfl hV7 Try.underlying42 (size_Vd' _ _ _) ?_)
                          | (go_at_call 14; refine (ST.out _ HB7.out (v1, v2, v3) _).mono ?_; rintro e w20 ⟨v20, rfl, hO20, hb20⟩; obtain ⟨p20, c20, e20⟩ := on_sl17 hO20; subst e20; have hV20 := hV7.below hb20; have c4 := hV20.cell 4; unfold vdC at c4; simp only [List.getElem?_toArray, List.getElem?_cons_zero, List.getElem?_cons_succ] at c4; have hsl := HSL.out (v1, v2, v3); rw [← HLV.out] at hsl; generalize (stl ss n 1 (v1, v2, v3)).length = Ls at *; have wn : wrap64 ((Ls : Int) + (Lv : Int)) = (n : Int) := (by have := HN.out; unfold wrap64; omega); clear hO20 hsl))
                        go_ret
                        exact ⟨rfl, bt HB7.out hb20⟩
    · have hf : fitB k m b n = false := by unfold fitB; rw [hs, decide_eq_false hnk]; rfl
      have hj : jdg k m b (shs ss) n = ⟨3, (0, 0, 0), []⟩ := by unfold jdg; rw [hf]; rfl
      rw [hj] at JU
      simp only [List.length_nil] at JU
      have d6 : ((n : Int) != k + m) = true := by simp [hnk]
      clear hs hsh hI HS hm hn h1 hj hf hnk
      go_enter Try.func4, Try.ntmps4
      go_wp2_with (first
        | (refine wpList_stB (cs := vdC 3 (0, 0, 0) (.slice q11 0 c11)) rfl _ _ rfl rfl w11.heap.size rfl rfl hG12 (size_Vd' _ _ _) (vdC_same _ _ _ _ _ _) (vdC_one _ _ _ rfl) ?_; intro w13 hV13 hg13 hs13; have HP13 := (show Hid (Below w11.heap.size w11 w13) from grown_below hb12 hg13 hb12.size (Nat.le_refl _)); have HV13 := (show Hid (GB w13 w11.heap.size 42 (vdC 3 (0, 0, 0) (.slice q11 0 c11))) from hV13); have ca0 := hV13.cell 0; have ca1 := hV13.cell 1; have ca2 := hV13.cell 2; have ca3 := hV13.cell 3; have ca4 := hV13.cell 4; unfold vdC at ca0 ca1 ca2 ca3 ca4; simp only [List.getElem?_toArray, List.getElem?_cons_zero, List.getElem?_cons_succ] at ca0 ca1 ca2 ca3 ca4; have HBJ := (show Hid (Below w3.heap.size w3 w13) from bt hb11 HP13.out);  clear hV13 hg13 hs13 hG12 hb12 hb11)
        | (refine wpList_alB rfl rfl vd0 ?_; intro w12 hG12 hb12 hs12; have hu := hb11; clear hu hs12)
        | (go_at_call 10; refine Calls.mono (JU.out _ HB3.out) ?_; rintro e w11 ⟨q11, c11, rfl, hb11⟩)
        | (refine wpList_ldB rfl _ rfl w.heap.size rfl hG3 Try.underlying23 (size_Sp' _ _ _) ?_)
        | (go_at_call 7; refine (FT.out _).mono ?_; rintro e w3 ⟨rfl, hb3⟩; have hG3 := hG2.below hb3; have HB3 := (show Hid (Below w.heap.size w w3) from bt (bt hb1 hb2) hb3); obtain ⟨s0, s1⟩ := gb_sh hG3; clear hG2 hb1 hb2 hb3)
        | (refine wpList_ldB rfl _ rfl w.heap.size rfl hG2 Try.underlying23 (size_Sp' _ _ _) ?_)
        | (go_at_call 6; refine (awake_any _).mono ?_; rintro e w2 ⟨rfl, hb2⟩; have hG2 := hG1.below hb2; clear hG1)
        | (refine wpList_bxB rfl _ rfl rfl ?_; intro w1 hG1 hb1 hs1; clear hs1))
      go_ret
      exact ⟨rfl, bt HB3.out HBJ.out⟩
end
end Go.Proofs.Ytefomnlgpldgnaa
