/-
  VotesMoved.
-/
import Derived.Test.YtefomnlgpldgnaaAw17
namespace Go.Proofs.Ytefomnlgpldgnaa
open Go.RowKit
def mvC (k m b : Int) (v : Value) (i j : Int) : Array Value := #[.int .i64 k, .int .i64 m, .int .i64 b, v, .int .i64 i, .int .i64 j]
theorem mv_run {w : World} {g : Nat} {k m b i j : Int} {v : Value} (H : GB w g 55 (mvC k m b v i j)) : (loadVar 23 ⟨g, 0, none⟩).run Try.prog w = .ok (.agg (shC k m b)) w :=
  run_loadVar_at w g 0 23 (shC k m b) _ (fun t u hu => by
    rw [Nat.zero_add, H.cell]
    match t, hu with
    | 0, hu => exact hu
    | 1, hu => exact hu
    | 2, hu => exact hu) Try.underlying23 rfl size_Sp
theorem get_set (es : List Sn) (i : Nat) (e : Sn) (hi : i < es.length) (t : Nat) : (es.set i e).getD t sn0 = if t = i then e else es.getD t sn0 := by
  rw [List.getD_eq_getElem?_getD, List.getElem?_set]
  by_cases h : i = t
  · rw [if_pos h, if_pos (by omega), if_pos h.symm]; rfl
  · rw [if_neg h, if_neg (fun x => h x.symm), List.getD_eq_getElem?_getD]
theorem os_judge (k m b : Int) (hm : In64 m) {W : World} {B g cap n : Nat} {es : List Sn} (hl : es.length = n) (hn : n ≤ 1172812402926) (h : Os W B (.slice (some ⟨g, 0, none⟩) n cap) es) (h1 : ∀ t, t < n → InW (es.getD t sn0).wg ∧ (es.getD t sn0).bv.oneCell' = true) :
    Calls Try.prog 10 #[.agg (shC k m b), .slice (some ⟨g, 0, none⟩) n cap] W fun e w' => ∃ pv, e = .returned (.agg (vdC (jdg k m b (shs fun t => es.getD t sn0) n).kd (jdg k m b (shs fun t => es.getD t sn0) n).wg pv)) ∧ On w' W.heap.size pv (jdg k m b (shs fun t => es.getD t sn0) n).pl ∧ Below W.heap.size W w' := by
  obtain ⟨p', c', e, hS⟩ := os_snl h
  rw [hl] at hS e
  injection e with e1 _ e2
  subst e1 e2
  exact judge_any k m b hm hS (by omega) (fun i hi => (h1 i hi).1) (fun i hi => (h1 i hi).2)
/-- Judge's answer, as far as the law looks at it. -/
def JAns (k m b : Int) (v : Value) (W : World) (kd : Int) (wg : Wg) (L : Nat) : Prop :=
  Calls Try.prog 10 #[.agg (shC k m b), v] W fun e w' => ∃ q c, e = .returned (.agg (vdC kd wg (.slice q L c))) ∧ Below W.heap.size W w'
theorem jans_of {k m b : Int} {v : Value} {W : World} {V : Vd} {kd : Int} {wg : Wg} {L : Nat} (h : Calls Try.prog 10 #[.agg (shC k m b), v] W fun e w' => ∃ pv, e = .returned (.agg (vdC V.kd V.wg pv)) ∧ On w' W.heap.size pv V.pl ∧ Below W.heap.size W w') (h1 : V.kd = kd) (h2 : V.wg = wg) (h3 : V.pl.length = L) : JAns k m b v W kd wg L := by
  refine h.mono ?_
  rintro e w' ⟨pv, rfl, hO, hb⟩
  obtain ⟨q, c, e⟩ := own_shape hO
  subst e
  rw [h1, h2, h3]
  exact ⟨q, c, rfl, hb⟩
theorem judge_swp (k m b : Int) (hm : In64 m) {W : World} {B g cap n I J : Nat} {ss : Nat → Sn} {es : List Sn} (hE : CEs es ss n) (hn : n ≤ 1172812402926) (hIw : ∀ i, i < n → InW (ss i).wg) (h1 : ∀ i, i < n → (ss i).bv.oneCell' = true) (hI : I < n) (hJ : J < n) (h : Os W B (.slice (some ⟨g, 0, none⟩) n cap) ((es.set I (ss J)).set J (ss I))) :
    JAns k m b (.slice (some ⟨g, 0, none⟩) n cap) W (jdg k m b (shs ss) n).kd (jdg k m b (shs ss) n).wg (jdg k m b (shs ss) n).pl.length := by
  have hg : ∀ t, ((es.set I (ss J)).set J (ss I)).getD t sn0 = if t = J then ss I else if t = I then ss J else es.getD t sn0 := fun t => by
    rw [get_set _ _ _ (by rw [List.length_set, hE.1]; exact hJ), get_set _ _ _ (by rw [hE.1]; exact hI)]
  have hk : ∀ t, t < n → (((es.set I (ss J)).set J (ss I)).getD t sn0).kd = (ss (swp I J t)).kd ∧ (((es.set I (ss J)).set J (ss I)).getD t sn0).hd = (ss (swp I J t)).hd ∧ (((es.set I (ss J)).set J (ss I)).getD t sn0).bv.oneCell' = true := fun t ht => by
    rw [hg]
    unfold swp
    by_cases e1 : t = J
    · rw [if_pos e1]
      by_cases e2 : t = I
      · have : I = J := by omega
        subst this; rw [if_pos e2]; exact ⟨rfl, rfl, h1 _ hI⟩
      · rw [if_neg e2, if_pos e1]; exact ⟨rfl, rfl, h1 _ hI⟩
    · rw [if_neg e1]
      by_cases e2 : t = I
      · rw [if_pos e2, if_pos e2]; exact ⟨rfl, rfl, h1 _ hJ⟩
      · rw [if_neg e2, if_neg e2, if_neg e1]; exact hE.2 t ht
  have hs : ∀ t, t < n → (shs fun t => ((es.set I (ss J)).set J (ss I)).getD t sn0) t = shs ss (swp I J t) := fun t ht => by
    obtain ⟨a, b, _⟩ := hk t ht
    unfold shs Sn.wg
    rw [a, b]
  obtain ⟨q1, q2, q3⟩ := jdg_swp (K := k) (M := m) (B := b) hI hJ hs
  refine jans_of (os_judge k m b hm (by rw [List.length_set, List.length_set]; exact hE.1) hn h fun t ht => ?_) q1 q2 q3
  obtain ⟨a, b, c⟩ := hk t ht
  refine ⟨?_, c⟩
  have := hIw _ (swp_lt hI hJ ht)
  unfold Sn.wg at this ⊢
  rw [b]; exact this
theorem judge_more (k m b : Int) (hm : In64 m) {W : World} {B g cap n I : Nat} {ss : Nat → Sn} {es : List Sn} (hE : CEs es ss n) (hn : n ≤ 1172812402926) (hIw : ∀ i, i < n → InW (ss i).wg) (hI : I < n) (hk1 : (ss I).kd = 1) (hv : (jdg k m b (shs ss) n).kd = 1) (hw : InW (jdg k m b (shs ss) n).wg) (h : Os W B (.slice (some ⟨g, 0, none⟩) n cap) (es.set I (snW (jdg k m b (shs ss) n).wg))) :
    JAns k m b (.slice (some ⟨g, 0, none⟩) n cap) W 1 (jdg k m b (shs ss) n).wg ((jdg k m b (shs ss) n).pl.length + 1) := by
  have hg : ∀ t, (es.set I (snW (jdg k m b (shs ss) n).wg)).getD t sn0 = if t = I then snW (jdg k m b (shs ss) n).wg else es.getD t sn0 := fun t => get_set _ _ _ (by rw [hE.1]; exact hI) t
  have hs : ∀ t, t < n → (shs fun t => (es.set I (snW (jdg k m b (shs ss) n).wg)).getD t sn0) t = (fun t => if t = I then (2, (jdg k m b (shs ss) n).wg) else shs ss t : Shs) t := fun t ht => by
    show (((es.set I (snW (jdg k m b (shs ss) n).wg)).getD t sn0).kd, ((es.set I (snW (jdg k m b (shs ss) n).wg)).getD t sn0).wg) = if t = I then (2, (jdg k m b (shs ss) n).wg) else ((ss t).kd, (ss t).wg)
    rw [hg]
    by_cases e : t = I
    · rw [if_pos e, if_pos e]; rfl
    · obtain ⟨a, b, _⟩ := hE.2 t ht
      rw [if_neg e, if_neg e]
      unfold Sn.wg
      rw [a, b]
  obtain ⟨q1, q2, q3⟩ := jdg_more (K := k) (M := m) (B := b) (s := shs ss) (s' := fun t => if t = I then (2, (jdg k m b (shs ss) n).wg) else shs ss t) hI hk1 hv (fun t ht => if_neg ht) (if_pos rfl)
  rw [← jdg_like hs] at q1 q2 q3
  refine jans_of (os_judge k m b hm (by rw [List.length_set]; exact hE.1) hn h fun t ht => ?_) q1 q2 q3
  rw [hg]
  by_cases e : t = I
  · rw [if_pos e]; exact ⟨hw, rfl⟩
  · rw [if_neg e]
    obtain ⟨_, b, c⟩ := hE.2 t ht
    refine ⟨?_, c⟩
    have := hIw _ ht
    unfold Sn.wg at this ⊢
    rw [b]; exact this
theorem jdg_inW {k m b : Int} {ss : Nat → Sn} {n : Nat} (hIw : ∀ i, i < n → InW (ss i).wg) : InW (jdg k m b (shs ss) n).wg := by
  have z : InW (0, 0, 0) := ⟨in64s 0 (by decide) (by decide), in64s 0 (by decide) (by decide), in64s 0 (by decide) (by decide)⟩
  unfold jdg
  split
  · unfold vjd
    split
    · rename_i p hp
      obtain ⟨i, hi, hs⟩ := (((isG_grps (shs ss) n).mem p).1 (List.mem_of_find?_eq_some hp)).1
      have := ((sh_iff _ _ _).1 hs).2
      show InW p.1
      rw [← this]; exact hIw i hi
    · split <;> exact z
  · exact z
theorem mv_cells {w : World} {g : Nat} {k m b i j : Int} {v : Value} (H : GB w g 55 (mvC k m b v i j)) : w.cell? ⟨g, 3, none⟩ = some v ∧ w.cell? ⟨g, 4, none⟩ = some (.int .i64 i) ∧ w.cell? ⟨g, 5, none⟩ = some (.int .i64 j) := ⟨H.cell 3, H.cell 4, H.cell 5⟩
theorem os_base {w : World} {B g n cap : Nat} {es : List Sn} (h : Os w B (.slice (some ⟨g, 0, none⟩) n cap) es) : B ≤ g := (World.ownsRow.lt h g rfl).1
section
attribute [local irreducible] Calls GB Sn.cs shC vdC mvC Os CEs
set_option maxHeartbeats 16000000 in
set_option maxRecDepth 1000000 in
theorem votesMoved_walk (k m b : Int) (hm : In64 m) {w : World} {p : Option Addr} {n c : Nat} {ss : Nat → Sn} {bl : Nat → List (List (BitVec 8))} (HS : SnL w p n ss) (hn : n ≤ 1172812402926) (hB : Bls w n ss bl) (hI : ∀ i, i < n → InW (ss i).wg) (i j : Int) :
    Calls Try.prog 5 #[.agg (mvC k m b (.slice p n c) i j)] w fun e w' => e = .returned (.bool true) ∧ Below w.heap.size w w' := by
  have HL := (show Hid (SnL w p n ss) from HS)
  have HN := (show Hid (n ≤ 1172812402926) from hn)
  have HBl := (show Hid (Bls w n ss bl) from hB)
  have HIw := (show Hid (∀ i, i < n → InW (ss i).wg) from hI)
  have HM := (show Hid (In64 m) from hm)
  have H1 : ∀ i, i < n → (ss i).bv.oneCell' = true := fun i hi => by
    obtain ⟨p, c, e, _⟩ := hB i hi
    rw [e]; rfl
  have H1H := (show Hid (∀ i, i < n → (ss i).bv.oneCell' = true) from H1)
  have HW := (show Hid (InW (jdg k m b (shs ss) n).wg) from jdg_inW hI)
  have JU := (show Hid (∀ W : World, Below w.heap.size w W → JAns k m b (.slice p n c) W (jdg k m b (shs ss) n).kd (jdg k m b (shs ss) n).wg (jdg k m b (shs ss) n).pl.length) from fun W hW => jans_of (judge_any k m b hm (HS.below hW) (by omega) hI H1) rfl rfl rfl)
  have JS := (show Hid (∀ (W : World) (B g cap I J : Nat) (es : List Sn), CEs es ss n → I < n → J < n → Os W B (.slice (some ⟨g, 0, none⟩) n cap) ((es.set I (ss J)).set J (ss I)) → JAns k m b (.slice (some ⟨g, 0, none⟩) n cap) W (jdg k m b (shs ss) n).kd (jdg k m b (shs ss) n).wg (jdg k m b (shs ss) n).pl.length) from fun W B g cap I J es hE h2 h3 h4 => judge_swp k m b hm hE hn hI H1 h2 h3 h4)
  have JM := (show Hid (∀ (W : World) (B g cap I : Nat) (es : List Sn), CEs es ss n → I < n → (ss I).kd = 1 → (jdg k m b (shs ss) n).kd = 1 → Os W B (.slice (some ⟨g, 0, none⟩) n cap) (es.set I (snW (jdg k m b (shs ss) n).wg)) → JAns k m b (.slice (some ⟨g, 0, none⟩) n cap) W 1 (jdg k m b (shs ss) n).wg ((jdg k m b (shs ss) n).pl.length + 1)) from fun W B g cap I es hE h2 h3 h4 h5 => judge_more k m b hm hE hn hI h2 h3 h4 (jdg_inW hI) h5)
  have HPL := (show Hid ((jdg k m b (shs ss) n).pl.length ≤ 1172812402926) from Nat.le_trans (jdg_len k m b (shs ss) n) hn)
  clear HS hn hB hI hm H1
  generalize jdg k m b (shs ss) n = V at *
  obtain ⟨kd, ⟨g1, g2, g3⟩, pl⟩ := V
  simp only at JU JS JM HPL HW
  generalize pl.length = L at *
  clear pl
  by_cases h1 : i < 0
  · go_enter Try.func5, Try.ntmps5
    go_wp2_with (first
      | (refine wpList_stB (cs := vdC kd (g1, g2, g3) (.slice q5 L c5)) rfl _ _ rfl rfl w5.heap.size rfl rfl hG6 (size_Vd' _ _ _) (vdC_same _ _ _ _ _ _) (vdC_one _ _ _ rfl) ?_; intro w7 hV7 hg7 hs7; have HP7 := (show Hid (Below w5.heap.size w5 w7) from grown_below hb6 hg7 hb6.size (Nat.le_refl _)); have hS7 := (hG4.below hb5).below HP7.out; have HB7 := (show Hid (Below w.heap.size w w7) from bt (bt HB2.out HB4.out) (bt hb5 HP7.out)); have HV7 := (show Hid (GB w7 w5.heap.size 42 (vdC kd (g1, g2, g3) (.slice q5 L c5))) from hV7); have HS5 := (show Hid (w5.heap.size < w7.heap.size) from hV7.lt); have HS2 := (show Hid (w2.heap.size < w7.heap.size) from Nat.lt_of_lt_of_le HS2.out (bt hb5 HP7.out).size); obtain ⟨m3, m4, m5⟩ := mv_cells ((HM4.out.below hb5).below HP7.out); clear hG4 hV7 hb5; clear hs7 hg7 hG6 hb6)
      | (refine wpList_alB rfl rfl vd0 ?_; intro w6 hG6 hb6 hs6; have hu := hb5; clear hu hs6)
      | (go_at_call 10; refine Calls.mono (JU.out _ (bt HB2.out HB4.out)) ?_; rintro e w5 ⟨q5, c5, rfl, hb5⟩)
      | (refine wpList_ldB rfl _ rfl w2.heap.size rfl hG4 Try.underlying23 (size_Sp' _ _ _) ?_)
      | (refine wpList_stB (cs := shC k m b) rfl _ _ rfl rfl w2.heap.size rfl rfl hG3 (size_Sp' _ _ _) (shC_same _ _ _ _ _ _) (shC_one _ _ _) ?_; intro w4 hG4 hg4 hs4; have HB4 := (show Hid (Below w2.heap.size w2 w4) from grown_below hb3 hg4 hb3.size (Nat.le_refl _)); have HM4 := (show Hid _ from hG2.below HB4.out); obtain ⟨m3, m4, m5⟩ := mv_cells HM4.out; have HS2 := (show Hid (w2.heap.size < w4.heap.size) from hG4.lt); clear hG2 hG3 hg4 hs4 hb3 hr2)
      | (refine wpList_alB rfl rfl zero_Sp ?_; intro w3 hG3 hb3 hs3; clear hs3)
      | (refine wpList_ldAt rfl _ _ rfl w.heap.size 0 rfl _ hr2 ?_)
      | (go_at_call 6; refine (awake_any _).mono ?_; rintro e w2 ⟨rfl, hb2⟩; have hG2 := hG1.below hb2; have hr2 := mv_run hG2; have HB2 := (show Hid (Below w.heap.size w w2) from bt hb1 hb2); clear hG1 hb1 hb2)
      | (refine wpList_bxB rfl _ rfl rfl ?_; intro w1 hG1 hb1 hs1; clear hs1))
    go_ret
    exact ⟨rfl, HB7.out⟩
  · skip
    by_cases h2 : j < 0
    · go_enter Try.func5, Try.ntmps5
      go_wp2_with (first
        | (refine wpList_stB (cs := vdC kd (g1, g2, g3) (.slice q5 L c5)) rfl _ _ rfl rfl w5.heap.size rfl rfl hG6 (size_Vd' _ _ _) (vdC_same _ _ _ _ _ _) (vdC_one _ _ _ rfl) ?_; intro w7 hV7 hg7 hs7; have HP7 := (show Hid (Below w5.heap.size w5 w7) from grown_below hb6 hg7 hb6.size (Nat.le_refl _)); have hS7 := (hG4.below hb5).below HP7.out; have HB7 := (show Hid (Below w.heap.size w w7) from bt (bt HB2.out HB4.out) (bt hb5 HP7.out)); have HV7 := (show Hid (GB w7 w5.heap.size 42 (vdC kd (g1, g2, g3) (.slice q5 L c5))) from hV7); have HS5 := (show Hid (w5.heap.size < w7.heap.size) from hV7.lt); have HS2 := (show Hid (w2.heap.size < w7.heap.size) from Nat.lt_of_lt_of_le HS2.out (bt hb5 HP7.out).size); obtain ⟨m3, m4, m5⟩ := mv_cells ((HM4.out.below hb5).below HP7.out); clear hG4 hV7 hb5; clear hs7 hg7 hG6 hb6)
        | (refine wpList_alB rfl rfl vd0 ?_; intro w6 hG6 hb6 hs6; have hu := hb5; clear hu hs6)
        | (go_at_call 10; refine Calls.mono (JU.out _ (bt HB2.out HB4.out)) ?_; rintro e w5 ⟨q5, c5, rfl, hb5⟩)
        | (refine wpList_ldB rfl _ rfl w2.heap.size rfl hG4 Try.underlying23 (size_Sp' _ _ _) ?_)
        | (refine wpList_stB (cs := shC k m b) rfl _ _ rfl rfl w2.heap.size rfl rfl hG3 (size_Sp' _ _ _) (shC_same _ _ _ _ _ _) (shC_one _ _ _) ?_; intro w4 hG4 hg4 hs4; have HB4 := (show Hid (Below w2.heap.size w2 w4) from grown_below hb3 hg4 hb3.size (Nat.le_refl _)); have HM4 := (show Hid _ from hG2.below HB4.out); obtain ⟨m3, m4, m5⟩ := mv_cells HM4.out; have HS2 := (show Hid (w2.heap.size < w4.heap.size) from hG4.lt); clear hG2 hG3 hg4 hs4 hb3 hr2)
        | (refine wpList_alB rfl rfl zero_Sp ?_; intro w3 hG3 hb3 hs3; clear hs3)
        | (refine wpList_ldAt rfl _ _ rfl w.heap.size 0 rfl _ hr2 ?_)
        | (go_at_call 6; refine (awake_any _).mono ?_; rintro e w2 ⟨rfl, hb2⟩; have hG2 := hG1.below hb2; have hr2 := mv_run hG2; have HB2 := (show Hid (Below w.heap.size w w2) from bt hb1 hb2); clear hG1 hb1 hb2)
        | (refine wpList_bxB rfl _ rfl rfl ?_; intro w1 hG1 hb1 hs1; clear hs1))
      go_ret
      exact ⟨rfl, HB7.out⟩
    · skip
      by_cases h3 : (n : Int) ≤ i
      · go_enter Try.func5, Try.ntmps5
        go_wp2_with (first
          | (refine wpList_stB (cs := vdC kd (g1, g2, g3) (.slice q5 L c5)) rfl _ _ rfl rfl w5.heap.size rfl rfl hG6 (size_Vd' _ _ _) (vdC_same _ _ _ _ _ _) (vdC_one _ _ _ rfl) ?_; intro w7 hV7 hg7 hs7; have HP7 := (show Hid (Below w5.heap.size w5 w7) from grown_below hb6 hg7 hb6.size (Nat.le_refl _)); have hS7 := (hG4.below hb5).below HP7.out; have HB7 := (show Hid (Below w.heap.size w w7) from bt (bt HB2.out HB4.out) (bt hb5 HP7.out)); have HV7 := (show Hid (GB w7 w5.heap.size 42 (vdC kd (g1, g2, g3) (.slice q5 L c5))) from hV7); have HS5 := (show Hid (w5.heap.size < w7.heap.size) from hV7.lt); have HS2 := (show Hid (w2.heap.size < w7.heap.size) from Nat.lt_of_lt_of_le HS2.out (bt hb5 HP7.out).size); obtain ⟨m3, m4, m5⟩ := mv_cells ((HM4.out.below hb5).below HP7.out); clear hG4 hV7 hb5; clear hs7 hg7 hG6 hb6)
          | (refine wpList_alB rfl rfl vd0 ?_; intro w6 hG6 hb6 hs6; have hu := hb5; clear hu hs6)
          | (go_at_call 10; refine Calls.mono (JU.out _ (bt HB2.out HB4.out)) ?_; rintro e w5 ⟨q5, c5, rfl, hb5⟩)
          | (refine wpList_ldB rfl _ rfl w2.heap.size rfl hG4 Try.underlying23 (size_Sp' _ _ _) ?_)
          | (refine wpList_stB (cs := shC k m b) rfl _ _ rfl rfl w2.heap.size rfl rfl hG3 (size_Sp' _ _ _) (shC_same _ _ _ _ _ _) (shC_one _ _ _) ?_; intro w4 hG4 hg4 hs4; have HB4 := (show Hid (Below w2.heap.size w2 w4) from grown_below hb3 hg4 hb3.size (Nat.le_refl _)); have HM4 := (show Hid _ from hG2.below HB4.out); obtain ⟨m3, m4, m5⟩ := mv_cells HM4.out; have HS2 := (show Hid (w2.heap.size < w4.heap.size) from hG4.lt); clear hG2 hG3 hg4 hs4 hb3 hr2)
          | (refine wpList_alB rfl rfl zero_Sp ?_; intro w3 hG3 hb3 hs3; clear hs3)
          | (refine wpList_ldAt rfl _ _ rfl w.heap.size 0 rfl _ hr2 ?_)
          | (go_at_call 6; refine (awake_any _).mono ?_; rintro e w2 ⟨rfl, hb2⟩; have hG2 := hG1.below hb2; have hr2 := mv_run hG2; have HB2 := (show Hid (Below w.heap.size w w2) from bt hb1 hb2); clear hG1 hb1 hb2)
          | (refine wpList_bxB rfl _ rfl rfl ?_; intro w1 hG1 hb1 hs1; clear hs1))
        go_ret
        exact ⟨rfl, HB7.out⟩
      · skip
        by_cases h4 : (n : Int) ≤ j
        · go_enter Try.func5, Try.ntmps5
          go_wp2_with (first
            | (refine wpList_stB (cs := vdC kd (g1, g2, g3) (.slice q5 L c5)) rfl _ _ rfl rfl w5.heap.size rfl rfl hG6 (size_Vd' _ _ _) (vdC_same _ _ _ _ _ _) (vdC_one _ _ _ rfl) ?_; intro w7 hV7 hg7 hs7; have HP7 := (show Hid (Below w5.heap.size w5 w7) from grown_below hb6 hg7 hb6.size (Nat.le_refl _)); have hS7 := (hG4.below hb5).below HP7.out; have HB7 := (show Hid (Below w.heap.size w w7) from bt (bt HB2.out HB4.out) (bt hb5 HP7.out)); have HV7 := (show Hid (GB w7 w5.heap.size 42 (vdC kd (g1, g2, g3) (.slice q5 L c5))) from hV7); have HS5 := (show Hid (w5.heap.size < w7.heap.size) from hV7.lt); have HS2 := (show Hid (w2.heap.size < w7.heap.size) from Nat.lt_of_lt_of_le HS2.out (bt hb5 HP7.out).size); obtain ⟨m3, m4, m5⟩ := mv_cells ((HM4.out.below hb5).below HP7.out); clear hG4 hV7 hb5; clear hs7 hg7 hG6 hb6)
            | (refine wpList_alB rfl rfl vd0 ?_; intro w6 hG6 hb6 hs6; have hu := hb5; clear hu hs6)
            | (go_at_call 10; refine Calls.mono (JU.out _ (bt HB2.out HB4.out)) ?_; rintro e w5 ⟨q5, c5, rfl, hb5⟩)
            | (refine wpList_ldB rfl _ rfl w2.heap.size rfl hG4 Try.underlying23 (size_Sp' _ _ _) ?_)
            | (refine wpList_stB (cs := shC k m b) rfl _ _ rfl rfl w2.heap.size rfl rfl hG3 (size_Sp' _ _ _) (shC_same _ _ _ _ _ _) (shC_one _ _ _) ?_; intro w4 hG4 hg4 hs4; have HB4 := (show Hid (Below w2.heap.size w2 w4) from grown_below hb3 hg4 hb3.size (Nat.le_refl _)); have HM4 := (show Hid _ from hG2.below HB4.out); obtain ⟨m3, m4, m5⟩ := mv_cells HM4.out; have HS2 := (show Hid (w2.heap.size < w4.heap.size) from hG4.lt); clear hG2 hG3 hg4 hs4 hb3 hr2)
            | (refine wpList_alB rfl rfl zero_Sp ?_; intro w3 hG3 hb3 hs3; clear hs3)
            | (refine wpList_ldAt rfl _ _ rfl w.heap.size 0 rfl _ hr2 ?_)
            | (go_at_call 6; refine (awake_any _).mono ?_; rintro e w2 ⟨rfl, hb2⟩; have hG2 := hG1.below hb2; have hr2 := mv_run hG2; have HB2 := (show Hid (Below w.heap.size w w2) from bt hb1 hb2); clear hG1 hb1 hb2)
            | (refine wpList_bxB rfl _ rfl rfl ?_; intro w1 hG1 hb1 hs1; clear hs1))
          go_ret
          exact ⟨rfl, HB7.out⟩
        · skip
          obtain ⟨I, rfl⟩ : ∃ I : Nat, i = (I : Int) := ⟨i.toNat, by omega⟩
          obtain ⟨J, rfl⟩ : ∃ J : Nat, j = (J : Int) := ⟨j.toNat, by omega⟩
          have hi : (I : Int) < (n : Int) := by omega
          have hj : (J : Int) < (n : Int) := by omega
          have HI0 := (show Hid (I < n) from by show _ < _; omega)
          have HJ0 := (show Hid (J < n) from by show _ < _; omega)
          obtain ⟨b0, o0, rfl, _⟩ := HL.out.at HI0.out
          have HLs := (show Hid (∀ W : World, Below w.heap.size w W → SnAt W b0 (o0 + I * 19) (ss I) ∧ SnAt W b0 (o0 + J * 19) (ss J)) from fun W hW => by
            obtain ⟨b1, o1, e1, h1⟩ := (HL.out.below hW).at HI0.out
            obtain ⟨b2, o2, e2, h2⟩ := (HL.out.below hW).at HJ0.out
            have e1 := Option.some.inj e1
            have e2 := Option.some.inj e2
            injection e1 with e3 e4
            injection e2 with e5 e6
            subst e3 e4 e5 e6
            exact ⟨h1, h2⟩)
          by_cases hk : kd = 1
          · subst hk
            by_cases hq : (ss I).kd = 1
            · have HK1 := (show Hid ((ss I).kd = 1) from hq)
              have HKD := (show Hid ((1 : Int) = 1) from rfl)
              have wl : wrap64 ((L : Int) + 1) = (L : Int) + 1 := by have := HPL.out; unfold wrap64; omega
              clear hq
              go_enter Try.func5, Try.ntmps5
              go_wp2_with (first
                | (refine wpList_stB (cs := vdC 1 (g1, g2, g3) (.slice q17 (L + 1) c17)) rfl _ _ rfl rfl w17.heap.size rfl rfl hG18 (size_Vd' _ _ _) (vdC_same _ _ _ _ _ _) (vdC_one _ _ _ rfl) ?_; intro w19 hV19 hg19 hs19; have HP19 := (show Hid (Below w17.heap.size w17 w19) from grown_below hb18 hg19 hb18.size (Nat.le_refl _)); have HB19 := (show Hid (Below w13.heap.size w13 w19) from bt HB16.out (bt hb17 HP19.out)); have hV7 := HV16.out.below (bt hb17 HP19.out); have ca0 := hV7.cell 0; have ca1 := hV7.cell 1; have ca2 := hV7.cell 2; have ca3 := hV7.cell 3; have ca4 := hV7.cell 4; unfold vdC at ca0 ca1 ca2 ca3 ca4; simp only [List.getElem?_toArray, List.getElem?_cons_zero, List.getElem?_cons_succ] at ca0 ca1 ca2 ca3 ca4; have cb0 := hV19.cell 0; have cb1 := hV19.cell 1; have cb2 := hV19.cell 2; have cb3 := hV19.cell 3; have cb4 := hV19.cell 4; unfold vdC at cb0 cb1 cb2 cb3 cb4; simp only [List.getElem?_toArray, List.getElem?_cons_zero, List.getElem?_cons_succ] at cb0 cb1 cb2 cb3 cb4; clear hS16 hV7 hV19 hb17; clear hs19 hg19 hG18 hb18)
                | (refine wpList_alB rfl rfl vd0 ?_; intro w18 hG18 hb18 hs18; have hu := hb17; clear hu hs18)
                | (go_at_call 10; refine Calls.mono (JM.out _ w13.heap.size g14 cap14 I es' HE'.out HI0.out HK1.out HKD.out HO16.out) ?_; rintro e w17 ⟨q17, c17, rfl, hb17⟩)
                | (refine wpList_ldB rfl _ rfl w2.heap.size rfl hS16 Try.underlying23 (size_Sp' _ _ _) ?_)
                | (refine wpList_stS rfl _ _ rfl rfl w13.heap.size g14 cap14 I es' (snW (g1, g2, g3)) rfl rfl rfl (by rw [HEL'.out]; exact HI0.out) (by rw [HEL'.out]; exact HO15.out) ?_; intro w16 hO16 hg16 hs16; rw [List.length_set, HEL'.out] at hO16; have HB16 := (show Hid (Below w13.heap.size w13 w16) from grown_below HB15.out hg16 HB15.out.size HG14.out); have HO16 := (show Hid (Os w16 w13.heap.size (.slice (some ⟨g14, 0, none⟩) n cap14) (es'.set I (snW (g1, g2, g3)))) from hO16); have hS16 := hS15.kept hg16 (fun e => by have e2 := Option.some.inj e; have h1 := HG14.out; have h2 := HS2.out; have h3 := HB13.out.size; omega); have HV16 := (show Hid _ from HV15.out.kept hg16 (fun e => by have e2 := Option.some.inj e; have h1 := HG14.out; have h2 := HS5.out; have h3 := HB13.out.size; omega)); clear hO16 hg16 hs16 hS15)
                | (go_at_call 16; refine (rshown_any (g1, g2, g3) _).mono ?_; rintro e w15 ⟨rfl, hb15⟩; have HO15 := (show Hid (Os w15 w13.heap.size (.slice (some ⟨g14, 0, none⟩) n cap14) es') from HO14.out.below hb15); have hS15 := hS14.below hb15; have HV15 := (show Hid _ from HV14.out.below hb15); have HB15 := (show Hid (Below w13.heap.size w13 w15) from bt HB14.out hb15); clear hS14 hb15 ca0 ca1 ca2 ca3 ca4)
                | (go_at_call 15; have hu := HB13; clear hu; refine (copied_any (HL.out.below (bt HB7.out HB13.out)) HN.out (HBl.out.below (bt HB7.out HB13.out))).mono ?_; rintro e w14 ⟨v14, rfl, hC14, hb14⟩; obtain ⟨es', hO14, hE14⟩ := hC14; have HE' := (show Hid (CEs es' ss n) from hE14); have HEL' := (show Hid (es'.length = n) from by have h := hE14; unfold CEs at h; exact h.1); obtain ⟨g14, cap14, e14, hc14⟩ := hO14.some (by have h1 := HEL'.out; have h2 := HI0.out; omega); rw [HEL'.out] at e14; subst e14; have HO14 := (show Hid (Os w14 w13.heap.size (.slice (some ⟨g14, 0, none⟩) n cap14) es') from hO14); have HG14 := (show Hid (w13.heap.size ≤ g14) from os_base hO14); have hS14 := hS13.below hb14; have HV14 := (show Hid (GB w14 w5.heap.size 42 (vdC 1 (g1, g2, g3) (.slice q5 L c5))) from (HV7.out.below HB13.out).below hb14); have HB14 := (show Hid (Below w13.heap.size w13 w14) from hb14); clear ca0 ca1 ca2 ca3 ca4 cb0 cb1 cb2 cb3 cb4 cI; have hV14 := HV14.out; have ca0 := hV14.cell 0; have ca1 := hV14.cell 1; have ca2 := hV14.cell 2; have ca3 := hV14.cell 3; have ca4 := hV14.cell 4; unfold vdC at ca0 ca1 ca2 ca3 ca4; simp only [List.getElem?_toArray, List.getElem?_cons_zero, List.getElem?_cons_succ] at ca0 ca1 ca2 ca3 ca4; clear hO14 hE14 hc14 hS13 hb14 hV14)
                | (refine wpList_stB (cs := vdC 1 (g1, g2, g3) (.slice q11 L c11)) rfl _ _ rfl rfl w11.heap.size rfl rfl hG12 (size_Vd' _ _ _) (vdC_same _ _ _ _ _ _) (vdC_one _ _ _ rfl) ?_; intro w13 hV13 hg13 hs13; have HP13 := (show Hid (Below w11.heap.size w11 w13) from grown_below hb12 hg13 hb12.size (Nat.le_refl _)); have hS13 := (hS10.below hb11).below HP13.out; have HB13 := (show Hid (Below w7.heap.size w7 w13) from bt HB10.out (bt hb11 HP13.out)); have hV7 := HV7.out.below HB13.out; have ca0 := hV7.cell 0; have ca1 := hV7.cell 1; have ca2 := hV7.cell 2; have ca3 := hV7.cell 3; have ca4 := hV7.cell 4; unfold vdC at ca0 ca1 ca2 ca3 ca4; simp only [List.getElem?_toArray, List.getElem?_cons_zero, List.getElem?_cons_succ] at ca0 ca1 ca2 ca3 ca4; have cb0 := hV13.cell 0; have cb1 := hV13.cell 1; have cb2 := hV13.cell 2; have cb3 := hV13.cell 3; have cb4 := hV13.cell 4; unfold vdC at cb0 cb1 cb2 cb3 cb4; simp only [List.getElem?_toArray, List.getElem?_cons_zero, List.getElem?_cons_succ] at cb0 cb1 cb2 cb3 cb4; have cI := (HLs.out _ (bt HB7.out HB13.out)).1.cells.kd; rw [HK1.out] at cI; clear hS10 hV7 hV13 hb11; clear hs13 hg13 hG12 hb12)
                | (refine wpList_alB rfl rfl vd0 ?_; intro w12 hG12 hb12 hs12; have hu := hb11; clear hu hs12)
                | (go_at_call 10; refine Calls.mono (JS.out _ w7.heap.size g8 cap8 I J es HE.out HI0.out HJ0.out HO10.out) ?_; rintro e w11 ⟨q11, c11, rfl, hb11⟩)
                | (refine wpList_ldB rfl _ rfl w2.heap.size rfl hS10 Try.underlying23 (size_Sp' _ _ _) ?_)
                | (refine wpList_stS rfl _ _ rfl rfl w7.heap.size g8 cap8 J (es.set I (ss J)) (ss I) (H1H.out I HI0.out) rfl rfl (by rw [List.length_set, HEL.out]; exact HJ0.out) (by rw [List.length_set, HEL.out]; exact HO9.out) ?_; intro w10 hO10 hg10 hs10; rw [List.length_set, List.length_set, HEL.out] at hO10; have HB10 := (show Hid (Below w7.heap.size w7 w10) from grown_below HB9.out hg10 HB9.out.size HG8.out); have HO10 := (show Hid (Os w10 w7.heap.size (.slice (some ⟨g8, 0, none⟩) n cap8) ((es.set I (ss J)).set J (ss I))) from hO10); have hS10 := hS9.kept hg10 (fun e => by have e2 := Option.some.inj e; have h1 := HG8.out; have h2 := HS2.out; omega); clear hO10 hg10 hs10 rI9 hS9)
                | (refine wpList_ldAt rfl _ _ rfl b0 (o0 + I * 19) rfl _ rI9 ?_)
                | (refine wpList_stS rfl _ _ rfl rfl w7.heap.size g8 cap8 I es (ss J) (H1H.out J HJ0.out) rfl rfl (by rw [HEL.out]; exact HI0.out) (by rw [HEL.out]; exact HO8.out) ?_; intro w9 hO9 hg9 hs9; rw [List.length_set, HEL.out] at hO9; have HB9 := (show Hid (Below w7.heap.size w7 w9) from grown_below HB8.out hg9 HB8.out.size HG8.out); have HO9 := (show Hid (Os w9 w7.heap.size (.slice (some ⟨g8, 0, none⟩) n cap8) (es.set I (ss J))) from hO9); have rI9 := (HLs.out _ (bt HB7.out HB9.out)).1.run; have hS9 := hS8.kept hg9 (fun e => by have e2 := Option.some.inj e; have h1 := HG8.out; have h2 := HS2.out; omega); clear hO9 hg9 hs9 rJ8 hS8)
                | (refine wpList_ldAt rfl _ _ rfl b0 (o0 + J * 19) rfl _ rJ8 ?_)
                | (go_at_call 15; refine (copied_any (HL.out.below HB7.out) HN.out (HBl.out.below HB7.out)).mono ?_; rintro e w8 ⟨v8, rfl, hC8, hb8⟩; obtain ⟨es, hO8, hE8⟩ := hC8; have HE := (show Hid (CEs es ss n) from hE8); have HEL := (show Hid (es.length = n) from by have h := hE8; unfold CEs at h; exact h.1); obtain ⟨g8, cap8, e8, hc8⟩ := hO8.some (by have h1 := HEL.out; have h2 := HI0.out; omega); rw [HEL.out] at e8; subst e8; have HO8 := (show Hid (Os w8 w7.heap.size (.slice (some ⟨g8, 0, none⟩) n cap8) es) from hO8); have HG8 := (show Hid (w7.heap.size ≤ g8) from os_base hO8); have hS8 := hS7.below hb8; have rJ8 := (HLs.out _ (bt HB7.out hb8)).2.run; have HB8 := (show Hid (Below w7.heap.size w7 w8) from hb8); clear hO8 hE8 hc8 hS7 hb8)
                | (refine wpList_stB (cs := vdC 1 (g1, g2, g3) (.slice q5 L c5)) rfl _ _ rfl rfl w5.heap.size rfl rfl hG6 (size_Vd' _ _ _) (vdC_same _ _ _ _ _ _) (vdC_one _ _ _ rfl) ?_; intro w7 hV7 hg7 hs7; have HP7 := (show Hid (Below w5.heap.size w5 w7) from grown_below hb6 hg7 hb6.size (Nat.le_refl _)); have hS7 := (hG4.below hb5).below HP7.out; have HB7 := (show Hid (Below w.heap.size w w7) from bt (bt HB2.out HB4.out) (bt hb5 HP7.out)); have HV7 := (show Hid (GB w7 w5.heap.size 42 (vdC 1 (g1, g2, g3) (.slice q5 L c5))) from hV7); have HS5 := (show Hid (w5.heap.size < w7.heap.size) from hV7.lt); have HS2 := (show Hid (w2.heap.size < w7.heap.size) from Nat.lt_of_lt_of_le HS2.out (bt hb5 HP7.out).size); obtain ⟨m3, m4, m5⟩ := mv_cells ((HM4.out.below hb5).below HP7.out); clear hG4 hV7 hb5; clear hs7 hg7 hG6 hb6)
                | (refine wpList_alB rfl rfl vd0 ?_; intro w6 hG6 hb6 hs6; have hu := hb5; clear hu hs6)
                | (go_at_call 10; refine Calls.mono (JU.out _ (bt HB2.out HB4.out)) ?_; rintro e w5 ⟨q5, c5, rfl, hb5⟩)
                | (refine wpList_ldB rfl _ rfl w2.heap.size rfl hG4 Try.underlying23 (size_Sp' _ _ _) ?_)
                | (refine wpList_stB (cs := shC k m b) rfl _ _ rfl rfl w2.heap.size rfl rfl hG3 (size_Sp' _ _ _) (shC_same _ _ _ _ _ _) (shC_one _ _ _) ?_; intro w4 hG4 hg4 hs4; have HB4 := (show Hid (Below w2.heap.size w2 w4) from grown_below hb3 hg4 hb3.size (Nat.le_refl _)); have HM4 := (show Hid _ from hG2.below HB4.out); obtain ⟨m3, m4, m5⟩ := mv_cells HM4.out; have HS2 := (show Hid (w2.heap.size < w4.heap.size) from hG4.lt); clear hG2 hG3 hg4 hs4 hb3 hr2)
                | (refine wpList_alB rfl rfl zero_Sp ?_; intro w3 hG3 hb3 hs3; clear hs3)
                | (refine wpList_ldAt rfl _ _ rfl w.heap.size 0 rfl _ hr2 ?_)
                | (go_at_call 6; refine (awake_any _).mono ?_; rintro e w2 ⟨rfl, hb2⟩; have hG2 := hG1.below hb2; have hr2 := mv_run hG2; have HB2 := (show Hid (Below w.heap.size w w2) from bt hb1 hb2); clear hG1 hb1 hb2)
                | (refine wpList_bxB rfl _ rfl rfl ?_; intro w1 hG1 hb1 hs1; clear hs1))
              go_ret
              exact ⟨rfl, bt (bt HB7.out HB13.out) HB19.out⟩
            · have hq' : ((ss I).kd != 1) = true := by simp [hq]
              clear hq
              go_enter Try.func5, Try.ntmps5
              go_wp2_with (first
                | (refine wpList_stB (cs := vdC 1 (g1, g2, g3) (.slice q11 L c11)) rfl _ _ rfl rfl w11.heap.size rfl rfl hG12 (size_Vd' _ _ _) (vdC_same _ _ _ _ _ _) (vdC_one _ _ _ rfl) ?_; intro w13 hV13 hg13 hs13; have HP13 := (show Hid (Below w11.heap.size w11 w13) from grown_below hb12 hg13 hb12.size (Nat.le_refl _)); have hS13 := (hS10.below hb11).below HP13.out; have HB13 := (show Hid (Below w7.heap.size w7 w13) from bt HB10.out (bt hb11 HP13.out)); have hV7 := HV7.out.below HB13.out; have ca0 := hV7.cell 0; have ca1 := hV7.cell 1; have ca2 := hV7.cell 2; have ca3 := hV7.cell 3; have ca4 := hV7.cell 4; unfold vdC at ca0 ca1 ca2 ca3 ca4; simp only [List.getElem?_toArray, List.getElem?_cons_zero, List.getElem?_cons_succ] at ca0 ca1 ca2 ca3 ca4; have cb0 := hV13.cell 0; have cb1 := hV13.cell 1; have cb2 := hV13.cell 2; have cb3 := hV13.cell 3; have cb4 := hV13.cell 4; unfold vdC at cb0 cb1 cb2 cb3 cb4; simp only [List.getElem?_toArray, List.getElem?_cons_zero, List.getElem?_cons_succ] at cb0 cb1 cb2 cb3 cb4; have cI := (HLs.out _ (bt HB7.out HB13.out)).1.cells.kd; clear hS10 hV7 hV13 hb11; clear hs13 hg13 hG12 hb12)
                | (refine wpList_alB rfl rfl vd0 ?_; intro w12 hG12 hb12 hs12; have hu := hb11; clear hu hs12)
                | (go_at_call 10; refine Calls.mono (JS.out _ w7.heap.size g8 cap8 I J es HE.out HI0.out HJ0.out HO10.out) ?_; rintro e w11 ⟨q11, c11, rfl, hb11⟩)
                | (refine wpList_ldB rfl _ rfl w2.heap.size rfl hS10 Try.underlying23 (size_Sp' _ _ _) ?_)
                | (refine wpList_stS rfl _ _ rfl rfl w7.heap.size g8 cap8 J (es.set I (ss J)) (ss I) (H1H.out I HI0.out) rfl rfl (by rw [List.length_set, HEL.out]; exact HJ0.out) (by rw [List.length_set, HEL.out]; exact HO9.out) ?_; intro w10 hO10 hg10 hs10; rw [List.length_set, List.length_set, HEL.out] at hO10; have HB10 := (show Hid (Below w7.heap.size w7 w10) from grown_below HB9.out hg10 HB9.out.size HG8.out); have HO10 := (show Hid (Os w10 w7.heap.size (.slice (some ⟨g8, 0, none⟩) n cap8) ((es.set I (ss J)).set J (ss I))) from hO10); have hS10 := hS9.kept hg10 (fun e => by have e2 := Option.some.inj e; have h1 := HG8.out; have h2 := HS2.out; omega); clear hO10 hg10 hs10 rI9 hS9)
                | (refine wpList_ldAt rfl _ _ rfl b0 (o0 + I * 19) rfl _ rI9 ?_)
                | (refine wpList_stS rfl _ _ rfl rfl w7.heap.size g8 cap8 I es (ss J) (H1H.out J HJ0.out) rfl rfl (by rw [HEL.out]; exact HI0.out) (by rw [HEL.out]; exact HO8.out) ?_; intro w9 hO9 hg9 hs9; rw [List.length_set, HEL.out] at hO9; have HB9 := (show Hid (Below w7.heap.size w7 w9) from grown_below HB8.out hg9 HB8.out.size HG8.out); have HO9 := (show Hid (Os w9 w7.heap.size (.slice (some ⟨g8, 0, none⟩) n cap8) (es.set I (ss J))) from hO9); have rI9 := (HLs.out _ (bt HB7.out HB9.out)).1.run; have hS9 := hS8.kept hg9 (fun e => by have e2 := Option.some.inj e; have h1 := HG8.out; have h2 := HS2.out; omega); clear hO9 hg9 hs9 rJ8 hS8)
                | (refine wpList_ldAt rfl _ _ rfl b0 (o0 + J * 19) rfl _ rJ8 ?_)
                | (go_at_call 15; refine (copied_any (HL.out.below HB7.out) HN.out (HBl.out.below HB7.out)).mono ?_; rintro e w8 ⟨v8, rfl, hC8, hb8⟩; obtain ⟨es, hO8, hE8⟩ := hC8; have HE := (show Hid (CEs es ss n) from hE8); have HEL := (show Hid (es.length = n) from by have h := hE8; unfold CEs at h; exact h.1); obtain ⟨g8, cap8, e8, hc8⟩ := hO8.some (by have h1 := HEL.out; have h2 := HI0.out; omega); rw [HEL.out] at e8; subst e8; have HO8 := (show Hid (Os w8 w7.heap.size (.slice (some ⟨g8, 0, none⟩) n cap8) es) from hO8); have HG8 := (show Hid (w7.heap.size ≤ g8) from os_base hO8); have hS8 := hS7.below hb8; have rJ8 := (HLs.out _ (bt HB7.out hb8)).2.run; have HB8 := (show Hid (Below w7.heap.size w7 w8) from hb8); clear hO8 hE8 hc8 hS7 hb8)
                | (refine wpList_stB (cs := vdC 1 (g1, g2, g3) (.slice q5 L c5)) rfl _ _ rfl rfl w5.heap.size rfl rfl hG6 (size_Vd' _ _ _) (vdC_same _ _ _ _ _ _) (vdC_one _ _ _ rfl) ?_; intro w7 hV7 hg7 hs7; have HP7 := (show Hid (Below w5.heap.size w5 w7) from grown_below hb6 hg7 hb6.size (Nat.le_refl _)); have hS7 := (hG4.below hb5).below HP7.out; have HB7 := (show Hid (Below w.heap.size w w7) from bt (bt HB2.out HB4.out) (bt hb5 HP7.out)); have HV7 := (show Hid (GB w7 w5.heap.size 42 (vdC 1 (g1, g2, g3) (.slice q5 L c5))) from hV7); have HS5 := (show Hid (w5.heap.size < w7.heap.size) from hV7.lt); have HS2 := (show Hid (w2.heap.size < w7.heap.size) from Nat.lt_of_lt_of_le HS2.out (bt hb5 HP7.out).size); obtain ⟨m3, m4, m5⟩ := mv_cells ((HM4.out.below hb5).below HP7.out); clear hG4 hV7 hb5; clear hs7 hg7 hG6 hb6)
                | (refine wpList_alB rfl rfl vd0 ?_; intro w6 hG6 hb6 hs6; have hu := hb5; clear hu hs6)
                | (go_at_call 10; refine Calls.mono (JU.out _ (bt HB2.out HB4.out)) ?_; rintro e w5 ⟨q5, c5, rfl, hb5⟩)
                | (refine wpList_ldB rfl _ rfl w2.heap.size rfl hG4 Try.underlying23 (size_Sp' _ _ _) ?_)
                | (refine wpList_stB (cs := shC k m b) rfl _ _ rfl rfl w2.heap.size rfl rfl hG3 (size_Sp' _ _ _) (shC_same _ _ _ _ _ _) (shC_one _ _ _) ?_; intro w4 hG4 hg4 hs4; have HB4 := (show Hid (Below w2.heap.size w2 w4) from grown_below hb3 hg4 hb3.size (Nat.le_refl _)); have HM4 := (show Hid _ from hG2.below HB4.out); obtain ⟨m3, m4, m5⟩ := mv_cells HM4.out; have HS2 := (show Hid (w2.heap.size < w4.heap.size) from hG4.lt); clear hG2 hG3 hg4 hs4 hb3 hr2)
                | (refine wpList_alB rfl rfl zero_Sp ?_; intro w3 hG3 hb3 hs3; clear hs3)
                | (refine wpList_ldAt rfl _ _ rfl w.heap.size 0 rfl _ hr2 ?_)
                | (go_at_call 6; refine (awake_any _).mono ?_; rintro e w2 ⟨rfl, hb2⟩; have hG2 := hG1.below hb2; have hr2 := mv_run hG2; have HB2 := (show Hid (Below w.heap.size w w2) from bt hb1 hb2); clear hG1 hb1 hb2)
                | (refine wpList_bxB rfl _ rfl rfl ?_; intro w1 hG1 hb1 hs1; clear hs1))
              go_ret
              exact ⟨rfl, bt HB7.out HB13.out⟩
          · have hk' : (kd != 1) = true := by simp [hk]
            clear hk
            go_enter Try.func5, Try.ntmps5
            go_wp2_with (first
              | (refine wpList_stB (cs := vdC kd (g1, g2, g3) (.slice q11 L c11)) rfl _ _ rfl rfl w11.heap.size rfl rfl hG12 (size_Vd' _ _ _) (vdC_same _ _ _ _ _ _) (vdC_one _ _ _ rfl) ?_; intro w13 hV13 hg13 hs13; have HP13 := (show Hid (Below w11.heap.size w11 w13) from grown_below hb12 hg13 hb12.size (Nat.le_refl _)); have hS13 := (hS10.below hb11).below HP13.out; have HB13 := (show Hid (Below w7.heap.size w7 w13) from bt HB10.out (bt hb11 HP13.out)); have hV7 := HV7.out.below HB13.out; have ca0 := hV7.cell 0; have ca1 := hV7.cell 1; have ca2 := hV7.cell 2; have ca3 := hV7.cell 3; have ca4 := hV7.cell 4; unfold vdC at ca0 ca1 ca2 ca3 ca4; simp only [List.getElem?_toArray, List.getElem?_cons_zero, List.getElem?_cons_succ] at ca0 ca1 ca2 ca3 ca4; have cb0 := hV13.cell 0; have cb1 := hV13.cell 1; have cb2 := hV13.cell 2; have cb3 := hV13.cell 3; have cb4 := hV13.cell 4; unfold vdC at cb0 cb1 cb2 cb3 cb4; simp only [List.getElem?_toArray, List.getElem?_cons_zero, List.getElem?_cons_succ] at cb0 cb1 cb2 cb3 cb4; have cI := (HLs.out _ (bt HB7.out HB13.out)).1.cells.kd; clear hS10 hV7 hV13 hb11; clear hs13 hg13 hG12 hb12)
              | (refine wpList_alB rfl rfl vd0 ?_; intro w12 hG12 hb12 hs12; have hu := hb11; clear hu hs12)
              | (go_at_call 10; refine Calls.mono (JS.out _ w7.heap.size g8 cap8 I J es HE.out HI0.out HJ0.out HO10.out) ?_; rintro e w11 ⟨q11, c11, rfl, hb11⟩)
              | (refine wpList_ldB rfl _ rfl w2.heap.size rfl hS10 Try.underlying23 (size_Sp' _ _ _) ?_)
              | (refine wpList_stS rfl _ _ rfl rfl w7.heap.size g8 cap8 J (es.set I (ss J)) (ss I) (H1H.out I HI0.out) rfl rfl (by rw [List.length_set, HEL.out]; exact HJ0.out) (by rw [List.length_set, HEL.out]; exact HO9.out) ?_; intro w10 hO10 hg10 hs10; rw [List.length_set, List.length_set, HEL.out] at hO10; have HB10 := (show Hid (Below w7.heap.size w7 w10) from grown_below HB9.out hg10 HB9.out.size HG8.out); have HO10 := (show Hid (Os w10 w7.heap.size (.slice (some ⟨g8, 0, none⟩) n cap8) ((es.set I (ss J)).set J (ss I))) from hO10); have hS10 := hS9.kept hg10 (fun e => by have e2 := Option.some.inj e; have h1 := HG8.out; have h2 := HS2.out; omega); clear hO10 hg10 hs10 rI9 hS9)
              | (refine wpList_ldAt rfl _ _ rfl b0 (o0 + I * 19) rfl _ rI9 ?_)
              | (refine wpList_stS rfl _ _ rfl rfl w7.heap.size g8 cap8 I es (ss J) (H1H.out J HJ0.out) rfl rfl (by rw [HEL.out]; exact HI0.out) (by rw [HEL.out]; exact HO8.out) ?_; intro w9 hO9 hg9 hs9; rw [List.length_set, HEL.out] at hO9; have HB9 := (show Hid (Below w7.heap.size w7 w9) from grown_below HB8.out hg9 HB8.out.size HG8.out); have HO9 := (show Hid (Os w9 w7.heap.size (.slice (some ⟨g8, 0, none⟩) n cap8) (es.set I (ss J))) from hO9); have rI9 := (HLs.out _ (bt HB7.out HB9.out)).1.run; have hS9 := hS8.kept hg9 (fun e => by have e2 := Option.some.inj e; have h1 := HG8.out; have h2 := HS2.out; omega); clear hO9 hg9 hs9 rJ8 hS8)
              | (refine wpList_ldAt rfl _ _ rfl b0 (o0 + J * 19) rfl _ rJ8 ?_)
              | (go_at_call 15; refine (copied_any (HL.out.below HB7.out) HN.out (HBl.out.below HB7.out)).mono ?_; rintro e w8 ⟨v8, rfl, hC8, hb8⟩; obtain ⟨es, hO8, hE8⟩ := hC8; have HE := (show Hid (CEs es ss n) from hE8); have HEL := (show Hid (es.length = n) from by have h := hE8; unfold CEs at h; exact h.1); obtain ⟨g8, cap8, e8, hc8⟩ := hO8.some (by have h1 := HEL.out; have h2 := HI0.out; omega); rw [HEL.out] at e8; subst e8; have HO8 := (show Hid (Os w8 w7.heap.size (.slice (some ⟨g8, 0, none⟩) n cap8) es) from hO8); have HG8 := (show Hid (w7.heap.size ≤ g8) from os_base hO8); have hS8 := hS7.below hb8; have rJ8 := (HLs.out _ (bt HB7.out hb8)).2.run; have HB8 := (show Hid (Below w7.heap.size w7 w8) from hb8); clear hO8 hE8 hc8 hS7 hb8)
              | (refine wpList_stB (cs := vdC kd (g1, g2, g3) (.slice q5 L c5)) rfl _ _ rfl rfl w5.heap.size rfl rfl hG6 (size_Vd' _ _ _) (vdC_same _ _ _ _ _ _) (vdC_one _ _ _ rfl) ?_; intro w7 hV7 hg7 hs7; have HP7 := (show Hid (Below w5.heap.size w5 w7) from grown_below hb6 hg7 hb6.size (Nat.le_refl _)); have hS7 := (hG4.below hb5).below HP7.out; have HB7 := (show Hid (Below w.heap.size w w7) from bt (bt HB2.out HB4.out) (bt hb5 HP7.out)); have HV7 := (show Hid (GB w7 w5.heap.size 42 (vdC kd (g1, g2, g3) (.slice q5 L c5))) from hV7); have HS5 := (show Hid (w5.heap.size < w7.heap.size) from hV7.lt); have HS2 := (show Hid (w2.heap.size < w7.heap.size) from Nat.lt_of_lt_of_le HS2.out (bt hb5 HP7.out).size); obtain ⟨m3, m4, m5⟩ := mv_cells ((HM4.out.below hb5).below HP7.out); clear hG4 hV7 hb5; clear hs7 hg7 hG6 hb6)
              | (refine wpList_alB rfl rfl vd0 ?_; intro w6 hG6 hb6 hs6; have hu := hb5; clear hu hs6)
              | (go_at_call 10; refine Calls.mono (JU.out _ (bt HB2.out HB4.out)) ?_; rintro e w5 ⟨q5, c5, rfl, hb5⟩)
              | (refine wpList_ldB rfl _ rfl w2.heap.size rfl hG4 Try.underlying23 (size_Sp' _ _ _) ?_)
              | (refine wpList_stB (cs := shC k m b) rfl _ _ rfl rfl w2.heap.size rfl rfl hG3 (size_Sp' _ _ _) (shC_same _ _ _ _ _ _) (shC_one _ _ _) ?_; intro w4 hG4 hg4 hs4; have HB4 := (show Hid (Below w2.heap.size w2 w4) from grown_below hb3 hg4 hb3.size (Nat.le_refl _)); have HM4 := (show Hid _ from hG2.below HB4.out); obtain ⟨m3, m4, m5⟩ := mv_cells HM4.out; have HS2 := (show Hid (w2.heap.size < w4.heap.size) from hG4.lt); clear hG2 hG3 hg4 hs4 hb3 hr2)
              | (refine wpList_alB rfl rfl zero_Sp ?_; intro w3 hG3 hb3 hs3; clear hs3)
              | (refine wpList_ldAt rfl _ _ rfl w.heap.size 0 rfl _ hr2 ?_)
              | (go_at_call 6; refine (awake_any _).mono ?_; rintro e w2 ⟨rfl, hb2⟩; have hG2 := hG1.below hb2; have hr2 := mv_run hG2; have HB2 := (show Hid (Below w.heap.size w w2) from bt hb1 hb2); clear hG1 hb1 hb2)
              | (refine wpList_bxB rfl _ rfl rfl ?_; intro w1 hG1 hb1 hs1; clear hs1))
            go_ret
            exact ⟨rfl, bt HB7.out HB13.out⟩
end
end Go.Proofs.Ytefomnlgpldgnaa
