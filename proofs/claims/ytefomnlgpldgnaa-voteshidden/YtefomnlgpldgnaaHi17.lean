/-
  VotesHidden.
-/
import Derived.Test.YtefomnlgpldgnaaMo17
import Derived.Test.YtefomnlgpldgnaaBs17
import Derived.Test.YtefomnlgpldgnaaVr17
import Derived.Deep.DeepCutAuto
namespace Go.Proofs.Ytefomnlgpldgnaa
open Go.RowKit
theorem Brd.below {w w' : World} {B : Nat} {v : Value} {N n : Nat} {ss : Nat → Sn} (h : Brd w B v N n ss) (hb : Below w.heap.size w w') : Brd w' B v N n ss := by
  obtain ⟨es, h1, h2⟩ := h
  exact ⟨es, h1.below hb, h2⟩
/-- Some places of a bare list are hidden. -/
def Prt (es ep : List Sn) (N : Nat) : Prop := ep.length = N ∧ ∀ i, i < N → ep.getD i sn0 = es.getD i sn0 ∨ ∃ k, k ≠ 1 ∧ k ≠ 2 ∧ ep.getD i sn0 = snD k
theorem Prt.hide {es ep : List Sn} {N : Nat} (h : Prt es ep N) {a : Nat} (ha : a < N) {k : Int} (h1 : k ≠ 1) (h2 : k ≠ 2) : Prt es (ep.set a (snD k)) N := by
  refine ⟨by rw [List.length_set]; exact h.1, fun i hi => ?_⟩
  rw [get_set _ _ _ (by rw [h.1]; exact ha)]
  by_cases e : i = a
  · rw [if_pos e]; exact .inr ⟨k, h1, h2, rfl⟩
  · rw [if_neg e]; exact h.2 i hi
theorem hdn_iff17 (s : Shs) (i : Nat) : hdn s i = true ↔ (s i).1 ≠ 2 ∧ (s i).1 ≠ 1 := by unfold hdn; simp
def lsS (es : List Sn) : Shs := shs fun i => es.getD i sn0
/-- Has what is hidden its like elsewhere? -/
def els (f p : Shs) (N t : Nat) : Bool := (List.range t).all fun i => !(hdn p i && decide ((f i).1 = 2) && decide (cn p N (f i).2 = 0))
theorem els_succ (f p : Shs) (N t : Nat) : els f p N (t + 1) = (els f p N t && !(hdn p t && decide ((f t).1 = 2) && decide (cn p N (f t).2 = 0))) := by
  unfold els
  rw [List.range_succ, List.all_append]
  simp
theorem els_iff {f p : Shs} {N : Nat} (h : els f p N N = true) : ∀ i, i < N → hdn p i = true → (f i).1 = 2 → cn p N (f i).2 ≠ 0 := fun i hi h1 h2 h3 => by
  unfold els at h
  rw [List.all_eq_true] at h
  have := h i (List.mem_range.2 hi)
  simp [h1, h2, h3] at this
theorem tmod_lt (z : Int) {N : Nat} (h : 2 ≤ N) : -(N : Int) < z.tmod N ∧ z.tmod N < N := by
  have h1 := Int.tmod_lt_of_pos z (b := (N : Int)) (by omega)
  have h2 := Int.lt_tmod_of_pos z (b := (N : Int)) (by omega)
  exact ⟨h2, h1⟩
theorem prt_hdd {es ep : List Sn} {N n : Nat} {ss : Nat → Sn} (h : Prt es ep N) (hg : ∀ i, i < N → es.getD i sn0 = brS ss n i) : Hdd (lsS es) (lsS ep) N := by
  refine ⟨fun i hi => ?_, fun i hi => ?_⟩
  · have e : (lsS es i).1 = (brS ss n i).kd := by show (es.getD i sn0).kd = _; rw [hg i hi]
    unfold hdn
    rw [e]
    unfold brS
    split <;> rfl
  · rcases h.2 i hi with e | ⟨k, h1, h2, e⟩
    · left
      show ((ep.getD i sn0).kd, (ep.getD i sn0).wg) = ((es.getD i sn0).kd, (es.getD i sn0).wg)
      rw [e]
    · right
      have e2 : (lsS ep i).1 = k := by show (ep.getD i sn0).kd = _; rw [e]; rfl
      unfold hdn
      rw [e2]
      simp [h1, h2]
theorem br_in {es : List Sn} {N n : Nat} {ss : Nat → Sn} (hI : ∀ i, i < n → InW (ss i).wg) (hg : ∀ i, i < N → es.getD i sn0 = brS ss n i) : ∀ i, i < N → InW (es.getD i sn0).wg ∧ (es.getD i sn0).bv.oneCell' = true := fun i hi => by
  rw [hg i hi]
  unfold brS
  split
  · rename_i h; exact ⟨hI i h.1, rfl⟩
  · exact ⟨inWd 1, rfl⟩
theorem prt_in {es ep : List Sn} {N : Nat} (h : Prt es ep N) (hg : ∀ i, i < N → InW (es.getD i sn0).wg ∧ (es.getD i sn0).bv.oneCell' = true) : ∀ i, i < N → InW (ep.getD i sn0).wg ∧ (ep.getD i sn0).bv.oneCell' = true := fun i hi => by
  rcases h.2 i hi with e | ⟨k, _, _, e⟩
  · rw [e]; exact hg i hi
  · rw [e]; exact ⟨inWd k, rfl⟩
theorem os_shows {W : World} {B g cap N : Nat} {es : List Sn} (hl : es.length = N) (hN : N ≤ 255) (h : Os W B (.slice (some ⟨g, 0, none⟩) N cap) es) (q : Wg) :
    Calls Try.prog 9 #[.slice (some ⟨g, 0, none⟩) N cap, .agg #[.int .i64 q.1, .int .i64 q.2.1], .int .i64 q.2.2] W fun e w' => e = .returned (.int .i64 (cn (lsS es) N q : Int)) ∧ Below W.heap.size W w' := by
  obtain ⟨p', c', e, hS⟩ := os_snl h
  rw [hl] at hS e
  injection e with e1 _ e2
  subst e1 e2
  exact shows_any hS (by omega) q
theorem os_poss {k m b : Int} (hm : In64 m) {W : World} {B g cap N : Nat} {es : List Sn} (hf : fitB k m b N = true) (hl : es.length = N) (hN : N ≤ 255) (h : Os W B (.slice (some ⟨g, 0, none⟩) N cap) es) (h1 : ∀ t, t < N → InW (es.getD t sn0).wg ∧ (es.getD t sn0).bv.oneCell' = true) :
    Calls Try.prog 11 #[.agg (shC k m b), .slice (some ⟨g, 0, none⟩) N cap] W fun e w' => ∃ v, e = .returned (.tuple #[v, .bool (pss k (hid (lsS es) N) (grps (lsS es) N)).2]) ∧ Rgl w' v (pss k (hid (lsS es) N) (grps (lsS es) N)).1 ∧ Below W.heap.size W w' := by
  obtain ⟨p', c', e, hS⟩ := os_snl h
  rw [hl] at hS e
  injection e with e1 _ e2
  subst e1 e2
  have h2 := possible_any k m b hm (c := cap) hS (by omega) (fun i hi => (h1 i hi).1) (fun i hi => (h1 i hi).2)
  rw [if_pos hf, if_pos hf] at h2
  exact h2
theorem pss_lenM (K : Int) (h : Nat) (l : List Grp) : (pss K h l).1.length ≤ l.length := by
  unfold pss
  split
  · exact Nat.le_trans (List.length_filter_le _ _) (by rw [List.length_take]; omega)
  · exact List.length_filter_le _ _
theorem rgl_cells {w : World} {v : Value} {L : List Grp} (h : Rgl w v L) : ∃ p c, v = .slice p L.length c ∧ ∀ i, i < L.length → ∃ b o, p = some ⟨b, o, none⟩ ∧ w.cell? ⟨b, o + i * 4, none⟩ = some (.int .i64 (L.getD i ((0, 0, 0), [])).1.1) ∧ w.cell? ⟨b, o + i * 4 + 1, none⟩ = some (.int .i64 (L.getD i ((0, 0, 0), [])).1.2.1) ∧ w.cell? ⟨b, o + i * 4 + 2, none⟩ = some (.int .i64 (L.getD i ((0, 0, 0), [])).1.2.2) := by
  obtain ⟨p, c, B, es, e, _, hA, h⟩ := h
  refine ⟨p, c, e, fun i hi => ?_⟩
  rcases h with h | ⟨b, o, e2, h⟩
  · subst h; simp at hi
  · refine ⟨b, o, e2, ?_⟩
    rw [← (hA.2 i hi).1]
    exact ⟨h i hi 0 _ rfl, h i hi 1 _ rfl, h i hi 2 _ rfl⟩
theorem nx_no {QL : List Grp} {v : Wg} {t : Nat} (h : ∀ j, j < t → (QL.getD j ((0, 0, 0), [])).1 ≠ v) (h1 : (QL.getD t ((0, 0, 0), [])).1 ≠ v) : ∀ j, j < t + 1 → (QL.getD j ((0, 0, 0), [])).1 ≠ v := fun j hj => by
  by_cases e : j = t
  · rw [e]; exact h1
  · exact h j (by omega)
theorem prt_len {es ep : List Sn} {N : Nat} (h : Prt es ep N) : ep.length = N := h.1
section
attribute [local irreducible] Calls GB Sn.cs shC vdC Os cn els jdg grps pss Prt
set_option maxHeartbeats 16000000 in
set_option maxRecDepth 1000000 in
theorem votesHidden_walk (k m b : Int) (hm : In64 m) {w : World} {p : Option Addr} {n c : Nat} {ss : Nat → Sn} (HS : SnL w p n ss) (hI : ∀ i, i < n → InW (ss i).wg) {hp : Option Addr} {hc : Nat} {zs : List Int} (hz : Rz w hp zs) (hzi : ∀ z ∈ zs, In64 z) (hzn : zs.length ≤ 17592186043904) :
    Calls Try.prog 3 #[.agg (shC k m b), .slice p n c, .slice hp zs.length hc] w fun e w' => e = .returned (.bool true) ∧ Below w.heap.size w w' := by
  have HL := (show Hid (SnL w p n ss) from HS)
  have HZ := (show Hid (Rz w hp zs) from hz)
  have HZI := (show Hid (∀ z ∈ zs, In64 z) from hzi)
  have HZN := (show Hid (zs.length ≤ 17592186043904) from hzn)
  have FT := (show Hid (∀ W : World, _) from fun W => rfits_any k m b W)
  cases hs : shB k m b with
  | false =>
    rw [hs] at FT
    clear hs hI hz hzi hzn HS hm
    go_enter Try.func3, Try.ntmps3
    go_wp2_with (first
      | (refine wpList_bxB rfl _ rfl rfl ?_; intro w1 hG1 hb1 hs1; clear hs1)
      | (go_at_call 6; refine (awake_any _).mono ?_; rintro e w2 ⟨rfl, hb2⟩; have hG2 := hG1.below hb2)
      | (refine wpList_ldB rfl _ rfl w.heap.size rfl hG2 Try.underlying23 (size_Sp' _ _ _) ?_)
      | (go_at_call 7; refine (FT.out _).mono ?_; rintro e w3 ⟨rfl, hb3⟩))
    go_ret
    exact ⟨rfl, bt (bt hb1 hb2) hb3⟩
  | true =>
    rw [hs] at FT
    have hsh := (shB_iff k m b).1 hs
    unfold shp at hsh
    obtain ⟨N, hN⟩ : ∃ N : Nat, (N : Int) = k + m := ⟨(k + m).toNat, by omega⟩
    have HN := (show Hid (2 ≤ N ∧ N ≤ 255) from ⟨by omega, by omega⟩)
    have HKM := (show Hid ((N : Int) = k + m) from hN)
    have hfit : fitB k m b N = true := by unfold fitB; rw [hs, decide_eq_true hN]; rfl
    have HF := (show Hid (fitB k m b N = true) from hfit)
    have BR := (show Hid (∀ W : World, Below w.heap.size w W → Calls Try.prog 8 #[.agg (shC k m b), .slice p n c] W fun e w' => ∃ v, e = .returned v ∧ Brd w' W.heap.size v N n ss ∧ Below W.heap.size W w') from fun W hW => bare_any hs hN (HS.below hW))
    have HM := (show Hid (In64 m) from hm)
    have HIw := (show Hid (∀ i, i < n → InW (ss i).wg) from hI)
    clear hs hsh hN hfit hI hz hzi hzn HS hm
    go_enter Try.func3, Try.ntmps3
    go_wp2_with (first
      | (go_at_call 8; refine (BR.out _ HB5.out).mono ?_; rintro e w6 ⟨v6, rfl, hR6, hb6⟩; have hG6 := hG5.below hb6; obtain ⟨ep, hOp, hlp, hgp⟩ := hR6; obtain ⟨g6, cap6, e6, hc6⟩ := hOp.some (by have := HN.out; omega); rw [hlp] at e6; subst e6; have HOp := (show Hid (Os w6 w5.heap.size (.slice (some ⟨g6, 0, none⟩) N cap6) ep) from hOp); have HP0 := (show Hid (Prt es ep N) from by show Prt _ _ _; unfold Prt; exact ⟨hlp, fun i hi => .inl (by rw [hgp i hi, HGE.out i hi])⟩); have HG5 := (show Hid (GB w5 w.heap.size 23 (shC k m b)) from hG5); have HB6 := (show Hid (Below w5.heap.size w5 w6) from hb6); have HG6 := (show Hid (w5.heap.size ≤ g6) from os_base hOp); clear hG6 hG5 hOp hlp hgp hc6 hb6)
      | (refine wpList_ldB rfl _ rfl w.heap.size rfl hG5 Try.underlying23 (size_Sp' _ _ _) ?_)
      | (go_at_call 8; refine (BR.out _ HB3.out).mono ?_; rintro e w5 ⟨v5, rfl, hR5, hb5⟩; have hG5 := hG3.below hb5; obtain ⟨es, hOe, hle, hge⟩ := hR5; obtain ⟨g5, cap5, e5, hc5⟩ := hOe.some (by have := HN.out; omega); rw [hle] at e5; subst e5; have HOe := (show Hid (Os w5 w3.heap.size (.slice (some ⟨g5, 0, none⟩) N cap5) es) from hOe); have HLE := (show Hid (es.length = N) from hle); have HGE := (show Hid (∀ i, i < N → es.getD i sn0 = brS ss n i) from hge); have HB5 := (show Hid (Below w.heap.size w w5) from bt HB3.out hb5); clear hOe hle hge hc5 hG3 hb5)
      | (refine wpList_ldB rfl _ rfl w.heap.size rfl hG3 Try.underlying23 (size_Sp' _ _ _) ?_)
      | (go_at_call 7; refine (FT.out _).mono ?_; rintro e w3 ⟨rfl, hb3⟩; have hG3 := hG2.below hb3; have HB3 := (show Hid (Below w.heap.size w w3) from bt (bt hb1 hb2) hb3); clear hG2 hb1 hb2 hb3)
      | (refine wpList_ldB rfl _ rfl w.heap.size rfl hG2 Try.underlying23 (size_Sp' _ _ _) ?_)
      | (go_at_call 6; refine (awake_any _).mono ?_; rintro e w2 ⟨rfl, hb2⟩; have hG2 := hG1.below hb2; clear hG1)
      | (refine wpList_bxB rfl _ rfl rfl ?_; intro w1 hG1 hb1 hs1; clear hs1))
    go_loopw [12] (fun i wr => ∃ (t : Nat) (ep : List Sn), t ≤ zs.length ∧ i = .int .i64 (t : Int) ∧ Hid (Os wr w5.heap.size (.slice (some ⟨g6, 0, none⟩) N cap6) ep) ∧ Hid (Prt es ep N) ∧ Hid (Below w5.heap.size w5 wr)) (fun i _ => zs.length - (intOf i).toNat)
    case atStart => exact ⟨0, ep, Nat.zero_le _, rfl, HOp, HP0, HB6⟩
    case round =>
      clear HOp HP0 HB6
      clear ep
      obtain ⟨t, ep, ht, rfl, hO, hP, hB⟩ := hrel
      by_cases hlt : t < zs.length
      · have hi : (t : Int) < (zs.length : Int) := by omega
        obtain ⟨bz, oz, rfl, hcz⟩ := rz_at HZ.out rfl t hlt
        have cz := cell_below hcz (bt HB5.out hB.out)
        have WT := (show Hid (wrap64 ((t : Int) + 1) = ((t + 1 : Nat) : Int)) from by have := HZN.out; show _ = _; unfold wrap64; omega)
        have HT := (show Hid (t < zs.length) from hlt)
        obtain ⟨z, hz⟩ : ∃ z, zs.getD t 0 = z := ⟨_, rfl⟩
        rw [hz] at cz
        have hN0 : (N : Int) ≠ 0 := by have := HN.out; omega
        obtain ⟨W0, hW0⟩ : ∃ W0, W0 = wr := ⟨_, rfl⟩
        subst hW0
        clear hlt ht hcz
        have HKQ := (show Hid ((3 : Int) + (t : Int) % 2 ≠ 1 ∧ (3 : Int) + (t : Int) % 2 ≠ 2) from by show _ ∧ _; omega)
        by_cases hneg : z.tmod (N : Int) < 0
        · obtain ⟨a, ha⟩ : ∃ a : Nat, z.tmod (N : Int) + (N : Int) = (a : Int) := ⟨(z.tmod (N : Int) + (N : Int)).toNat, by have := (tmod_lt z HN.out.1).1; omega⟩
          have hai : (a : Int) < (N : Int) := by omega
          have HA := (show Hid (a < N) from by show _ < _; omega)
          have ha2 : wrap64 (z.tmod (N : Int) + (N : Int)) = (a : Int) := by rw [ha]; have := HN.out.2; unfold wrap64; omega
          clear ha
          go_wp2_with (first
            | (refine wpList_stS rfl _ _ rfl rfl w5.heap.size g6 cap6 a ep (snD (3 + (t : Int) % 2)) rfl rfl (snD_cs _) (by rw [(prt_len hP.out)]; exact HA.out) (by rw [(prt_len hP.out)]; exact hO.out) ?_; intro w8 hO8 hg8 hs8; rw [List.length_set, prt_len hP.out] at hO8))
          go_roundw
          case rel => exact ⟨t + 1, _, HT.out, by first | rw [WT.out] | go_num, hO8, hP.out.hide HA.out HKQ.out.1 HKQ.out.2, grown_below hB.out hg8 hB.out.size HG6.out⟩
          case measure => first | (rw [WT.out]; exact meas_v17 HT.out) | exact meas_v17 HT.out
        · obtain ⟨a, ha⟩ : ∃ a : Nat, z.tmod (N : Int) = (a : Int) := ⟨(z.tmod (N : Int)).toNat, by omega⟩
          have hai : (a : Int) < (N : Int) := by have := (tmod_lt z HN.out.1).2; omega
          have HA := (show Hid (a < N) from by show _ < _; omega)
          clear hneg
          go_wp2_with (first
            | (refine wpList_stS rfl _ _ rfl rfl w5.heap.size g6 cap6 a ep (snD (3 + (t : Int) % 2)) rfl rfl (snD_cs _) (by rw [(prt_len hP.out)]; exact HA.out) (by rw [(prt_len hP.out)]; exact hO.out) ?_; intro w8 hO8 hg8 hs8; rw [List.length_set, prt_len hP.out] at hO8))
          go_roundw
          case rel => exact ⟨t + 1, _, HT.out, by first | rw [WT.out] | go_num, hO8, hP.out.hide HA.out HKQ.out.1 HKQ.out.2, grown_below hB.out hg8 hB.out.size HG6.out⟩
          case measure => first | (rw [WT.out]; exact meas_v17 HT.out) | exact meas_v17 HT.out
      · obtain rfl : t = zs.length := by omega
        have hnn : ¬ ((zs.length : Int) < (zs.length : Int)) := by omega
        obtain ⟨W2, hW2⟩ : ∃ W2, W2 = wr := ⟨_, rfl⟩
        subst hW2
        have HOp := (show Hid (Os W2 w5.heap.size (.slice (some ⟨g6, 0, none⟩) N cap6) ep) from hO.out)
        have HPT := (show Hid (Prt es ep N) from hP.out)
        have HB2 := (show Hid (Below w5.heap.size w5 W2) from hB.out)
        have HOf := (show Hid (Os W2 w3.heap.size (.slice (some ⟨g5, 0, none⟩) N cap5) es) from HOe.out.below hB.out)
        have HGS := (show Hid (GB W2 w.heap.size 23 (shC k m b)) from HG5.out.below hB.out)
        clear hO hP hB ht hlt
        go_wp2_with (fail)
        have HDD := (show Hid (Hdd (lsS es) (lsS ep) N) from prt_hdd HPT.out HGE.out)
        have HIE := br_in HIw.out HGE.out
        have HIP := prt_in HPT.out HIE
        have JF := (show Hid (∀ W : World, Below W2.heap.size W2 W → JAns k m b (.slice (some ⟨g5, 0, none⟩) N cap5) W (jdg k m b (lsS es) N).kd (jdg k m b (lsS es) N).wg (jdg k m b (lsS es) N).pl.length) from fun W hW => jans_of (os_judge k m b HM.out HLE.out (by have := HN.out; omega) (HOf.out.below hW) HIE) rfl rfl rfl)
        have JP := (show Hid (∀ W : World, Below W2.heap.size W2 W → JAns k m b (.slice (some ⟨g6, 0, none⟩) N cap6) W (jdg k m b (lsS ep) N).kd (jdg k m b (lsS ep) N).wg (jdg k m b (lsS ep) N).pl.length) from fun W hW => jans_of (os_judge k m b HM.out (prt_len HPT.out) (by have := HN.out; omega) (HOp.out.below hW) HIP) rfl rfl rfl)
        have SF := (show Hid (∀ W : World, Below W2.heap.size W2 W → ∀ q : Wg, Calls Try.prog 9 #[.slice (some ⟨g5, 0, none⟩) N cap5, .agg #[.int .i64 q.1, .int .i64 q.2.1], .int .i64 q.2.2] W fun e w' => e = .returned (.int .i64 (cn (lsS es) N q : Int)) ∧ Below W.heap.size W w') from fun W hW q => os_shows HLE.out HN.out.2 (HOf.out.below hW) q)
        have SP := (show Hid (∀ W : World, Below W2.heap.size W2 W → ∀ q : Wg, Calls Try.prog 9 #[.slice (some ⟨g6, 0, none⟩) N cap6, .agg #[.int .i64 q.1, .int .i64 q.2.1], .int .i64 q.2.2] W fun e w' => e = .returned (.int .i64 (cn (lsS ep) N q : Int)) ∧ Below W.heap.size W w') from fun W hW q => os_shows (prt_len HPT.out) HN.out.2 (HOp.out.below hW) q)
        have PO := (show Hid (∀ W : World, Below W2.heap.size W2 W → Calls Try.prog 11 #[.agg (shC k m b), .slice (some ⟨g6, 0, none⟩) N cap6] W fun e w' => ∃ v, e = .returned (.tuple #[v, .bool (pss k (hid (lsS ep) N) (grps (lsS ep) N)).2]) ∧ Rgl w' v (pss k (hid (lsS ep) N) (grps (lsS ep) N)).1 ∧ Below W.heap.size W w') from fun W hW => os_poss HM.out HF.out (prt_len HPT.out) HN.out.2 (HOp.out.below hW) HIP)
        have AF := (show Hid (∀ i, i < N → SnAt W2 g5 (i * 19) (es.getD i sn0)) from fun i hi => os_at HOf.out (by rw [HLE.out]; exact hi))
        have AP := (show Hid (∀ i, i < N → SnAt W2 g6 (i * 19) (ep.getD i sn0)) from fun i hi => os_at HOp.out (by rw [prt_len HPT.out]; exact hi))
        clear HIE HIP
        go_loopw [14, 15, 16] (fun h e i wr => ∃ t : Nat, t ≤ N ∧ i = .int .i64 (t : Int) ∧ h = .int .i64 (hid (lsS ep) t : Int) ∧ e = .bool (els (lsS es) (lsS ep) N t) ∧ Hid (Below W2.heap.size W2 wr)) (fun _ _ i _ => N - (intOf i).toNat)
        case atStart => exact ⟨0, Nat.zero_le _, rfl, rfl, by unfold els; rfl, Below.refl _ _⟩
        case round =>
          obtain ⟨t, ht, rfl, rfl, rfl, hB⟩ := hrel
          by_cases hlt : t < N
          · have hi : (t : Int) < (N : Int) := by omega
            have WT := (show Hid (wrap64 ((t : Int) + 1) = ((t + 1 : Nat) : Int)) from by have := HN.out; show _ = _; unfold wrap64; omega)
            have WH := (show Hid (wrap64 ((hid (lsS ep) t : Int) + 1) = ((hid (lsS ep) t + 1 : Nat) : Int)) from by have := hid_le (lsS ep) t; have := HN.out; show _ = _; unfold wrap64; omega)
            have HT := (show Hid (t < N) from hlt)
            have HX := (show Hid _ from hid_succ (lsS ep) t)
            have HE := (show Hid _ from els_succ (lsS es) (lsS ep) N t)
            have cF := ((AF.out t hlt).below hB.out).cells
            have cP := ((AP.out t hlt).below hB.out).cells
            have kF := cF.kd
            have kP := cP.kd
            have hcase := HDD.out.part t hlt
            have hfull := HDD.out.bare t hlt
            obtain ⟨W0, hW0⟩ : ∃ W0, W0 = wr := ⟨_, rfl⟩
            subst hW0
            generalize hid (lsS ep) t = h0 at *
            generalize els (lsS es) (lsS ep) N t = e0 at *
            obtain ⟨E, hE⟩ : ∃ E, es.getD t sn0 = E := ⟨_, rfl⟩
            have HES := (show Hid (lsS es t = (E.kd, E.wg)) from by show _ = _; rw [← hE]; rfl)
            rw [hE] at kF cF
            clear ht hlt hE
            cases hh : hdn (lsS ep) t with
            | false =>
              rw [hh] at hcase
              have hq : (ep.getD t sn0).kd = E.kd := by
                rcases hcase with h | h
                · have := congrArg Prod.fst (h.trans HES.out)
                  exact this
                · cases h
              rw [hq] at kP
              have HH := (show Hid (hdn (lsS ep) t = false) from hh)
              generalize E.kd = kk at *
              have hne : (kk != kk) = false := by simp
              clear hq hcase hfull hh cF cP HES
              go_wp2_with (fail)
              go_quiet (fail)
              go_wp2_with (fail)
              go_roundw
              case rel => exact ⟨t + 1, HT.out, by first | rw [WT.out] | go_num, by rw [HX.out, HH.out]; rfl, by rw [HE.out, HH.out]; simp, below_drewN hB.out _⟩
              case measure => first | (rw [WT.out]; exact meas_v17 HT.out) | exact meas_v17 HT.out
            | true =>
              have HH := (show Hid (hdn (lsS ep) t = true) from hh)
              have hk12 : E.kd = 1 ∨ E.kd = 2 := by
                have h1 := hfull
                rw [← Bool.not_eq_true, hdn_iff17, HES.out] at h1
                simp only at h1
                omega
              have hp12 : (ep.getD t sn0).kd ≠ 1 ∧ (ep.getD t sn0).kd ≠ 2 := by
                have h1 := (hdn_iff17 _ _).1 hh
                exact ⟨h1.2, h1.1⟩
              obtain ⟨pk, hpk⟩ : ∃ pk, (ep.getD t sn0).kd = pk := ⟨_, rfl⟩
              rw [hpk] at kP hp12
              have hne : (pk != E.kd) = true := by
                rcases hk12 with h | h
                · rw [h]; simp [hp12.1]
                · rw [h]; simp [hp12.2]
              have HK12 := (show Hid (E.kd = 1 ∨ E.kd = 2) from hk12)
              have HCF := (show Hid (SnCells W0 g5 (t * 19) E) from cF)
              obtain ⟨kk, hkk⟩ : ∃ kk, E.kd = kk := ⟨_, rfl⟩
              have HKK := (show Hid (E.kd = kk) from hkk)
              rw [hkk] at kF hne
              clear hcase hfull hh cF cP hk12 hp12 hpk hkk
              go_wp2_with (fail)
              go_quiet (fail)
              have HBq := (show Hid (Below W2.heap.size W2 (W0.drewN nq)) from below_drewN hB.out nq)
              have k1 := cell_below kF (below_drewN (Below.refl _ _) nq)
              have k2 := cell_below HCF.out.sz (below_drewN (Below.refl _ _) nq)
              have k3 := cell_below HCF.out.ep (below_drewN (Below.refl _ _) nq)
              have k4 := cell_below HCF.out.ct (below_drewN (Below.refl _ _) nq)
              generalize W0.drewN nq = wc at *
              clear kF kP hne
              have bdc : Below wc.heap.size wc wc.drew := (Below.refl _ _).drew
              go_wp2_with (fail)
              have HBc := (show Hid (Below W2.heap.size W2 wc.drew) from bt HBq.out bdc)
              by_cases h2 : kk = 2
              · subst h2
                obtain ⟨cc, hcc⟩ : ∃ cc, cn (lsS ep) N E.wg = cc := ⟨_, rfl⟩
                have SPq := (show Hid (∀ W : World, Below W2.heap.size W2 W → Calls Try.prog 9 #[.slice (some ⟨g6, 0, none⟩) N cap6, .agg #[.int .i64 E.hd.ep, .int .i64 E.hd.ct], .int .i64 E.hd.sz] W fun e w' => e = .returned (.int .i64 (cc : Int)) ∧ Below W.heap.size W w') from fun W hW => by have h := SP.out W hW E.wg; rw [hcc] at h; exact h)
                have HC0 := (show Hid (cn (lsS ep) N (lsS es t).2 = cc) from by show _ = _; rw [HES.out]; exact hcc)
                have HK2 := (show Hid ((lsS es t).1 = 2) from by show _ = _; rw [HES.out]; exact HKK.out)
                clear hcc
                refine wp_region_held_drew (S := fun X => X.cell? ⟨g5, t * 19, none⟩ = some (.int .i64 2) ∧ X.cell? ⟨g5, t * 19 + 13, none⟩ = some (.int .i64 E.hd.sz) ∧ X.cell? ⟨g5, t * 19 + 15, none⟩ = some (.int .i64 E.hd.ep) ∧ X.cell? ⟨g5, t * 19 + 16, none⟩ = some (.int .i64 E.hd.ct)) (by kernel_rfl) ⟨cell_below k1 bdc, cell_below k2 bdc, cell_below k3 bdc, cell_below k4 bdc⟩ (fun hHeld => ?_)
                clear k1 k2 k3 k4 bdc
                by_cases hz0 : cc = 0
                · subst hz0
                  have d0 : (((0 : Nat) : Int) == 0) = true := rfl
                  as_aux_lemma =>
                    refine takeHr (i := 0) (d := some 79) (v := ?v1) rfl rfl (by kernel_rfl) (by kernel_rfl) (by kernel_rfl) (fun _ _ _ h => h) (Or.inl ⟨by rfl, ?hy1⟩) hHeld ?rest1
                    case hy1 => intro X hSw; obtain ⟨g1, g2, g3, g4⟩ := hSw; go_simp <;> with_reducible rfl
                    try simp only [Act.put, List.setIfInBounds_toArray, List.set_cons_zero, List.set_cons_succ]
                    refine takeHr (i := 1) (d := some 80) (v := ?v2) rfl rfl (by kernel_rfl) (by kernel_rfl) (by kernel_rfl) (fun _ _ _ h => h) (Or.inl ⟨by rfl, ?hy2⟩) hHeld ?rest2
                    case hy2 => intro X hSw; obtain ⟨g1, g2, g3, g4⟩ := hSw; go_simp <;> with_reducible rfl
                    try simp only [Act.put, List.setIfInBounds_toArray, List.set_cons_zero, List.set_cons_succ]
                    refine takeHr (i := 2) (d := some 81) (v := .pointer (some ⟨g5, t * 19, none⟩)) rfl rfl (by kernel_rfl) (by kernel_rfl) (by kernel_rfl) (fun _ _ _ h => h) (Or.inl ⟨by rfl, ?hy3⟩) hHeld ?rest3
                    case hy3 => intro X hSw; obtain ⟨g1, g2, g3, g4⟩ := hSw; go_simp <;> with_reducible rfl
                    try simp only [Act.put, List.setIfInBounds_toArray, List.set_cons_zero, List.set_cons_succ]
                    refine takeHr (i := 3) (d := some 82) (v := ?v4) rfl rfl (by kernel_rfl) (by kernel_rfl) (by kernel_rfl) (fun _ _ _ h => h) (Or.inl ⟨by rfl, ?hy4⟩) hHeld ?rest4
                    case hy4 => intro X hSw; obtain ⟨g1, g2, g3, g4⟩ := hSw; go_simp <;> with_reducible rfl
                    try simp only [Act.put, List.setIfInBounds_toArray, List.set_cons_zero, List.set_cons_succ]
                    refine takeHr (i := 4) (d := some 83) (v := ?v5) rfl rfl (by kernel_rfl) (by kernel_rfl) (by kernel_rfl) (fun _ _ _ h => h) (Or.inl ⟨by rfl, ?hy5⟩) hHeld ?rest5
                    case hy5 => intro X hSw; obtain ⟨g1, g2, g3, g4⟩ := hSw; go_simp <;> with_reducible rfl
                    try simp only [Act.put, List.setIfInBounds_toArray, List.set_cons_zero, List.set_cons_succ]
                    refine takeHr (i := 5) (d := some 84) (v := .bool true) rfl rfl (by kernel_rfl) (by kernel_rfl) (by kernel_rfl) (fun _ _ _ h => h) (Or.inl ⟨by rfl, ?hy6⟩) hHeld ?rest6
                    case hy6 => intro X hSw; obtain ⟨g1, g2, g3, g4⟩ := hSw; go_simp <;> with_reducible rfl
                    try simp only [Act.put, List.setIfInBounds_toArray, List.set_cons_zero, List.set_cons_succ]
                    refine takeHr (i := 6) (d := some 85) (v := .bool true) rfl rfl (by kernel_rfl) (by kernel_rfl) (by kernel_rfl) (fun _ _ _ h => h) (Or.inl ⟨by rfl, ?hy7⟩) hHeld ?rest7
                    case hy7 => intro X hSw; obtain ⟨g1, g2, g3, g4⟩ := hSw; go_simp <;> with_reducible rfl
                    try simp only [Act.put, List.setIfInBounds_toArray, List.set_cons_zero, List.set_cons_succ]
                    refine takeHr (i := 7) (d := some 86) (v := ?v8) rfl rfl (by kernel_rfl) (by kernel_rfl) (by kernel_rfl) (fun _ _ _ h => h) (Or.inl ⟨by rfl, ?hy8⟩) hHeld ?rest8
                    case hy8 => intro X hSw; obtain ⟨g1, g2, g3, g4⟩ := hSw; go_simp <;> with_reducible rfl
                    try simp only [Act.put, List.setIfInBounds_toArray, List.set_cons_zero, List.set_cons_succ]
                    refine takeHr (i := 8) (d := some 87) (v := ?v9) rfl rfl (by kernel_rfl) (by kernel_rfl) (by kernel_rfl) (fun _ _ _ h => h) (Or.inl ⟨by rfl, ?hy9⟩) hHeld ?rest9
                    case hy9 => intro X hSw; obtain ⟨g1, g2, g3, g4⟩ := hSw; go_simp <;> with_reducible rfl
                    try simp only [Act.put, List.setIfInBounds_toArray, List.set_cons_zero, List.set_cons_succ]
                    refine takeHr (i := 9) (d := some 88) (v := ?v10) rfl rfl (by kernel_rfl) (by kernel_rfl) (by kernel_rfl) (fun _ _ _ h => h) (Or.inl ⟨by rfl, ?hy10⟩) hHeld ?rest10
                    case hy10 => intro X hSw; obtain ⟨g1, g2, g3, g4⟩ := hSw; go_simp <;> with_reducible rfl
                    try simp only [Act.put, List.setIfInBounds_toArray, List.set_cons_zero, List.set_cons_succ]
                    refine takeHr (i := 10) (d := some 89) (v := .pointer (some ⟨g5, t * 19, none⟩)) rfl rfl (by kernel_rfl) (by kernel_rfl) (by kernel_rfl) (fun _ _ _ h => h) (Or.inl ⟨by rfl, ?hy11⟩) hHeld ?rest11
                    case hy11 => intro X hSw; obtain ⟨g1, g2, g3, g4⟩ := hSw; go_simp <;> with_reducible rfl
                    try simp only [Act.put, List.setIfInBounds_toArray, List.set_cons_zero, List.set_cons_succ]
                    refine takeHr (i := 11) (d := some 90) (v := ?v12) rfl rfl (by kernel_rfl) (by kernel_rfl) (by kernel_rfl) (fun _ _ _ h => h) (Or.inl ⟨by rfl, ?hy12⟩) hHeld ?rest12
                    case hy12 => intro X hSw; obtain ⟨g1, g2, g3, g4⟩ := hSw; go_simp <;> with_reducible rfl
                    try simp only [Act.put, List.setIfInBounds_toArray, List.set_cons_zero, List.set_cons_succ]
                    refine takeHr (i := 12) (d := some 91) (v := ?v13) rfl rfl (by kernel_rfl) (by kernel_rfl) (by kernel_rfl) (fun _ _ _ h => h) (Or.inl ⟨by rfl, ?hy13⟩) hHeld ?rest13
                    case hy13 => intro X hSw; obtain ⟨g1, g2, g3, g4⟩ := hSw; go_simp <;> with_reducible rfl
                    try simp only [Act.put, List.setIfInBounds_toArray, List.set_cons_zero, List.set_cons_succ]
                    refine takeHr (i := 13) (d := some 92) (v := ?v14) rfl rfl (by kernel_rfl) (by kernel_rfl) (by kernel_rfl) (fun _ _ _ h => h) (Or.inl ⟨by rfl, ?hy14⟩) hHeld ?rest14
                    case hy14 => intro X hSw; obtain ⟨g1, g2, g3, g4⟩ := hSw; go_simp <;> with_reducible rfl
                    try simp only [Act.put, List.setIfInBounds_toArray, List.set_cons_zero, List.set_cons_succ]
                    refine takeHr (i := 14) (d := some 93) (v := ?v15) rfl rfl (by kernel_rfl) (by kernel_rfl) (by kernel_rfl) (fun _ _ _ h => h) (Or.inl ⟨by rfl, ?hy15⟩) hHeld ?rest15
                    case hy15 => intro X hSw; obtain ⟨g1, g2, g3, g4⟩ := hSw; go_simp <;> with_reducible rfl
                    try simp only [Act.put, List.setIfInBounds_toArray, List.set_cons_zero, List.set_cons_succ]
                    refine takeHr (i := 15) (d := some 94) (v := ?v16) rfl rfl (by kernel_rfl) (by kernel_rfl) (by kernel_rfl) (fun _ _ _ h => h) (Or.inl ⟨by rfl, ?hy16⟩) hHeld ?rest16
                    case hy16 => intro X hSw; obtain ⟨g1, g2, g3, g4⟩ := hSw; go_simp <;> with_reducible rfl
                    try simp only [Act.put, List.setIfInBounds_toArray, List.set_cons_zero, List.set_cons_succ]
                    refine takeHr (i := 16) (d := some 95) (v := ?v17) rfl rfl (by kernel_rfl) (by kernel_rfl) (by kernel_rfl) (fun _ _ _ h => h) (Or.inl ⟨by rfl, ?hy17⟩) hHeld ?rest17
                    case hy17 => intro X hSw; obtain ⟨g1, g2, g3, g4⟩ := hSw; go_simp <;> with_reducible rfl
                    try simp only [Act.put, List.setIfInBounds_toArray, List.set_cons_zero, List.set_cons_succ]
                    refine takeHr (i := 17) (d := some 96) (v := .pointer (some ⟨g5, t * 19, none⟩)) rfl rfl (by kernel_rfl) (by kernel_rfl) (by kernel_rfl) (fun _ _ _ h => h) (Or.inl ⟨by rfl, ?hy18⟩) hHeld ?rest18
                    case hy18 => intro X hSw; obtain ⟨g1, g2, g3, g4⟩ := hSw; go_simp <;> with_reducible rfl
                    try simp only [Act.put, List.setIfInBounds_toArray, List.set_cons_zero, List.set_cons_succ]
                    refine takeHr (i := 18) (d := some 97) (v := ?v19) rfl rfl (by kernel_rfl) (by kernel_rfl) (by kernel_rfl) (fun _ _ _ h => h) (Or.inl ⟨by rfl, ?hy19⟩) hHeld ?rest19
                    case hy19 => intro X hSw; obtain ⟨g1, g2, g3, g4⟩ := hSw; go_simp <;> with_reducible rfl
                    try simp only [Act.put, List.setIfInBounds_toArray, List.set_cons_zero, List.set_cons_succ]
                    refine takeHr (i := 19) (d := some 98) (v := ?v20) rfl rfl (by kernel_rfl) (by kernel_rfl) (by kernel_rfl) (fun _ _ _ h => h) (Or.inl ⟨by rfl, ?hy20⟩) hHeld ?rest20
                    case hy20 => intro X hSw; obtain ⟨g1, g2, g3, g4⟩ := hSw; go_simp <;> with_reducible rfl
                    try simp only [Act.put, List.setIfInBounds_toArray, List.set_cons_zero, List.set_cons_succ]
                    refine takeHr (i := 20) (d := some 99) (v := ?v21) rfl rfl (by kernel_rfl) (by kernel_rfl) (by kernel_rfl) (fun _ _ _ h => h) (Or.inl ⟨by rfl, ?hy21⟩) hHeld ?rest21
                    case hy21 => intro X hSw; obtain ⟨g1, g2, g3, g4⟩ := hSw; go_simp <;> with_reducible rfl
                    try simp only [Act.put, List.setIfInBounds_toArray, List.set_cons_zero, List.set_cons_succ]
                    refine takeHr (i := 21) (d := some 100) (v := ?v22) rfl rfl (by kernel_rfl) (by kernel_rfl) (by kernel_rfl) (fun _ _ _ h => h) (Or.inl ⟨by rfl, ?hy22⟩) hHeld ?rest22
                    case hy22 => intro X hSw; obtain ⟨g1, g2, g3, g4⟩ := hSw; go_simp <;> with_reducible rfl
                    try simp only [Act.put, List.setIfInBounds_toArray, List.set_cons_zero, List.set_cons_succ]
                    refine wpAnyH_ready (rs := [22]) (by kernel_rfl) (by simp) ?_
                    refine AllReadyH.cons (o := { dst := some 101, op := Op.call { callee := Callee.value (Operand.func 9), args := #[Operand.tmp 86, Operand.tmp 93, Operand.tmp 100], argTypes := #[24, 31, 3] }, type := 3, pos := "outright.go:78", after := #[{ on := 7, ground := Ground.data }, { on := 14, ground := Ground.data }, { on := 21, ground := Ground.data }, { on := 6, ground := Ground.chain }, { on := 6, ground := Ground.guard }], guard := some (6, true) }) rfl (fun Kq hKq => ?_) AllReadyH.nil
                    · go_simp
                      refine (SPq.out _ HBc.out).mono ?_
                      rintro e w23x ⟨rfl, hb23⟩
                      replace HBc := (show Hid _ from bt HBc.out hb23)
                      refine hKq.out _ _ ⟨cell_below hHeld.1 hb23, cell_below hHeld.2.1 hb23, cell_below hHeld.2.2.1 hb23, cell_below hHeld.2.2.2 hb23⟩ (fun hHeld => ?_)
                      clear hKq Kq
                      try simp only [Act.put, List.setIfInBounds_toArray, List.set_cons_zero, List.set_cons_succ]
                      refine takeHr (i := 23) (d := some 102) (v := .bool true) rfl rfl (by kernel_rfl) (by kernel_rfl) (by kernel_rfl) (fun _ _ _ h => h) (Or.inl ⟨by rfl, ?hy24⟩) hHeld ?rest24
                      case hy24 => intro X hSw; obtain ⟨g1, g2, g3, g4⟩ := hSw; go_simp <;> with_reducible rfl
                      try simp only [Act.put, List.setIfInBounds_toArray, List.set_cons_zero, List.set_cons_succ]
                      refine takeHr (i := 24) (d := some 103) (v := .bool true) rfl rfl (by kernel_rfl) (by kernel_rfl) (by kernel_rfl) (fun _ _ _ h => h) (Or.inl ⟨by rfl, ?hy25⟩) hHeld ?rest25
                      case hy25 => intro X hSw; obtain ⟨g1, g2, g3, g4⟩ := hSw; go_simp <;> with_reducible rfl
                      try simp only [Act.put, List.setIfInBounds_toArray, List.set_cons_zero, List.set_cons_succ]
                      refine wpAnyH_done (by kernel_rfl) ?_ _
                      clear hHeld
                      go_wp2_with (fail)
                      go_roundw
                      case rel => exact ⟨t + 1, HT.out, by first | rw [WT.out] | go_num, by rw [HX.out, HH.out, if_pos rfl]; first | rw [WH.out] | go_num, by rw [HE.out, HH.out, HC0.out, decide_eq_true HK2.out]; simp, HBc⟩
                      case measure => first | (rw [WT.out]; exact meas_v17 HT.out) | exact meas_v17 HT.out
                · have d0 : ((cc : Int) == 0) = false := by simp; omega
                  have HZ0 := (show Hid (cc ≠ 0) from hz0)
                  clear hz0
                  as_aux_lemma =>
                    refine takeHr (i := 0) (d := some 79) (v := ?v26) rfl rfl (by kernel_rfl) (by kernel_rfl) (by kernel_rfl) (fun _ _ _ h => h) (Or.inl ⟨by rfl, ?hy26⟩) hHeld ?rest26
                    case hy26 => intro X hSw; obtain ⟨g1, g2, g3, g4⟩ := hSw; go_simp <;> with_reducible rfl
                    try simp only [Act.put, List.setIfInBounds_toArray, List.set_cons_zero, List.set_cons_succ]
                    refine takeHr (i := 1) (d := some 80) (v := ?v27) rfl rfl (by kernel_rfl) (by kernel_rfl) (by kernel_rfl) (fun _ _ _ h => h) (Or.inl ⟨by rfl, ?hy27⟩) hHeld ?rest27
                    case hy27 => intro X hSw; obtain ⟨g1, g2, g3, g4⟩ := hSw; go_simp <;> with_reducible rfl
                    try simp only [Act.put, List.setIfInBounds_toArray, List.set_cons_zero, List.set_cons_succ]
                    refine takeHr (i := 2) (d := some 81) (v := .pointer (some ⟨g5, t * 19, none⟩)) rfl rfl (by kernel_rfl) (by kernel_rfl) (by kernel_rfl) (fun _ _ _ h => h) (Or.inl ⟨by rfl, ?hy28⟩) hHeld ?rest28
                    case hy28 => intro X hSw; obtain ⟨g1, g2, g3, g4⟩ := hSw; go_simp <;> with_reducible rfl
                    try simp only [Act.put, List.setIfInBounds_toArray, List.set_cons_zero, List.set_cons_succ]
                    refine takeHr (i := 3) (d := some 82) (v := ?v29) rfl rfl (by kernel_rfl) (by kernel_rfl) (by kernel_rfl) (fun _ _ _ h => h) (Or.inl ⟨by rfl, ?hy29⟩) hHeld ?rest29
                    case hy29 => intro X hSw; obtain ⟨g1, g2, g3, g4⟩ := hSw; go_simp <;> with_reducible rfl
                    try simp only [Act.put, List.setIfInBounds_toArray, List.set_cons_zero, List.set_cons_succ]
                    refine takeHr (i := 4) (d := some 83) (v := ?v30) rfl rfl (by kernel_rfl) (by kernel_rfl) (by kernel_rfl) (fun _ _ _ h => h) (Or.inl ⟨by rfl, ?hy30⟩) hHeld ?rest30
                    case hy30 => intro X hSw; obtain ⟨g1, g2, g3, g4⟩ := hSw; go_simp <;> with_reducible rfl
                    try simp only [Act.put, List.setIfInBounds_toArray, List.set_cons_zero, List.set_cons_succ]
                    refine takeHr (i := 5) (d := some 84) (v := .bool true) rfl rfl (by kernel_rfl) (by kernel_rfl) (by kernel_rfl) (fun _ _ _ h => h) (Or.inl ⟨by rfl, ?hy31⟩) hHeld ?rest31
                    case hy31 => intro X hSw; obtain ⟨g1, g2, g3, g4⟩ := hSw; go_simp <;> with_reducible rfl
                    try simp only [Act.put, List.setIfInBounds_toArray, List.set_cons_zero, List.set_cons_succ]
                    refine takeHr (i := 6) (d := some 85) (v := .bool true) rfl rfl (by kernel_rfl) (by kernel_rfl) (by kernel_rfl) (fun _ _ _ h => h) (Or.inl ⟨by rfl, ?hy32⟩) hHeld ?rest32
                    case hy32 => intro X hSw; obtain ⟨g1, g2, g3, g4⟩ := hSw; go_simp <;> with_reducible rfl
                    try simp only [Act.put, List.setIfInBounds_toArray, List.set_cons_zero, List.set_cons_succ]
                    refine takeHr (i := 7) (d := some 86) (v := ?v33) rfl rfl (by kernel_rfl) (by kernel_rfl) (by kernel_rfl) (fun _ _ _ h => h) (Or.inl ⟨by rfl, ?hy33⟩) hHeld ?rest33
                    case hy33 => intro X hSw; obtain ⟨g1, g2, g3, g4⟩ := hSw; go_simp <;> with_reducible rfl
                    try simp only [Act.put, List.setIfInBounds_toArray, List.set_cons_zero, List.set_cons_succ]
                    refine takeHr (i := 8) (d := some 87) (v := ?v34) rfl rfl (by kernel_rfl) (by kernel_rfl) (by kernel_rfl) (fun _ _ _ h => h) (Or.inl ⟨by rfl, ?hy34⟩) hHeld ?rest34
                    case hy34 => intro X hSw; obtain ⟨g1, g2, g3, g4⟩ := hSw; go_simp <;> with_reducible rfl
                    try simp only [Act.put, List.setIfInBounds_toArray, List.set_cons_zero, List.set_cons_succ]
                    refine takeHr (i := 9) (d := some 88) (v := ?v35) rfl rfl (by kernel_rfl) (by kernel_rfl) (by kernel_rfl) (fun _ _ _ h => h) (Or.inl ⟨by rfl, ?hy35⟩) hHeld ?rest35
                    case hy35 => intro X hSw; obtain ⟨g1, g2, g3, g4⟩ := hSw; go_simp <;> with_reducible rfl
                    try simp only [Act.put, List.setIfInBounds_toArray, List.set_cons_zero, List.set_cons_succ]
                    refine takeHr (i := 10) (d := some 89) (v := .pointer (some ⟨g5, t * 19, none⟩)) rfl rfl (by kernel_rfl) (by kernel_rfl) (by kernel_rfl) (fun _ _ _ h => h) (Or.inl ⟨by rfl, ?hy36⟩) hHeld ?rest36
                    case hy36 => intro X hSw; obtain ⟨g1, g2, g3, g4⟩ := hSw; go_simp <;> with_reducible rfl
                    try simp only [Act.put, List.setIfInBounds_toArray, List.set_cons_zero, List.set_cons_succ]
                    refine takeHr (i := 11) (d := some 90) (v := ?v37) rfl rfl (by kernel_rfl) (by kernel_rfl) (by kernel_rfl) (fun _ _ _ h => h) (Or.inl ⟨by rfl, ?hy37⟩) hHeld ?rest37
                    case hy37 => intro X hSw; obtain ⟨g1, g2, g3, g4⟩ := hSw; go_simp <;> with_reducible rfl
                    try simp only [Act.put, List.setIfInBounds_toArray, List.set_cons_zero, List.set_cons_succ]
                    refine takeHr (i := 12) (d := some 91) (v := ?v38) rfl rfl (by kernel_rfl) (by kernel_rfl) (by kernel_rfl) (fun _ _ _ h => h) (Or.inl ⟨by rfl, ?hy38⟩) hHeld ?rest38
                    case hy38 => intro X hSw; obtain ⟨g1, g2, g3, g4⟩ := hSw; go_simp <;> with_reducible rfl
                    try simp only [Act.put, List.setIfInBounds_toArray, List.set_cons_zero, List.set_cons_succ]
                    refine takeHr (i := 13) (d := some 92) (v := ?v39) rfl rfl (by kernel_rfl) (by kernel_rfl) (by kernel_rfl) (fun _ _ _ h => h) (Or.inl ⟨by rfl, ?hy39⟩) hHeld ?rest39
                    case hy39 => intro X hSw; obtain ⟨g1, g2, g3, g4⟩ := hSw; go_simp <;> with_reducible rfl
                    try simp only [Act.put, List.setIfInBounds_toArray, List.set_cons_zero, List.set_cons_succ]
                    refine takeHr (i := 14) (d := some 93) (v := ?v40) rfl rfl (by kernel_rfl) (by kernel_rfl) (by kernel_rfl) (fun _ _ _ h => h) (Or.inl ⟨by rfl, ?hy40⟩) hHeld ?rest40
                    case hy40 => intro X hSw; obtain ⟨g1, g2, g3, g4⟩ := hSw; go_simp <;> with_reducible rfl
                    try simp only [Act.put, List.setIfInBounds_toArray, List.set_cons_zero, List.set_cons_succ]
                    refine takeHr (i := 15) (d := some 94) (v := ?v41) rfl rfl (by kernel_rfl) (by kernel_rfl) (by kernel_rfl) (fun _ _ _ h => h) (Or.inl ⟨by rfl, ?hy41⟩) hHeld ?rest41
                    case hy41 => intro X hSw; obtain ⟨g1, g2, g3, g4⟩ := hSw; go_simp <;> with_reducible rfl
                    try simp only [Act.put, List.setIfInBounds_toArray, List.set_cons_zero, List.set_cons_succ]
                    refine takeHr (i := 16) (d := some 95) (v := ?v42) rfl rfl (by kernel_rfl) (by kernel_rfl) (by kernel_rfl) (fun _ _ _ h => h) (Or.inl ⟨by rfl, ?hy42⟩) hHeld ?rest42
                    case hy42 => intro X hSw; obtain ⟨g1, g2, g3, g4⟩ := hSw; go_simp <;> with_reducible rfl
                    try simp only [Act.put, List.setIfInBounds_toArray, List.set_cons_zero, List.set_cons_succ]
                    refine takeHr (i := 17) (d := some 96) (v := .pointer (some ⟨g5, t * 19, none⟩)) rfl rfl (by kernel_rfl) (by kernel_rfl) (by kernel_rfl) (fun _ _ _ h => h) (Or.inl ⟨by rfl, ?hy43⟩) hHeld ?rest43
                    case hy43 => intro X hSw; obtain ⟨g1, g2, g3, g4⟩ := hSw; go_simp <;> with_reducible rfl
                    try simp only [Act.put, List.setIfInBounds_toArray, List.set_cons_zero, List.set_cons_succ]
                    refine takeHr (i := 18) (d := some 97) (v := ?v44) rfl rfl (by kernel_rfl) (by kernel_rfl) (by kernel_rfl) (fun _ _ _ h => h) (Or.inl ⟨by rfl, ?hy44⟩) hHeld ?rest44
                    case hy44 => intro X hSw; obtain ⟨g1, g2, g3, g4⟩ := hSw; go_simp <;> with_reducible rfl
                    try simp only [Act.put, List.setIfInBounds_toArray, List.set_cons_zero, List.set_cons_succ]
                    refine takeHr (i := 19) (d := some 98) (v := ?v45) rfl rfl (by kernel_rfl) (by kernel_rfl) (by kernel_rfl) (fun _ _ _ h => h) (Or.inl ⟨by rfl, ?hy45⟩) hHeld ?rest45
                    case hy45 => intro X hSw; obtain ⟨g1, g2, g3, g4⟩ := hSw; go_simp <;> with_reducible rfl
                    try simp only [Act.put, List.setIfInBounds_toArray, List.set_cons_zero, List.set_cons_succ]
                    refine takeHr (i := 20) (d := some 99) (v := ?v46) rfl rfl (by kernel_rfl) (by kernel_rfl) (by kernel_rfl) (fun _ _ _ h => h) (Or.inl ⟨by rfl, ?hy46⟩) hHeld ?rest46
                    case hy46 => intro X hSw; obtain ⟨g1, g2, g3, g4⟩ := hSw; go_simp <;> with_reducible rfl
                    try simp only [Act.put, List.setIfInBounds_toArray, List.set_cons_zero, List.set_cons_succ]
                    refine takeHr (i := 21) (d := some 100) (v := ?v47) rfl rfl (by kernel_rfl) (by kernel_rfl) (by kernel_rfl) (fun _ _ _ h => h) (Or.inl ⟨by rfl, ?hy47⟩) hHeld ?rest47
                    case hy47 => intro X hSw; obtain ⟨g1, g2, g3, g4⟩ := hSw; go_simp <;> with_reducible rfl
                    try simp only [Act.put, List.setIfInBounds_toArray, List.set_cons_zero, List.set_cons_succ]
                    refine wpAnyH_ready (rs := [22]) (by kernel_rfl) (by simp) ?_
                    refine AllReadyH.cons (o := { dst := some 101, op := Op.call { callee := Callee.value (Operand.func 9), args := #[Operand.tmp 86, Operand.tmp 93, Operand.tmp 100], argTypes := #[24, 31, 3] }, type := 3, pos := "outright.go:78", after := #[{ on := 7, ground := Ground.data }, { on := 14, ground := Ground.data }, { on := 21, ground := Ground.data }, { on := 6, ground := Ground.chain }, { on := 6, ground := Ground.guard }], guard := some (6, true) }) rfl (fun Kq hKq => ?_) AllReadyH.nil
                    · go_simp
                      refine (SPq.out _ HBc.out).mono ?_
                      rintro e w48x ⟨rfl, hb48⟩
                      replace HBc := (show Hid _ from bt HBc.out hb48)
                      refine hKq.out _ _ ⟨cell_below hHeld.1 hb48, cell_below hHeld.2.1 hb48, cell_below hHeld.2.2.1 hb48, cell_below hHeld.2.2.2 hb48⟩ (fun hHeld => ?_)
                      clear hKq Kq
                      try simp only [Act.put, List.setIfInBounds_toArray, List.set_cons_zero, List.set_cons_succ]
                      refine takeHr (i := 23) (d := some 102) (v := .bool false) rfl rfl (by kernel_rfl) (by kernel_rfl) (by kernel_rfl) (fun _ _ _ h => h) (Or.inl ⟨by rfl, ?hy49⟩) hHeld ?rest49
                      case hy49 => intro X hSw; obtain ⟨g1, g2, g3, g4⟩ := hSw; go_simp <;> with_reducible rfl
                      try simp only [Act.put, List.setIfInBounds_toArray, List.set_cons_zero, List.set_cons_succ]
                      refine takeHr (i := 24) (d := some 103) (v := .bool false) rfl rfl (by kernel_rfl) (by kernel_rfl) (by kernel_rfl) (fun _ _ _ h => h) (Or.inl ⟨by rfl, ?hy50⟩) hHeld ?rest50
                      case hy50 => intro X hSw; obtain ⟨g1, g2, g3, g4⟩ := hSw; go_simp <;> with_reducible rfl
                      try simp only [Act.put, List.setIfInBounds_toArray, List.set_cons_zero, List.set_cons_succ]
                      refine wpAnyH_done (by kernel_rfl) ?_ _
                      clear hHeld
                      go_wp2_with (fail)
                      go_roundw
                      case rel => exact ⟨t + 1, HT.out, by first | rw [WT.out] | go_num, by rw [HX.out, HH.out, if_pos rfl]; first | rw [WH.out] | go_num, by rw [HE.out, HH.out, HC0.out, decide_eq_false HZ0.out]; simp, HBc⟩
                      case measure => first | (rw [WT.out]; exact meas_v17 HT.out) | exact meas_v17 HT.out
              · have d2 : (kk == 2) = false := by simp [h2]
                have HK2 := (show Hid (¬ (lsS es t).1 = 2) from by show ¬ _; rw [HES.out]; simp only; rw [HKK.out]; exact h2)
                refine wp_region_held_drew (S := fun X => X.cell? ⟨g5, t * 19, none⟩ = some (.int .i64 kk)) (by kernel_rfl) (cell_below k1 bdc) (fun hHeld => ?_)
                clear k1 k2 k3 k4 bdc h2
                as_aux_lemma =>
                  refine takeHr (i := 0) (d := some 79) (v := ?v51) rfl rfl (by kernel_rfl) (by kernel_rfl) (by kernel_rfl) (fun _ _ _ h => h) (Or.inl ⟨by rfl, ?hy51⟩) hHeld ?rest51
                  case hy51 => intro X hSw; go_simp <;> with_reducible rfl
                  try simp only [Act.put, List.setIfInBounds_toArray, List.set_cons_zero, List.set_cons_succ]
                  refine takeHr (i := 1) (d := some 80) (v := ?v52) rfl rfl (by kernel_rfl) (by kernel_rfl) (by kernel_rfl) (fun _ _ _ h => h) (Or.inl ⟨by rfl, ?hy52⟩) hHeld ?rest52
                  case hy52 => intro X hSw; go_simp <;> with_reducible rfl
                  try simp only [Act.put, List.setIfInBounds_toArray, List.set_cons_zero, List.set_cons_succ]
                  refine takeHr (i := 2) (d := some 81) (v := .pointer (some ⟨g5, t * 19, none⟩)) rfl rfl (by kernel_rfl) (by kernel_rfl) (by kernel_rfl) (fun _ _ _ h => h) (Or.inl ⟨by rfl, ?hy53⟩) hHeld ?rest53
                  case hy53 => intro X hSw; go_simp <;> with_reducible rfl
                  try simp only [Act.put, List.setIfInBounds_toArray, List.set_cons_zero, List.set_cons_succ]
                  refine takeHr (i := 3) (d := some 82) (v := ?v54) rfl rfl (by kernel_rfl) (by kernel_rfl) (by kernel_rfl) (fun _ _ _ h => h) (Or.inl ⟨by rfl, ?hy54⟩) hHeld ?rest54
                  case hy54 => intro X hSw; go_simp <;> with_reducible rfl
                  try simp only [Act.put, List.setIfInBounds_toArray, List.set_cons_zero, List.set_cons_succ]
                  refine takeHr (i := 4) (d := some 83) (v := ?v55) rfl rfl (by kernel_rfl) (by kernel_rfl) (by kernel_rfl) (fun _ _ _ h => h) (Or.inl ⟨by rfl, ?hy55⟩) hHeld ?rest55
                  case hy55 => intro X hSw; go_simp <;> with_reducible rfl
                  try simp only [Act.put, List.setIfInBounds_toArray, List.set_cons_zero, List.set_cons_succ]
                  refine takeHr (i := 5) (d := some 84) (v := .bool false) rfl rfl (by kernel_rfl) (by kernel_rfl) (by kernel_rfl) (fun _ _ _ h => h) (Or.inl ⟨by rfl, ?hy56⟩) hHeld ?rest56
                  case hy56 => intro X hSw; go_simp <;> with_reducible rfl
                  try simp only [Act.put, List.setIfInBounds_toArray, List.set_cons_zero, List.set_cons_succ]
                  refine takeHr (i := 6) (d := some 85) (v := .bool false) rfl rfl (by kernel_rfl) (by kernel_rfl) (by kernel_rfl) (fun _ _ _ h => h) (Or.inl ⟨by rfl, ?hy57⟩) hHeld ?rest57
                  case hy57 => intro X hSw; go_simp <;> with_reducible rfl
                  try simp only [Act.put, List.setIfInBounds_toArray, List.set_cons_zero, List.set_cons_succ]
                  refine takeHr (i := 7) (d := some 86) (v := undef) rfl rfl (by kernel_rfl) (by kernel_rfl) (by kernel_rfl) (fun _ _ _ h => h) (Or.inr ⟨by rfl, rfl⟩) hHeld ?_
                  try simp only [Act.put, List.setIfInBounds_toArray, List.set_cons_zero, List.set_cons_succ]
                  refine takeHr (i := 8) (d := some 87) (v := undef) rfl rfl (by kernel_rfl) (by kernel_rfl) (by kernel_rfl) (fun _ _ _ h => h) (Or.inr ⟨by rfl, rfl⟩) hHeld ?_
                  try simp only [Act.put, List.setIfInBounds_toArray, List.set_cons_zero, List.set_cons_succ]
                  refine takeHr (i := 9) (d := some 88) (v := undef) rfl rfl (by kernel_rfl) (by kernel_rfl) (by kernel_rfl) (fun _ _ _ h => h) (Or.inr ⟨by rfl, rfl⟩) hHeld ?_
                  try simp only [Act.put, List.setIfInBounds_toArray, List.set_cons_zero, List.set_cons_succ]
                  refine takeHr (i := 10) (d := some 89) (v := undef) rfl rfl (by kernel_rfl) (by kernel_rfl) (by kernel_rfl) (fun _ _ _ h => h) (Or.inr ⟨by rfl, rfl⟩) hHeld ?_
                  try simp only [Act.put, List.setIfInBounds_toArray, List.set_cons_zero, List.set_cons_succ]
                  refine takeHr (i := 11) (d := some 90) (v := undef) rfl rfl (by kernel_rfl) (by kernel_rfl) (by kernel_rfl) (fun _ _ _ h => h) (Or.inr ⟨by rfl, rfl⟩) hHeld ?_
                  try simp only [Act.put, List.setIfInBounds_toArray, List.set_cons_zero, List.set_cons_succ]
                  refine takeHr (i := 12) (d := some 91) (v := undef) rfl rfl (by kernel_rfl) (by kernel_rfl) (by kernel_rfl) (fun _ _ _ h => h) (Or.inr ⟨by rfl, rfl⟩) hHeld ?_
                  try simp only [Act.put, List.setIfInBounds_toArray, List.set_cons_zero, List.set_cons_succ]
                  refine takeHr (i := 13) (d := some 92) (v := undef) rfl rfl (by kernel_rfl) (by kernel_rfl) (by kernel_rfl) (fun _ _ _ h => h) (Or.inr ⟨by rfl, rfl⟩) hHeld ?_
                  try simp only [Act.put, List.setIfInBounds_toArray, List.set_cons_zero, List.set_cons_succ]
                  refine takeHr (i := 14) (d := some 93) (v := undef) rfl rfl (by kernel_rfl) (by kernel_rfl) (by kernel_rfl) (fun _ _ _ h => h) (Or.inr ⟨by rfl, rfl⟩) hHeld ?_
                  try simp only [Act.put, List.setIfInBounds_toArray, List.set_cons_zero, List.set_cons_succ]
                  refine takeHr (i := 15) (d := some 94) (v := undef) rfl rfl (by kernel_rfl) (by kernel_rfl) (by kernel_rfl) (fun _ _ _ h => h) (Or.inr ⟨by rfl, rfl⟩) hHeld ?_
                  try simp only [Act.put, List.setIfInBounds_toArray, List.set_cons_zero, List.set_cons_succ]
                  refine takeHr (i := 16) (d := some 95) (v := undef) rfl rfl (by kernel_rfl) (by kernel_rfl) (by kernel_rfl) (fun _ _ _ h => h) (Or.inr ⟨by rfl, rfl⟩) hHeld ?_
                  try simp only [Act.put, List.setIfInBounds_toArray, List.set_cons_zero, List.set_cons_succ]
                  refine takeHr (i := 17) (d := some 96) (v := undef) rfl rfl (by kernel_rfl) (by kernel_rfl) (by kernel_rfl) (fun _ _ _ h => h) (Or.inr ⟨by rfl, rfl⟩) hHeld ?_
                  try simp only [Act.put, List.setIfInBounds_toArray, List.set_cons_zero, List.set_cons_succ]
                  refine takeHr (i := 18) (d := some 97) (v := undef) rfl rfl (by kernel_rfl) (by kernel_rfl) (by kernel_rfl) (fun _ _ _ h => h) (Or.inr ⟨by rfl, rfl⟩) hHeld ?_
                  try simp only [Act.put, List.setIfInBounds_toArray, List.set_cons_zero, List.set_cons_succ]
                  refine takeHr (i := 19) (d := some 98) (v := undef) rfl rfl (by kernel_rfl) (by kernel_rfl) (by kernel_rfl) (fun _ _ _ h => h) (Or.inr ⟨by rfl, rfl⟩) hHeld ?_
                  try simp only [Act.put, List.setIfInBounds_toArray, List.set_cons_zero, List.set_cons_succ]
                  refine takeHr (i := 20) (d := some 99) (v := undef) rfl rfl (by kernel_rfl) (by kernel_rfl) (by kernel_rfl) (fun _ _ _ h => h) (Or.inr ⟨by rfl, rfl⟩) hHeld ?_
                  try simp only [Act.put, List.setIfInBounds_toArray, List.set_cons_zero, List.set_cons_succ]
                  refine takeHr (i := 21) (d := some 100) (v := undef) rfl rfl (by kernel_rfl) (by kernel_rfl) (by kernel_rfl) (fun _ _ _ h => h) (Or.inr ⟨by rfl, rfl⟩) hHeld ?_
                  try simp only [Act.put, List.setIfInBounds_toArray, List.set_cons_zero, List.set_cons_succ]
                  refine takeHr (i := 22) (d := some 101) (v := undef) rfl rfl (by kernel_rfl) (by kernel_rfl) (by kernel_rfl) (fun _ _ _ h => h) (Or.inr ⟨by rfl, rfl⟩) hHeld ?_
                  try simp only [Act.put, List.setIfInBounds_toArray, List.set_cons_zero, List.set_cons_succ]
                  refine takeHr (i := 23) (d := some 102) (v := undef) rfl rfl (by kernel_rfl) (by kernel_rfl) (by kernel_rfl) (fun _ _ _ h => h) (Or.inr ⟨by rfl, rfl⟩) hHeld ?_
                  try simp only [Act.put, List.setIfInBounds_toArray, List.set_cons_zero, List.set_cons_succ]
                  refine takeHr (i := 24) (d := some 103) (v := .bool false) rfl rfl (by kernel_rfl) (by kernel_rfl) (by kernel_rfl) (fun _ _ _ h => h) (Or.inl ⟨by rfl, ?hy75⟩) hHeld ?rest75
                  case hy75 => intro X hSw; go_simp <;> with_reducible rfl
                  try simp only [Act.put, List.setIfInBounds_toArray, List.set_cons_zero, List.set_cons_succ]
                  refine wpAnyH_done (by kernel_rfl) ?_ _
                  clear hHeld
                  go_wp2_with (fail)
                  go_roundw
                  case rel => exact ⟨t + 1, HT.out, by first | rw [WT.out] | go_num, by rw [HX.out, HH.out, if_pos rfl]; first | rw [WH.out] | go_num, by rw [HE.out, HH.out, decide_eq_false HK2.out]; simp, HBc⟩
                  case measure => first | (rw [WT.out]; exact meas_v17 HT.out) | exact meas_v17 HT.out
          · obtain rfl : N = t := by omega
            have hnn : ¬ ((N : Int) < (N : Int)) := by omega
            obtain ⟨W0, hW0⟩ : ∃ W0, W0 = wr := ⟨_, rfl⟩
            subst hW0
            have HB0 := (show Hid (Below W2.heap.size W2 W0) from hB.out)
            have hGS0 := HGS.out.below hB.out
            have MA := (show Hid _ from HDD.out.one HF.out)
            have MB := (show Hid _ from HDD.out.told HF.out)
            have MC := (show Hid _ from HDD.out.gone HF.out)
            have MD := (show Hid _ from HDD.out.stays HF.out)
            have ME := (show Hid ((jdg k m b (lsS es) N).kd = 1 → els (lsS es) (lsS ep) N N = true → ∃ q ∈ (pss k (hid (lsS ep) N) (grps (lsS ep) N)).1, q.1 = (jdg k m b (lsS es) N).wg) from fun h1 h2 => HDD.out.may HF.out h1 (els_iff h2))
            have HHN := (show Hid (hid (lsS ep) N ≤ 255) from by have := hid_le (lsS ep) N; have := HN.out; show _ ≤ _; omega)
            have HKB := (show Hid (k ≤ 255 ∧ 0 ≤ k) from by have := (fitB_iff k m b N).1 HF.out; exact ⟨by omega, by omega⟩)
            have HQL := (show Hid ((pss k (hid (lsS ep) N) (grps (lsS ep) N)).1.length ≤ 255) from by
              have h1 := pss_lenM k (hid (lsS ep) N) (grps (lsS ep) N)
              have h2 := (isG_grps (lsS ep) N).lenG
              have := HN.out
              show _ ≤ _
              omega)
            clear hB ht hlt HDD HGS HOp HOf HPT AF AP HIw HGE
            generalize cn (lsS es) N = cf at *
            generalize cn (lsS ep) N = cp at *
            generalize pss k (hid (lsS ep) N) (grps (lsS ep) N) = Q at *
            generalize hid (lsS ep) N = h0 at *
            generalize els (lsS es) (lsS ep) N N = eb at *
            generalize jdg k m b (lsS es) N = V at *
            generalize jdg k m b (lsS ep) N = Y at *
            obtain ⟨kv, ⟨v1, v2, v3⟩, plv⟩ := V
            obtain ⟨kw, ⟨y1, y2, y3⟩, plw⟩ := Y
            obtain ⟨QL, qb⟩ := Q
            simp only at MA MB MC MD ME JF JP PO HQL
            generalize plv.length = Lv at *
            generalize plw.length = Lw at *
            clear plv plw
            rcases MA.out with hkv | hkv
            · subst hkv
              clear MA MC
              obtain ⟨cv, hcv⟩ : ∃ cv, cf (v1, v2, v3) = cv := ⟨_, rfl⟩
              have SFv := (show Hid (∀ W : World, Below W2.heap.size W2 W → Calls Try.prog 9 #[.slice (some ⟨g5, 0, none⟩) N cap5, .agg #[.int .i64 v1, .int .i64 v2], .int .i64 v3] W fun e w' => e = .returned (.int .i64 (cv : Int)) ∧ Below W.heap.size W w') from fun W hW => by have h := SF.out W hW (v1, v2, v3); rw [hcv] at h; exact h)
              have wkw : IntKind.i64.wrap (k + (h0 : Int)) = k + (h0 : Int) := by rw [IntKind.wrap_i64]; have := HHN.out; have := HKB.out; omega
              have wkh : wrap64 (k + (h0 : Int)) = k + (h0 : Int) := by have := HHN.out; have := HKB.out; unfold wrap64; omega
              by_cases hkw : kw = 1
              · subst hkw
                obtain ⟨_, hK, hO, hL⟩ := MB.out rfl
                obtain ⟨cy, hcy⟩ : ∃ cy, cf (y1, y2, y3) = cy := ⟨_, rfl⟩
                rw [hcy] at hK
                have SFy := (show Hid (∀ W : World, Below W2.heap.size W2 W → Calls Try.prog 9 #[.slice (some ⟨g5, 0, none⟩) N cap5, .agg #[.int .i64 y1, .int .i64 y2], .int .i64 y3] W fun e w' => e = .returned (.int .i64 (cy : Int)) ∧ Below W.heap.size W w') from fun W hW => by have h := SF.out W hW (y1, y2, y3); rw [hcy] at h; exact h)
                have SPy := (show Hid (∀ W : World, Below W2.heap.size W2 W → Calls Try.prog 9 #[.slice (some ⟨g6, 0, none⟩) N cap6, .agg #[.int .i64 y1, .int .i64 y2], .int .i64 y3] W fun e w' => e = .returned (.int .i64 (Lw : Int)) ∧ Below W.heap.size W w') from fun W hW => by have h := SP.out W hW (y1, y2, y3); rw [← hL] at h; exact h)
                have OLy := (show Hid (∀ W : World, Calls Try.prog 12 #[.agg #[.int .i64 v1, .int .i64 v2], .int .i64 v3, .agg #[.int .i64 y1, .int .i64 y2], .int .i64 y3] W fun e w' => e = .returned (.bool false) ∧ Below W.heap.size W w') from fun W => by have h := rolder_any (v1, v2, v3) (y1, y2, y3) W; rw [hO] at h; exact h)
                have hlk : ¬ ((cy : Int) < k) := by omega
                have hll : ((Lw : Int) != (Lw : Int)) = false := by simp
                by_cases hbig : k + (h0 : Int) ≤ (cv : Int)
                · obtain ⟨_, hwg⟩ := MD.out rfl (by rw [hcv]; exact hbig)
                  simp only [Prod.mk.injEq] at hwg
                  obtain ⟨rfl, rfl, rfl⟩ := hwg
                  clear MB MD SF SP hK hO hL hcy hcv
                  as_aux_lemma =>
                    go_wp2_with (first
                      | (go_at_call 11; refine (PO.out _ HB16.out).mono ?_; rintro e w17 ⟨v17, rfl, hR17, hb17⟩; obtain ⟨p17, c17, e17, hQ17⟩ := rgl_cells hR17; subst e17; have HQ := (show Hid _ from hQ17); have HB17 := (show Hid (Below W2.heap.size W2 w17) from bt HB16.out hb17); have HV17 := (show Hid (GB w17 w11.heap.size 42 (vdC 1 (y1, y2, y3) (.slice q11 Lv c11))) from HVa.out.below hb17); have hVa := HV17.out; have hVb := HV16.out.below hb17; have ca0 := hVa.cell 0; have ca1 := hVa.cell 1; have ca2 := hVa.cell 2; have ca3 := hVa.cell 3; have ca4 := hVa.cell 4; unfold vdC at ca0 ca1 ca2 ca3 ca4; simp only [List.getElem?_toArray, List.getElem?_cons_zero, List.getElem?_cons_succ] at ca0 ca1 ca2 ca3 ca4; have cb0 := hVb.cell 0; have cb1 := hVb.cell 1; have cb2 := hVb.cell 2; have cb3 := hVb.cell 3; have cb4 := hVb.cell 4; unfold vdC at cb0 cb1 cb2 cb3 cb4; simp only [List.getElem?_toArray, List.getElem?_cons_zero, List.getElem?_cons_succ] at cb0 cb1 cb2 cb3 cb4; obtain ⟨s0, s1⟩ := gb_sh (hGS16.below hb17); clear hVa hVb hR17 hQ17 hGS16 hb17)
                      | (refine wpList_ldB rfl _ rfl w.heap.size rfl hGS16 Try.underlying23 (size_Sp' _ _ _) ?_)
                      | (refine wpList_stB (cs := vdC 1 (y1, y2, y3) (.slice q14 Lw c14)) rfl _ _ rfl rfl w14.heap.size rfl rfl hG15 (size_Vd' _ _ _) (vdC_same _ _ _ _ _ _) (vdC_one _ _ _ rfl) ?_; intro w16 hV16 hg16 hs16; have HP16 := (show Hid (Below w14.heap.size w14 w16) from grown_below hb15 hg16 hb15.size (Nat.le_refl _)); have HB16 := (show Hid (Below W2.heap.size W2 w16) from bt HB13.out (bt hb14 HP16.out)); have hGS16 := (hGS13.below hb14).below HP16.out; have HV16 := (show Hid (GB w16 w14.heap.size 42 (vdC 1 (y1, y2, y3) (.slice q14 Lw c14))) from hV16); have HVa := (show Hid _ from (HV13.out.below hb14).below HP16.out); clear hV16 hg16 hs16 hG15 hb15 hb14 hGS13)
                      | (refine wpList_alB rfl rfl vd0 ?_; intro w15 hG15 hb15 hs15; have hu := hb14; clear hu hs15)
                      | (go_at_call 10; refine Calls.mono (JP.out _ HB13.out) ?_; rintro e w14 ⟨q14, c14, rfl, hb14⟩)
                      | (refine wpList_ldB rfl _ rfl w.heap.size rfl hGS13 Try.underlying23 (size_Sp' _ _ _) ?_)
                      | (refine wpList_stB (cs := vdC 1 (y1, y2, y3) (.slice q11 Lv c11)) rfl _ _ rfl rfl w11.heap.size rfl rfl hG12 (size_Vd' _ _ _) (vdC_same _ _ _ _ _ _) (vdC_one _ _ _ rfl) ?_; intro w13 hV13 hg13 hs13; have HP13 := (show Hid (Below w11.heap.size w11 w13) from grown_below hb12 hg13 hb12.size (Nat.le_refl _)); have HB13 := (show Hid (Below W2.heap.size W2 w13) from bt HB0.out (bt hb11 HP13.out)); have hGS13 := (hGS0.below hb11).below HP13.out; have HV13 := (show Hid (GB w13 w11.heap.size 42 (vdC 1 (y1, y2, y3) (.slice q11 Lv c11))) from hV13); clear hV13 hg13 hs13 hG12 hb12 hb11 hGS0)
                      | (refine wpList_alB rfl rfl vd0 ?_; intro w12 hG12 hb12 hs12; have hu := hb11; clear hu hs12)
                      | (go_at_call 10; refine Calls.mono (JF.out _ HB0.out) ?_; rintro e w11 ⟨q11, c11, rfl, hb11⟩)
                      | (refine wpList_ldB rfl _ rfl w.heap.size rfl hGS0 Try.underlying23 (size_Sp' _ _ _) ?_))
                    have HBc := (show Hid (Below w17.heap.size w17 w17) from Below.refl _ _)
                    obtain ⟨wd193, hwd⟩ : ∃ wq, wq = w17.drew := ⟨_, rfl⟩
                    have bd : Below w17.heap.size w17 wd193 := by rw [hwd]; exact (Below.refl _ _).drew
                    replace HBc := (show Hid (Below w17.heap.size w17 wd193) from bt HBc.out bd)
                    refine wp_region_held_drew (S := fun X => X.cell? ⟨w11.heap.size, 0, none⟩ = some (.int .i64 1) ∧ X.cell? ⟨w11.heap.size, 1, none⟩ = some (.int .i64 y1) ∧ X.cell? ⟨w11.heap.size, 2, none⟩ = some (.int .i64 y2) ∧ X.cell? ⟨w11.heap.size, 3, none⟩ = some (.int .i64 y3) ∧ X.cell? ⟨w14.heap.size, 0, none⟩ = some (.int .i64 1) ∧ X.cell? ⟨w14.heap.size, 1, none⟩ = some (.int .i64 y1) ∧ X.cell? ⟨w14.heap.size, 2, none⟩ = some (.int .i64 y2) ∧ X.cell? ⟨w14.heap.size, 3, none⟩ = some (.int .i64 y3) ∧ X.cell? ⟨w14.heap.size, 4, none⟩ = some (.slice q14 Lw c14) ∧ X.cell? ⟨w.heap.size, 0, none⟩ = some (.int .i64 k) ∧ X.cell? ⟨w.heap.size, 1, none⟩ = some (.int .i64 m)) (by kernel_rfl) (by rw [← hwd]; exact ⟨cell_below ca0 bd, cell_below ca1 bd, cell_below ca2 bd, cell_below ca3 bd, cell_below cb0 bd, cell_below cb1 bd, cell_below cb2 bd, cell_below cb3 bd, cell_below cb4 bd, cell_below s0 bd, cell_below s1 bd⟩) (fun hHeld => ?_)
                    rw [← hwd] at hHeld ⊢
                    clear ca0 ca1 ca2 ca3 cb0 cb1 cb2 cb3 cb4 s0 s1 bd hwd
                    refine takeHr (i := 0) (d := some 124) (v := ?v194) rfl rfl (by kernel_rfl) (by kernel_rfl) (by kernel_rfl) (fun _ _ _ h => h) (Or.inl ⟨by rfl, ?hy194⟩) hHeld ?rest194
                    case hy194 => intro X hSw; obtain ⟨g0, g1, g2, g3, g4, g5, g6, g7, g8, g9, g10⟩ := hSw; go_simp <;> first | with_reducible rfl | exact wkw
                    try simp only [Act.put, List.setIfInBounds_toArray, List.set_cons_zero, List.set_cons_succ]
                    refine takeHr (i := 1) (d := some 125) (v := ?v195) rfl rfl (by kernel_rfl) (by kernel_rfl) (by kernel_rfl) (fun _ _ _ h => h) (Or.inl ⟨by rfl, ?hy195⟩) hHeld ?rest195
                    case hy195 => intro X hSw; obtain ⟨g0, g1, g2, g3, g4, g5, g6, g7, g8, g9, g10⟩ := hSw; go_simp <;> first | with_reducible rfl | exact wkw
                    try simp only [Act.put, List.setIfInBounds_toArray, List.set_cons_zero, List.set_cons_succ]
                    refine takeHr (i := 2) (d := some 126) (v := .bool true) rfl rfl (by kernel_rfl) (by kernel_rfl) (by kernel_rfl) (fun _ _ _ h => h) (Or.inl ⟨by rfl, ?hy196⟩) hHeld ?rest196
                    case hy196 => intro X hSw; obtain ⟨g0, g1, g2, g3, g4, g5, g6, g7, g8, g9, g10⟩ := hSw; go_simp <;> first | with_reducible rfl | exact wkw
                    try simp only [Act.put, List.setIfInBounds_toArray, List.set_cons_zero, List.set_cons_succ]
                    refine takeHr (i := 3) (d := some 127) (v := .bool true) rfl rfl (by kernel_rfl) (by kernel_rfl) (by kernel_rfl) (fun _ _ _ h => h) (Or.inl ⟨by rfl, ?hy197⟩) hHeld ?rest197
                    case hy197 => intro X hSw; obtain ⟨g0, g1, g2, g3, g4, g5, g6, g7, g8, g9, g10⟩ := hSw; go_simp <;> first | with_reducible rfl | exact wkw
                    try simp only [Act.put, List.setIfInBounds_toArray, List.set_cons_zero, List.set_cons_succ]
                    refine takeHr (i := 4) (d := some 128) (v := ?v198) rfl rfl (by kernel_rfl) (by kernel_rfl) (by kernel_rfl) (fun _ _ _ h => h) (Or.inl ⟨by rfl, ?hy198⟩) hHeld ?rest198
                    case hy198 => intro X hSw; obtain ⟨g0, g1, g2, g3, g4, g5, g6, g7, g8, g9, g10⟩ := hSw; go_simp <;> first | with_reducible rfl | exact wkw
                    try simp only [Act.put, List.setIfInBounds_toArray, List.set_cons_zero, List.set_cons_succ]
                    refine takeHr (i := 5) (d := some 129) (v := ?v199) rfl rfl (by kernel_rfl) (by kernel_rfl) (by kernel_rfl) (fun _ _ _ h => h) (Or.inl ⟨by rfl, ?hy199⟩) hHeld ?rest199
                    case hy199 => intro X hSw; obtain ⟨g0, g1, g2, g3, g4, g5, g6, g7, g8, g9, g10⟩ := hSw; go_simp <;> first | with_reducible rfl | exact wkw
                    try simp only [Act.put, List.setIfInBounds_toArray, List.set_cons_zero, List.set_cons_succ]
                    refine takeHr (i := 6) (d := some 130) (v := .bool false) rfl rfl (by kernel_rfl) (by kernel_rfl) (by kernel_rfl) (fun _ _ _ h => h) (Or.inl ⟨by rfl, ?hy200⟩) hHeld ?rest200
                    case hy200 => intro X hSw; obtain ⟨g0, g1, g2, g3, g4, g5, g6, g7, g8, g9, g10⟩ := hSw; go_simp <;> first | with_reducible rfl | exact wkw
                    try simp only [Act.put, List.setIfInBounds_toArray, List.set_cons_zero, List.set_cons_succ]
                    refine takeHr (i := 7) (d := some 131) (v := .bool false) rfl rfl (by kernel_rfl) (by kernel_rfl) (by kernel_rfl) (fun _ _ _ h => h) (Or.inl ⟨by rfl, ?hy201⟩) hHeld ?rest201
                    case hy201 => intro X hSw; obtain ⟨g0, g1, g2, g3, g4, g5, g6, g7, g8, g9, g10⟩ := hSw; go_simp <;> first | with_reducible rfl | exact wkw
                    try simp only [Act.put, List.setIfInBounds_toArray, List.set_cons_zero, List.set_cons_succ]
                    refine takeHr (i := 8) (d := some 132) (v := ?v202) rfl rfl (by kernel_rfl) (by kernel_rfl) (by kernel_rfl) (fun _ _ _ h => h) (Or.inl ⟨by rfl, ?hy202⟩) hHeld ?rest202
                    case hy202 => intro X hSw; obtain ⟨g0, g1, g2, g3, g4, g5, g6, g7, g8, g9, g10⟩ := hSw; go_simp <;> first | with_reducible rfl | exact wkw
                    try simp only [Act.put, List.setIfInBounds_toArray, List.set_cons_zero, List.set_cons_succ]
                    refine takeHr (i := 9) (d := some 133) (v := ?v203) rfl rfl (by kernel_rfl) (by kernel_rfl) (by kernel_rfl) (fun _ _ _ h => h) (Or.inl ⟨by rfl, ?hy203⟩) hHeld ?rest203
                    case hy203 => intro X hSw; obtain ⟨g0, g1, g2, g3, g4, g5, g6, g7, g8, g9, g10⟩ := hSw; go_simp <;> first | with_reducible rfl | exact wkw
                    try simp only [Act.put, List.setIfInBounds_toArray, List.set_cons_zero, List.set_cons_succ]
                    refine takeHr (i := 10) (d := some 134) (v := ?v204) rfl rfl (by kernel_rfl) (by kernel_rfl) (by kernel_rfl) (fun _ _ _ h => h) (Or.inl ⟨by rfl, ?hy204⟩) hHeld ?rest204
                    case hy204 => intro X hSw; obtain ⟨g0, g1, g2, g3, g4, g5, g6, g7, g8, g9, g10⟩ := hSw; go_simp <;> first | with_reducible rfl | exact wkw
                    try simp only [Act.put, List.setIfInBounds_toArray, List.set_cons_zero, List.set_cons_succ]
                    refine takeHr (i := 11) (d := some 135) (v := ?v205) rfl rfl (by kernel_rfl) (by kernel_rfl) (by kernel_rfl) (fun _ _ _ h => h) (Or.inl ⟨by rfl, ?hy205⟩) hHeld ?rest205
                    case hy205 => intro X hSw; obtain ⟨g0, g1, g2, g3, g4, g5, g6, g7, g8, g9, g10⟩ := hSw; go_simp <;> first | with_reducible rfl | exact wkw
                    try simp only [Act.put, List.setIfInBounds_toArray, List.set_cons_zero, List.set_cons_succ]
                    refine takeHr (i := 12) (d := some 136) (v := ?v206) rfl rfl (by kernel_rfl) (by kernel_rfl) (by kernel_rfl) (fun _ _ _ h => h) (Or.inl ⟨by rfl, ?hy206⟩) hHeld ?rest206
                    case hy206 => intro X hSw; obtain ⟨g0, g1, g2, g3, g4, g5, g6, g7, g8, g9, g10⟩ := hSw; go_simp <;> first | with_reducible rfl | exact wkw
                    try simp only [Act.put, List.setIfInBounds_toArray, List.set_cons_zero, List.set_cons_succ]
                    refine takeHr (i := 14) (d := some 138) (v := ?v207) rfl rfl (by kernel_rfl) (by kernel_rfl) (by kernel_rfl) (fun _ _ _ h => h) (Or.inl ⟨by rfl, ?hy207⟩) hHeld ?rest207
                    case hy207 => intro X hSw; obtain ⟨g0, g1, g2, g3, g4, g5, g6, g7, g8, g9, g10⟩ := hSw; go_simp <;> first | with_reducible rfl | exact wkw
                    try simp only [Act.put, List.setIfInBounds_toArray, List.set_cons_zero, List.set_cons_succ]
                    refine takeHr (i := 15) (d := some 139) (v := ?v208) rfl rfl (by kernel_rfl) (by kernel_rfl) (by kernel_rfl) (fun _ _ _ h => h) (Or.inl ⟨by rfl, ?hy208⟩) hHeld ?rest208
                    case hy208 => intro X hSw; obtain ⟨g0, g1, g2, g3, g4, g5, g6, g7, g8, g9, g10⟩ := hSw; go_simp <;> first | with_reducible rfl | exact wkw
                    try simp only [Act.put, List.setIfInBounds_toArray, List.set_cons_zero, List.set_cons_succ]
                    refine wpAnyH_ready (rs := [13]) (by kernel_rfl) (by simp) ?_
                    refine AllReadyH.cons (o := { dst := some 137, op := Op.call { callee := Callee.value (Operand.func 9), args := #[Operand.tmp 132, Operand.tmp 134, Operand.tmp 136], argTypes := #[24, 31, 3] }, type := 3, pos := "outright.go:89", after := #[{ on := 8, ground := Ground.data }, { on := 10, ground := Ground.data }, { on := 12, ground := Ground.data }, { on := 7, ground := Ground.chain }, { on := 7, ground := Ground.guard }], guard := some (7, false) }) rfl (fun Kq hKq => ?_) AllReadyH.nil
                    · go_simp
                      refine (SFy.out _ (bt HB17.out HBc.out)).mono ?_
                      rintro e w209x ⟨rfl, hb209⟩
                      replace HBc := (show Hid _ from bt HBc.out hb209)
                      refine hKq.out _ _ ⟨cell_below hHeld.1 hb209, cell_below hHeld.2.1 hb209, cell_below hHeld.2.2.1 hb209, cell_below hHeld.2.2.2.1 hb209, cell_below hHeld.2.2.2.2.1 hb209, cell_below hHeld.2.2.2.2.2.1 hb209, cell_below hHeld.2.2.2.2.2.2.1 hb209, cell_below hHeld.2.2.2.2.2.2.2.1 hb209, cell_below hHeld.2.2.2.2.2.2.2.2.1 hb209, cell_below hHeld.2.2.2.2.2.2.2.2.2.1 hb209, cell_below hHeld.2.2.2.2.2.2.2.2.2.2 hb209⟩ (fun hHeld => ?_)
                      clear hKq Kq
                      try simp only [Act.put, List.setIfInBounds_toArray, List.set_cons_zero, List.set_cons_succ]
                      refine takeHr (i := 16) (d := some 140) (v := .bool false) rfl rfl (by kernel_rfl) (by kernel_rfl) (by kernel_rfl) (fun _ _ _ h => h) (Or.inl ⟨by rfl, ?hy210⟩) hHeld ?rest210
                      case hy210 => intro X hSw; obtain ⟨g0, g1, g2, g3, g4, g5, g6, g7, g8, g9, g10⟩ := hSw; go_simp <;> first | with_reducible rfl | exact wkw
                      try simp only [Act.put, List.setIfInBounds_toArray, List.set_cons_zero, List.set_cons_succ]
                      refine takeHr (i := 17) (d := some 141) (v := .bool false) rfl rfl (by kernel_rfl) (by kernel_rfl) (by kernel_rfl) (fun _ _ _ h => h) (Or.inl ⟨by rfl, ?hy211⟩) hHeld ?rest211
                      case hy211 => intro X hSw; obtain ⟨g0, g1, g2, g3, g4, g5, g6, g7, g8, g9, g10⟩ := hSw; go_simp <;> first | with_reducible rfl | exact wkw
                      try simp only [Act.put, List.setIfInBounds_toArray, List.set_cons_zero, List.set_cons_succ]
                      refine takeHr (i := 18) (d := some 142) (v := .bool false) rfl rfl (by kernel_rfl) (by kernel_rfl) (by kernel_rfl) (fun _ _ _ h => h) (Or.inl ⟨by rfl, ?hy212⟩) hHeld ?rest212
                      case hy212 => intro X hSw; obtain ⟨g0, g1, g2, g3, g4, g5, g6, g7, g8, g9, g10⟩ := hSw; go_simp <;> first | with_reducible rfl | exact wkw
                      try simp only [Act.put, List.setIfInBounds_toArray, List.set_cons_zero, List.set_cons_succ]
                      refine takeHr (i := 19) (d := some 143) (v := ?v213) rfl rfl (by kernel_rfl) (by kernel_rfl) (by kernel_rfl) (fun _ _ _ h => h) (Or.inl ⟨by rfl, ?hy213⟩) hHeld ?rest213
                      case hy213 => intro X hSw; obtain ⟨g0, g1, g2, g3, g4, g5, g6, g7, g8, g9, g10⟩ := hSw; go_simp <;> first | with_reducible rfl | exact wkw
                      try simp only [Act.put, List.setIfInBounds_toArray, List.set_cons_zero, List.set_cons_succ]
                      refine takeHr (i := 20) (d := some 144) (v := ?v214) rfl rfl (by kernel_rfl) (by kernel_rfl) (by kernel_rfl) (fun _ _ _ h => h) (Or.inl ⟨by rfl, ?hy214⟩) hHeld ?rest214
                      case hy214 => intro X hSw; obtain ⟨g0, g1, g2, g3, g4, g5, g6, g7, g8, g9, g10⟩ := hSw; go_simp <;> first | with_reducible rfl | exact wkw
                      try simp only [Act.put, List.setIfInBounds_toArray, List.set_cons_zero, List.set_cons_succ]
                      refine takeHr (i := 21) (d := some 145) (v := ?v215) rfl rfl (by kernel_rfl) (by kernel_rfl) (by kernel_rfl) (fun _ _ _ h => h) (Or.inl ⟨by rfl, ?hy215⟩) hHeld ?rest215
                      case hy215 => intro X hSw; obtain ⟨g0, g1, g2, g3, g4, g5, g6, g7, g8, g9, g10⟩ := hSw; go_simp <;> first | with_reducible rfl | exact wkw
                      try simp only [Act.put, List.setIfInBounds_toArray, List.set_cons_zero, List.set_cons_succ]
                      refine takeHr (i := 22) (d := some 146) (v := ?v216) rfl rfl (by kernel_rfl) (by kernel_rfl) (by kernel_rfl) (fun _ _ _ h => h) (Or.inl ⟨by rfl, ?hy216⟩) hHeld ?rest216
                      case hy216 => intro X hSw; obtain ⟨g0, g1, g2, g3, g4, g5, g6, g7, g8, g9, g10⟩ := hSw; go_simp <;> first | with_reducible rfl | exact wkw
                      try simp only [Act.put, List.setIfInBounds_toArray, List.set_cons_zero, List.set_cons_succ]
                      refine takeHr (i := 23) (d := some 147) (v := ?v217) rfl rfl (by kernel_rfl) (by kernel_rfl) (by kernel_rfl) (fun _ _ _ h => h) (Or.inl ⟨by rfl, ?hy217⟩) hHeld ?rest217
                      case hy217 => intro X hSw; obtain ⟨g0, g1, g2, g3, g4, g5, g6, g7, g8, g9, g10⟩ := hSw; go_simp <;> first | with_reducible rfl | exact wkw
                      try simp only [Act.put, List.setIfInBounds_toArray, List.set_cons_zero, List.set_cons_succ]
                      refine takeHr (i := 24) (d := some 148) (v := ?v218) rfl rfl (by kernel_rfl) (by kernel_rfl) (by kernel_rfl) (fun _ _ _ h => h) (Or.inl ⟨by rfl, ?hy218⟩) hHeld ?rest218
                      case hy218 => intro X hSw; obtain ⟨g0, g1, g2, g3, g4, g5, g6, g7, g8, g9, g10⟩ := hSw; go_simp <;> first | with_reducible rfl | exact wkw
                      try simp only [Act.put, List.setIfInBounds_toArray, List.set_cons_zero, List.set_cons_succ]
                      refine takeHr (i := 25) (d := some 149) (v := ?v219) rfl rfl (by kernel_rfl) (by kernel_rfl) (by kernel_rfl) (fun _ _ _ h => h) (Or.inl ⟨by rfl, ?hy219⟩) hHeld ?rest219
                      case hy219 => intro X hSw; obtain ⟨g0, g1, g2, g3, g4, g5, g6, g7, g8, g9, g10⟩ := hSw; go_simp <;> first | with_reducible rfl | exact wkw
                      try simp only [Act.put, List.setIfInBounds_toArray, List.set_cons_zero, List.set_cons_succ]
                      refine takeHr (i := 26) (d := some 150) (v := ?v220) rfl rfl (by kernel_rfl) (by kernel_rfl) (by kernel_rfl) (fun _ _ _ h => h) (Or.inl ⟨by rfl, ?hy220⟩) hHeld ?rest220
                      case hy220 => intro X hSw; obtain ⟨g0, g1, g2, g3, g4, g5, g6, g7, g8, g9, g10⟩ := hSw; go_simp <;> first | with_reducible rfl | exact wkw
                      try simp only [Act.put, List.setIfInBounds_toArray, List.set_cons_zero, List.set_cons_succ]
                      refine wpAnyH_ready (rs := [27]) (by kernel_rfl) (by simp) ?_
                      refine AllReadyH.cons (o := { dst := some 151, op := Op.call { callee := Callee.value (Operand.func 12), args := #[Operand.tmp 144, Operand.tmp 146, Operand.tmp 148, Operand.tmp 150], argTypes := #[31, 3, 31, 3] }, type := 4, pos := "outright.go:89", after := #[{ on := 20, ground := Ground.data }, { on := 22, ground := Ground.data }, { on := 24, ground := Ground.data }, { on := 26, ground := Ground.data }, { on := 18, ground := Ground.chain }, { on := 18, ground := Ground.guard }], guard := some (18, false) }) rfl (fun Kq hKq => ?_) AllReadyH.nil
                      · go_simp
                        refine (OLy.out _).mono ?_
                        rintro e w221x ⟨rfl, hb221⟩
                        replace HBc := (show Hid _ from bt HBc.out hb221)
                        refine hKq.out _ _ ⟨cell_below hHeld.1 hb221, cell_below hHeld.2.1 hb221, cell_below hHeld.2.2.1 hb221, cell_below hHeld.2.2.2.1 hb221, cell_below hHeld.2.2.2.2.1 hb221, cell_below hHeld.2.2.2.2.2.1 hb221, cell_below hHeld.2.2.2.2.2.2.1 hb221, cell_below hHeld.2.2.2.2.2.2.2.1 hb221, cell_below hHeld.2.2.2.2.2.2.2.2.1 hb221, cell_below hHeld.2.2.2.2.2.2.2.2.2.1 hb221, cell_below hHeld.2.2.2.2.2.2.2.2.2.2 hb221⟩ (fun hHeld => ?_)
                        clear hKq Kq
                        try simp only [Act.put, List.setIfInBounds_toArray, List.set_cons_zero, List.set_cons_succ]
                        refine takeHr (i := 28) (d := some 152) (v := .bool false) rfl rfl (by kernel_rfl) (by kernel_rfl) (by kernel_rfl) (fun _ _ _ h => h) (Or.inl ⟨by rfl, ?hy222⟩) hHeld ?rest222
                        case hy222 => intro X hSw; obtain ⟨g0, g1, g2, g3, g4, g5, g6, g7, g8, g9, g10⟩ := hSw; go_simp <;> first | with_reducible rfl | exact wkw
                        try simp only [Act.put, List.setIfInBounds_toArray, List.set_cons_zero, List.set_cons_succ]
                        refine takeHr (i := 29) (d := some 153) (v := .bool false) rfl rfl (by kernel_rfl) (by kernel_rfl) (by kernel_rfl) (fun _ _ _ h => h) (Or.inl ⟨by rfl, ?hy223⟩) hHeld ?rest223
                        case hy223 => intro X hSw; obtain ⟨g0, g1, g2, g3, g4, g5, g6, g7, g8, g9, g10⟩ := hSw; go_simp <;> first | with_reducible rfl | exact wkw
                        try simp only [Act.put, List.setIfInBounds_toArray, List.set_cons_zero, List.set_cons_succ]
                        refine takeHr (i := 30) (d := some 154) (v := ?v224) rfl rfl (by kernel_rfl) (by kernel_rfl) (by kernel_rfl) (fun _ _ _ h => h) (Or.inl ⟨by rfl, ?hy224⟩) hHeld ?rest224
                        case hy224 => intro X hSw; obtain ⟨g0, g1, g2, g3, g4, g5, g6, g7, g8, g9, g10⟩ := hSw; go_simp <;> first | with_reducible rfl | exact wkw
                        try simp only [Act.put, List.setIfInBounds_toArray, List.set_cons_zero, List.set_cons_succ]
                        refine takeHr (i := 31) (d := some 155) (v := ?v225) rfl rfl (by kernel_rfl) (by kernel_rfl) (by kernel_rfl) (fun _ _ _ h => h) (Or.inl ⟨by rfl, ?hy225⟩) hHeld ?rest225
                        case hy225 => intro X hSw; obtain ⟨g0, g1, g2, g3, g4, g5, g6, g7, g8, g9, g10⟩ := hSw; go_simp <;> first | with_reducible rfl | exact wkw
                        try simp only [Act.put, List.setIfInBounds_toArray, List.set_cons_zero, List.set_cons_succ]
                        refine takeHr (i := 32) (d := some 156) (v := ?v226) rfl rfl (by kernel_rfl) (by kernel_rfl) (by kernel_rfl) (fun _ _ _ h => h) (Or.inl ⟨by rfl, ?hy226⟩) hHeld ?rest226
                        case hy226 => intro X hSw; obtain ⟨g0, g1, g2, g3, g4, g5, g6, g7, g8, g9, g10⟩ := hSw; go_simp <;> first | with_reducible rfl | exact wkw
                        try simp only [Act.put, List.setIfInBounds_toArray, List.set_cons_zero, List.set_cons_succ]
                        refine takeHr (i := 33) (d := some 157) (v := ?v227) rfl rfl (by kernel_rfl) (by kernel_rfl) (by kernel_rfl) (fun _ _ _ h => h) (Or.inl ⟨by rfl, ?hy227⟩) hHeld ?rest227
                        case hy227 => intro X hSw; obtain ⟨g0, g1, g2, g3, g4, g5, g6, g7, g8, g9, g10⟩ := hSw; go_simp <;> first | with_reducible rfl | exact wkw
                        try simp only [Act.put, List.setIfInBounds_toArray, List.set_cons_zero, List.set_cons_succ]
                        refine takeHr (i := 34) (d := some 158) (v := ?v228) rfl rfl (by kernel_rfl) (by kernel_rfl) (by kernel_rfl) (fun _ _ _ h => h) (Or.inl ⟨by rfl, ?hy228⟩) hHeld ?rest228
                        case hy228 => intro X hSw; obtain ⟨g0, g1, g2, g3, g4, g5, g6, g7, g8, g9, g10⟩ := hSw; go_simp <;> first | with_reducible rfl | exact wkw
                        try simp only [Act.put, List.setIfInBounds_toArray, List.set_cons_zero, List.set_cons_succ]
                        refine takeHr (i := 35) (d := some 159) (v := ?v229) rfl rfl (by kernel_rfl) (by kernel_rfl) (by kernel_rfl) (fun _ _ _ h => h) (Or.inl ⟨by rfl, ?hy229⟩) hHeld ?rest229
                        case hy229 => intro X hSw; obtain ⟨g0, g1, g2, g3, g4, g5, g6, g7, g8, g9, g10⟩ := hSw; go_simp <;> first | with_reducible rfl | exact wkw
                        try simp only [Act.put, List.setIfInBounds_toArray, List.set_cons_zero, List.set_cons_succ]
                        refine takeHr (i := 36) (d := some 160) (v := ?v230) rfl rfl (by kernel_rfl) (by kernel_rfl) (by kernel_rfl) (fun _ _ _ h => h) (Or.inl ⟨by rfl, ?hy230⟩) hHeld ?rest230
                        case hy230 => intro X hSw; obtain ⟨g0, g1, g2, g3, g4, g5, g6, g7, g8, g9, g10⟩ := hSw; go_simp <;> first | with_reducible rfl | exact wkw
                        try simp only [Act.put, List.setIfInBounds_toArray, List.set_cons_zero, List.set_cons_succ]
                        refine takeHr (i := 37) (d := some 161) (v := ?v231) rfl rfl (by kernel_rfl) (by kernel_rfl) (by kernel_rfl) (fun _ _ _ h => h) (Or.inl ⟨by rfl, ?hy231⟩) hHeld ?rest231
                        case hy231 => intro X hSw; obtain ⟨g0, g1, g2, g3, g4, g5, g6, g7, g8, g9, g10⟩ := hSw; go_simp <;> first | with_reducible rfl | exact wkw
                        try simp only [Act.put, List.setIfInBounds_toArray, List.set_cons_zero, List.set_cons_succ]
                        refine wpAnyH_ready (rs := [38]) (by kernel_rfl) (by simp) ?_
                        refine AllReadyH.cons (o := { dst := some 162, op := Op.call { callee := Callee.value (Operand.func 9), args := #[Operand.tmp 157, Operand.tmp 159, Operand.tmp 161], argTypes := #[24, 31, 3] }, type := 3, pos := "outright.go:89", after := #[{ on := 33, ground := Ground.data }, { on := 35, ground := Ground.data }, { on := 37, ground := Ground.data }, { on := 29, ground := Ground.chain }, { on := 29, ground := Ground.guard }], guard := some (29, false) }) rfl (fun Kq hKq => ?_) AllReadyH.nil
                        · go_simp
                          refine (SPy.out _ (bt HB17.out HBc.out)).mono ?_
                          rintro e w232x ⟨rfl, hb232⟩
                          replace HBc := (show Hid _ from bt HBc.out hb232)
                          refine hKq.out _ _ ⟨cell_below hHeld.1 hb232, cell_below hHeld.2.1 hb232, cell_below hHeld.2.2.1 hb232, cell_below hHeld.2.2.2.1 hb232, cell_below hHeld.2.2.2.2.1 hb232, cell_below hHeld.2.2.2.2.2.1 hb232, cell_below hHeld.2.2.2.2.2.2.1 hb232, cell_below hHeld.2.2.2.2.2.2.2.1 hb232, cell_below hHeld.2.2.2.2.2.2.2.2.1 hb232, cell_below hHeld.2.2.2.2.2.2.2.2.2.1 hb232, cell_below hHeld.2.2.2.2.2.2.2.2.2.2 hb232⟩ (fun hHeld => ?_)
                          clear hKq Kq
                          try simp only [Act.put, List.setIfInBounds_toArray, List.set_cons_zero, List.set_cons_succ]
                          refine takeHr (i := 39) (d := some 163) (v := .bool false) rfl rfl (by kernel_rfl) (by kernel_rfl) (by kernel_rfl) (fun _ _ _ h => h) (Or.inl ⟨by rfl, ?hy233⟩) hHeld ?rest233
                          case hy233 => intro X hSw; obtain ⟨g0, g1, g2, g3, g4, g5, g6, g7, g8, g9, g10⟩ := hSw; go_simp <;> first | with_reducible rfl | exact wkw
                          try simp only [Act.put, List.setIfInBounds_toArray, List.set_cons_zero, List.set_cons_succ]
                          refine takeHr (i := 40) (d := some 164) (v := .bool false) rfl rfl (by kernel_rfl) (by kernel_rfl) (by kernel_rfl) (fun _ _ _ h => h) (Or.inl ⟨by rfl, ?hy234⟩) hHeld ?rest234
                          case hy234 => intro X hSw; obtain ⟨g0, g1, g2, g3, g4, g5, g6, g7, g8, g9, g10⟩ := hSw; go_simp <;> first | with_reducible rfl | exact wkw
                          try simp only [Act.put, List.setIfInBounds_toArray, List.set_cons_zero, List.set_cons_succ]
                          refine takeHr (i := 41) (d := some 165) (v := .bool false) rfl rfl (by kernel_rfl) (by kernel_rfl) (by kernel_rfl) (fun _ _ _ h => h) (Or.inl ⟨by rfl, ?hy235⟩) hHeld ?rest235
                          case hy235 => intro X hSw; obtain ⟨g0, g1, g2, g3, g4, g5, g6, g7, g8, g9, g10⟩ := hSw; go_simp <;> first | with_reducible rfl | exact wkw
                          try simp only [Act.put, List.setIfInBounds_toArray, List.set_cons_zero, List.set_cons_succ]
                          refine wpAnyH_done (by kernel_rfl) ?_ _
                          have ca0 := hHeld.1
                          have ca1 := hHeld.2.1
                          have ca2 := hHeld.2.2.1
                          have ca3 := hHeld.2.2.2.1
                          have cb0 := hHeld.2.2.2.2.1
                          have cb1 := hHeld.2.2.2.2.2.1
                          have cb2 := hHeld.2.2.2.2.2.2.1
                          have cb3 := hHeld.2.2.2.2.2.2.2.1
                          have cb4 := hHeld.2.2.2.2.2.2.2.2.1
                          have s0 := hHeld.2.2.2.2.2.2.2.2.2.1
                          have s1 := hHeld.2.2.2.2.2.2.2.2.2.2
                          clear hHeld
                          go_wp2_with (fail)
                          obtain ⟨wd162, hwd⟩ : ∃ wq, wq = w232x.drew := ⟨_, rfl⟩
                          have bd : Below w232x.heap.size w232x wd162 := by rw [hwd]; exact (Below.refl _ _).drew
                          replace HBc := (show Hid (Below w17.heap.size w17 wd162) from bt HBc.out bd)
                          refine wp_region_held_drew (S := fun X => X.cell? ⟨w11.heap.size, 0, none⟩ = some (.int .i64 1) ∧ X.cell? ⟨w11.heap.size, 1, none⟩ = some (.int .i64 y1) ∧ X.cell? ⟨w11.heap.size, 2, none⟩ = some (.int .i64 y2) ∧ X.cell? ⟨w11.heap.size, 3, none⟩ = some (.int .i64 y3) ∧ X.cell? ⟨w14.heap.size, 0, none⟩ = some (.int .i64 1) ∧ X.cell? ⟨w14.heap.size, 1, none⟩ = some (.int .i64 y1) ∧ X.cell? ⟨w14.heap.size, 2, none⟩ = some (.int .i64 y2) ∧ X.cell? ⟨w14.heap.size, 3, none⟩ = some (.int .i64 y3) ∧ X.cell? ⟨w14.heap.size, 4, none⟩ = some (.slice q14 Lw c14) ∧ X.cell? ⟨w.heap.size, 0, none⟩ = some (.int .i64 k) ∧ X.cell? ⟨w.heap.size, 1, none⟩ = some (.int .i64 m)) (by kernel_rfl) (by rw [← hwd]; exact ⟨cell_below ca0 bd, cell_below ca1 bd, cell_below ca2 bd, cell_below ca3 bd, cell_below cb0 bd, cell_below cb1 bd, cell_below cb2 bd, cell_below cb3 bd, cell_below cb4 bd, cell_below s0 bd, cell_below s1 bd⟩) (fun hHeld => ?_)
                          rw [← hwd] at hHeld ⊢
                          clear ca0 ca1 ca2 ca3 cb0 cb1 cb2 cb3 cb4 s0 s1 bd hwd
                          refine takeHr (i := 0) (d := some 185) (v := ?v163) rfl rfl (by kernel_rfl) (by kernel_rfl) (by kernel_rfl) (fun _ _ _ h => h) (Or.inl ⟨by rfl, ?hy163⟩) hHeld ?rest163
                          case hy163 => intro X hSw; obtain ⟨g0, g1, g2, g3, g4, g5, g6, g7, g8, g9, g10⟩ := hSw; go_simp <;> first | with_reducible rfl | exact wkw
                          try simp only [Act.put, List.setIfInBounds_toArray, List.set_cons_zero, List.set_cons_succ]
                          refine takeHr (i := 1) (d := some 186) (v := ?v164) rfl rfl (by kernel_rfl) (by kernel_rfl) (by kernel_rfl) (fun _ _ _ h => h) (Or.inl ⟨by rfl, ?hy164⟩) hHeld ?rest164
                          case hy164 => intro X hSw; obtain ⟨g0, g1, g2, g3, g4, g5, g6, g7, g8, g9, g10⟩ := hSw; go_simp <;> first | with_reducible rfl | exact wkw
                          try simp only [Act.put, List.setIfInBounds_toArray, List.set_cons_zero, List.set_cons_succ]
                          refine takeHr (i := 2) (d := some 187) (v := ?v165) rfl rfl (by kernel_rfl) (by kernel_rfl) (by kernel_rfl) (fun _ _ _ h => h) (Or.inl ⟨by rfl, ?hy165⟩) hHeld ?rest165
                          case hy165 => intro X hSw; obtain ⟨g0, g1, g2, g3, g4, g5, g6, g7, g8, g9, g10⟩ := hSw; go_simp <;> first | with_reducible rfl | exact wkw
                          try simp only [Act.put, List.setIfInBounds_toArray, List.set_cons_zero, List.set_cons_succ]
                          refine takeHr (i := 3) (d := some 188) (v := ?v166) rfl rfl (by kernel_rfl) (by kernel_rfl) (by kernel_rfl) (fun _ _ _ h => h) (Or.inl ⟨by rfl, ?hy166⟩) hHeld ?rest166
                          case hy166 => intro X hSw; obtain ⟨g0, g1, g2, g3, g4, g5, g6, g7, g8, g9, g10⟩ := hSw; go_simp <;> first | with_reducible rfl | exact wkw
                          try simp only [Act.put, List.setIfInBounds_toArray, List.set_cons_zero, List.set_cons_succ]
                          refine takeHr (i := 4) (d := some 189) (v := ?v167) rfl rfl (by kernel_rfl) (by kernel_rfl) (by kernel_rfl) (fun _ _ _ h => h) (Or.inl ⟨by rfl, ?hy167⟩) hHeld ?rest167
                          case hy167 => intro X hSw; obtain ⟨g0, g1, g2, g3, g4, g5, g6, g7, g8, g9, g10⟩ := hSw; go_simp <;> first | with_reducible rfl | exact wkw
                          try simp only [Act.put, List.setIfInBounds_toArray, List.set_cons_zero, List.set_cons_succ]
                          refine takeHr (i := 6) (d := some 191) (v := ?v168) rfl rfl (by kernel_rfl) (by kernel_rfl) (by kernel_rfl) (fun _ _ _ h => h) (Or.inl ⟨by rfl, ?hy168⟩) hHeld ?rest168
                          case hy168 => intro X hSw; obtain ⟨g0, g1, g2, g3, g4, g5, g6, g7, g8, g9, g10⟩ := hSw; go_simp <;> first | with_reducible rfl | exact wkw
                          try simp only [Act.put, List.setIfInBounds_toArray, List.set_cons_zero, List.set_cons_succ]
                          refine takeHr (i := 7) (d := some 192) (v := ?v169) rfl rfl (by kernel_rfl) (by kernel_rfl) (by kernel_rfl) (fun _ _ _ h => h) (Or.inl ⟨by rfl, ?hy169⟩) hHeld ?rest169
                          case hy169 => intro X hSw; obtain ⟨g0, g1, g2, g3, g4, g5, g6, g7, g8, g9, g10⟩ := hSw; go_simp <;> first | with_reducible rfl | exact wkw
                          try simp only [Act.put, List.setIfInBounds_toArray, List.set_cons_zero, List.set_cons_succ]
                          refine takeHr (i := 8) (d := some 193) (v := ?v170) rfl rfl (by kernel_rfl) (by kernel_rfl) (by kernel_rfl) (fun _ _ _ h => h) (Or.inl ⟨by rfl, ?hy170⟩) hHeld ?rest170
                          case hy170 => intro X hSw; obtain ⟨g0, g1, g2, g3, g4, g5, g6, g7, g8, g9, g10⟩ := hSw; go_simp <;> first | with_reducible rfl | exact wkw
                          try simp only [Act.put, List.setIfInBounds_toArray, List.set_cons_zero, List.set_cons_succ]
                          refine takeHr (i := 9) (d := some 194) (v := .int .i64 (k + (h0 : Int))) rfl rfl (by kernel_rfl) (by kernel_rfl) (by kernel_rfl) (fun _ _ _ h => h) (Or.inl ⟨by rfl, ?hy171⟩) hHeld ?rest171
                          case hy171 => intro X hSw; obtain ⟨g0, g1, g2, g3, g4, g5, g6, g7, g8, g9, g10⟩ := hSw; go_simp <;> first | with_reducible rfl | exact wkw
                          try simp only [Act.put, List.setIfInBounds_toArray, List.set_cons_zero, List.set_cons_succ]
                          refine wpAnyH_ready (rs := [5]) (by kernel_rfl) (by simp) ?_
                          refine AllReadyH.cons (o := { dst := some 190, op := Op.call { callee := Callee.value (Operand.func 9), args := #[Operand.tmp 185, Operand.tmp 187, Operand.tmp 189], argTypes := #[24, 31, 3] }, type := 3, pos := "outright.go:98", after := #[{ on := 0, ground := Ground.data }, { on := 2, ground := Ground.data }, { on := 4, ground := Ground.data }], guard := none }) rfl (fun Kq hKq => ?_) AllReadyH.nil
                          · go_simp
                            refine (SFv.out _ (bt HB17.out HBc.out)).mono ?_
                            rintro e w172x ⟨rfl, hb172⟩
                            replace HBc := (show Hid _ from bt HBc.out hb172)
                            refine hKq.out _ _ ⟨cell_below hHeld.1 hb172, cell_below hHeld.2.1 hb172, cell_below hHeld.2.2.1 hb172, cell_below hHeld.2.2.2.1 hb172, cell_below hHeld.2.2.2.2.1 hb172, cell_below hHeld.2.2.2.2.2.1 hb172, cell_below hHeld.2.2.2.2.2.2.1 hb172, cell_below hHeld.2.2.2.2.2.2.2.1 hb172, cell_below hHeld.2.2.2.2.2.2.2.2.1 hb172, cell_below hHeld.2.2.2.2.2.2.2.2.2.1 hb172, cell_below hHeld.2.2.2.2.2.2.2.2.2.2 hb172⟩ (fun hHeld => ?_)
                            clear hKq Kq
                            try simp only [Act.put, List.setIfInBounds_toArray, List.set_cons_zero, List.set_cons_succ]
                            refine takeHr (i := 10) (d := some 195) (v := .bool true) rfl rfl (by kernel_rfl) (by kernel_rfl) (by kernel_rfl) (fun _ _ _ h => h) (Or.inl ⟨by rfl, ?hy173⟩) hHeld ?rest173
                            case hy173 => intro X hSw; obtain ⟨g0, g1, g2, g3, g4, g5, g6, g7, g8, g9, g10⟩ := hSw; go_simp <;> first | with_reducible rfl | exact wkw
                            try simp only [Act.put, List.setIfInBounds_toArray, List.set_cons_zero, List.set_cons_succ]
                            refine takeHr (i := 11) (d := some 196) (v := .bool true) rfl rfl (by kernel_rfl) (by kernel_rfl) (by kernel_rfl) (fun _ _ _ h => h) (Or.inl ⟨by rfl, ?hy174⟩) hHeld ?rest174
                            case hy174 => intro X hSw; obtain ⟨g0, g1, g2, g3, g4, g5, g6, g7, g8, g9, g10⟩ := hSw; go_simp <;> first | with_reducible rfl | exact wkw
                            try simp only [Act.put, List.setIfInBounds_toArray, List.set_cons_zero, List.set_cons_succ]
                            refine takeHr (i := 12) (d := some 197) (v := ?v175) rfl rfl (by kernel_rfl) (by kernel_rfl) (by kernel_rfl) (fun _ _ _ h => h) (Or.inl ⟨by rfl, ?hy175⟩) hHeld ?rest175
                            case hy175 => intro X hSw; obtain ⟨g0, g1, g2, g3, g4, g5, g6, g7, g8, g9, g10⟩ := hSw; go_simp <;> first | with_reducible rfl | exact wkw
                            try simp only [Act.put, List.setIfInBounds_toArray, List.set_cons_zero, List.set_cons_succ]
                            refine takeHr (i := 13) (d := some 198) (v := ?v176) rfl rfl (by kernel_rfl) (by kernel_rfl) (by kernel_rfl) (fun _ _ _ h => h) (Or.inl ⟨by rfl, ?hy176⟩) hHeld ?rest176
                            case hy176 => intro X hSw; obtain ⟨g0, g1, g2, g3, g4, g5, g6, g7, g8, g9, g10⟩ := hSw; go_simp <;> first | with_reducible rfl | exact wkw
                            try simp only [Act.put, List.setIfInBounds_toArray, List.set_cons_zero, List.set_cons_succ]
                            refine takeHr (i := 14) (d := some 199) (v := .bool false) rfl rfl (by kernel_rfl) (by kernel_rfl) (by kernel_rfl) (fun _ _ _ h => h) (Or.inl ⟨by rfl, ?hy177⟩) hHeld ?rest177
                            case hy177 => intro X hSw; obtain ⟨g0, g1, g2, g3, g4, g5, g6, g7, g8, g9, g10⟩ := hSw; go_simp <;> first | with_reducible rfl | exact wkw
                            try simp only [Act.put, List.setIfInBounds_toArray, List.set_cons_zero, List.set_cons_succ]
                            refine takeHr (i := 15) (d := some 200) (v := .bool false) rfl rfl (by kernel_rfl) (by kernel_rfl) (by kernel_rfl) (fun _ _ _ h => h) (Or.inl ⟨by rfl, ?hy178⟩) hHeld ?rest178
                            case hy178 => intro X hSw; obtain ⟨g0, g1, g2, g3, g4, g5, g6, g7, g8, g9, g10⟩ := hSw; go_simp <;> first | with_reducible rfl | exact wkw
                            try simp only [Act.put, List.setIfInBounds_toArray, List.set_cons_zero, List.set_cons_succ]
                            refine takeHr (i := 16) (d := some 201) (v := ?v179) rfl rfl (by kernel_rfl) (by kernel_rfl) (by kernel_rfl) (fun _ _ _ h => h) (Or.inl ⟨by rfl, ?hy179⟩) hHeld ?rest179
                            case hy179 => intro X hSw; obtain ⟨g0, g1, g2, g3, g4, g5, g6, g7, g8, g9, g10⟩ := hSw; go_simp <;> first | with_reducible rfl | exact wkw
                            try simp only [Act.put, List.setIfInBounds_toArray, List.set_cons_zero, List.set_cons_succ]
                            refine takeHr (i := 17) (d := some 202) (v := ?v180) rfl rfl (by kernel_rfl) (by kernel_rfl) (by kernel_rfl) (fun _ _ _ h => h) (Or.inl ⟨by rfl, ?hy180⟩) hHeld ?rest180
                            case hy180 => intro X hSw; obtain ⟨g0, g1, g2, g3, g4, g5, g6, g7, g8, g9, g10⟩ := hSw; go_simp <;> first | with_reducible rfl | exact wkw
                            try simp only [Act.put, List.setIfInBounds_toArray, List.set_cons_zero, List.set_cons_succ]
                            refine takeHr (i := 18) (d := some 203) (v := ?v181) rfl rfl (by kernel_rfl) (by kernel_rfl) (by kernel_rfl) (fun _ _ _ h => h) (Or.inl ⟨by rfl, ?hy181⟩) hHeld ?rest181
                            case hy181 => intro X hSw; obtain ⟨g0, g1, g2, g3, g4, g5, g6, g7, g8, g9, g10⟩ := hSw; go_simp <;> first | with_reducible rfl | exact wkw
                            try simp only [Act.put, List.setIfInBounds_toArray, List.set_cons_zero, List.set_cons_succ]
                            refine takeHr (i := 19) (d := some 204) (v := ?v182) rfl rfl (by kernel_rfl) (by kernel_rfl) (by kernel_rfl) (fun _ _ _ h => h) (Or.inl ⟨by rfl, ?hy182⟩) hHeld ?rest182
                            case hy182 => intro X hSw; obtain ⟨g0, g1, g2, g3, g4, g5, g6, g7, g8, g9, g10⟩ := hSw; go_simp <;> first | with_reducible rfl | exact wkw
                            try simp only [Act.put, List.setIfInBounds_toArray, List.set_cons_zero, List.set_cons_succ]
                            refine takeHr (i := 20) (d := some 205) (v := .bool false) rfl rfl (by kernel_rfl) (by kernel_rfl) (by kernel_rfl) (fun _ _ _ h => h) (Or.inl ⟨by rfl, ?hy183⟩) hHeld ?rest183
                            case hy183 => intro X hSw; obtain ⟨g0, g1, g2, g3, g4, g5, g6, g7, g8, g9, g10⟩ := hSw; go_simp <;> first | with_reducible rfl | exact wkw
                            try simp only [Act.put, List.setIfInBounds_toArray, List.set_cons_zero, List.set_cons_succ]
                            refine takeHr (i := 21) (d := some 206) (v := .bool false) rfl rfl (by kernel_rfl) (by kernel_rfl) (by kernel_rfl) (fun _ _ _ h => h) (Or.inl ⟨by rfl, ?hy184⟩) hHeld ?rest184
                            case hy184 => intro X hSw; obtain ⟨g0, g1, g2, g3, g4, g5, g6, g7, g8, g9, g10⟩ := hSw; go_simp <;> first | with_reducible rfl | exact wkw
                            try simp only [Act.put, List.setIfInBounds_toArray, List.set_cons_zero, List.set_cons_succ]
                            refine takeHr (i := 22) (d := some 207) (v := .bool false) rfl rfl (by kernel_rfl) (by kernel_rfl) (by kernel_rfl) (fun _ _ _ h => h) (Or.inl ⟨by rfl, ?hy185⟩) hHeld ?rest185
                            case hy185 => intro X hSw; obtain ⟨g0, g1, g2, g3, g4, g5, g6, g7, g8, g9, g10⟩ := hSw; go_simp <;> first | with_reducible rfl | exact wkw
                            try simp only [Act.put, List.setIfInBounds_toArray, List.set_cons_zero, List.set_cons_succ]
                            refine takeHr (i := 23) (d := some 208) (v := ?v186) rfl rfl (by kernel_rfl) (by kernel_rfl) (by kernel_rfl) (fun _ _ _ h => h) (Or.inl ⟨by rfl, ?hy186⟩) hHeld ?rest186
                            case hy186 => intro X hSw; obtain ⟨g0, g1, g2, g3, g4, g5, g6, g7, g8, g9, g10⟩ := hSw; go_simp <;> first | with_reducible rfl | exact wkw
                            try simp only [Act.put, List.setIfInBounds_toArray, List.set_cons_zero, List.set_cons_succ]
                            refine takeHr (i := 24) (d := some 209) (v := ?v187) rfl rfl (by kernel_rfl) (by kernel_rfl) (by kernel_rfl) (fun _ _ _ h => h) (Or.inl ⟨by rfl, ?hy187⟩) hHeld ?rest187
                            case hy187 => intro X hSw; obtain ⟨g0, g1, g2, g3, g4, g5, g6, g7, g8, g9, g10⟩ := hSw; go_simp <;> first | with_reducible rfl | exact wkw
                            try simp only [Act.put, List.setIfInBounds_toArray, List.set_cons_zero, List.set_cons_succ]
                            refine takeHr (i := 25) (d := some 210) (v := ?v188) rfl rfl (by kernel_rfl) (by kernel_rfl) (by kernel_rfl) (fun _ _ _ h => h) (Or.inl ⟨by rfl, ?hy188⟩) hHeld ?rest188
                            case hy188 => intro X hSw; obtain ⟨g0, g1, g2, g3, g4, g5, g6, g7, g8, g9, g10⟩ := hSw; go_simp <;> first | with_reducible rfl | exact wkw
                            try simp only [Act.put, List.setIfInBounds_toArray, List.set_cons_zero, List.set_cons_succ]
                            refine takeHr (i := 26) (d := some 211) (v := ?v189) rfl rfl (by kernel_rfl) (by kernel_rfl) (by kernel_rfl) (fun _ _ _ h => h) (Or.inl ⟨by rfl, ?hy189⟩) hHeld ?rest189
                            case hy189 => intro X hSw; obtain ⟨g0, g1, g2, g3, g4, g5, g6, g7, g8, g9, g10⟩ := hSw; go_simp <;> first | with_reducible rfl | exact wkw
                            try simp only [Act.put, List.setIfInBounds_toArray, List.set_cons_zero, List.set_cons_succ]
                            refine takeHr (i := 27) (d := some 212) (v := .bool false) rfl rfl (by kernel_rfl) (by kernel_rfl) (by kernel_rfl) (fun _ _ _ h => h) (Or.inl ⟨by rfl, ?hy190⟩) hHeld ?rest190
                            case hy190 => intro X hSw; obtain ⟨g0, g1, g2, g3, g4, g5, g6, g7, g8, g9, g10⟩ := hSw; go_simp <;> first | with_reducible rfl | exact wkw
                            try simp only [Act.put, List.setIfInBounds_toArray, List.set_cons_zero, List.set_cons_succ]
                            refine takeHr (i := 28) (d := some 213) (v := .bool false) rfl rfl (by kernel_rfl) (by kernel_rfl) (by kernel_rfl) (fun _ _ _ h => h) (Or.inl ⟨by rfl, ?hy191⟩) hHeld ?rest191
                            case hy191 => intro X hSw; obtain ⟨g0, g1, g2, g3, g4, g5, g6, g7, g8, g9, g10⟩ := hSw; go_simp <;> first | with_reducible rfl | exact wkw
                            try simp only [Act.put, List.setIfInBounds_toArray, List.set_cons_zero, List.set_cons_succ]
                            refine takeHr (i := 29) (d := some 214) (v := .bool false) rfl rfl (by kernel_rfl) (by kernel_rfl) (by kernel_rfl) (fun _ _ _ h => h) (Or.inl ⟨by rfl, ?hy192⟩) hHeld ?rest192
                            case hy192 => intro X hSw; obtain ⟨g0, g1, g2, g3, g4, g5, g6, g7, g8, g9, g10⟩ := hSw; go_simp <;> first | with_reducible rfl | exact wkw
                            try simp only [Act.put, List.setIfInBounds_toArray, List.set_cons_zero, List.set_cons_succ]
                            refine wpAnyH_done (by kernel_rfl) ?_ _
                            have ca0 := hHeld.1
                            have ca1 := hHeld.2.1
                            have ca2 := hHeld.2.2.1
                            have ca3 := hHeld.2.2.2.1
                            have cb0 := hHeld.2.2.2.2.1
                            have cb1 := hHeld.2.2.2.2.2.1
                            have cb2 := hHeld.2.2.2.2.2.2.1
                            have cb3 := hHeld.2.2.2.2.2.2.2.1
                            have cb4 := hHeld.2.2.2.2.2.2.2.2.1
                            have s0 := hHeld.2.2.2.2.2.2.2.2.2.1
                            have s1 := hHeld.2.2.2.2.2.2.2.2.2.2
                            clear hHeld
                            cases eb with
                            | false =>
                              go_wp2_with (fail)
                              go_ret
                              exact ⟨rfl, bt (bt HB5.out HB2.out) (bt HB17.out HBc.out)⟩
                            | true =>
                              have HEX := (show Hid (∃ q ∈ QL, q.1 = (y1, y2, y3)) from by first | exact ME.out rfl rfl | exact ME.out trivial rfl | exact ME.out trivial trivial | simpa using ME.out)
                              clear ca0 ca1 ca2 ca3 cb0 cb1 cb2 cb3 cb4 s0 s1 ME
                              go_wp2_with (fail)
                              go_loopw [21] (fun i wr => ∃ t : Nat, t ≤ QL.length ∧ i = .int .i64 (t : Int) ∧ Hid (∀ j, j < t → (QL.getD j ((0, 0, 0), [])).1 ≠ (y1, y2, y3)) ∧ Hid (Below w172x.heap.size w172x wr)) (fun i _ => QL.length - (intOf i).toNat)
                              case atStart => exact ⟨0, Nat.zero_le _, rfl, (fun j hj => absurd hj (Nat.not_lt_zero j)), Below.refl _ _⟩
                              case round =>
                                obtain ⟨t, ht, rfl, hNo, hB⟩ := hrel
                                by_cases hlt : t < QL.length
                                · have hi : (t : Int) < (QL.length : Int) := by omega
                                  obtain ⟨b4, o4, e4, x1, x2, x3⟩ := HQ.out t hlt
                                  subst e4
                                  have x1 := cell_below x1 (bt HBc.out hB.out)
                                  have x2 := cell_below x2 (bt HBc.out hB.out)
                                  have x3 := cell_below x3 (bt HBc.out hB.out)
                                  have hVa := HV17.out.below (bt HBc.out hB.out)
                                  have z1 := hVa.cell 1
                                  have z2 := hVa.cell 2
                                  have z3 := hVa.cell 3
                                  unfold vdC at z1 z2 z3
                                  simp only [List.getElem?_toArray, List.getElem?_cons_zero, List.getElem?_cons_succ] at z1 z2 z3
                                  have WT := (show Hid (wrap64 ((t : Int) + 1) = ((t + 1 : Nat) : Int)) from by have := HQL.out; show _ = _; unfold wrap64; omega)
                                  have HT := (show Hid (t < QL.length) from hlt)
                                  obtain ⟨q, hq⟩ : ∃ q, (QL.getD t ((0, 0, 0), [])).1 = q := ⟨_, rfl⟩
                                  rw [hq] at x1 x2 x3
                                  have HQq := (show Hid ((QL.getD t ((0, 0, 0), [])).1 = q) from hq)
                                  obtain ⟨q1, q2, q3⟩ := q
                                  simp only at x1 x2 x3
                                  clear hlt ht hq hVa
                                  by_cases he : q1 = y1
                                  · subst he
                                    by_cases hc : q2 = y2
                                    · subst hc
                                      by_cases hz : q3 = y3
                                      · subst hz
                                        go_wp2_with (fail)
                                        go_quiet (fail)
                                        go_wp2_with (fail)
                                        go_ret
                                        exact ⟨rfl, bt (bt (bt HB5.out HB2.out) (bt HB17.out HBc.out)) (below_drewN hB.out _)⟩
                                      · have HNE := (show Hid ((QL.getD t ((0, 0, 0), [])).1 ≠ (q1, q2, y3)) from fun e => hz (by have := HQq.out.symm.trans e; simpa using this))
                                        have d3 : (q3 == y3) = false := by simp [hz]
                                        clear hz
                                        go_wp2_with (fail)
                                        go_quiet (fail)
                                        go_wp2_with (fail)
                                        go_roundw
                                        case rel => exact ⟨t + 1, HT.out, by first | rw [WT.out] | go_num, nx_no hNo.out HNE.out, below_drewN hB.out _⟩
                                        case measure => first | (rw [WT.out]; exact meas_v17 HT.out) | exact meas_v17 HT.out
                                    · have HNE := (show Hid ((QL.getD t ((0, 0, 0), [])).1 ≠ (q1, y2, y3)) from fun e => hc (by have := HQq.out.symm.trans e; simp at this; exact this.1))
                                      have d2 : (q2 == y2) = false := by simp [hc]
                                      clear hc
                                      go_wp2_with (fail)
                                      go_quiet (fail)
                                      go_wp2_with (fail)
                                      go_roundw
                                      case rel => exact ⟨t + 1, HT.out, by first | rw [WT.out] | go_num, nx_no hNo.out HNE.out, below_drewN hB.out _⟩
                                      case measure => first | (rw [WT.out]; exact meas_v17 HT.out) | exact meas_v17 HT.out
                                  · have HNE := (show Hid ((QL.getD t ((0, 0, 0), [])).1 ≠ (y1, y2, y3)) from fun e => he (by have := HQq.out.symm.trans e; simp at this; exact this.1))
                                    have d1 : (q1 == y1) = false := by simp [he]
                                    clear he
                                    go_wp2_with (fail)
                                    go_quiet (fail)
                                    go_wp2_with (fail)
                                    go_roundw
                                    case rel => exact ⟨t + 1, HT.out, by first | rw [WT.out] | go_num, nx_no hNo.out HNE.out, below_drewN hB.out _⟩
                                    case measure => first | (rw [WT.out]; exact meas_v17 HT.out) | exact meas_v17 HT.out
                                · exfalso
                                  obtain ⟨q, hq, e⟩ := HEX.out
                                  obtain ⟨j, hj, e2⟩ := List.getElem_of_mem hq
                                  exact hNo.out j (by omega) (by rw [List.getD_eq_getElem?_getD, List.getElem?_eq_getElem hj, Option.getD_some, e2]; exact e)
                · clear MB MD SF SP hK hO hL hcy hcv
                  as_aux_lemma =>
                    go_wp2_with (first
                      | (go_at_call 11; refine (PO.out _ HB16.out).mono ?_; rintro e w17 ⟨v17, rfl, hR17, hb17⟩; obtain ⟨p17, c17, e17, hQ17⟩ := rgl_cells hR17; subst e17; have HQ := (show Hid _ from hQ17); have HB17 := (show Hid (Below W2.heap.size W2 w17) from bt HB16.out hb17); have HV17 := (show Hid (GB w17 w11.heap.size 42 (vdC 1 (v1, v2, v3) (.slice q11 Lv c11))) from HVa.out.below hb17); have hVa := HV17.out; have hVb := HV16.out.below hb17; have ca0 := hVa.cell 0; have ca1 := hVa.cell 1; have ca2 := hVa.cell 2; have ca3 := hVa.cell 3; have ca4 := hVa.cell 4; unfold vdC at ca0 ca1 ca2 ca3 ca4; simp only [List.getElem?_toArray, List.getElem?_cons_zero, List.getElem?_cons_succ] at ca0 ca1 ca2 ca3 ca4; have cb0 := hVb.cell 0; have cb1 := hVb.cell 1; have cb2 := hVb.cell 2; have cb3 := hVb.cell 3; have cb4 := hVb.cell 4; unfold vdC at cb0 cb1 cb2 cb3 cb4; simp only [List.getElem?_toArray, List.getElem?_cons_zero, List.getElem?_cons_succ] at cb0 cb1 cb2 cb3 cb4; obtain ⟨s0, s1⟩ := gb_sh (hGS16.below hb17); clear hVa hVb hR17 hQ17 hGS16 hb17)
                      | (refine wpList_ldB rfl _ rfl w.heap.size rfl hGS16 Try.underlying23 (size_Sp' _ _ _) ?_)
                      | (refine wpList_stB (cs := vdC 1 (y1, y2, y3) (.slice q14 Lw c14)) rfl _ _ rfl rfl w14.heap.size rfl rfl hG15 (size_Vd' _ _ _) (vdC_same _ _ _ _ _ _) (vdC_one _ _ _ rfl) ?_; intro w16 hV16 hg16 hs16; have HP16 := (show Hid (Below w14.heap.size w14 w16) from grown_below hb15 hg16 hb15.size (Nat.le_refl _)); have HB16 := (show Hid (Below W2.heap.size W2 w16) from bt HB13.out (bt hb14 HP16.out)); have hGS16 := (hGS13.below hb14).below HP16.out; have HV16 := (show Hid (GB w16 w14.heap.size 42 (vdC 1 (y1, y2, y3) (.slice q14 Lw c14))) from hV16); have HVa := (show Hid _ from (HV13.out.below hb14).below HP16.out); clear hV16 hg16 hs16 hG15 hb15 hb14 hGS13)
                      | (refine wpList_alB rfl rfl vd0 ?_; intro w15 hG15 hb15 hs15; have hu := hb14; clear hu hs15)
                      | (go_at_call 10; refine Calls.mono (JP.out _ HB13.out) ?_; rintro e w14 ⟨q14, c14, rfl, hb14⟩)
                      | (refine wpList_ldB rfl _ rfl w.heap.size rfl hGS13 Try.underlying23 (size_Sp' _ _ _) ?_)
                      | (refine wpList_stB (cs := vdC 1 (v1, v2, v3) (.slice q11 Lv c11)) rfl _ _ rfl rfl w11.heap.size rfl rfl hG12 (size_Vd' _ _ _) (vdC_same _ _ _ _ _ _) (vdC_one _ _ _ rfl) ?_; intro w13 hV13 hg13 hs13; have HP13 := (show Hid (Below w11.heap.size w11 w13) from grown_below hb12 hg13 hb12.size (Nat.le_refl _)); have HB13 := (show Hid (Below W2.heap.size W2 w13) from bt HB0.out (bt hb11 HP13.out)); have hGS13 := (hGS0.below hb11).below HP13.out; have HV13 := (show Hid (GB w13 w11.heap.size 42 (vdC 1 (v1, v2, v3) (.slice q11 Lv c11))) from hV13); clear hV13 hg13 hs13 hG12 hb12 hb11 hGS0)
                      | (refine wpList_alB rfl rfl vd0 ?_; intro w12 hG12 hb12 hs12; have hu := hb11; clear hu hs12)
                      | (go_at_call 10; refine Calls.mono (JF.out _ HB0.out) ?_; rintro e w11 ⟨q11, c11, rfl, hb11⟩)
                      | (refine wpList_ldB rfl _ rfl w.heap.size rfl hGS0 Try.underlying23 (size_Sp' _ _ _) ?_))
                    have HBc := (show Hid (Below w17.heap.size w17 w17) from Below.refl _ _)
                    obtain ⟨wd267, hwd⟩ : ∃ wq, wq = w17.drew := ⟨_, rfl⟩
                    have bd : Below w17.heap.size w17 wd267 := by rw [hwd]; exact (Below.refl _ _).drew
                    replace HBc := (show Hid (Below w17.heap.size w17 wd267) from bt HBc.out bd)
                    refine wp_region_held_drew (S := fun X => X.cell? ⟨w11.heap.size, 0, none⟩ = some (.int .i64 1) ∧ X.cell? ⟨w11.heap.size, 1, none⟩ = some (.int .i64 v1) ∧ X.cell? ⟨w11.heap.size, 2, none⟩ = some (.int .i64 v2) ∧ X.cell? ⟨w11.heap.size, 3, none⟩ = some (.int .i64 v3) ∧ X.cell? ⟨w14.heap.size, 0, none⟩ = some (.int .i64 1) ∧ X.cell? ⟨w14.heap.size, 1, none⟩ = some (.int .i64 y1) ∧ X.cell? ⟨w14.heap.size, 2, none⟩ = some (.int .i64 y2) ∧ X.cell? ⟨w14.heap.size, 3, none⟩ = some (.int .i64 y3) ∧ X.cell? ⟨w14.heap.size, 4, none⟩ = some (.slice q14 Lw c14) ∧ X.cell? ⟨w.heap.size, 0, none⟩ = some (.int .i64 k) ∧ X.cell? ⟨w.heap.size, 1, none⟩ = some (.int .i64 m)) (by kernel_rfl) (by rw [← hwd]; exact ⟨cell_below ca0 bd, cell_below ca1 bd, cell_below ca2 bd, cell_below ca3 bd, cell_below cb0 bd, cell_below cb1 bd, cell_below cb2 bd, cell_below cb3 bd, cell_below cb4 bd, cell_below s0 bd, cell_below s1 bd⟩) (fun hHeld => ?_)
                    rw [← hwd] at hHeld ⊢
                    clear ca0 ca1 ca2 ca3 cb0 cb1 cb2 cb3 cb4 s0 s1 bd hwd
                    refine takeHr (i := 0) (d := some 124) (v := ?v268) rfl rfl (by kernel_rfl) (by kernel_rfl) (by kernel_rfl) (fun _ _ _ h => h) (Or.inl ⟨by rfl, ?hy268⟩) hHeld ?rest268
                    case hy268 => intro X hSw; obtain ⟨g0, g1, g2, g3, g4, g5, g6, g7, g8, g9, g10⟩ := hSw; go_simp <;> first | with_reducible rfl | exact wkw
                    try simp only [Act.put, List.setIfInBounds_toArray, List.set_cons_zero, List.set_cons_succ]
                    refine takeHr (i := 1) (d := some 125) (v := ?v269) rfl rfl (by kernel_rfl) (by kernel_rfl) (by kernel_rfl) (fun _ _ _ h => h) (Or.inl ⟨by rfl, ?hy269⟩) hHeld ?rest269
                    case hy269 => intro X hSw; obtain ⟨g0, g1, g2, g3, g4, g5, g6, g7, g8, g9, g10⟩ := hSw; go_simp <;> first | with_reducible rfl | exact wkw
                    try simp only [Act.put, List.setIfInBounds_toArray, List.set_cons_zero, List.set_cons_succ]
                    refine takeHr (i := 2) (d := some 126) (v := .bool true) rfl rfl (by kernel_rfl) (by kernel_rfl) (by kernel_rfl) (fun _ _ _ h => h) (Or.inl ⟨by rfl, ?hy270⟩) hHeld ?rest270
                    case hy270 => intro X hSw; obtain ⟨g0, g1, g2, g3, g4, g5, g6, g7, g8, g9, g10⟩ := hSw; go_simp <;> first | with_reducible rfl | exact wkw
                    try simp only [Act.put, List.setIfInBounds_toArray, List.set_cons_zero, List.set_cons_succ]
                    refine takeHr (i := 3) (d := some 127) (v := .bool true) rfl rfl (by kernel_rfl) (by kernel_rfl) (by kernel_rfl) (fun _ _ _ h => h) (Or.inl ⟨by rfl, ?hy271⟩) hHeld ?rest271
                    case hy271 => intro X hSw; obtain ⟨g0, g1, g2, g3, g4, g5, g6, g7, g8, g9, g10⟩ := hSw; go_simp <;> first | with_reducible rfl | exact wkw
                    try simp only [Act.put, List.setIfInBounds_toArray, List.set_cons_zero, List.set_cons_succ]
                    refine takeHr (i := 4) (d := some 128) (v := ?v272) rfl rfl (by kernel_rfl) (by kernel_rfl) (by kernel_rfl) (fun _ _ _ h => h) (Or.inl ⟨by rfl, ?hy272⟩) hHeld ?rest272
                    case hy272 => intro X hSw; obtain ⟨g0, g1, g2, g3, g4, g5, g6, g7, g8, g9, g10⟩ := hSw; go_simp <;> first | with_reducible rfl | exact wkw
                    try simp only [Act.put, List.setIfInBounds_toArray, List.set_cons_zero, List.set_cons_succ]
                    refine takeHr (i := 5) (d := some 129) (v := ?v273) rfl rfl (by kernel_rfl) (by kernel_rfl) (by kernel_rfl) (fun _ _ _ h => h) (Or.inl ⟨by rfl, ?hy273⟩) hHeld ?rest273
                    case hy273 => intro X hSw; obtain ⟨g0, g1, g2, g3, g4, g5, g6, g7, g8, g9, g10⟩ := hSw; go_simp <;> first | with_reducible rfl | exact wkw
                    try simp only [Act.put, List.setIfInBounds_toArray, List.set_cons_zero, List.set_cons_succ]
                    refine takeHr (i := 6) (d := some 130) (v := .bool false) rfl rfl (by kernel_rfl) (by kernel_rfl) (by kernel_rfl) (fun _ _ _ h => h) (Or.inl ⟨by rfl, ?hy274⟩) hHeld ?rest274
                    case hy274 => intro X hSw; obtain ⟨g0, g1, g2, g3, g4, g5, g6, g7, g8, g9, g10⟩ := hSw; go_simp <;> first | with_reducible rfl | exact wkw
                    try simp only [Act.put, List.setIfInBounds_toArray, List.set_cons_zero, List.set_cons_succ]
                    refine takeHr (i := 7) (d := some 131) (v := .bool false) rfl rfl (by kernel_rfl) (by kernel_rfl) (by kernel_rfl) (fun _ _ _ h => h) (Or.inl ⟨by rfl, ?hy275⟩) hHeld ?rest275
                    case hy275 => intro X hSw; obtain ⟨g0, g1, g2, g3, g4, g5, g6, g7, g8, g9, g10⟩ := hSw; go_simp <;> first | with_reducible rfl | exact wkw
                    try simp only [Act.put, List.setIfInBounds_toArray, List.set_cons_zero, List.set_cons_succ]
                    refine takeHr (i := 8) (d := some 132) (v := ?v276) rfl rfl (by kernel_rfl) (by kernel_rfl) (by kernel_rfl) (fun _ _ _ h => h) (Or.inl ⟨by rfl, ?hy276⟩) hHeld ?rest276
                    case hy276 => intro X hSw; obtain ⟨g0, g1, g2, g3, g4, g5, g6, g7, g8, g9, g10⟩ := hSw; go_simp <;> first | with_reducible rfl | exact wkw
                    try simp only [Act.put, List.setIfInBounds_toArray, List.set_cons_zero, List.set_cons_succ]
                    refine takeHr (i := 9) (d := some 133) (v := ?v277) rfl rfl (by kernel_rfl) (by kernel_rfl) (by kernel_rfl) (fun _ _ _ h => h) (Or.inl ⟨by rfl, ?hy277⟩) hHeld ?rest277
                    case hy277 => intro X hSw; obtain ⟨g0, g1, g2, g3, g4, g5, g6, g7, g8, g9, g10⟩ := hSw; go_simp <;> first | with_reducible rfl | exact wkw
                    try simp only [Act.put, List.setIfInBounds_toArray, List.set_cons_zero, List.set_cons_succ]
                    refine takeHr (i := 10) (d := some 134) (v := ?v278) rfl rfl (by kernel_rfl) (by kernel_rfl) (by kernel_rfl) (fun _ _ _ h => h) (Or.inl ⟨by rfl, ?hy278⟩) hHeld ?rest278
                    case hy278 => intro X hSw; obtain ⟨g0, g1, g2, g3, g4, g5, g6, g7, g8, g9, g10⟩ := hSw; go_simp <;> first | with_reducible rfl | exact wkw
                    try simp only [Act.put, List.setIfInBounds_toArray, List.set_cons_zero, List.set_cons_succ]
                    refine takeHr (i := 11) (d := some 135) (v := ?v279) rfl rfl (by kernel_rfl) (by kernel_rfl) (by kernel_rfl) (fun _ _ _ h => h) (Or.inl ⟨by rfl, ?hy279⟩) hHeld ?rest279
                    case hy279 => intro X hSw; obtain ⟨g0, g1, g2, g3, g4, g5, g6, g7, g8, g9, g10⟩ := hSw; go_simp <;> first | with_reducible rfl | exact wkw
                    try simp only [Act.put, List.setIfInBounds_toArray, List.set_cons_zero, List.set_cons_succ]
                    refine takeHr (i := 12) (d := some 136) (v := ?v280) rfl rfl (by kernel_rfl) (by kernel_rfl) (by kernel_rfl) (fun _ _ _ h => h) (Or.inl ⟨by rfl, ?hy280⟩) hHeld ?rest280
                    case hy280 => intro X hSw; obtain ⟨g0, g1, g2, g3, g4, g5, g6, g7, g8, g9, g10⟩ := hSw; go_simp <;> first | with_reducible rfl | exact wkw
                    try simp only [Act.put, List.setIfInBounds_toArray, List.set_cons_zero, List.set_cons_succ]
                    refine takeHr (i := 14) (d := some 138) (v := ?v281) rfl rfl (by kernel_rfl) (by kernel_rfl) (by kernel_rfl) (fun _ _ _ h => h) (Or.inl ⟨by rfl, ?hy281⟩) hHeld ?rest281
                    case hy281 => intro X hSw; obtain ⟨g0, g1, g2, g3, g4, g5, g6, g7, g8, g9, g10⟩ := hSw; go_simp <;> first | with_reducible rfl | exact wkw
                    try simp only [Act.put, List.setIfInBounds_toArray, List.set_cons_zero, List.set_cons_succ]
                    refine takeHr (i := 15) (d := some 139) (v := ?v282) rfl rfl (by kernel_rfl) (by kernel_rfl) (by kernel_rfl) (fun _ _ _ h => h) (Or.inl ⟨by rfl, ?hy282⟩) hHeld ?rest282
                    case hy282 => intro X hSw; obtain ⟨g0, g1, g2, g3, g4, g5, g6, g7, g8, g9, g10⟩ := hSw; go_simp <;> first | with_reducible rfl | exact wkw
                    try simp only [Act.put, List.setIfInBounds_toArray, List.set_cons_zero, List.set_cons_succ]
                    refine wpAnyH_ready (rs := [13]) (by kernel_rfl) (by simp) ?_
                    refine AllReadyH.cons (o := { dst := some 137, op := Op.call { callee := Callee.value (Operand.func 9), args := #[Operand.tmp 132, Operand.tmp 134, Operand.tmp 136], argTypes := #[24, 31, 3] }, type := 3, pos := "outright.go:89", after := #[{ on := 8, ground := Ground.data }, { on := 10, ground := Ground.data }, { on := 12, ground := Ground.data }, { on := 7, ground := Ground.chain }, { on := 7, ground := Ground.guard }], guard := some (7, false) }) rfl (fun Kq hKq => ?_) AllReadyH.nil
                    · go_simp
                      refine (SFy.out _ (bt HB17.out HBc.out)).mono ?_
                      rintro e w283x ⟨rfl, hb283⟩
                      replace HBc := (show Hid _ from bt HBc.out hb283)
                      refine hKq.out _ _ ⟨cell_below hHeld.1 hb283, cell_below hHeld.2.1 hb283, cell_below hHeld.2.2.1 hb283, cell_below hHeld.2.2.2.1 hb283, cell_below hHeld.2.2.2.2.1 hb283, cell_below hHeld.2.2.2.2.2.1 hb283, cell_below hHeld.2.2.2.2.2.2.1 hb283, cell_below hHeld.2.2.2.2.2.2.2.1 hb283, cell_below hHeld.2.2.2.2.2.2.2.2.1 hb283, cell_below hHeld.2.2.2.2.2.2.2.2.2.1 hb283, cell_below hHeld.2.2.2.2.2.2.2.2.2.2 hb283⟩ (fun hHeld => ?_)
                      clear hKq Kq
                      try simp only [Act.put, List.setIfInBounds_toArray, List.set_cons_zero, List.set_cons_succ]
                      refine takeHr (i := 16) (d := some 140) (v := .bool false) rfl rfl (by kernel_rfl) (by kernel_rfl) (by kernel_rfl) (fun _ _ _ h => h) (Or.inl ⟨by rfl, ?hy284⟩) hHeld ?rest284
                      case hy284 => intro X hSw; obtain ⟨g0, g1, g2, g3, g4, g5, g6, g7, g8, g9, g10⟩ := hSw; go_simp <;> first | with_reducible rfl | exact wkw
                      try simp only [Act.put, List.setIfInBounds_toArray, List.set_cons_zero, List.set_cons_succ]
                      refine takeHr (i := 17) (d := some 141) (v := .bool false) rfl rfl (by kernel_rfl) (by kernel_rfl) (by kernel_rfl) (fun _ _ _ h => h) (Or.inl ⟨by rfl, ?hy285⟩) hHeld ?rest285
                      case hy285 => intro X hSw; obtain ⟨g0, g1, g2, g3, g4, g5, g6, g7, g8, g9, g10⟩ := hSw; go_simp <;> first | with_reducible rfl | exact wkw
                      try simp only [Act.put, List.setIfInBounds_toArray, List.set_cons_zero, List.set_cons_succ]
                      refine takeHr (i := 18) (d := some 142) (v := .bool false) rfl rfl (by kernel_rfl) (by kernel_rfl) (by kernel_rfl) (fun _ _ _ h => h) (Or.inl ⟨by rfl, ?hy286⟩) hHeld ?rest286
                      case hy286 => intro X hSw; obtain ⟨g0, g1, g2, g3, g4, g5, g6, g7, g8, g9, g10⟩ := hSw; go_simp <;> first | with_reducible rfl | exact wkw
                      try simp only [Act.put, List.setIfInBounds_toArray, List.set_cons_zero, List.set_cons_succ]
                      refine takeHr (i := 19) (d := some 143) (v := ?v287) rfl rfl (by kernel_rfl) (by kernel_rfl) (by kernel_rfl) (fun _ _ _ h => h) (Or.inl ⟨by rfl, ?hy287⟩) hHeld ?rest287
                      case hy287 => intro X hSw; obtain ⟨g0, g1, g2, g3, g4, g5, g6, g7, g8, g9, g10⟩ := hSw; go_simp <;> first | with_reducible rfl | exact wkw
                      try simp only [Act.put, List.setIfInBounds_toArray, List.set_cons_zero, List.set_cons_succ]
                      refine takeHr (i := 20) (d := some 144) (v := ?v288) rfl rfl (by kernel_rfl) (by kernel_rfl) (by kernel_rfl) (fun _ _ _ h => h) (Or.inl ⟨by rfl, ?hy288⟩) hHeld ?rest288
                      case hy288 => intro X hSw; obtain ⟨g0, g1, g2, g3, g4, g5, g6, g7, g8, g9, g10⟩ := hSw; go_simp <;> first | with_reducible rfl | exact wkw
                      try simp only [Act.put, List.setIfInBounds_toArray, List.set_cons_zero, List.set_cons_succ]
                      refine takeHr (i := 21) (d := some 145) (v := ?v289) rfl rfl (by kernel_rfl) (by kernel_rfl) (by kernel_rfl) (fun _ _ _ h => h) (Or.inl ⟨by rfl, ?hy289⟩) hHeld ?rest289
                      case hy289 => intro X hSw; obtain ⟨g0, g1, g2, g3, g4, g5, g6, g7, g8, g9, g10⟩ := hSw; go_simp <;> first | with_reducible rfl | exact wkw
                      try simp only [Act.put, List.setIfInBounds_toArray, List.set_cons_zero, List.set_cons_succ]
                      refine takeHr (i := 22) (d := some 146) (v := ?v290) rfl rfl (by kernel_rfl) (by kernel_rfl) (by kernel_rfl) (fun _ _ _ h => h) (Or.inl ⟨by rfl, ?hy290⟩) hHeld ?rest290
                      case hy290 => intro X hSw; obtain ⟨g0, g1, g2, g3, g4, g5, g6, g7, g8, g9, g10⟩ := hSw; go_simp <;> first | with_reducible rfl | exact wkw
                      try simp only [Act.put, List.setIfInBounds_toArray, List.set_cons_zero, List.set_cons_succ]
                      refine takeHr (i := 23) (d := some 147) (v := ?v291) rfl rfl (by kernel_rfl) (by kernel_rfl) (by kernel_rfl) (fun _ _ _ h => h) (Or.inl ⟨by rfl, ?hy291⟩) hHeld ?rest291
                      case hy291 => intro X hSw; obtain ⟨g0, g1, g2, g3, g4, g5, g6, g7, g8, g9, g10⟩ := hSw; go_simp <;> first | with_reducible rfl | exact wkw
                      try simp only [Act.put, List.setIfInBounds_toArray, List.set_cons_zero, List.set_cons_succ]
                      refine takeHr (i := 24) (d := some 148) (v := ?v292) rfl rfl (by kernel_rfl) (by kernel_rfl) (by kernel_rfl) (fun _ _ _ h => h) (Or.inl ⟨by rfl, ?hy292⟩) hHeld ?rest292
                      case hy292 => intro X hSw; obtain ⟨g0, g1, g2, g3, g4, g5, g6, g7, g8, g9, g10⟩ := hSw; go_simp <;> first | with_reducible rfl | exact wkw
                      try simp only [Act.put, List.setIfInBounds_toArray, List.set_cons_zero, List.set_cons_succ]
                      refine takeHr (i := 25) (d := some 149) (v := ?v293) rfl rfl (by kernel_rfl) (by kernel_rfl) (by kernel_rfl) (fun _ _ _ h => h) (Or.inl ⟨by rfl, ?hy293⟩) hHeld ?rest293
                      case hy293 => intro X hSw; obtain ⟨g0, g1, g2, g3, g4, g5, g6, g7, g8, g9, g10⟩ := hSw; go_simp <;> first | with_reducible rfl | exact wkw
                      try simp only [Act.put, List.setIfInBounds_toArray, List.set_cons_zero, List.set_cons_succ]
                      refine takeHr (i := 26) (d := some 150) (v := ?v294) rfl rfl (by kernel_rfl) (by kernel_rfl) (by kernel_rfl) (fun _ _ _ h => h) (Or.inl ⟨by rfl, ?hy294⟩) hHeld ?rest294
                      case hy294 => intro X hSw; obtain ⟨g0, g1, g2, g3, g4, g5, g6, g7, g8, g9, g10⟩ := hSw; go_simp <;> first | with_reducible rfl | exact wkw
                      try simp only [Act.put, List.setIfInBounds_toArray, List.set_cons_zero, List.set_cons_succ]
                      refine wpAnyH_ready (rs := [27]) (by kernel_rfl) (by simp) ?_
                      refine AllReadyH.cons (o := { dst := some 151, op := Op.call { callee := Callee.value (Operand.func 12), args := #[Operand.tmp 144, Operand.tmp 146, Operand.tmp 148, Operand.tmp 150], argTypes := #[31, 3, 31, 3] }, type := 4, pos := "outright.go:89", after := #[{ on := 20, ground := Ground.data }, { on := 22, ground := Ground.data }, { on := 24, ground := Ground.data }, { on := 26, ground := Ground.data }, { on := 18, ground := Ground.chain }, { on := 18, ground := Ground.guard }], guard := some (18, false) }) rfl (fun Kq hKq => ?_) AllReadyH.nil
                      · go_simp
                        refine (OLy.out _).mono ?_
                        rintro e w295x ⟨rfl, hb295⟩
                        replace HBc := (show Hid _ from bt HBc.out hb295)
                        refine hKq.out _ _ ⟨cell_below hHeld.1 hb295, cell_below hHeld.2.1 hb295, cell_below hHeld.2.2.1 hb295, cell_below hHeld.2.2.2.1 hb295, cell_below hHeld.2.2.2.2.1 hb295, cell_below hHeld.2.2.2.2.2.1 hb295, cell_below hHeld.2.2.2.2.2.2.1 hb295, cell_below hHeld.2.2.2.2.2.2.2.1 hb295, cell_below hHeld.2.2.2.2.2.2.2.2.1 hb295, cell_below hHeld.2.2.2.2.2.2.2.2.2.1 hb295, cell_below hHeld.2.2.2.2.2.2.2.2.2.2 hb295⟩ (fun hHeld => ?_)
                        clear hKq Kq
                        try simp only [Act.put, List.setIfInBounds_toArray, List.set_cons_zero, List.set_cons_succ]
                        refine takeHr (i := 28) (d := some 152) (v := .bool false) rfl rfl (by kernel_rfl) (by kernel_rfl) (by kernel_rfl) (fun _ _ _ h => h) (Or.inl ⟨by rfl, ?hy296⟩) hHeld ?rest296
                        case hy296 => intro X hSw; obtain ⟨g0, g1, g2, g3, g4, g5, g6, g7, g8, g9, g10⟩ := hSw; go_simp <;> first | with_reducible rfl | exact wkw
                        try simp only [Act.put, List.setIfInBounds_toArray, List.set_cons_zero, List.set_cons_succ]
                        refine takeHr (i := 29) (d := some 153) (v := .bool false) rfl rfl (by kernel_rfl) (by kernel_rfl) (by kernel_rfl) (fun _ _ _ h => h) (Or.inl ⟨by rfl, ?hy297⟩) hHeld ?rest297
                        case hy297 => intro X hSw; obtain ⟨g0, g1, g2, g3, g4, g5, g6, g7, g8, g9, g10⟩ := hSw; go_simp <;> first | with_reducible rfl | exact wkw
                        try simp only [Act.put, List.setIfInBounds_toArray, List.set_cons_zero, List.set_cons_succ]
                        refine takeHr (i := 30) (d := some 154) (v := ?v298) rfl rfl (by kernel_rfl) (by kernel_rfl) (by kernel_rfl) (fun _ _ _ h => h) (Or.inl ⟨by rfl, ?hy298⟩) hHeld ?rest298
                        case hy298 => intro X hSw; obtain ⟨g0, g1, g2, g3, g4, g5, g6, g7, g8, g9, g10⟩ := hSw; go_simp <;> first | with_reducible rfl | exact wkw
                        try simp only [Act.put, List.setIfInBounds_toArray, List.set_cons_zero, List.set_cons_succ]
                        refine takeHr (i := 31) (d := some 155) (v := ?v299) rfl rfl (by kernel_rfl) (by kernel_rfl) (by kernel_rfl) (fun _ _ _ h => h) (Or.inl ⟨by rfl, ?hy299⟩) hHeld ?rest299
                        case hy299 => intro X hSw; obtain ⟨g0, g1, g2, g3, g4, g5, g6, g7, g8, g9, g10⟩ := hSw; go_simp <;> first | with_reducible rfl | exact wkw
                        try simp only [Act.put, List.setIfInBounds_toArray, List.set_cons_zero, List.set_cons_succ]
                        refine takeHr (i := 32) (d := some 156) (v := ?v300) rfl rfl (by kernel_rfl) (by kernel_rfl) (by kernel_rfl) (fun _ _ _ h => h) (Or.inl ⟨by rfl, ?hy300⟩) hHeld ?rest300
                        case hy300 => intro X hSw; obtain ⟨g0, g1, g2, g3, g4, g5, g6, g7, g8, g9, g10⟩ := hSw; go_simp <;> first | with_reducible rfl | exact wkw
                        try simp only [Act.put, List.setIfInBounds_toArray, List.set_cons_zero, List.set_cons_succ]
                        refine takeHr (i := 33) (d := some 157) (v := ?v301) rfl rfl (by kernel_rfl) (by kernel_rfl) (by kernel_rfl) (fun _ _ _ h => h) (Or.inl ⟨by rfl, ?hy301⟩) hHeld ?rest301
                        case hy301 => intro X hSw; obtain ⟨g0, g1, g2, g3, g4, g5, g6, g7, g8, g9, g10⟩ := hSw; go_simp <;> first | with_reducible rfl | exact wkw
                        try simp only [Act.put, List.setIfInBounds_toArray, List.set_cons_zero, List.set_cons_succ]
                        refine takeHr (i := 34) (d := some 158) (v := ?v302) rfl rfl (by kernel_rfl) (by kernel_rfl) (by kernel_rfl) (fun _ _ _ h => h) (Or.inl ⟨by rfl, ?hy302⟩) hHeld ?rest302
                        case hy302 => intro X hSw; obtain ⟨g0, g1, g2, g3, g4, g5, g6, g7, g8, g9, g10⟩ := hSw; go_simp <;> first | with_reducible rfl | exact wkw
                        try simp only [Act.put, List.setIfInBounds_toArray, List.set_cons_zero, List.set_cons_succ]
                        refine takeHr (i := 35) (d := some 159) (v := ?v303) rfl rfl (by kernel_rfl) (by kernel_rfl) (by kernel_rfl) (fun _ _ _ h => h) (Or.inl ⟨by rfl, ?hy303⟩) hHeld ?rest303
                        case hy303 => intro X hSw; obtain ⟨g0, g1, g2, g3, g4, g5, g6, g7, g8, g9, g10⟩ := hSw; go_simp <;> first | with_reducible rfl | exact wkw
                        try simp only [Act.put, List.setIfInBounds_toArray, List.set_cons_zero, List.set_cons_succ]
                        refine takeHr (i := 36) (d := some 160) (v := ?v304) rfl rfl (by kernel_rfl) (by kernel_rfl) (by kernel_rfl) (fun _ _ _ h => h) (Or.inl ⟨by rfl, ?hy304⟩) hHeld ?rest304
                        case hy304 => intro X hSw; obtain ⟨g0, g1, g2, g3, g4, g5, g6, g7, g8, g9, g10⟩ := hSw; go_simp <;> first | with_reducible rfl | exact wkw
                        try simp only [Act.put, List.setIfInBounds_toArray, List.set_cons_zero, List.set_cons_succ]
                        refine takeHr (i := 37) (d := some 161) (v := ?v305) rfl rfl (by kernel_rfl) (by kernel_rfl) (by kernel_rfl) (fun _ _ _ h => h) (Or.inl ⟨by rfl, ?hy305⟩) hHeld ?rest305
                        case hy305 => intro X hSw; obtain ⟨g0, g1, g2, g3, g4, g5, g6, g7, g8, g9, g10⟩ := hSw; go_simp <;> first | with_reducible rfl | exact wkw
                        try simp only [Act.put, List.setIfInBounds_toArray, List.set_cons_zero, List.set_cons_succ]
                        refine wpAnyH_ready (rs := [38]) (by kernel_rfl) (by simp) ?_
                        refine AllReadyH.cons (o := { dst := some 162, op := Op.call { callee := Callee.value (Operand.func 9), args := #[Operand.tmp 157, Operand.tmp 159, Operand.tmp 161], argTypes := #[24, 31, 3] }, type := 3, pos := "outright.go:89", after := #[{ on := 33, ground := Ground.data }, { on := 35, ground := Ground.data }, { on := 37, ground := Ground.data }, { on := 29, ground := Ground.chain }, { on := 29, ground := Ground.guard }], guard := some (29, false) }) rfl (fun Kq hKq => ?_) AllReadyH.nil
                        · go_simp
                          refine (SPy.out _ (bt HB17.out HBc.out)).mono ?_
                          rintro e w306x ⟨rfl, hb306⟩
                          replace HBc := (show Hid _ from bt HBc.out hb306)
                          refine hKq.out _ _ ⟨cell_below hHeld.1 hb306, cell_below hHeld.2.1 hb306, cell_below hHeld.2.2.1 hb306, cell_below hHeld.2.2.2.1 hb306, cell_below hHeld.2.2.2.2.1 hb306, cell_below hHeld.2.2.2.2.2.1 hb306, cell_below hHeld.2.2.2.2.2.2.1 hb306, cell_below hHeld.2.2.2.2.2.2.2.1 hb306, cell_below hHeld.2.2.2.2.2.2.2.2.1 hb306, cell_below hHeld.2.2.2.2.2.2.2.2.2.1 hb306, cell_below hHeld.2.2.2.2.2.2.2.2.2.2 hb306⟩ (fun hHeld => ?_)
                          clear hKq Kq
                          try simp only [Act.put, List.setIfInBounds_toArray, List.set_cons_zero, List.set_cons_succ]
                          refine takeHr (i := 39) (d := some 163) (v := .bool false) rfl rfl (by kernel_rfl) (by kernel_rfl) (by kernel_rfl) (fun _ _ _ h => h) (Or.inl ⟨by rfl, ?hy307⟩) hHeld ?rest307
                          case hy307 => intro X hSw; obtain ⟨g0, g1, g2, g3, g4, g5, g6, g7, g8, g9, g10⟩ := hSw; go_simp <;> first | with_reducible rfl | exact wkw
                          try simp only [Act.put, List.setIfInBounds_toArray, List.set_cons_zero, List.set_cons_succ]
                          refine takeHr (i := 40) (d := some 164) (v := .bool false) rfl rfl (by kernel_rfl) (by kernel_rfl) (by kernel_rfl) (fun _ _ _ h => h) (Or.inl ⟨by rfl, ?hy308⟩) hHeld ?rest308
                          case hy308 => intro X hSw; obtain ⟨g0, g1, g2, g3, g4, g5, g6, g7, g8, g9, g10⟩ := hSw; go_simp <;> first | with_reducible rfl | exact wkw
                          try simp only [Act.put, List.setIfInBounds_toArray, List.set_cons_zero, List.set_cons_succ]
                          refine takeHr (i := 41) (d := some 165) (v := .bool false) rfl rfl (by kernel_rfl) (by kernel_rfl) (by kernel_rfl) (fun _ _ _ h => h) (Or.inl ⟨by rfl, ?hy309⟩) hHeld ?rest309
                          case hy309 => intro X hSw; obtain ⟨g0, g1, g2, g3, g4, g5, g6, g7, g8, g9, g10⟩ := hSw; go_simp <;> first | with_reducible rfl | exact wkw
                          try simp only [Act.put, List.setIfInBounds_toArray, List.set_cons_zero, List.set_cons_succ]
                          refine wpAnyH_done (by kernel_rfl) ?_ _
                          have ca0 := hHeld.1
                          have ca1 := hHeld.2.1
                          have ca2 := hHeld.2.2.1
                          have ca3 := hHeld.2.2.2.1
                          have cb0 := hHeld.2.2.2.2.1
                          have cb1 := hHeld.2.2.2.2.2.1
                          have cb2 := hHeld.2.2.2.2.2.2.1
                          have cb3 := hHeld.2.2.2.2.2.2.2.1
                          have cb4 := hHeld.2.2.2.2.2.2.2.2.1
                          have s0 := hHeld.2.2.2.2.2.2.2.2.2.1
                          have s1 := hHeld.2.2.2.2.2.2.2.2.2.2
                          clear hHeld
                          go_wp2_with (fail)
                          obtain ⟨wd236, hwd⟩ : ∃ wq, wq = w306x.drew := ⟨_, rfl⟩
                          have bd : Below w306x.heap.size w306x wd236 := by rw [hwd]; exact (Below.refl _ _).drew
                          replace HBc := (show Hid (Below w17.heap.size w17 wd236) from bt HBc.out bd)
                          refine wp_region_held_drew (S := fun X => X.cell? ⟨w11.heap.size, 0, none⟩ = some (.int .i64 1) ∧ X.cell? ⟨w11.heap.size, 1, none⟩ = some (.int .i64 v1) ∧ X.cell? ⟨w11.heap.size, 2, none⟩ = some (.int .i64 v2) ∧ X.cell? ⟨w11.heap.size, 3, none⟩ = some (.int .i64 v3) ∧ X.cell? ⟨w14.heap.size, 0, none⟩ = some (.int .i64 1) ∧ X.cell? ⟨w14.heap.size, 1, none⟩ = some (.int .i64 y1) ∧ X.cell? ⟨w14.heap.size, 2, none⟩ = some (.int .i64 y2) ∧ X.cell? ⟨w14.heap.size, 3, none⟩ = some (.int .i64 y3) ∧ X.cell? ⟨w14.heap.size, 4, none⟩ = some (.slice q14 Lw c14) ∧ X.cell? ⟨w.heap.size, 0, none⟩ = some (.int .i64 k) ∧ X.cell? ⟨w.heap.size, 1, none⟩ = some (.int .i64 m)) (by kernel_rfl) (by rw [← hwd]; exact ⟨cell_below ca0 bd, cell_below ca1 bd, cell_below ca2 bd, cell_below ca3 bd, cell_below cb0 bd, cell_below cb1 bd, cell_below cb2 bd, cell_below cb3 bd, cell_below cb4 bd, cell_below s0 bd, cell_below s1 bd⟩) (fun hHeld => ?_)
                          rw [← hwd] at hHeld ⊢
                          clear ca0 ca1 ca2 ca3 cb0 cb1 cb2 cb3 cb4 s0 s1 bd hwd
                          refine takeHr (i := 0) (d := some 185) (v := ?v237) rfl rfl (by kernel_rfl) (by kernel_rfl) (by kernel_rfl) (fun _ _ _ h => h) (Or.inl ⟨by rfl, ?hy237⟩) hHeld ?rest237
                          case hy237 => intro X hSw; obtain ⟨g0, g1, g2, g3, g4, g5, g6, g7, g8, g9, g10⟩ := hSw; go_simp <;> first | with_reducible rfl | exact wkw
                          try simp only [Act.put, List.setIfInBounds_toArray, List.set_cons_zero, List.set_cons_succ]
                          refine takeHr (i := 1) (d := some 186) (v := ?v238) rfl rfl (by kernel_rfl) (by kernel_rfl) (by kernel_rfl) (fun _ _ _ h => h) (Or.inl ⟨by rfl, ?hy238⟩) hHeld ?rest238
                          case hy238 => intro X hSw; obtain ⟨g0, g1, g2, g3, g4, g5, g6, g7, g8, g9, g10⟩ := hSw; go_simp <;> first | with_reducible rfl | exact wkw
                          try simp only [Act.put, List.setIfInBounds_toArray, List.set_cons_zero, List.set_cons_succ]
                          refine takeHr (i := 2) (d := some 187) (v := ?v239) rfl rfl (by kernel_rfl) (by kernel_rfl) (by kernel_rfl) (fun _ _ _ h => h) (Or.inl ⟨by rfl, ?hy239⟩) hHeld ?rest239
                          case hy239 => intro X hSw; obtain ⟨g0, g1, g2, g3, g4, g5, g6, g7, g8, g9, g10⟩ := hSw; go_simp <;> first | with_reducible rfl | exact wkw
                          try simp only [Act.put, List.setIfInBounds_toArray, List.set_cons_zero, List.set_cons_succ]
                          refine takeHr (i := 3) (d := some 188) (v := ?v240) rfl rfl (by kernel_rfl) (by kernel_rfl) (by kernel_rfl) (fun _ _ _ h => h) (Or.inl ⟨by rfl, ?hy240⟩) hHeld ?rest240
                          case hy240 => intro X hSw; obtain ⟨g0, g1, g2, g3, g4, g5, g6, g7, g8, g9, g10⟩ := hSw; go_simp <;> first | with_reducible rfl | exact wkw
                          try simp only [Act.put, List.setIfInBounds_toArray, List.set_cons_zero, List.set_cons_succ]
                          refine takeHr (i := 4) (d := some 189) (v := ?v241) rfl rfl (by kernel_rfl) (by kernel_rfl) (by kernel_rfl) (fun _ _ _ h => h) (Or.inl ⟨by rfl, ?hy241⟩) hHeld ?rest241
                          case hy241 => intro X hSw; obtain ⟨g0, g1, g2, g3, g4, g5, g6, g7, g8, g9, g10⟩ := hSw; go_simp <;> first | with_reducible rfl | exact wkw
                          try simp only [Act.put, List.setIfInBounds_toArray, List.set_cons_zero, List.set_cons_succ]
                          refine takeHr (i := 6) (d := some 191) (v := ?v242) rfl rfl (by kernel_rfl) (by kernel_rfl) (by kernel_rfl) (fun _ _ _ h => h) (Or.inl ⟨by rfl, ?hy242⟩) hHeld ?rest242
                          case hy242 => intro X hSw; obtain ⟨g0, g1, g2, g3, g4, g5, g6, g7, g8, g9, g10⟩ := hSw; go_simp <;> first | with_reducible rfl | exact wkw
                          try simp only [Act.put, List.setIfInBounds_toArray, List.set_cons_zero, List.set_cons_succ]
                          refine takeHr (i := 7) (d := some 192) (v := ?v243) rfl rfl (by kernel_rfl) (by kernel_rfl) (by kernel_rfl) (fun _ _ _ h => h) (Or.inl ⟨by rfl, ?hy243⟩) hHeld ?rest243
                          case hy243 => intro X hSw; obtain ⟨g0, g1, g2, g3, g4, g5, g6, g7, g8, g9, g10⟩ := hSw; go_simp <;> first | with_reducible rfl | exact wkw
                          try simp only [Act.put, List.setIfInBounds_toArray, List.set_cons_zero, List.set_cons_succ]
                          refine takeHr (i := 8) (d := some 193) (v := ?v244) rfl rfl (by kernel_rfl) (by kernel_rfl) (by kernel_rfl) (fun _ _ _ h => h) (Or.inl ⟨by rfl, ?hy244⟩) hHeld ?rest244
                          case hy244 => intro X hSw; obtain ⟨g0, g1, g2, g3, g4, g5, g6, g7, g8, g9, g10⟩ := hSw; go_simp <;> first | with_reducible rfl | exact wkw
                          try simp only [Act.put, List.setIfInBounds_toArray, List.set_cons_zero, List.set_cons_succ]
                          refine takeHr (i := 9) (d := some 194) (v := .int .i64 (k + (h0 : Int))) rfl rfl (by kernel_rfl) (by kernel_rfl) (by kernel_rfl) (fun _ _ _ h => h) (Or.inl ⟨by rfl, ?hy245⟩) hHeld ?rest245
                          case hy245 => intro X hSw; obtain ⟨g0, g1, g2, g3, g4, g5, g6, g7, g8, g9, g10⟩ := hSw; go_simp <;> first | with_reducible rfl | exact wkw
                          try simp only [Act.put, List.setIfInBounds_toArray, List.set_cons_zero, List.set_cons_succ]
                          refine wpAnyH_ready (rs := [5]) (by kernel_rfl) (by simp) ?_
                          refine AllReadyH.cons (o := { dst := some 190, op := Op.call { callee := Callee.value (Operand.func 9), args := #[Operand.tmp 185, Operand.tmp 187, Operand.tmp 189], argTypes := #[24, 31, 3] }, type := 3, pos := "outright.go:98", after := #[{ on := 0, ground := Ground.data }, { on := 2, ground := Ground.data }, { on := 4, ground := Ground.data }], guard := none }) rfl (fun Kq hKq => ?_) AllReadyH.nil
                          · go_simp
                            refine (SFv.out _ (bt HB17.out HBc.out)).mono ?_
                            rintro e w246x ⟨rfl, hb246⟩
                            replace HBc := (show Hid _ from bt HBc.out hb246)
                            refine hKq.out _ _ ⟨cell_below hHeld.1 hb246, cell_below hHeld.2.1 hb246, cell_below hHeld.2.2.1 hb246, cell_below hHeld.2.2.2.1 hb246, cell_below hHeld.2.2.2.2.1 hb246, cell_below hHeld.2.2.2.2.2.1 hb246, cell_below hHeld.2.2.2.2.2.2.1 hb246, cell_below hHeld.2.2.2.2.2.2.2.1 hb246, cell_below hHeld.2.2.2.2.2.2.2.2.1 hb246, cell_below hHeld.2.2.2.2.2.2.2.2.2.1 hb246, cell_below hHeld.2.2.2.2.2.2.2.2.2.2 hb246⟩ (fun hHeld => ?_)
                            clear hKq Kq
                            try simp only [Act.put, List.setIfInBounds_toArray, List.set_cons_zero, List.set_cons_succ]
                            refine takeHr (i := 10) (d := some 195) (v := .bool false) rfl rfl (by kernel_rfl) (by kernel_rfl) (by kernel_rfl) (fun _ _ _ h => h) (Or.inl ⟨by rfl, ?hy247⟩) hHeld ?rest247
                            case hy247 => intro X hSw; obtain ⟨g0, g1, g2, g3, g4, g5, g6, g7, g8, g9, g10⟩ := hSw; go_simp <;> first | with_reducible rfl | exact wkw
                            try simp only [Act.put, List.setIfInBounds_toArray, List.set_cons_zero, List.set_cons_succ]
                            refine takeHr (i := 11) (d := some 196) (v := .bool false) rfl rfl (by kernel_rfl) (by kernel_rfl) (by kernel_rfl) (fun _ _ _ h => h) (Or.inl ⟨by rfl, ?hy248⟩) hHeld ?rest248
                            case hy248 => intro X hSw; obtain ⟨g0, g1, g2, g3, g4, g5, g6, g7, g8, g9, g10⟩ := hSw; go_simp <;> first | with_reducible rfl | exact wkw
                            try simp only [Act.put, List.setIfInBounds_toArray, List.set_cons_zero, List.set_cons_succ]
                            refine takeHr (i := 12) (d := some 197) (v := undef) rfl rfl (by kernel_rfl) (by kernel_rfl) (by kernel_rfl) (fun _ _ _ h => h) (Or.inr ⟨by rfl, rfl⟩) hHeld ?_
                            try simp only [Act.put, List.setIfInBounds_toArray, List.set_cons_zero, List.set_cons_succ]
                            refine takeHr (i := 13) (d := some 198) (v := undef) rfl rfl (by kernel_rfl) (by kernel_rfl) (by kernel_rfl) (fun _ _ _ h => h) (Or.inr ⟨by rfl, rfl⟩) hHeld ?_
                            try simp only [Act.put, List.setIfInBounds_toArray, List.set_cons_zero, List.set_cons_succ]
                            refine takeHr (i := 14) (d := some 199) (v := undef) rfl rfl (by kernel_rfl) (by kernel_rfl) (by kernel_rfl) (fun _ _ _ h => h) (Or.inr ⟨by rfl, rfl⟩) hHeld ?_
                            try simp only [Act.put, List.setIfInBounds_toArray, List.set_cons_zero, List.set_cons_succ]
                            refine takeHr (i := 15) (d := some 200) (v := undef) rfl rfl (by kernel_rfl) (by kernel_rfl) (by kernel_rfl) (fun _ _ _ h => h) (Or.inr ⟨by rfl, rfl⟩) hHeld ?_
                            try simp only [Act.put, List.setIfInBounds_toArray, List.set_cons_zero, List.set_cons_succ]
                            refine takeHr (i := 16) (d := some 201) (v := undef) rfl rfl (by kernel_rfl) (by kernel_rfl) (by kernel_rfl) (fun _ _ _ h => h) (Or.inr ⟨by rfl, rfl⟩) hHeld ?_
                            try simp only [Act.put, List.setIfInBounds_toArray, List.set_cons_zero, List.set_cons_succ]
                            refine takeHr (i := 17) (d := some 202) (v := undef) rfl rfl (by kernel_rfl) (by kernel_rfl) (by kernel_rfl) (fun _ _ _ h => h) (Or.inr ⟨by rfl, rfl⟩) hHeld ?_
                            try simp only [Act.put, List.setIfInBounds_toArray, List.set_cons_zero, List.set_cons_succ]
                            refine takeHr (i := 18) (d := some 203) (v := undef) rfl rfl (by kernel_rfl) (by kernel_rfl) (by kernel_rfl) (fun _ _ _ h => h) (Or.inr ⟨by rfl, rfl⟩) hHeld ?_
                            try simp only [Act.put, List.setIfInBounds_toArray, List.set_cons_zero, List.set_cons_succ]
                            refine takeHr (i := 19) (d := some 204) (v := undef) rfl rfl (by kernel_rfl) (by kernel_rfl) (by kernel_rfl) (fun _ _ _ h => h) (Or.inr ⟨by rfl, rfl⟩) hHeld ?_
                            try simp only [Act.put, List.setIfInBounds_toArray, List.set_cons_zero, List.set_cons_succ]
                            refine takeHr (i := 20) (d := some 205) (v := undef) rfl rfl (by kernel_rfl) (by kernel_rfl) (by kernel_rfl) (fun _ _ _ h => h) (Or.inr ⟨by rfl, rfl⟩) hHeld ?_
                            try simp only [Act.put, List.setIfInBounds_toArray, List.set_cons_zero, List.set_cons_succ]
                            refine takeHr (i := 21) (d := some 206) (v := undef) rfl rfl (by kernel_rfl) (by kernel_rfl) (by kernel_rfl) (fun _ _ _ h => h) (Or.inr ⟨by rfl, rfl⟩) hHeld ?_
                            try simp only [Act.put, List.setIfInBounds_toArray, List.set_cons_zero, List.set_cons_succ]
                            refine takeHr (i := 22) (d := some 207) (v := undef) rfl rfl (by kernel_rfl) (by kernel_rfl) (by kernel_rfl) (fun _ _ _ h => h) (Or.inr ⟨by rfl, rfl⟩) hHeld ?_
                            try simp only [Act.put, List.setIfInBounds_toArray, List.set_cons_zero, List.set_cons_succ]
                            refine takeHr (i := 23) (d := some 208) (v := undef) rfl rfl (by kernel_rfl) (by kernel_rfl) (by kernel_rfl) (fun _ _ _ h => h) (Or.inr ⟨by rfl, rfl⟩) hHeld ?_
                            try simp only [Act.put, List.setIfInBounds_toArray, List.set_cons_zero, List.set_cons_succ]
                            refine takeHr (i := 24) (d := some 209) (v := undef) rfl rfl (by kernel_rfl) (by kernel_rfl) (by kernel_rfl) (fun _ _ _ h => h) (Or.inr ⟨by rfl, rfl⟩) hHeld ?_
                            try simp only [Act.put, List.setIfInBounds_toArray, List.set_cons_zero, List.set_cons_succ]
                            refine takeHr (i := 25) (d := some 210) (v := undef) rfl rfl (by kernel_rfl) (by kernel_rfl) (by kernel_rfl) (fun _ _ _ h => h) (Or.inr ⟨by rfl, rfl⟩) hHeld ?_
                            try simp only [Act.put, List.setIfInBounds_toArray, List.set_cons_zero, List.set_cons_succ]
                            refine takeHr (i := 26) (d := some 211) (v := undef) rfl rfl (by kernel_rfl) (by kernel_rfl) (by kernel_rfl) (fun _ _ _ h => h) (Or.inr ⟨by rfl, rfl⟩) hHeld ?_
                            try simp only [Act.put, List.setIfInBounds_toArray, List.set_cons_zero, List.set_cons_succ]
                            refine takeHr (i := 27) (d := some 212) (v := undef) rfl rfl (by kernel_rfl) (by kernel_rfl) (by kernel_rfl) (fun _ _ _ h => h) (Or.inr ⟨by rfl, rfl⟩) hHeld ?_
                            try simp only [Act.put, List.setIfInBounds_toArray, List.set_cons_zero, List.set_cons_succ]
                            refine takeHr (i := 28) (d := some 213) (v := undef) rfl rfl (by kernel_rfl) (by kernel_rfl) (by kernel_rfl) (fun _ _ _ h => h) (Or.inr ⟨by rfl, rfl⟩) hHeld ?_
                            try simp only [Act.put, List.setIfInBounds_toArray, List.set_cons_zero, List.set_cons_succ]
                            refine takeHr (i := 29) (d := some 214) (v := .bool false) rfl rfl (by kernel_rfl) (by kernel_rfl) (by kernel_rfl) (fun _ _ _ h => h) (Or.inl ⟨by rfl, ?hy266⟩) hHeld ?rest266
                            case hy266 => intro X hSw; obtain ⟨g0, g1, g2, g3, g4, g5, g6, g7, g8, g9, g10⟩ := hSw; go_simp <;> first | with_reducible rfl | exact wkw
                            try simp only [Act.put, List.setIfInBounds_toArray, List.set_cons_zero, List.set_cons_succ]
                            refine wpAnyH_done (by kernel_rfl) ?_ _
                            have ca0 := hHeld.1
                            have ca1 := hHeld.2.1
                            have ca2 := hHeld.2.2.1
                            have ca3 := hHeld.2.2.2.1
                            have cb0 := hHeld.2.2.2.2.1
                            have cb1 := hHeld.2.2.2.2.2.1
                            have cb2 := hHeld.2.2.2.2.2.2.1
                            have cb3 := hHeld.2.2.2.2.2.2.2.1
                            have cb4 := hHeld.2.2.2.2.2.2.2.2.1
                            have s0 := hHeld.2.2.2.2.2.2.2.2.2.1
                            have s1 := hHeld.2.2.2.2.2.2.2.2.2.2
                            clear hHeld
                            cases eb with
                            | false =>
                              go_wp2_with (fail)
                              go_ret
                              exact ⟨rfl, bt (bt HB5.out HB2.out) (bt HB17.out HBc.out)⟩
                            | true =>
                              have HEX := (show Hid (∃ q ∈ QL, q.1 = (v1, v2, v3)) from by first | exact ME.out rfl rfl | exact ME.out trivial rfl | exact ME.out trivial trivial | simpa using ME.out)
                              clear ca0 ca1 ca2 ca3 cb0 cb1 cb2 cb3 cb4 s0 s1 ME
                              go_wp2_with (fail)
                              go_loopw [21] (fun i wr => ∃ t : Nat, t ≤ QL.length ∧ i = .int .i64 (t : Int) ∧ Hid (∀ j, j < t → (QL.getD j ((0, 0, 0), [])).1 ≠ (v1, v2, v3)) ∧ Hid (Below w246x.heap.size w246x wr)) (fun i _ => QL.length - (intOf i).toNat)
                              case atStart => exact ⟨0, Nat.zero_le _, rfl, (fun j hj => absurd hj (Nat.not_lt_zero j)), Below.refl _ _⟩
                              case round =>
                                obtain ⟨t, ht, rfl, hNo, hB⟩ := hrel
                                by_cases hlt : t < QL.length
                                · have hi : (t : Int) < (QL.length : Int) := by omega
                                  obtain ⟨b4, o4, e4, x1, x2, x3⟩ := HQ.out t hlt
                                  subst e4
                                  have x1 := cell_below x1 (bt HBc.out hB.out)
                                  have x2 := cell_below x2 (bt HBc.out hB.out)
                                  have x3 := cell_below x3 (bt HBc.out hB.out)
                                  have hVa := HV17.out.below (bt HBc.out hB.out)
                                  have z1 := hVa.cell 1
                                  have z2 := hVa.cell 2
                                  have z3 := hVa.cell 3
                                  unfold vdC at z1 z2 z3
                                  simp only [List.getElem?_toArray, List.getElem?_cons_zero, List.getElem?_cons_succ] at z1 z2 z3
                                  have WT := (show Hid (wrap64 ((t : Int) + 1) = ((t + 1 : Nat) : Int)) from by have := HQL.out; show _ = _; unfold wrap64; omega)
                                  have HT := (show Hid (t < QL.length) from hlt)
                                  obtain ⟨q, hq⟩ : ∃ q, (QL.getD t ((0, 0, 0), [])).1 = q := ⟨_, rfl⟩
                                  rw [hq] at x1 x2 x3
                                  have HQq := (show Hid ((QL.getD t ((0, 0, 0), [])).1 = q) from hq)
                                  obtain ⟨q1, q2, q3⟩ := q
                                  simp only at x1 x2 x3
                                  clear hlt ht hq hVa
                                  by_cases he : q1 = v1
                                  · subst he
                                    by_cases hc : q2 = v2
                                    · subst hc
                                      by_cases hz : q3 = v3
                                      · subst hz
                                        go_wp2_with (fail)
                                        go_quiet (fail)
                                        go_wp2_with (fail)
                                        go_ret
                                        exact ⟨rfl, bt (bt (bt HB5.out HB2.out) (bt HB17.out HBc.out)) (below_drewN hB.out _)⟩
                                      · have HNE := (show Hid ((QL.getD t ((0, 0, 0), [])).1 ≠ (q1, q2, v3)) from fun e => hz (by have := HQq.out.symm.trans e; simpa using this))
                                        have d3 : (q3 == v3) = false := by simp [hz]
                                        clear hz
                                        go_wp2_with (fail)
                                        go_quiet (fail)
                                        go_wp2_with (fail)
                                        go_roundw
                                        case rel => exact ⟨t + 1, HT.out, by first | rw [WT.out] | go_num, nx_no hNo.out HNE.out, below_drewN hB.out _⟩
                                        case measure => first | (rw [WT.out]; exact meas_v17 HT.out) | exact meas_v17 HT.out
                                    · have HNE := (show Hid ((QL.getD t ((0, 0, 0), [])).1 ≠ (q1, v2, v3)) from fun e => hc (by have := HQq.out.symm.trans e; simp at this; exact this.1))
                                      have d2 : (q2 == v2) = false := by simp [hc]
                                      clear hc
                                      go_wp2_with (fail)
                                      go_quiet (fail)
                                      go_wp2_with (fail)
                                      go_roundw
                                      case rel => exact ⟨t + 1, HT.out, by first | rw [WT.out] | go_num, nx_no hNo.out HNE.out, below_drewN hB.out _⟩
                                      case measure => first | (rw [WT.out]; exact meas_v17 HT.out) | exact meas_v17 HT.out
                                  · have HNE := (show Hid ((QL.getD t ((0, 0, 0), [])).1 ≠ (v1, v2, v3)) from fun e => he (by have := HQq.out.symm.trans e; simp at this; exact this.1))
                                    have d1 : (q1 == v1) = false := by simp [he]
                                    clear he
                                    go_wp2_with (fail)
                                    go_quiet (fail)
                                    go_wp2_with (fail)
                                    go_roundw
                                    case rel => exact ⟨t + 1, HT.out, by first | rw [WT.out] | go_num, nx_no hNo.out HNE.out, below_drewN hB.out _⟩
                                    case measure => first | (rw [WT.out]; exact meas_v17 HT.out) | exact meas_v17 HT.out
                                · exfalso
                                  obtain ⟨q, hq, e⟩ := HEX.out
                                  obtain ⟨j, hj, e2⟩ := List.getElem_of_mem hq
                                  exact hNo.out j (by omega) (by rw [List.getD_eq_getElem?_getD, List.getElem?_eq_getElem hj, Option.getD_some, e2]; exact e)
              · have hnb : ¬ (k + (h0 : Int) ≤ (cv : Int)) := fun h => hkw (MD.out rfl (by rw [hcv]; exact h)).1
                have dk : (kw == 1) = false := by simp [hkw]
                clear MB MD SF SP hcv hkw
                as_aux_lemma =>
                  go_wp2_with (first
                    | (go_at_call 11; refine (PO.out _ HB16.out).mono ?_; rintro e w17 ⟨v17, rfl, hR17, hb17⟩; obtain ⟨p17, c17, e17, hQ17⟩ := rgl_cells hR17; subst e17; have HQ := (show Hid _ from hQ17); have HB17 := (show Hid (Below W2.heap.size W2 w17) from bt HB16.out hb17); have HV17 := (show Hid (GB w17 w11.heap.size 42 (vdC 1 (v1, v2, v3) (.slice q11 Lv c11))) from HVa.out.below hb17); have hVa := HV17.out; have hVb := HV16.out.below hb17; have ca0 := hVa.cell 0; have ca1 := hVa.cell 1; have ca2 := hVa.cell 2; have ca3 := hVa.cell 3; have ca4 := hVa.cell 4; unfold vdC at ca0 ca1 ca2 ca3 ca4; simp only [List.getElem?_toArray, List.getElem?_cons_zero, List.getElem?_cons_succ] at ca0 ca1 ca2 ca3 ca4; have cb0 := hVb.cell 0; have cb1 := hVb.cell 1; have cb2 := hVb.cell 2; have cb3 := hVb.cell 3; have cb4 := hVb.cell 4; unfold vdC at cb0 cb1 cb2 cb3 cb4; simp only [List.getElem?_toArray, List.getElem?_cons_zero, List.getElem?_cons_succ] at cb0 cb1 cb2 cb3 cb4; obtain ⟨s0, s1⟩ := gb_sh (hGS16.below hb17); clear hVa hVb hR17 hQ17 hGS16 hb17)
                    | (refine wpList_ldB rfl _ rfl w.heap.size rfl hGS16 Try.underlying23 (size_Sp' _ _ _) ?_)
                    | (refine wpList_stB (cs := vdC kw (y1, y2, y3) (.slice q14 Lw c14)) rfl _ _ rfl rfl w14.heap.size rfl rfl hG15 (size_Vd' _ _ _) (vdC_same _ _ _ _ _ _) (vdC_one _ _ _ rfl) ?_; intro w16 hV16 hg16 hs16; have HP16 := (show Hid (Below w14.heap.size w14 w16) from grown_below hb15 hg16 hb15.size (Nat.le_refl _)); have HB16 := (show Hid (Below W2.heap.size W2 w16) from bt HB13.out (bt hb14 HP16.out)); have hGS16 := (hGS13.below hb14).below HP16.out; have HV16 := (show Hid (GB w16 w14.heap.size 42 (vdC kw (y1, y2, y3) (.slice q14 Lw c14))) from hV16); have HVa := (show Hid _ from (HV13.out.below hb14).below HP16.out); clear hV16 hg16 hs16 hG15 hb15 hb14 hGS13)
                    | (refine wpList_alB rfl rfl vd0 ?_; intro w15 hG15 hb15 hs15; have hu := hb14; clear hu hs15)
                    | (go_at_call 10; refine Calls.mono (JP.out _ HB13.out) ?_; rintro e w14 ⟨q14, c14, rfl, hb14⟩)
                    | (refine wpList_ldB rfl _ rfl w.heap.size rfl hGS13 Try.underlying23 (size_Sp' _ _ _) ?_)
                    | (refine wpList_stB (cs := vdC 1 (v1, v2, v3) (.slice q11 Lv c11)) rfl _ _ rfl rfl w11.heap.size rfl rfl hG12 (size_Vd' _ _ _) (vdC_same _ _ _ _ _ _) (vdC_one _ _ _ rfl) ?_; intro w13 hV13 hg13 hs13; have HP13 := (show Hid (Below w11.heap.size w11 w13) from grown_below hb12 hg13 hb12.size (Nat.le_refl _)); have HB13 := (show Hid (Below W2.heap.size W2 w13) from bt HB0.out (bt hb11 HP13.out)); have hGS13 := (hGS0.below hb11).below HP13.out; have HV13 := (show Hid (GB w13 w11.heap.size 42 (vdC 1 (v1, v2, v3) (.slice q11 Lv c11))) from hV13); clear hV13 hg13 hs13 hG12 hb12 hb11 hGS0)
                    | (refine wpList_alB rfl rfl vd0 ?_; intro w12 hG12 hb12 hs12; have hu := hb11; clear hu hs12)
                    | (go_at_call 10; refine Calls.mono (JF.out _ HB0.out) ?_; rintro e w11 ⟨q11, c11, rfl, hb11⟩)
                    | (refine wpList_ldB rfl _ rfl w.heap.size rfl hGS0 Try.underlying23 (size_Sp' _ _ _) ?_))
                  have HBc := (show Hid (Below w17.heap.size w17 w17) from Below.refl _ _)
                  obtain ⟨wd341, hwd⟩ : ∃ wq, wq = w17.drew := ⟨_, rfl⟩
                  have bd : Below w17.heap.size w17 wd341 := by rw [hwd]; exact (Below.refl _ _).drew
                  replace HBc := (show Hid (Below w17.heap.size w17 wd341) from bt HBc.out bd)
                  refine wp_region_held_drew (S := fun X => X.cell? ⟨w11.heap.size, 0, none⟩ = some (.int .i64 1) ∧ X.cell? ⟨w11.heap.size, 1, none⟩ = some (.int .i64 v1) ∧ X.cell? ⟨w11.heap.size, 2, none⟩ = some (.int .i64 v2) ∧ X.cell? ⟨w11.heap.size, 3, none⟩ = some (.int .i64 v3) ∧ X.cell? ⟨w14.heap.size, 0, none⟩ = some (.int .i64 kw) ∧ X.cell? ⟨w14.heap.size, 1, none⟩ = some (.int .i64 y1) ∧ X.cell? ⟨w14.heap.size, 2, none⟩ = some (.int .i64 y2) ∧ X.cell? ⟨w14.heap.size, 3, none⟩ = some (.int .i64 y3) ∧ X.cell? ⟨w14.heap.size, 4, none⟩ = some (.slice q14 Lw c14) ∧ X.cell? ⟨w.heap.size, 0, none⟩ = some (.int .i64 k) ∧ X.cell? ⟨w.heap.size, 1, none⟩ = some (.int .i64 m)) (by kernel_rfl) (by rw [← hwd]; exact ⟨cell_below ca0 bd, cell_below ca1 bd, cell_below ca2 bd, cell_below ca3 bd, cell_below cb0 bd, cell_below cb1 bd, cell_below cb2 bd, cell_below cb3 bd, cell_below cb4 bd, cell_below s0 bd, cell_below s1 bd⟩) (fun hHeld => ?_)
                  rw [← hwd] at hHeld ⊢
                  clear ca0 ca1 ca2 ca3 cb0 cb1 cb2 cb3 cb4 s0 s1 bd hwd
                  refine takeHr (i := 0) (d := some 124) (v := ?v342) rfl rfl (by kernel_rfl) (by kernel_rfl) (by kernel_rfl) (fun _ _ _ h => h) (Or.inl ⟨by rfl, ?hy342⟩) hHeld ?rest342
                  case hy342 => intro X hSw; obtain ⟨g0, g1, g2, g3, g4, g5, g6, g7, g8, g9, g10⟩ := hSw; go_simp <;> first | with_reducible rfl | exact wkw
                  try simp only [Act.put, List.setIfInBounds_toArray, List.set_cons_zero, List.set_cons_succ]
                  refine takeHr (i := 1) (d := some 125) (v := ?v343) rfl rfl (by kernel_rfl) (by kernel_rfl) (by kernel_rfl) (fun _ _ _ h => h) (Or.inl ⟨by rfl, ?hy343⟩) hHeld ?rest343
                  case hy343 => intro X hSw; obtain ⟨g0, g1, g2, g3, g4, g5, g6, g7, g8, g9, g10⟩ := hSw; go_simp <;> first | with_reducible rfl | exact wkw
                  try simp only [Act.put, List.setIfInBounds_toArray, List.set_cons_zero, List.set_cons_succ]
                  refine takeHr (i := 2) (d := some 126) (v := .bool false) rfl rfl (by kernel_rfl) (by kernel_rfl) (by kernel_rfl) (fun _ _ _ h => h) (Or.inl ⟨by rfl, ?hy344⟩) hHeld ?rest344
                  case hy344 => intro X hSw; obtain ⟨g0, g1, g2, g3, g4, g5, g6, g7, g8, g9, g10⟩ := hSw; go_simp <;> first | with_reducible rfl | exact wkw
                  try simp only [Act.put, List.setIfInBounds_toArray, List.set_cons_zero, List.set_cons_succ]
                  refine takeHr (i := 3) (d := some 127) (v := .bool false) rfl rfl (by kernel_rfl) (by kernel_rfl) (by kernel_rfl) (fun _ _ _ h => h) (Or.inl ⟨by rfl, ?hy345⟩) hHeld ?rest345
                  case hy345 => intro X hSw; obtain ⟨g0, g1, g2, g3, g4, g5, g6, g7, g8, g9, g10⟩ := hSw; go_simp <;> first | with_reducible rfl | exact wkw
                  try simp only [Act.put, List.setIfInBounds_toArray, List.set_cons_zero, List.set_cons_succ]
                  refine takeHr (i := 4) (d := some 128) (v := undef) rfl rfl (by kernel_rfl) (by kernel_rfl) (by kernel_rfl) (fun _ _ _ h => h) (Or.inr ⟨by rfl, rfl⟩) hHeld ?_
                  try simp only [Act.put, List.setIfInBounds_toArray, List.set_cons_zero, List.set_cons_succ]
                  refine takeHr (i := 5) (d := some 129) (v := undef) rfl rfl (by kernel_rfl) (by kernel_rfl) (by kernel_rfl) (fun _ _ _ h => h) (Or.inr ⟨by rfl, rfl⟩) hHeld ?_
                  try simp only [Act.put, List.setIfInBounds_toArray, List.set_cons_zero, List.set_cons_succ]
                  refine takeHr (i := 6) (d := some 130) (v := undef) rfl rfl (by kernel_rfl) (by kernel_rfl) (by kernel_rfl) (fun _ _ _ h => h) (Or.inr ⟨by rfl, rfl⟩) hHeld ?_
                  try simp only [Act.put, List.setIfInBounds_toArray, List.set_cons_zero, List.set_cons_succ]
                  refine takeHr (i := 7) (d := some 131) (v := undef) rfl rfl (by kernel_rfl) (by kernel_rfl) (by kernel_rfl) (fun _ _ _ h => h) (Or.inr ⟨by rfl, rfl⟩) hHeld ?_
                  try simp only [Act.put, List.setIfInBounds_toArray, List.set_cons_zero, List.set_cons_succ]
                  refine takeHr (i := 8) (d := some 132) (v := undef) rfl rfl (by kernel_rfl) (by kernel_rfl) (by kernel_rfl) (fun _ _ _ h => h) (Or.inr ⟨by rfl, rfl⟩) hHeld ?_
                  try simp only [Act.put, List.setIfInBounds_toArray, List.set_cons_zero, List.set_cons_succ]
                  refine takeHr (i := 9) (d := some 133) (v := undef) rfl rfl (by kernel_rfl) (by kernel_rfl) (by kernel_rfl) (fun _ _ _ h => h) (Or.inr ⟨by rfl, rfl⟩) hHeld ?_
                  try simp only [Act.put, List.setIfInBounds_toArray, List.set_cons_zero, List.set_cons_succ]
                  refine takeHr (i := 10) (d := some 134) (v := undef) rfl rfl (by kernel_rfl) (by kernel_rfl) (by kernel_rfl) (fun _ _ _ h => h) (Or.inr ⟨by rfl, rfl⟩) hHeld ?_
                  try simp only [Act.put, List.setIfInBounds_toArray, List.set_cons_zero, List.set_cons_succ]
                  refine takeHr (i := 11) (d := some 135) (v := undef) rfl rfl (by kernel_rfl) (by kernel_rfl) (by kernel_rfl) (fun _ _ _ h => h) (Or.inr ⟨by rfl, rfl⟩) hHeld ?_
                  try simp only [Act.put, List.setIfInBounds_toArray, List.set_cons_zero, List.set_cons_succ]
                  refine takeHr (i := 12) (d := some 136) (v := undef) rfl rfl (by kernel_rfl) (by kernel_rfl) (by kernel_rfl) (fun _ _ _ h => h) (Or.inr ⟨by rfl, rfl⟩) hHeld ?_
                  try simp only [Act.put, List.setIfInBounds_toArray, List.set_cons_zero, List.set_cons_succ]
                  refine takeHr (i := 13) (d := some 137) (v := undef) rfl rfl (by kernel_rfl) (by kernel_rfl) (by kernel_rfl) (fun _ _ _ h => h) (Or.inr ⟨by rfl, rfl⟩) hHeld ?_
                  try simp only [Act.put, List.setIfInBounds_toArray, List.set_cons_zero, List.set_cons_succ]
                  refine takeHr (i := 14) (d := some 138) (v := undef) rfl rfl (by kernel_rfl) (by kernel_rfl) (by kernel_rfl) (fun _ _ _ h => h) (Or.inr ⟨by rfl, rfl⟩) hHeld ?_
                  try simp only [Act.put, List.setIfInBounds_toArray, List.set_cons_zero, List.set_cons_succ]
                  refine takeHr (i := 15) (d := some 139) (v := undef) rfl rfl (by kernel_rfl) (by kernel_rfl) (by kernel_rfl) (fun _ _ _ h => h) (Or.inr ⟨by rfl, rfl⟩) hHeld ?_
                  try simp only [Act.put, List.setIfInBounds_toArray, List.set_cons_zero, List.set_cons_succ]
                  refine takeHr (i := 16) (d := some 140) (v := undef) rfl rfl (by kernel_rfl) (by kernel_rfl) (by kernel_rfl) (fun _ _ _ h => h) (Or.inr ⟨by rfl, rfl⟩) hHeld ?_
                  try simp only [Act.put, List.setIfInBounds_toArray, List.set_cons_zero, List.set_cons_succ]
                  refine takeHr (i := 17) (d := some 141) (v := undef) rfl rfl (by kernel_rfl) (by kernel_rfl) (by kernel_rfl) (fun _ _ _ h => h) (Or.inr ⟨by rfl, rfl⟩) hHeld ?_
                  try simp only [Act.put, List.setIfInBounds_toArray, List.set_cons_zero, List.set_cons_succ]
                  refine takeHr (i := 18) (d := some 142) (v := undef) rfl rfl (by kernel_rfl) (by kernel_rfl) (by kernel_rfl) (fun _ _ _ h => h) (Or.inr ⟨by rfl, rfl⟩) hHeld ?_
                  try simp only [Act.put, List.setIfInBounds_toArray, List.set_cons_zero, List.set_cons_succ]
                  refine takeHr (i := 19) (d := some 143) (v := undef) rfl rfl (by kernel_rfl) (by kernel_rfl) (by kernel_rfl) (fun _ _ _ h => h) (Or.inr ⟨by rfl, rfl⟩) hHeld ?_
                  try simp only [Act.put, List.setIfInBounds_toArray, List.set_cons_zero, List.set_cons_succ]
                  refine takeHr (i := 20) (d := some 144) (v := undef) rfl rfl (by kernel_rfl) (by kernel_rfl) (by kernel_rfl) (fun _ _ _ h => h) (Or.inr ⟨by rfl, rfl⟩) hHeld ?_
                  try simp only [Act.put, List.setIfInBounds_toArray, List.set_cons_zero, List.set_cons_succ]
                  refine takeHr (i := 21) (d := some 145) (v := undef) rfl rfl (by kernel_rfl) (by kernel_rfl) (by kernel_rfl) (fun _ _ _ h => h) (Or.inr ⟨by rfl, rfl⟩) hHeld ?_
                  try simp only [Act.put, List.setIfInBounds_toArray, List.set_cons_zero, List.set_cons_succ]
                  refine takeHr (i := 22) (d := some 146) (v := undef) rfl rfl (by kernel_rfl) (by kernel_rfl) (by kernel_rfl) (fun _ _ _ h => h) (Or.inr ⟨by rfl, rfl⟩) hHeld ?_
                  try simp only [Act.put, List.setIfInBounds_toArray, List.set_cons_zero, List.set_cons_succ]
                  refine takeHr (i := 23) (d := some 147) (v := undef) rfl rfl (by kernel_rfl) (by kernel_rfl) (by kernel_rfl) (fun _ _ _ h => h) (Or.inr ⟨by rfl, rfl⟩) hHeld ?_
                  try simp only [Act.put, List.setIfInBounds_toArray, List.set_cons_zero, List.set_cons_succ]
                  refine takeHr (i := 24) (d := some 148) (v := undef) rfl rfl (by kernel_rfl) (by kernel_rfl) (by kernel_rfl) (fun _ _ _ h => h) (Or.inr ⟨by rfl, rfl⟩) hHeld ?_
                  try simp only [Act.put, List.setIfInBounds_toArray, List.set_cons_zero, List.set_cons_succ]
                  refine takeHr (i := 25) (d := some 149) (v := undef) rfl rfl (by kernel_rfl) (by kernel_rfl) (by kernel_rfl) (fun _ _ _ h => h) (Or.inr ⟨by rfl, rfl⟩) hHeld ?_
                  try simp only [Act.put, List.setIfInBounds_toArray, List.set_cons_zero, List.set_cons_succ]
                  refine takeHr (i := 26) (d := some 150) (v := undef) rfl rfl (by kernel_rfl) (by kernel_rfl) (by kernel_rfl) (fun _ _ _ h => h) (Or.inr ⟨by rfl, rfl⟩) hHeld ?_
                  try simp only [Act.put, List.setIfInBounds_toArray, List.set_cons_zero, List.set_cons_succ]
                  refine takeHr (i := 27) (d := some 151) (v := undef) rfl rfl (by kernel_rfl) (by kernel_rfl) (by kernel_rfl) (fun _ _ _ h => h) (Or.inr ⟨by rfl, rfl⟩) hHeld ?_
                  try simp only [Act.put, List.setIfInBounds_toArray, List.set_cons_zero, List.set_cons_succ]
                  refine takeHr (i := 28) (d := some 152) (v := undef) rfl rfl (by kernel_rfl) (by kernel_rfl) (by kernel_rfl) (fun _ _ _ h => h) (Or.inr ⟨by rfl, rfl⟩) hHeld ?_
                  try simp only [Act.put, List.setIfInBounds_toArray, List.set_cons_zero, List.set_cons_succ]
                  refine takeHr (i := 29) (d := some 153) (v := undef) rfl rfl (by kernel_rfl) (by kernel_rfl) (by kernel_rfl) (fun _ _ _ h => h) (Or.inr ⟨by rfl, rfl⟩) hHeld ?_
                  try simp only [Act.put, List.setIfInBounds_toArray, List.set_cons_zero, List.set_cons_succ]
                  refine takeHr (i := 30) (d := some 154) (v := undef) rfl rfl (by kernel_rfl) (by kernel_rfl) (by kernel_rfl) (fun _ _ _ h => h) (Or.inr ⟨by rfl, rfl⟩) hHeld ?_
                  try simp only [Act.put, List.setIfInBounds_toArray, List.set_cons_zero, List.set_cons_succ]
                  refine takeHr (i := 31) (d := some 155) (v := undef) rfl rfl (by kernel_rfl) (by kernel_rfl) (by kernel_rfl) (fun _ _ _ h => h) (Or.inr ⟨by rfl, rfl⟩) hHeld ?_
                  try simp only [Act.put, List.setIfInBounds_toArray, List.set_cons_zero, List.set_cons_succ]
                  refine takeHr (i := 32) (d := some 156) (v := undef) rfl rfl (by kernel_rfl) (by kernel_rfl) (by kernel_rfl) (fun _ _ _ h => h) (Or.inr ⟨by rfl, rfl⟩) hHeld ?_
                  try simp only [Act.put, List.setIfInBounds_toArray, List.set_cons_zero, List.set_cons_succ]
                  refine takeHr (i := 33) (d := some 157) (v := undef) rfl rfl (by kernel_rfl) (by kernel_rfl) (by kernel_rfl) (fun _ _ _ h => h) (Or.inr ⟨by rfl, rfl⟩) hHeld ?_
                  try simp only [Act.put, List.setIfInBounds_toArray, List.set_cons_zero, List.set_cons_succ]
                  refine takeHr (i := 34) (d := some 158) (v := undef) rfl rfl (by kernel_rfl) (by kernel_rfl) (by kernel_rfl) (fun _ _ _ h => h) (Or.inr ⟨by rfl, rfl⟩) hHeld ?_
                  try simp only [Act.put, List.setIfInBounds_toArray, List.set_cons_zero, List.set_cons_succ]
                  refine takeHr (i := 35) (d := some 159) (v := undef) rfl rfl (by kernel_rfl) (by kernel_rfl) (by kernel_rfl) (fun _ _ _ h => h) (Or.inr ⟨by rfl, rfl⟩) hHeld ?_
                  try simp only [Act.put, List.setIfInBounds_toArray, List.set_cons_zero, List.set_cons_succ]
                  refine takeHr (i := 36) (d := some 160) (v := undef) rfl rfl (by kernel_rfl) (by kernel_rfl) (by kernel_rfl) (fun _ _ _ h => h) (Or.inr ⟨by rfl, rfl⟩) hHeld ?_
                  try simp only [Act.put, List.setIfInBounds_toArray, List.set_cons_zero, List.set_cons_succ]
                  refine takeHr (i := 37) (d := some 161) (v := undef) rfl rfl (by kernel_rfl) (by kernel_rfl) (by kernel_rfl) (fun _ _ _ h => h) (Or.inr ⟨by rfl, rfl⟩) hHeld ?_
                  try simp only [Act.put, List.setIfInBounds_toArray, List.set_cons_zero, List.set_cons_succ]
                  refine takeHr (i := 38) (d := some 162) (v := undef) rfl rfl (by kernel_rfl) (by kernel_rfl) (by kernel_rfl) (fun _ _ _ h => h) (Or.inr ⟨by rfl, rfl⟩) hHeld ?_
                  try simp only [Act.put, List.setIfInBounds_toArray, List.set_cons_zero, List.set_cons_succ]
                  refine takeHr (i := 39) (d := some 163) (v := undef) rfl rfl (by kernel_rfl) (by kernel_rfl) (by kernel_rfl) (fun _ _ _ h => h) (Or.inr ⟨by rfl, rfl⟩) hHeld ?_
                  try simp only [Act.put, List.setIfInBounds_toArray, List.set_cons_zero, List.set_cons_succ]
                  refine takeHr (i := 40) (d := some 164) (v := undef) rfl rfl (by kernel_rfl) (by kernel_rfl) (by kernel_rfl) (fun _ _ _ h => h) (Or.inr ⟨by rfl, rfl⟩) hHeld ?_
                  try simp only [Act.put, List.setIfInBounds_toArray, List.set_cons_zero, List.set_cons_succ]
                  refine takeHr (i := 41) (d := some 165) (v := .bool false) rfl rfl (by kernel_rfl) (by kernel_rfl) (by kernel_rfl) (fun _ _ _ h => h) (Or.inl ⟨by rfl, ?hy383⟩) hHeld ?rest383
                  case hy383 => intro X hSw; obtain ⟨g0, g1, g2, g3, g4, g5, g6, g7, g8, g9, g10⟩ := hSw; go_simp <;> first | with_reducible rfl | exact wkw
                  try simp only [Act.put, List.setIfInBounds_toArray, List.set_cons_zero, List.set_cons_succ]
                  refine wpAnyH_done (by kernel_rfl) ?_ _
                  have ca0 := hHeld.1
                  have ca1 := hHeld.2.1
                  have ca2 := hHeld.2.2.1
                  have ca3 := hHeld.2.2.2.1
                  have cb0 := hHeld.2.2.2.2.1
                  have cb1 := hHeld.2.2.2.2.2.1
                  have cb2 := hHeld.2.2.2.2.2.2.1
                  have cb3 := hHeld.2.2.2.2.2.2.2.1
                  have cb4 := hHeld.2.2.2.2.2.2.2.2.1
                  have s0 := hHeld.2.2.2.2.2.2.2.2.2.1
                  have s1 := hHeld.2.2.2.2.2.2.2.2.2.2
                  clear hHeld
                  go_wp2_with (fail)
                  obtain ⟨wd310, hwd⟩ : ∃ wq, wq = wd341.drew := ⟨_, rfl⟩
                  have bd : Below wd341.heap.size wd341 wd310 := by rw [hwd]; exact (Below.refl _ _).drew
                  replace HBc := (show Hid (Below w17.heap.size w17 wd310) from bt HBc.out bd)
                  refine wp_region_held_drew (S := fun X => X.cell? ⟨w11.heap.size, 0, none⟩ = some (.int .i64 1) ∧ X.cell? ⟨w11.heap.size, 1, none⟩ = some (.int .i64 v1) ∧ X.cell? ⟨w11.heap.size, 2, none⟩ = some (.int .i64 v2) ∧ X.cell? ⟨w11.heap.size, 3, none⟩ = some (.int .i64 v3) ∧ X.cell? ⟨w14.heap.size, 0, none⟩ = some (.int .i64 kw) ∧ X.cell? ⟨w14.heap.size, 1, none⟩ = some (.int .i64 y1) ∧ X.cell? ⟨w14.heap.size, 2, none⟩ = some (.int .i64 y2) ∧ X.cell? ⟨w14.heap.size, 3, none⟩ = some (.int .i64 y3) ∧ X.cell? ⟨w14.heap.size, 4, none⟩ = some (.slice q14 Lw c14) ∧ X.cell? ⟨w.heap.size, 0, none⟩ = some (.int .i64 k) ∧ X.cell? ⟨w.heap.size, 1, none⟩ = some (.int .i64 m)) (by kernel_rfl) (by rw [← hwd]; exact ⟨cell_below ca0 bd, cell_below ca1 bd, cell_below ca2 bd, cell_below ca3 bd, cell_below cb0 bd, cell_below cb1 bd, cell_below cb2 bd, cell_below cb3 bd, cell_below cb4 bd, cell_below s0 bd, cell_below s1 bd⟩) (fun hHeld => ?_)
                  rw [← hwd] at hHeld ⊢
                  clear ca0 ca1 ca2 ca3 cb0 cb1 cb2 cb3 cb4 s0 s1 bd hwd
                  refine takeHr (i := 0) (d := some 185) (v := ?v311) rfl rfl (by kernel_rfl) (by kernel_rfl) (by kernel_rfl) (fun _ _ _ h => h) (Or.inl ⟨by rfl, ?hy311⟩) hHeld ?rest311
                  case hy311 => intro X hSw; obtain ⟨g0, g1, g2, g3, g4, g5, g6, g7, g8, g9, g10⟩ := hSw; go_simp <;> first | with_reducible rfl | exact wkw
                  try simp only [Act.put, List.setIfInBounds_toArray, List.set_cons_zero, List.set_cons_succ]
                  refine takeHr (i := 1) (d := some 186) (v := ?v312) rfl rfl (by kernel_rfl) (by kernel_rfl) (by kernel_rfl) (fun _ _ _ h => h) (Or.inl ⟨by rfl, ?hy312⟩) hHeld ?rest312
                  case hy312 => intro X hSw; obtain ⟨g0, g1, g2, g3, g4, g5, g6, g7, g8, g9, g10⟩ := hSw; go_simp <;> first | with_reducible rfl | exact wkw
                  try simp only [Act.put, List.setIfInBounds_toArray, List.set_cons_zero, List.set_cons_succ]
                  refine takeHr (i := 2) (d := some 187) (v := ?v313) rfl rfl (by kernel_rfl) (by kernel_rfl) (by kernel_rfl) (fun _ _ _ h => h) (Or.inl ⟨by rfl, ?hy313⟩) hHeld ?rest313
                  case hy313 => intro X hSw; obtain ⟨g0, g1, g2, g3, g4, g5, g6, g7, g8, g9, g10⟩ := hSw; go_simp <;> first | with_reducible rfl | exact wkw
                  try simp only [Act.put, List.setIfInBounds_toArray, List.set_cons_zero, List.set_cons_succ]
                  refine takeHr (i := 3) (d := some 188) (v := ?v314) rfl rfl (by kernel_rfl) (by kernel_rfl) (by kernel_rfl) (fun _ _ _ h => h) (Or.inl ⟨by rfl, ?hy314⟩) hHeld ?rest314
                  case hy314 => intro X hSw; obtain ⟨g0, g1, g2, g3, g4, g5, g6, g7, g8, g9, g10⟩ := hSw; go_simp <;> first | with_reducible rfl | exact wkw
                  try simp only [Act.put, List.setIfInBounds_toArray, List.set_cons_zero, List.set_cons_succ]
                  refine takeHr (i := 4) (d := some 189) (v := ?v315) rfl rfl (by kernel_rfl) (by kernel_rfl) (by kernel_rfl) (fun _ _ _ h => h) (Or.inl ⟨by rfl, ?hy315⟩) hHeld ?rest315
                  case hy315 => intro X hSw; obtain ⟨g0, g1, g2, g3, g4, g5, g6, g7, g8, g9, g10⟩ := hSw; go_simp <;> first | with_reducible rfl | exact wkw
                  try simp only [Act.put, List.setIfInBounds_toArray, List.set_cons_zero, List.set_cons_succ]
                  refine takeHr (i := 6) (d := some 191) (v := ?v316) rfl rfl (by kernel_rfl) (by kernel_rfl) (by kernel_rfl) (fun _ _ _ h => h) (Or.inl ⟨by rfl, ?hy316⟩) hHeld ?rest316
                  case hy316 => intro X hSw; obtain ⟨g0, g1, g2, g3, g4, g5, g6, g7, g8, g9, g10⟩ := hSw; go_simp <;> first | with_reducible rfl | exact wkw
                  try simp only [Act.put, List.setIfInBounds_toArray, List.set_cons_zero, List.set_cons_succ]
                  refine takeHr (i := 7) (d := some 192) (v := ?v317) rfl rfl (by kernel_rfl) (by kernel_rfl) (by kernel_rfl) (fun _ _ _ h => h) (Or.inl ⟨by rfl, ?hy317⟩) hHeld ?rest317
                  case hy317 => intro X hSw; obtain ⟨g0, g1, g2, g3, g4, g5, g6, g7, g8, g9, g10⟩ := hSw; go_simp <;> first | with_reducible rfl | exact wkw
                  try simp only [Act.put, List.setIfInBounds_toArray, List.set_cons_zero, List.set_cons_succ]
                  refine takeHr (i := 8) (d := some 193) (v := ?v318) rfl rfl (by kernel_rfl) (by kernel_rfl) (by kernel_rfl) (fun _ _ _ h => h) (Or.inl ⟨by rfl, ?hy318⟩) hHeld ?rest318
                  case hy318 => intro X hSw; obtain ⟨g0, g1, g2, g3, g4, g5, g6, g7, g8, g9, g10⟩ := hSw; go_simp <;> first | with_reducible rfl | exact wkw
                  try simp only [Act.put, List.setIfInBounds_toArray, List.set_cons_zero, List.set_cons_succ]
                  refine takeHr (i := 9) (d := some 194) (v := .int .i64 (k + (h0 : Int))) rfl rfl (by kernel_rfl) (by kernel_rfl) (by kernel_rfl) (fun _ _ _ h => h) (Or.inl ⟨by rfl, ?hy319⟩) hHeld ?rest319
                  case hy319 => intro X hSw; obtain ⟨g0, g1, g2, g3, g4, g5, g6, g7, g8, g9, g10⟩ := hSw; go_simp <;> first | with_reducible rfl | exact wkw
                  try simp only [Act.put, List.setIfInBounds_toArray, List.set_cons_zero, List.set_cons_succ]
                  refine wpAnyH_ready (rs := [5]) (by kernel_rfl) (by simp) ?_
                  refine AllReadyH.cons (o := { dst := some 190, op := Op.call { callee := Callee.value (Operand.func 9), args := #[Operand.tmp 185, Operand.tmp 187, Operand.tmp 189], argTypes := #[24, 31, 3] }, type := 3, pos := "outright.go:98", after := #[{ on := 0, ground := Ground.data }, { on := 2, ground := Ground.data }, { on := 4, ground := Ground.data }], guard := none }) rfl (fun Kq hKq => ?_) AllReadyH.nil
                  · go_simp
                    refine (SFv.out _ (bt HB17.out HBc.out)).mono ?_
                    rintro e w320x ⟨rfl, hb320⟩
                    replace HBc := (show Hid _ from bt HBc.out hb320)
                    refine hKq.out _ _ ⟨cell_below hHeld.1 hb320, cell_below hHeld.2.1 hb320, cell_below hHeld.2.2.1 hb320, cell_below hHeld.2.2.2.1 hb320, cell_below hHeld.2.2.2.2.1 hb320, cell_below hHeld.2.2.2.2.2.1 hb320, cell_below hHeld.2.2.2.2.2.2.1 hb320, cell_below hHeld.2.2.2.2.2.2.2.1 hb320, cell_below hHeld.2.2.2.2.2.2.2.2.1 hb320, cell_below hHeld.2.2.2.2.2.2.2.2.2.1 hb320, cell_below hHeld.2.2.2.2.2.2.2.2.2.2 hb320⟩ (fun hHeld => ?_)
                    clear hKq Kq
                    try simp only [Act.put, List.setIfInBounds_toArray, List.set_cons_zero, List.set_cons_succ]
                    refine takeHr (i := 10) (d := some 195) (v := .bool false) rfl rfl (by kernel_rfl) (by kernel_rfl) (by kernel_rfl) (fun _ _ _ h => h) (Or.inl ⟨by rfl, ?hy321⟩) hHeld ?rest321
                    case hy321 => intro X hSw; obtain ⟨g0, g1, g2, g3, g4, g5, g6, g7, g8, g9, g10⟩ := hSw; go_simp <;> first | with_reducible rfl | exact wkw
                    try simp only [Act.put, List.setIfInBounds_toArray, List.set_cons_zero, List.set_cons_succ]
                    refine takeHr (i := 11) (d := some 196) (v := .bool false) rfl rfl (by kernel_rfl) (by kernel_rfl) (by kernel_rfl) (fun _ _ _ h => h) (Or.inl ⟨by rfl, ?hy322⟩) hHeld ?rest322
                    case hy322 => intro X hSw; obtain ⟨g0, g1, g2, g3, g4, g5, g6, g7, g8, g9, g10⟩ := hSw; go_simp <;> first | with_reducible rfl | exact wkw
                    try simp only [Act.put, List.setIfInBounds_toArray, List.set_cons_zero, List.set_cons_succ]
                    refine takeHr (i := 12) (d := some 197) (v := undef) rfl rfl (by kernel_rfl) (by kernel_rfl) (by kernel_rfl) (fun _ _ _ h => h) (Or.inr ⟨by rfl, rfl⟩) hHeld ?_
                    try simp only [Act.put, List.setIfInBounds_toArray, List.set_cons_zero, List.set_cons_succ]
                    refine takeHr (i := 13) (d := some 198) (v := undef) rfl rfl (by kernel_rfl) (by kernel_rfl) (by kernel_rfl) (fun _ _ _ h => h) (Or.inr ⟨by rfl, rfl⟩) hHeld ?_
                    try simp only [Act.put, List.setIfInBounds_toArray, List.set_cons_zero, List.set_cons_succ]
                    refine takeHr (i := 14) (d := some 199) (v := undef) rfl rfl (by kernel_rfl) (by kernel_rfl) (by kernel_rfl) (fun _ _ _ h => h) (Or.inr ⟨by rfl, rfl⟩) hHeld ?_
                    try simp only [Act.put, List.setIfInBounds_toArray, List.set_cons_zero, List.set_cons_succ]
                    refine takeHr (i := 15) (d := some 200) (v := undef) rfl rfl (by kernel_rfl) (by kernel_rfl) (by kernel_rfl) (fun _ _ _ h => h) (Or.inr ⟨by rfl, rfl⟩) hHeld ?_
                    try simp only [Act.put, List.setIfInBounds_toArray, List.set_cons_zero, List.set_cons_succ]
                    refine takeHr (i := 16) (d := some 201) (v := undef) rfl rfl (by kernel_rfl) (by kernel_rfl) (by kernel_rfl) (fun _ _ _ h => h) (Or.inr ⟨by rfl, rfl⟩) hHeld ?_
                    try simp only [Act.put, List.setIfInBounds_toArray, List.set_cons_zero, List.set_cons_succ]
                    refine takeHr (i := 17) (d := some 202) (v := undef) rfl rfl (by kernel_rfl) (by kernel_rfl) (by kernel_rfl) (fun _ _ _ h => h) (Or.inr ⟨by rfl, rfl⟩) hHeld ?_
                    try simp only [Act.put, List.setIfInBounds_toArray, List.set_cons_zero, List.set_cons_succ]
                    refine takeHr (i := 18) (d := some 203) (v := undef) rfl rfl (by kernel_rfl) (by kernel_rfl) (by kernel_rfl) (fun _ _ _ h => h) (Or.inr ⟨by rfl, rfl⟩) hHeld ?_
                    try simp only [Act.put, List.setIfInBounds_toArray, List.set_cons_zero, List.set_cons_succ]
                    refine takeHr (i := 19) (d := some 204) (v := undef) rfl rfl (by kernel_rfl) (by kernel_rfl) (by kernel_rfl) (fun _ _ _ h => h) (Or.inr ⟨by rfl, rfl⟩) hHeld ?_
                    try simp only [Act.put, List.setIfInBounds_toArray, List.set_cons_zero, List.set_cons_succ]
                    refine takeHr (i := 20) (d := some 205) (v := undef) rfl rfl (by kernel_rfl) (by kernel_rfl) (by kernel_rfl) (fun _ _ _ h => h) (Or.inr ⟨by rfl, rfl⟩) hHeld ?_
                    try simp only [Act.put, List.setIfInBounds_toArray, List.set_cons_zero, List.set_cons_succ]
                    refine takeHr (i := 21) (d := some 206) (v := undef) rfl rfl (by kernel_rfl) (by kernel_rfl) (by kernel_rfl) (fun _ _ _ h => h) (Or.inr ⟨by rfl, rfl⟩) hHeld ?_
                    try simp only [Act.put, List.setIfInBounds_toArray, List.set_cons_zero, List.set_cons_succ]
                    refine takeHr (i := 22) (d := some 207) (v := undef) rfl rfl (by kernel_rfl) (by kernel_rfl) (by kernel_rfl) (fun _ _ _ h => h) (Or.inr ⟨by rfl, rfl⟩) hHeld ?_
                    try simp only [Act.put, List.setIfInBounds_toArray, List.set_cons_zero, List.set_cons_succ]
                    refine takeHr (i := 23) (d := some 208) (v := undef) rfl rfl (by kernel_rfl) (by kernel_rfl) (by kernel_rfl) (fun _ _ _ h => h) (Or.inr ⟨by rfl, rfl⟩) hHeld ?_
                    try simp only [Act.put, List.setIfInBounds_toArray, List.set_cons_zero, List.set_cons_succ]
                    refine takeHr (i := 24) (d := some 209) (v := undef) rfl rfl (by kernel_rfl) (by kernel_rfl) (by kernel_rfl) (fun _ _ _ h => h) (Or.inr ⟨by rfl, rfl⟩) hHeld ?_
                    try simp only [Act.put, List.setIfInBounds_toArray, List.set_cons_zero, List.set_cons_succ]
                    refine takeHr (i := 25) (d := some 210) (v := undef) rfl rfl (by kernel_rfl) (by kernel_rfl) (by kernel_rfl) (fun _ _ _ h => h) (Or.inr ⟨by rfl, rfl⟩) hHeld ?_
                    try simp only [Act.put, List.setIfInBounds_toArray, List.set_cons_zero, List.set_cons_succ]
                    refine takeHr (i := 26) (d := some 211) (v := undef) rfl rfl (by kernel_rfl) (by kernel_rfl) (by kernel_rfl) (fun _ _ _ h => h) (Or.inr ⟨by rfl, rfl⟩) hHeld ?_
                    try simp only [Act.put, List.setIfInBounds_toArray, List.set_cons_zero, List.set_cons_succ]
                    refine takeHr (i := 27) (d := some 212) (v := undef) rfl rfl (by kernel_rfl) (by kernel_rfl) (by kernel_rfl) (fun _ _ _ h => h) (Or.inr ⟨by rfl, rfl⟩) hHeld ?_
                    try simp only [Act.put, List.setIfInBounds_toArray, List.set_cons_zero, List.set_cons_succ]
                    refine takeHr (i := 28) (d := some 213) (v := undef) rfl rfl (by kernel_rfl) (by kernel_rfl) (by kernel_rfl) (fun _ _ _ h => h) (Or.inr ⟨by rfl, rfl⟩) hHeld ?_
                    try simp only [Act.put, List.setIfInBounds_toArray, List.set_cons_zero, List.set_cons_succ]
                    refine takeHr (i := 29) (d := some 214) (v := .bool false) rfl rfl (by kernel_rfl) (by kernel_rfl) (by kernel_rfl) (fun _ _ _ h => h) (Or.inl ⟨by rfl, ?hy340⟩) hHeld ?rest340
                    case hy340 => intro X hSw; obtain ⟨g0, g1, g2, g3, g4, g5, g6, g7, g8, g9, g10⟩ := hSw; go_simp <;> first | with_reducible rfl | exact wkw
                    try simp only [Act.put, List.setIfInBounds_toArray, List.set_cons_zero, List.set_cons_succ]
                    refine wpAnyH_done (by kernel_rfl) ?_ _
                    have ca0 := hHeld.1
                    have ca1 := hHeld.2.1
                    have ca2 := hHeld.2.2.1
                    have ca3 := hHeld.2.2.2.1
                    have cb0 := hHeld.2.2.2.2.1
                    have cb1 := hHeld.2.2.2.2.2.1
                    have cb2 := hHeld.2.2.2.2.2.2.1
                    have cb3 := hHeld.2.2.2.2.2.2.2.1
                    have cb4 := hHeld.2.2.2.2.2.2.2.2.1
                    have s0 := hHeld.2.2.2.2.2.2.2.2.2.1
                    have s1 := hHeld.2.2.2.2.2.2.2.2.2.2
                    clear hHeld
                    cases eb with
                    | false =>
                      go_wp2_with (fail)
                      go_ret
                      exact ⟨rfl, bt (bt HB5.out HB2.out) (bt HB17.out HBc.out)⟩
                    | true =>
                      have HEX := (show Hid (∃ q ∈ QL, q.1 = (v1, v2, v3)) from by first | exact ME.out rfl rfl | exact ME.out trivial rfl | exact ME.out trivial trivial | simpa using ME.out)
                      clear ca0 ca1 ca2 ca3 cb0 cb1 cb2 cb3 cb4 s0 s1 ME
                      go_wp2_with (fail)
                      go_loopw [21] (fun i wr => ∃ t : Nat, t ≤ QL.length ∧ i = .int .i64 (t : Int) ∧ Hid (∀ j, j < t → (QL.getD j ((0, 0, 0), [])).1 ≠ (v1, v2, v3)) ∧ Hid (Below w320x.heap.size w320x wr)) (fun i _ => QL.length - (intOf i).toNat)
                      case atStart => exact ⟨0, Nat.zero_le _, rfl, (fun j hj => absurd hj (Nat.not_lt_zero j)), Below.refl _ _⟩
                      case round =>
                        obtain ⟨t, ht, rfl, hNo, hB⟩ := hrel
                        by_cases hlt : t < QL.length
                        · have hi : (t : Int) < (QL.length : Int) := by omega
                          obtain ⟨b4, o4, e4, x1, x2, x3⟩ := HQ.out t hlt
                          subst e4
                          have x1 := cell_below x1 (bt HBc.out hB.out)
                          have x2 := cell_below x2 (bt HBc.out hB.out)
                          have x3 := cell_below x3 (bt HBc.out hB.out)
                          have hVa := HV17.out.below (bt HBc.out hB.out)
                          have z1 := hVa.cell 1
                          have z2 := hVa.cell 2
                          have z3 := hVa.cell 3
                          unfold vdC at z1 z2 z3
                          simp only [List.getElem?_toArray, List.getElem?_cons_zero, List.getElem?_cons_succ] at z1 z2 z3
                          have WT := (show Hid (wrap64 ((t : Int) + 1) = ((t + 1 : Nat) : Int)) from by have := HQL.out; show _ = _; unfold wrap64; omega)
                          have HT := (show Hid (t < QL.length) from hlt)
                          obtain ⟨q, hq⟩ : ∃ q, (QL.getD t ((0, 0, 0), [])).1 = q := ⟨_, rfl⟩
                          rw [hq] at x1 x2 x3
                          have HQq := (show Hid ((QL.getD t ((0, 0, 0), [])).1 = q) from hq)
                          obtain ⟨q1, q2, q3⟩ := q
                          simp only at x1 x2 x3
                          clear hlt ht hq hVa
                          by_cases he : q1 = v1
                          · subst he
                            by_cases hc : q2 = v2
                            · subst hc
                              by_cases hz : q3 = v3
                              · subst hz
                                go_wp2_with (fail)
                                go_quiet (fail)
                                go_wp2_with (fail)
                                go_ret
                                exact ⟨rfl, bt (bt (bt HB5.out HB2.out) (bt HB17.out HBc.out)) (below_drewN hB.out _)⟩
                              · have HNE := (show Hid ((QL.getD t ((0, 0, 0), [])).1 ≠ (q1, q2, v3)) from fun e => hz (by have := HQq.out.symm.trans e; simpa using this))
                                have d3 : (q3 == v3) = false := by simp [hz]
                                clear hz
                                go_wp2_with (fail)
                                go_quiet (fail)
                                go_wp2_with (fail)
                                go_roundw
                                case rel => exact ⟨t + 1, HT.out, by first | rw [WT.out] | go_num, nx_no hNo.out HNE.out, below_drewN hB.out _⟩
                                case measure => first | (rw [WT.out]; exact meas_v17 HT.out) | exact meas_v17 HT.out
                            · have HNE := (show Hid ((QL.getD t ((0, 0, 0), [])).1 ≠ (q1, v2, v3)) from fun e => hc (by have := HQq.out.symm.trans e; simp at this; exact this.1))
                              have d2 : (q2 == v2) = false := by simp [hc]
                              clear hc
                              go_wp2_with (fail)
                              go_quiet (fail)
                              go_wp2_with (fail)
                              go_roundw
                              case rel => exact ⟨t + 1, HT.out, by first | rw [WT.out] | go_num, nx_no hNo.out HNE.out, below_drewN hB.out _⟩
                              case measure => first | (rw [WT.out]; exact meas_v17 HT.out) | exact meas_v17 HT.out
                          · have HNE := (show Hid ((QL.getD t ((0, 0, 0), [])).1 ≠ (v1, v2, v3)) from fun e => he (by have := HQq.out.symm.trans e; simp at this; exact this.1))
                            have d1 : (q1 == v1) = false := by simp [he]
                            clear he
                            go_wp2_with (fail)
                            go_quiet (fail)
                            go_wp2_with (fail)
                            go_roundw
                            case rel => exact ⟨t + 1, HT.out, by first | rw [WT.out] | go_num, nx_no hNo.out HNE.out, below_drewN hB.out _⟩
                            case measure => first | (rw [WT.out]; exact meas_v17 HT.out) | exact meas_v17 HT.out
                        · exfalso
                          obtain ⟨q, hq, e⟩ := HEX.out
                          obtain ⟨j, hj, e2⟩ := List.getElem_of_mem hq
                          exact hNo.out j (by omega) (by rw [List.getD_eq_getElem?_getD, List.getElem?_eq_getElem hj, Option.getD_some, e2]; exact e)
            · subst hkv
              obtain ⟨hqb, hkw⟩ := MC.out rfl
              subst hqb
              clear MA MB MC MD ME SF SP
              by_cases hh : (h0 : Int) ≤ m
              · rw [if_pos hh] at hkw
                subst hkw
                as_aux_lemma =>
                  have HBc := (show Hid True from trivial)
                  clear HBc
                  go_wp2_with (first
                    | (go_at_call 11; refine (PO.out _ HB16.out).mono ?_; rintro e w17 ⟨v17, rfl, hR17, hb17⟩; obtain ⟨p17, c17, e17, hQ17⟩ := rgl_cells hR17; subst e17; have HQ := (show Hid _ from hQ17); have HB17 := (show Hid (Below W2.heap.size W2 w17) from bt HB16.out hb17); have HV17 := (show Hid (GB w17 w11.heap.size 42 (vdC 2 (v1, v2, v3) (.slice q11 Lv c11))) from HVa.out.below hb17); have hVa := HV17.out; have hVb := HV16.out.below hb17; have ca0 := hVa.cell 0; have ca1 := hVa.cell 1; have ca2 := hVa.cell 2; have ca3 := hVa.cell 3; have ca4 := hVa.cell 4; unfold vdC at ca0 ca1 ca2 ca3 ca4; simp only [List.getElem?_toArray, List.getElem?_cons_zero, List.getElem?_cons_succ] at ca0 ca1 ca2 ca3 ca4; have cb0 := hVb.cell 0; have cb1 := hVb.cell 1; have cb2 := hVb.cell 2; have cb3 := hVb.cell 3; have cb4 := hVb.cell 4; unfold vdC at cb0 cb1 cb2 cb3 cb4; simp only [List.getElem?_toArray, List.getElem?_cons_zero, List.getElem?_cons_succ] at cb0 cb1 cb2 cb3 cb4; obtain ⟨s0, s1⟩ := gb_sh (hGS16.below hb17); clear hVa hVb hR17 hQ17 hGS16 hb17)
                    | (refine wpList_ldB rfl _ rfl w.heap.size rfl hGS16 Try.underlying23 (size_Sp' _ _ _) ?_)
                    | (refine wpList_stB (cs := vdC 2 (y1, y2, y3) (.slice q14 Lw c14)) rfl _ _ rfl rfl w14.heap.size rfl rfl hG15 (size_Vd' _ _ _) (vdC_same _ _ _ _ _ _) (vdC_one _ _ _ rfl) ?_; intro w16 hV16 hg16 hs16; have HP16 := (show Hid (Below w14.heap.size w14 w16) from grown_below hb15 hg16 hb15.size (Nat.le_refl _)); have HB16 := (show Hid (Below W2.heap.size W2 w16) from bt HB13.out (bt hb14 HP16.out)); have hGS16 := (hGS13.below hb14).below HP16.out; have HV16 := (show Hid (GB w16 w14.heap.size 42 (vdC 2 (y1, y2, y3) (.slice q14 Lw c14))) from hV16); have HVa := (show Hid _ from (HV13.out.below hb14).below HP16.out); clear hV16 hg16 hs16 hG15 hb15 hb14 hGS13)
                    | (refine wpList_alB rfl rfl vd0 ?_; intro w15 hG15 hb15 hs15; have hu := hb14; clear hu hs15)
                    | (go_at_call 10; refine Calls.mono (JP.out _ HB13.out) ?_; rintro e w14 ⟨q14, c14, rfl, hb14⟩)
                    | (refine wpList_ldB rfl _ rfl w.heap.size rfl hGS13 Try.underlying23 (size_Sp' _ _ _) ?_)
                    | (refine wpList_stB (cs := vdC 2 (v1, v2, v3) (.slice q11 Lv c11)) rfl _ _ rfl rfl w11.heap.size rfl rfl hG12 (size_Vd' _ _ _) (vdC_same _ _ _ _ _ _) (vdC_one _ _ _ rfl) ?_; intro w13 hV13 hg13 hs13; have HP13 := (show Hid (Below w11.heap.size w11 w13) from grown_below hb12 hg13 hb12.size (Nat.le_refl _)); have HB13 := (show Hid (Below W2.heap.size W2 w13) from bt HB0.out (bt hb11 HP13.out)); have hGS13 := (hGS0.below hb11).below HP13.out; have HV13 := (show Hid (GB w13 w11.heap.size 42 (vdC 2 (v1, v2, v3) (.slice q11 Lv c11))) from hV13); clear hV13 hg13 hs13 hG12 hb12 hb11 hGS0)
                    | (refine wpList_alB rfl rfl vd0 ?_; intro w12 hG12 hb12 hs12; have hu := hb11; clear hu hs12)
                    | (go_at_call 10; refine Calls.mono (JF.out _ HB0.out) ?_; rintro e w11 ⟨q11, c11, rfl, hb11⟩)
                    | (refine wpList_ldB rfl _ rfl w.heap.size rfl hGS0 Try.underlying23 (size_Sp' _ _ _) ?_))
                  have HBc := (show Hid (Below w17.heap.size w17 w17) from Below.refl _ _)
                  obtain ⟨wd76, hwd⟩ : ∃ wq, wq = w17.drew := ⟨_, rfl⟩
                  have bd : Below w17.heap.size w17 wd76 := by rw [hwd]; exact (Below.refl _ _).drew
                  replace HBc := (show Hid (Below w17.heap.size w17 wd76) from bt HBc.out bd)
                  refine wp_region_held_drew (S := fun X => X.cell? ⟨w11.heap.size, 0, none⟩ = some (.int .i64 2) ∧ X.cell? ⟨w11.heap.size, 1, none⟩ = some (.int .i64 v1) ∧ X.cell? ⟨w11.heap.size, 2, none⟩ = some (.int .i64 v2) ∧ X.cell? ⟨w11.heap.size, 3, none⟩ = some (.int .i64 v3) ∧ X.cell? ⟨w14.heap.size, 0, none⟩ = some (.int .i64 2) ∧ X.cell? ⟨w14.heap.size, 1, none⟩ = some (.int .i64 y1) ∧ X.cell? ⟨w14.heap.size, 2, none⟩ = some (.int .i64 y2) ∧ X.cell? ⟨w14.heap.size, 3, none⟩ = some (.int .i64 y3) ∧ X.cell? ⟨w14.heap.size, 4, none⟩ = some (.slice q14 Lw c14) ∧ X.cell? ⟨w.heap.size, 0, none⟩ = some (.int .i64 k) ∧ X.cell? ⟨w.heap.size, 1, none⟩ = some (.int .i64 m)) (by kernel_rfl) (by rw [← hwd]; exact ⟨cell_below ca0 bd, cell_below ca1 bd, cell_below ca2 bd, cell_below ca3 bd, cell_below cb0 bd, cell_below cb1 bd, cell_below cb2 bd, cell_below cb3 bd, cell_below cb4 bd, cell_below s0 bd, cell_below s1 bd⟩) (fun hHeld => ?_)
                  rw [← hwd] at hHeld ⊢
                  clear ca0 ca1 ca2 ca3 cb0 cb1 cb2 cb3 cb4 s0 s1 bd hwd
                  refine takeHr (i := 0) (d := some 124) (v := ?v77) rfl rfl (by kernel_rfl) (by kernel_rfl) (by kernel_rfl) (fun _ _ _ h => h) (Or.inl ⟨by rfl, ?hy77⟩) hHeld ?rest77
                  case hy77 => intro X hSw; obtain ⟨g0, g1, g2, g3, g4, g5, g6, g7, g8, g9, g10⟩ := hSw; go_simp <;> first | with_reducible rfl | exact wkw
                  try simp only [Act.put, List.setIfInBounds_toArray, List.set_cons_zero, List.set_cons_succ]
                  refine takeHr (i := 1) (d := some 125) (v := ?v78) rfl rfl (by kernel_rfl) (by kernel_rfl) (by kernel_rfl) (fun _ _ _ h => h) (Or.inl ⟨by rfl, ?hy78⟩) hHeld ?rest78
                  case hy78 => intro X hSw; obtain ⟨g0, g1, g2, g3, g4, g5, g6, g7, g8, g9, g10⟩ := hSw; go_simp <;> first | with_reducible rfl | exact wkw
                  try simp only [Act.put, List.setIfInBounds_toArray, List.set_cons_zero, List.set_cons_succ]
                  refine takeHr (i := 2) (d := some 126) (v := .bool false) rfl rfl (by kernel_rfl) (by kernel_rfl) (by kernel_rfl) (fun _ _ _ h => h) (Or.inl ⟨by rfl, ?hy79⟩) hHeld ?rest79
                  case hy79 => intro X hSw; obtain ⟨g0, g1, g2, g3, g4, g5, g6, g7, g8, g9, g10⟩ := hSw; go_simp <;> first | with_reducible rfl | exact wkw
                  try simp only [Act.put, List.setIfInBounds_toArray, List.set_cons_zero, List.set_cons_succ]
                  refine takeHr (i := 3) (d := some 127) (v := .bool false) rfl rfl (by kernel_rfl) (by kernel_rfl) (by kernel_rfl) (fun _ _ _ h => h) (Or.inl ⟨by rfl, ?hy80⟩) hHeld ?rest80
                  case hy80 => intro X hSw; obtain ⟨g0, g1, g2, g3, g4, g5, g6, g7, g8, g9, g10⟩ := hSw; go_simp <;> first | with_reducible rfl | exact wkw
                  try simp only [Act.put, List.setIfInBounds_toArray, List.set_cons_zero, List.set_cons_succ]
                  refine takeHr (i := 4) (d := some 128) (v := undef) rfl rfl (by kernel_rfl) (by kernel_rfl) (by kernel_rfl) (fun _ _ _ h => h) (Or.inr ⟨by rfl, rfl⟩) hHeld ?_
                  try simp only [Act.put, List.setIfInBounds_toArray, List.set_cons_zero, List.set_cons_succ]
                  refine takeHr (i := 5) (d := some 129) (v := undef) rfl rfl (by kernel_rfl) (by kernel_rfl) (by kernel_rfl) (fun _ _ _ h => h) (Or.inr ⟨by rfl, rfl⟩) hHeld ?_
                  try simp only [Act.put, List.setIfInBounds_toArray, List.set_cons_zero, List.set_cons_succ]
                  refine takeHr (i := 6) (d := some 130) (v := undef) rfl rfl (by kernel_rfl) (by kernel_rfl) (by kernel_rfl) (fun _ _ _ h => h) (Or.inr ⟨by rfl, rfl⟩) hHeld ?_
                  try simp only [Act.put, List.setIfInBounds_toArray, List.set_cons_zero, List.set_cons_succ]
                  refine takeHr (i := 7) (d := some 131) (v := undef) rfl rfl (by kernel_rfl) (by kernel_rfl) (by kernel_rfl) (fun _ _ _ h => h) (Or.inr ⟨by rfl, rfl⟩) hHeld ?_
                  try simp only [Act.put, List.setIfInBounds_toArray, List.set_cons_zero, List.set_cons_succ]
                  refine takeHr (i := 8) (d := some 132) (v := undef) rfl rfl (by kernel_rfl) (by kernel_rfl) (by kernel_rfl) (fun _ _ _ h => h) (Or.inr ⟨by rfl, rfl⟩) hHeld ?_
                  try simp only [Act.put, List.setIfInBounds_toArray, List.set_cons_zero, List.set_cons_succ]
                  refine takeHr (i := 9) (d := some 133) (v := undef) rfl rfl (by kernel_rfl) (by kernel_rfl) (by kernel_rfl) (fun _ _ _ h => h) (Or.inr ⟨by rfl, rfl⟩) hHeld ?_
                  try simp only [Act.put, List.setIfInBounds_toArray, List.set_cons_zero, List.set_cons_succ]
                  refine takeHr (i := 10) (d := some 134) (v := undef) rfl rfl (by kernel_rfl) (by kernel_rfl) (by kernel_rfl) (fun _ _ _ h => h) (Or.inr ⟨by rfl, rfl⟩) hHeld ?_
                  try simp only [Act.put, List.setIfInBounds_toArray, List.set_cons_zero, List.set_cons_succ]
                  refine takeHr (i := 11) (d := some 135) (v := undef) rfl rfl (by kernel_rfl) (by kernel_rfl) (by kernel_rfl) (fun _ _ _ h => h) (Or.inr ⟨by rfl, rfl⟩) hHeld ?_
                  try simp only [Act.put, List.setIfInBounds_toArray, List.set_cons_zero, List.set_cons_succ]
                  refine takeHr (i := 12) (d := some 136) (v := undef) rfl rfl (by kernel_rfl) (by kernel_rfl) (by kernel_rfl) (fun _ _ _ h => h) (Or.inr ⟨by rfl, rfl⟩) hHeld ?_
                  try simp only [Act.put, List.setIfInBounds_toArray, List.set_cons_zero, List.set_cons_succ]
                  refine takeHr (i := 13) (d := some 137) (v := undef) rfl rfl (by kernel_rfl) (by kernel_rfl) (by kernel_rfl) (fun _ _ _ h => h) (Or.inr ⟨by rfl, rfl⟩) hHeld ?_
                  try simp only [Act.put, List.setIfInBounds_toArray, List.set_cons_zero, List.set_cons_succ]
                  refine takeHr (i := 14) (d := some 138) (v := undef) rfl rfl (by kernel_rfl) (by kernel_rfl) (by kernel_rfl) (fun _ _ _ h => h) (Or.inr ⟨by rfl, rfl⟩) hHeld ?_
                  try simp only [Act.put, List.setIfInBounds_toArray, List.set_cons_zero, List.set_cons_succ]
                  refine takeHr (i := 15) (d := some 139) (v := undef) rfl rfl (by kernel_rfl) (by kernel_rfl) (by kernel_rfl) (fun _ _ _ h => h) (Or.inr ⟨by rfl, rfl⟩) hHeld ?_
                  try simp only [Act.put, List.setIfInBounds_toArray, List.set_cons_zero, List.set_cons_succ]
                  refine takeHr (i := 16) (d := some 140) (v := undef) rfl rfl (by kernel_rfl) (by kernel_rfl) (by kernel_rfl) (fun _ _ _ h => h) (Or.inr ⟨by rfl, rfl⟩) hHeld ?_
                  try simp only [Act.put, List.setIfInBounds_toArray, List.set_cons_zero, List.set_cons_succ]
                  refine takeHr (i := 17) (d := some 141) (v := undef) rfl rfl (by kernel_rfl) (by kernel_rfl) (by kernel_rfl) (fun _ _ _ h => h) (Or.inr ⟨by rfl, rfl⟩) hHeld ?_
                  try simp only [Act.put, List.setIfInBounds_toArray, List.set_cons_zero, List.set_cons_succ]
                  refine takeHr (i := 18) (d := some 142) (v := undef) rfl rfl (by kernel_rfl) (by kernel_rfl) (by kernel_rfl) (fun _ _ _ h => h) (Or.inr ⟨by rfl, rfl⟩) hHeld ?_
                  try simp only [Act.put, List.setIfInBounds_toArray, List.set_cons_zero, List.set_cons_succ]
                  refine takeHr (i := 19) (d := some 143) (v := undef) rfl rfl (by kernel_rfl) (by kernel_rfl) (by kernel_rfl) (fun _ _ _ h => h) (Or.inr ⟨by rfl, rfl⟩) hHeld ?_
                  try simp only [Act.put, List.setIfInBounds_toArray, List.set_cons_zero, List.set_cons_succ]
                  refine takeHr (i := 20) (d := some 144) (v := undef) rfl rfl (by kernel_rfl) (by kernel_rfl) (by kernel_rfl) (fun _ _ _ h => h) (Or.inr ⟨by rfl, rfl⟩) hHeld ?_
                  try simp only [Act.put, List.setIfInBounds_toArray, List.set_cons_zero, List.set_cons_succ]
                  refine takeHr (i := 21) (d := some 145) (v := undef) rfl rfl (by kernel_rfl) (by kernel_rfl) (by kernel_rfl) (fun _ _ _ h => h) (Or.inr ⟨by rfl, rfl⟩) hHeld ?_
                  try simp only [Act.put, List.setIfInBounds_toArray, List.set_cons_zero, List.set_cons_succ]
                  refine takeHr (i := 22) (d := some 146) (v := undef) rfl rfl (by kernel_rfl) (by kernel_rfl) (by kernel_rfl) (fun _ _ _ h => h) (Or.inr ⟨by rfl, rfl⟩) hHeld ?_
                  try simp only [Act.put, List.setIfInBounds_toArray, List.set_cons_zero, List.set_cons_succ]
                  refine takeHr (i := 23) (d := some 147) (v := undef) rfl rfl (by kernel_rfl) (by kernel_rfl) (by kernel_rfl) (fun _ _ _ h => h) (Or.inr ⟨by rfl, rfl⟩) hHeld ?_
                  try simp only [Act.put, List.setIfInBounds_toArray, List.set_cons_zero, List.set_cons_succ]
                  refine takeHr (i := 24) (d := some 148) (v := undef) rfl rfl (by kernel_rfl) (by kernel_rfl) (by kernel_rfl) (fun _ _ _ h => h) (Or.inr ⟨by rfl, rfl⟩) hHeld ?_
                  try simp only [Act.put, List.setIfInBounds_toArray, List.set_cons_zero, List.set_cons_succ]
                  refine takeHr (i := 25) (d := some 149) (v := undef) rfl rfl (by kernel_rfl) (by kernel_rfl) (by kernel_rfl) (fun _ _ _ h => h) (Or.inr ⟨by rfl, rfl⟩) hHeld ?_
                  try simp only [Act.put, List.setIfInBounds_toArray, List.set_cons_zero, List.set_cons_succ]
                  refine takeHr (i := 26) (d := some 150) (v := undef) rfl rfl (by kernel_rfl) (by kernel_rfl) (by kernel_rfl) (fun _ _ _ h => h) (Or.inr ⟨by rfl, rfl⟩) hHeld ?_
                  try simp only [Act.put, List.setIfInBounds_toArray, List.set_cons_zero, List.set_cons_succ]
                  refine takeHr (i := 27) (d := some 151) (v := undef) rfl rfl (by kernel_rfl) (by kernel_rfl) (by kernel_rfl) (fun _ _ _ h => h) (Or.inr ⟨by rfl, rfl⟩) hHeld ?_
                  try simp only [Act.put, List.setIfInBounds_toArray, List.set_cons_zero, List.set_cons_succ]
                  refine takeHr (i := 28) (d := some 152) (v := undef) rfl rfl (by kernel_rfl) (by kernel_rfl) (by kernel_rfl) (fun _ _ _ h => h) (Or.inr ⟨by rfl, rfl⟩) hHeld ?_
                  try simp only [Act.put, List.setIfInBounds_toArray, List.set_cons_zero, List.set_cons_succ]
                  refine takeHr (i := 29) (d := some 153) (v := undef) rfl rfl (by kernel_rfl) (by kernel_rfl) (by kernel_rfl) (fun _ _ _ h => h) (Or.inr ⟨by rfl, rfl⟩) hHeld ?_
                  try simp only [Act.put, List.setIfInBounds_toArray, List.set_cons_zero, List.set_cons_succ]
                  refine takeHr (i := 30) (d := some 154) (v := undef) rfl rfl (by kernel_rfl) (by kernel_rfl) (by kernel_rfl) (fun _ _ _ h => h) (Or.inr ⟨by rfl, rfl⟩) hHeld ?_
                  try simp only [Act.put, List.setIfInBounds_toArray, List.set_cons_zero, List.set_cons_succ]
                  refine takeHr (i := 31) (d := some 155) (v := undef) rfl rfl (by kernel_rfl) (by kernel_rfl) (by kernel_rfl) (fun _ _ _ h => h) (Or.inr ⟨by rfl, rfl⟩) hHeld ?_
                  try simp only [Act.put, List.setIfInBounds_toArray, List.set_cons_zero, List.set_cons_succ]
                  refine takeHr (i := 32) (d := some 156) (v := undef) rfl rfl (by kernel_rfl) (by kernel_rfl) (by kernel_rfl) (fun _ _ _ h => h) (Or.inr ⟨by rfl, rfl⟩) hHeld ?_
                  try simp only [Act.put, List.setIfInBounds_toArray, List.set_cons_zero, List.set_cons_succ]
                  refine takeHr (i := 33) (d := some 157) (v := undef) rfl rfl (by kernel_rfl) (by kernel_rfl) (by kernel_rfl) (fun _ _ _ h => h) (Or.inr ⟨by rfl, rfl⟩) hHeld ?_
                  try simp only [Act.put, List.setIfInBounds_toArray, List.set_cons_zero, List.set_cons_succ]
                  refine takeHr (i := 34) (d := some 158) (v := undef) rfl rfl (by kernel_rfl) (by kernel_rfl) (by kernel_rfl) (fun _ _ _ h => h) (Or.inr ⟨by rfl, rfl⟩) hHeld ?_
                  try simp only [Act.put, List.setIfInBounds_toArray, List.set_cons_zero, List.set_cons_succ]
                  refine takeHr (i := 35) (d := some 159) (v := undef) rfl rfl (by kernel_rfl) (by kernel_rfl) (by kernel_rfl) (fun _ _ _ h => h) (Or.inr ⟨by rfl, rfl⟩) hHeld ?_
                  try simp only [Act.put, List.setIfInBounds_toArray, List.set_cons_zero, List.set_cons_succ]
                  refine takeHr (i := 36) (d := some 160) (v := undef) rfl rfl (by kernel_rfl) (by kernel_rfl) (by kernel_rfl) (fun _ _ _ h => h) (Or.inr ⟨by rfl, rfl⟩) hHeld ?_
                  try simp only [Act.put, List.setIfInBounds_toArray, List.set_cons_zero, List.set_cons_succ]
                  refine takeHr (i := 37) (d := some 161) (v := undef) rfl rfl (by kernel_rfl) (by kernel_rfl) (by kernel_rfl) (fun _ _ _ h => h) (Or.inr ⟨by rfl, rfl⟩) hHeld ?_
                  try simp only [Act.put, List.setIfInBounds_toArray, List.set_cons_zero, List.set_cons_succ]
                  refine takeHr (i := 38) (d := some 162) (v := undef) rfl rfl (by kernel_rfl) (by kernel_rfl) (by kernel_rfl) (fun _ _ _ h => h) (Or.inr ⟨by rfl, rfl⟩) hHeld ?_
                  try simp only [Act.put, List.setIfInBounds_toArray, List.set_cons_zero, List.set_cons_succ]
                  refine takeHr (i := 39) (d := some 163) (v := undef) rfl rfl (by kernel_rfl) (by kernel_rfl) (by kernel_rfl) (fun _ _ _ h => h) (Or.inr ⟨by rfl, rfl⟩) hHeld ?_
                  try simp only [Act.put, List.setIfInBounds_toArray, List.set_cons_zero, List.set_cons_succ]
                  refine takeHr (i := 40) (d := some 164) (v := undef) rfl rfl (by kernel_rfl) (by kernel_rfl) (by kernel_rfl) (fun _ _ _ h => h) (Or.inr ⟨by rfl, rfl⟩) hHeld ?_
                  try simp only [Act.put, List.setIfInBounds_toArray, List.set_cons_zero, List.set_cons_succ]
                  refine takeHr (i := 41) (d := some 165) (v := .bool false) rfl rfl (by kernel_rfl) (by kernel_rfl) (by kernel_rfl) (fun _ _ _ h => h) (Or.inl ⟨by rfl, ?hy118⟩) hHeld ?rest118
                  case hy118 => intro X hSw; obtain ⟨g0, g1, g2, g3, g4, g5, g6, g7, g8, g9, g10⟩ := hSw; go_simp <;> first | with_reducible rfl | exact wkw
                  try simp only [Act.put, List.setIfInBounds_toArray, List.set_cons_zero, List.set_cons_succ]
                  refine wpAnyH_done (by kernel_rfl) ?_ _
                  have ca0 := hHeld.1
                  have ca1 := hHeld.2.1
                  have ca2 := hHeld.2.2.1
                  have ca3 := hHeld.2.2.2.1
                  have cb0 := hHeld.2.2.2.2.1
                  have cb1 := hHeld.2.2.2.2.2.1
                  have cb2 := hHeld.2.2.2.2.2.2.1
                  have cb3 := hHeld.2.2.2.2.2.2.2.1
                  have cb4 := hHeld.2.2.2.2.2.2.2.2.1
                  have s0 := hHeld.2.2.2.2.2.2.2.2.2.1
                  have s1 := hHeld.2.2.2.2.2.2.2.2.2.2
                  clear hHeld
                  go_wp2_with (fail)
                  go_ret
                  exact ⟨rfl, bt (bt HB5.out HB2.out) (bt HB17.out HBc.out)⟩
              · rw [if_neg hh] at hkw
                subst hkw
                as_aux_lemma =>
                  have HBc := (show Hid True from trivial)
                  clear HBc
                  go_wp2_with (first
                    | (go_at_call 11; refine (PO.out _ HB16.out).mono ?_; rintro e w17 ⟨v17, rfl, hR17, hb17⟩; obtain ⟨p17, c17, e17, hQ17⟩ := rgl_cells hR17; subst e17; have HQ := (show Hid _ from hQ17); have HB17 := (show Hid (Below W2.heap.size W2 w17) from bt HB16.out hb17); have HV17 := (show Hid (GB w17 w11.heap.size 42 (vdC 2 (v1, v2, v3) (.slice q11 Lv c11))) from HVa.out.below hb17); have hVa := HV17.out; have hVb := HV16.out.below hb17; have ca0 := hVa.cell 0; have ca1 := hVa.cell 1; have ca2 := hVa.cell 2; have ca3 := hVa.cell 3; have ca4 := hVa.cell 4; unfold vdC at ca0 ca1 ca2 ca3 ca4; simp only [List.getElem?_toArray, List.getElem?_cons_zero, List.getElem?_cons_succ] at ca0 ca1 ca2 ca3 ca4; have cb0 := hVb.cell 0; have cb1 := hVb.cell 1; have cb2 := hVb.cell 2; have cb3 := hVb.cell 3; have cb4 := hVb.cell 4; unfold vdC at cb0 cb1 cb2 cb3 cb4; simp only [List.getElem?_toArray, List.getElem?_cons_zero, List.getElem?_cons_succ] at cb0 cb1 cb2 cb3 cb4; obtain ⟨s0, s1⟩ := gb_sh (hGS16.below hb17); clear hVa hVb hR17 hQ17 hGS16 hb17)
                    | (refine wpList_ldB rfl _ rfl w.heap.size rfl hGS16 Try.underlying23 (size_Sp' _ _ _) ?_)
                    | (refine wpList_stB (cs := vdC 3 (y1, y2, y3) (.slice q14 Lw c14)) rfl _ _ rfl rfl w14.heap.size rfl rfl hG15 (size_Vd' _ _ _) (vdC_same _ _ _ _ _ _) (vdC_one _ _ _ rfl) ?_; intro w16 hV16 hg16 hs16; have HP16 := (show Hid (Below w14.heap.size w14 w16) from grown_below hb15 hg16 hb15.size (Nat.le_refl _)); have HB16 := (show Hid (Below W2.heap.size W2 w16) from bt HB13.out (bt hb14 HP16.out)); have hGS16 := (hGS13.below hb14).below HP16.out; have HV16 := (show Hid (GB w16 w14.heap.size 42 (vdC 3 (y1, y2, y3) (.slice q14 Lw c14))) from hV16); have HVa := (show Hid _ from (HV13.out.below hb14).below HP16.out); clear hV16 hg16 hs16 hG15 hb15 hb14 hGS13)
                    | (refine wpList_alB rfl rfl vd0 ?_; intro w15 hG15 hb15 hs15; have hu := hb14; clear hu hs15)
                    | (go_at_call 10; refine Calls.mono (JP.out _ HB13.out) ?_; rintro e w14 ⟨q14, c14, rfl, hb14⟩)
                    | (refine wpList_ldB rfl _ rfl w.heap.size rfl hGS13 Try.underlying23 (size_Sp' _ _ _) ?_)
                    | (refine wpList_stB (cs := vdC 2 (v1, v2, v3) (.slice q11 Lv c11)) rfl _ _ rfl rfl w11.heap.size rfl rfl hG12 (size_Vd' _ _ _) (vdC_same _ _ _ _ _ _) (vdC_one _ _ _ rfl) ?_; intro w13 hV13 hg13 hs13; have HP13 := (show Hid (Below w11.heap.size w11 w13) from grown_below hb12 hg13 hb12.size (Nat.le_refl _)); have HB13 := (show Hid (Below W2.heap.size W2 w13) from bt HB0.out (bt hb11 HP13.out)); have hGS13 := (hGS0.below hb11).below HP13.out; have HV13 := (show Hid (GB w13 w11.heap.size 42 (vdC 2 (v1, v2, v3) (.slice q11 Lv c11))) from hV13); clear hV13 hg13 hs13 hG12 hb12 hb11 hGS0)
                    | (refine wpList_alB rfl rfl vd0 ?_; intro w12 hG12 hb12 hs12; have hu := hb11; clear hu hs12)
                    | (go_at_call 10; refine Calls.mono (JF.out _ HB0.out) ?_; rintro e w11 ⟨q11, c11, rfl, hb11⟩)
                    | (refine wpList_ldB rfl _ rfl w.heap.size rfl hGS0 Try.underlying23 (size_Sp' _ _ _) ?_))
                  have HBc := (show Hid (Below w17.heap.size w17 w17) from Below.refl _ _)
                  obtain ⟨wd119, hwd⟩ : ∃ wq, wq = w17.drew := ⟨_, rfl⟩
                  have bd : Below w17.heap.size w17 wd119 := by rw [hwd]; exact (Below.refl _ _).drew
                  replace HBc := (show Hid (Below w17.heap.size w17 wd119) from bt HBc.out bd)
                  refine wp_region_held_drew (S := fun X => X.cell? ⟨w11.heap.size, 0, none⟩ = some (.int .i64 2) ∧ X.cell? ⟨w11.heap.size, 1, none⟩ = some (.int .i64 v1) ∧ X.cell? ⟨w11.heap.size, 2, none⟩ = some (.int .i64 v2) ∧ X.cell? ⟨w11.heap.size, 3, none⟩ = some (.int .i64 v3) ∧ X.cell? ⟨w14.heap.size, 0, none⟩ = some (.int .i64 3) ∧ X.cell? ⟨w14.heap.size, 1, none⟩ = some (.int .i64 y1) ∧ X.cell? ⟨w14.heap.size, 2, none⟩ = some (.int .i64 y2) ∧ X.cell? ⟨w14.heap.size, 3, none⟩ = some (.int .i64 y3) ∧ X.cell? ⟨w14.heap.size, 4, none⟩ = some (.slice q14 Lw c14) ∧ X.cell? ⟨w.heap.size, 0, none⟩ = some (.int .i64 k) ∧ X.cell? ⟨w.heap.size, 1, none⟩ = some (.int .i64 m)) (by kernel_rfl) (by rw [← hwd]; exact ⟨cell_below ca0 bd, cell_below ca1 bd, cell_below ca2 bd, cell_below ca3 bd, cell_below cb0 bd, cell_below cb1 bd, cell_below cb2 bd, cell_below cb3 bd, cell_below cb4 bd, cell_below s0 bd, cell_below s1 bd⟩) (fun hHeld => ?_)
                  rw [← hwd] at hHeld ⊢
                  clear ca0 ca1 ca2 ca3 cb0 cb1 cb2 cb3 cb4 s0 s1 bd hwd
                  refine takeHr (i := 0) (d := some 124) (v := ?v120) rfl rfl (by kernel_rfl) (by kernel_rfl) (by kernel_rfl) (fun _ _ _ h => h) (Or.inl ⟨by rfl, ?hy120⟩) hHeld ?rest120
                  case hy120 => intro X hSw; obtain ⟨g0, g1, g2, g3, g4, g5, g6, g7, g8, g9, g10⟩ := hSw; go_simp <;> first | with_reducible rfl | exact wkw
                  try simp only [Act.put, List.setIfInBounds_toArray, List.set_cons_zero, List.set_cons_succ]
                  refine takeHr (i := 1) (d := some 125) (v := ?v121) rfl rfl (by kernel_rfl) (by kernel_rfl) (by kernel_rfl) (fun _ _ _ h => h) (Or.inl ⟨by rfl, ?hy121⟩) hHeld ?rest121
                  case hy121 => intro X hSw; obtain ⟨g0, g1, g2, g3, g4, g5, g6, g7, g8, g9, g10⟩ := hSw; go_simp <;> first | with_reducible rfl | exact wkw
                  try simp only [Act.put, List.setIfInBounds_toArray, List.set_cons_zero, List.set_cons_succ]
                  refine takeHr (i := 2) (d := some 126) (v := .bool false) rfl rfl (by kernel_rfl) (by kernel_rfl) (by kernel_rfl) (fun _ _ _ h => h) (Or.inl ⟨by rfl, ?hy122⟩) hHeld ?rest122
                  case hy122 => intro X hSw; obtain ⟨g0, g1, g2, g3, g4, g5, g6, g7, g8, g9, g10⟩ := hSw; go_simp <;> first | with_reducible rfl | exact wkw
                  try simp only [Act.put, List.setIfInBounds_toArray, List.set_cons_zero, List.set_cons_succ]
                  refine takeHr (i := 3) (d := some 127) (v := .bool false) rfl rfl (by kernel_rfl) (by kernel_rfl) (by kernel_rfl) (fun _ _ _ h => h) (Or.inl ⟨by rfl, ?hy123⟩) hHeld ?rest123
                  case hy123 => intro X hSw; obtain ⟨g0, g1, g2, g3, g4, g5, g6, g7, g8, g9, g10⟩ := hSw; go_simp <;> first | with_reducible rfl | exact wkw
                  try simp only [Act.put, List.setIfInBounds_toArray, List.set_cons_zero, List.set_cons_succ]
                  refine takeHr (i := 4) (d := some 128) (v := undef) rfl rfl (by kernel_rfl) (by kernel_rfl) (by kernel_rfl) (fun _ _ _ h => h) (Or.inr ⟨by rfl, rfl⟩) hHeld ?_
                  try simp only [Act.put, List.setIfInBounds_toArray, List.set_cons_zero, List.set_cons_succ]
                  refine takeHr (i := 5) (d := some 129) (v := undef) rfl rfl (by kernel_rfl) (by kernel_rfl) (by kernel_rfl) (fun _ _ _ h => h) (Or.inr ⟨by rfl, rfl⟩) hHeld ?_
                  try simp only [Act.put, List.setIfInBounds_toArray, List.set_cons_zero, List.set_cons_succ]
                  refine takeHr (i := 6) (d := some 130) (v := undef) rfl rfl (by kernel_rfl) (by kernel_rfl) (by kernel_rfl) (fun _ _ _ h => h) (Or.inr ⟨by rfl, rfl⟩) hHeld ?_
                  try simp only [Act.put, List.setIfInBounds_toArray, List.set_cons_zero, List.set_cons_succ]
                  refine takeHr (i := 7) (d := some 131) (v := undef) rfl rfl (by kernel_rfl) (by kernel_rfl) (by kernel_rfl) (fun _ _ _ h => h) (Or.inr ⟨by rfl, rfl⟩) hHeld ?_
                  try simp only [Act.put, List.setIfInBounds_toArray, List.set_cons_zero, List.set_cons_succ]
                  refine takeHr (i := 8) (d := some 132) (v := undef) rfl rfl (by kernel_rfl) (by kernel_rfl) (by kernel_rfl) (fun _ _ _ h => h) (Or.inr ⟨by rfl, rfl⟩) hHeld ?_
                  try simp only [Act.put, List.setIfInBounds_toArray, List.set_cons_zero, List.set_cons_succ]
                  refine takeHr (i := 9) (d := some 133) (v := undef) rfl rfl (by kernel_rfl) (by kernel_rfl) (by kernel_rfl) (fun _ _ _ h => h) (Or.inr ⟨by rfl, rfl⟩) hHeld ?_
                  try simp only [Act.put, List.setIfInBounds_toArray, List.set_cons_zero, List.set_cons_succ]
                  refine takeHr (i := 10) (d := some 134) (v := undef) rfl rfl (by kernel_rfl) (by kernel_rfl) (by kernel_rfl) (fun _ _ _ h => h) (Or.inr ⟨by rfl, rfl⟩) hHeld ?_
                  try simp only [Act.put, List.setIfInBounds_toArray, List.set_cons_zero, List.set_cons_succ]
                  refine takeHr (i := 11) (d := some 135) (v := undef) rfl rfl (by kernel_rfl) (by kernel_rfl) (by kernel_rfl) (fun _ _ _ h => h) (Or.inr ⟨by rfl, rfl⟩) hHeld ?_
                  try simp only [Act.put, List.setIfInBounds_toArray, List.set_cons_zero, List.set_cons_succ]
                  refine takeHr (i := 12) (d := some 136) (v := undef) rfl rfl (by kernel_rfl) (by kernel_rfl) (by kernel_rfl) (fun _ _ _ h => h) (Or.inr ⟨by rfl, rfl⟩) hHeld ?_
                  try simp only [Act.put, List.setIfInBounds_toArray, List.set_cons_zero, List.set_cons_succ]
                  refine takeHr (i := 13) (d := some 137) (v := undef) rfl rfl (by kernel_rfl) (by kernel_rfl) (by kernel_rfl) (fun _ _ _ h => h) (Or.inr ⟨by rfl, rfl⟩) hHeld ?_
                  try simp only [Act.put, List.setIfInBounds_toArray, List.set_cons_zero, List.set_cons_succ]
                  refine takeHr (i := 14) (d := some 138) (v := undef) rfl rfl (by kernel_rfl) (by kernel_rfl) (by kernel_rfl) (fun _ _ _ h => h) (Or.inr ⟨by rfl, rfl⟩) hHeld ?_
                  try simp only [Act.put, List.setIfInBounds_toArray, List.set_cons_zero, List.set_cons_succ]
                  refine takeHr (i := 15) (d := some 139) (v := undef) rfl rfl (by kernel_rfl) (by kernel_rfl) (by kernel_rfl) (fun _ _ _ h => h) (Or.inr ⟨by rfl, rfl⟩) hHeld ?_
                  try simp only [Act.put, List.setIfInBounds_toArray, List.set_cons_zero, List.set_cons_succ]
                  refine takeHr (i := 16) (d := some 140) (v := undef) rfl rfl (by kernel_rfl) (by kernel_rfl) (by kernel_rfl) (fun _ _ _ h => h) (Or.inr ⟨by rfl, rfl⟩) hHeld ?_
                  try simp only [Act.put, List.setIfInBounds_toArray, List.set_cons_zero, List.set_cons_succ]
                  refine takeHr (i := 17) (d := some 141) (v := undef) rfl rfl (by kernel_rfl) (by kernel_rfl) (by kernel_rfl) (fun _ _ _ h => h) (Or.inr ⟨by rfl, rfl⟩) hHeld ?_
                  try simp only [Act.put, List.setIfInBounds_toArray, List.set_cons_zero, List.set_cons_succ]
                  refine takeHr (i := 18) (d := some 142) (v := undef) rfl rfl (by kernel_rfl) (by kernel_rfl) (by kernel_rfl) (fun _ _ _ h => h) (Or.inr ⟨by rfl, rfl⟩) hHeld ?_
                  try simp only [Act.put, List.setIfInBounds_toArray, List.set_cons_zero, List.set_cons_succ]
                  refine takeHr (i := 19) (d := some 143) (v := undef) rfl rfl (by kernel_rfl) (by kernel_rfl) (by kernel_rfl) (fun _ _ _ h => h) (Or.inr ⟨by rfl, rfl⟩) hHeld ?_
                  try simp only [Act.put, List.setIfInBounds_toArray, List.set_cons_zero, List.set_cons_succ]
                  refine takeHr (i := 20) (d := some 144) (v := undef) rfl rfl (by kernel_rfl) (by kernel_rfl) (by kernel_rfl) (fun _ _ _ h => h) (Or.inr ⟨by rfl, rfl⟩) hHeld ?_
                  try simp only [Act.put, List.setIfInBounds_toArray, List.set_cons_zero, List.set_cons_succ]
                  refine takeHr (i := 21) (d := some 145) (v := undef) rfl rfl (by kernel_rfl) (by kernel_rfl) (by kernel_rfl) (fun _ _ _ h => h) (Or.inr ⟨by rfl, rfl⟩) hHeld ?_
                  try simp only [Act.put, List.setIfInBounds_toArray, List.set_cons_zero, List.set_cons_succ]
                  refine takeHr (i := 22) (d := some 146) (v := undef) rfl rfl (by kernel_rfl) (by kernel_rfl) (by kernel_rfl) (fun _ _ _ h => h) (Or.inr ⟨by rfl, rfl⟩) hHeld ?_
                  try simp only [Act.put, List.setIfInBounds_toArray, List.set_cons_zero, List.set_cons_succ]
                  refine takeHr (i := 23) (d := some 147) (v := undef) rfl rfl (by kernel_rfl) (by kernel_rfl) (by kernel_rfl) (fun _ _ _ h => h) (Or.inr ⟨by rfl, rfl⟩) hHeld ?_
                  try simp only [Act.put, List.setIfInBounds_toArray, List.set_cons_zero, List.set_cons_succ]
                  refine takeHr (i := 24) (d := some 148) (v := undef) rfl rfl (by kernel_rfl) (by kernel_rfl) (by kernel_rfl) (fun _ _ _ h => h) (Or.inr ⟨by rfl, rfl⟩) hHeld ?_
                  try simp only [Act.put, List.setIfInBounds_toArray, List.set_cons_zero, List.set_cons_succ]
                  refine takeHr (i := 25) (d := some 149) (v := undef) rfl rfl (by kernel_rfl) (by kernel_rfl) (by kernel_rfl) (fun _ _ _ h => h) (Or.inr ⟨by rfl, rfl⟩) hHeld ?_
                  try simp only [Act.put, List.setIfInBounds_toArray, List.set_cons_zero, List.set_cons_succ]
                  refine takeHr (i := 26) (d := some 150) (v := undef) rfl rfl (by kernel_rfl) (by kernel_rfl) (by kernel_rfl) (fun _ _ _ h => h) (Or.inr ⟨by rfl, rfl⟩) hHeld ?_
                  try simp only [Act.put, List.setIfInBounds_toArray, List.set_cons_zero, List.set_cons_succ]
                  refine takeHr (i := 27) (d := some 151) (v := undef) rfl rfl (by kernel_rfl) (by kernel_rfl) (by kernel_rfl) (fun _ _ _ h => h) (Or.inr ⟨by rfl, rfl⟩) hHeld ?_
                  try simp only [Act.put, List.setIfInBounds_toArray, List.set_cons_zero, List.set_cons_succ]
                  refine takeHr (i := 28) (d := some 152) (v := undef) rfl rfl (by kernel_rfl) (by kernel_rfl) (by kernel_rfl) (fun _ _ _ h => h) (Or.inr ⟨by rfl, rfl⟩) hHeld ?_
                  try simp only [Act.put, List.setIfInBounds_toArray, List.set_cons_zero, List.set_cons_succ]
                  refine takeHr (i := 29) (d := some 153) (v := undef) rfl rfl (by kernel_rfl) (by kernel_rfl) (by kernel_rfl) (fun _ _ _ h => h) (Or.inr ⟨by rfl, rfl⟩) hHeld ?_
                  try simp only [Act.put, List.setIfInBounds_toArray, List.set_cons_zero, List.set_cons_succ]
                  refine takeHr (i := 30) (d := some 154) (v := undef) rfl rfl (by kernel_rfl) (by kernel_rfl) (by kernel_rfl) (fun _ _ _ h => h) (Or.inr ⟨by rfl, rfl⟩) hHeld ?_
                  try simp only [Act.put, List.setIfInBounds_toArray, List.set_cons_zero, List.set_cons_succ]
                  refine takeHr (i := 31) (d := some 155) (v := undef) rfl rfl (by kernel_rfl) (by kernel_rfl) (by kernel_rfl) (fun _ _ _ h => h) (Or.inr ⟨by rfl, rfl⟩) hHeld ?_
                  try simp only [Act.put, List.setIfInBounds_toArray, List.set_cons_zero, List.set_cons_succ]
                  refine takeHr (i := 32) (d := some 156) (v := undef) rfl rfl (by kernel_rfl) (by kernel_rfl) (by kernel_rfl) (fun _ _ _ h => h) (Or.inr ⟨by rfl, rfl⟩) hHeld ?_
                  try simp only [Act.put, List.setIfInBounds_toArray, List.set_cons_zero, List.set_cons_succ]
                  refine takeHr (i := 33) (d := some 157) (v := undef) rfl rfl (by kernel_rfl) (by kernel_rfl) (by kernel_rfl) (fun _ _ _ h => h) (Or.inr ⟨by rfl, rfl⟩) hHeld ?_
                  try simp only [Act.put, List.setIfInBounds_toArray, List.set_cons_zero, List.set_cons_succ]
                  refine takeHr (i := 34) (d := some 158) (v := undef) rfl rfl (by kernel_rfl) (by kernel_rfl) (by kernel_rfl) (fun _ _ _ h => h) (Or.inr ⟨by rfl, rfl⟩) hHeld ?_
                  try simp only [Act.put, List.setIfInBounds_toArray, List.set_cons_zero, List.set_cons_succ]
                  refine takeHr (i := 35) (d := some 159) (v := undef) rfl rfl (by kernel_rfl) (by kernel_rfl) (by kernel_rfl) (fun _ _ _ h => h) (Or.inr ⟨by rfl, rfl⟩) hHeld ?_
                  try simp only [Act.put, List.setIfInBounds_toArray, List.set_cons_zero, List.set_cons_succ]
                  refine takeHr (i := 36) (d := some 160) (v := undef) rfl rfl (by kernel_rfl) (by kernel_rfl) (by kernel_rfl) (fun _ _ _ h => h) (Or.inr ⟨by rfl, rfl⟩) hHeld ?_
                  try simp only [Act.put, List.setIfInBounds_toArray, List.set_cons_zero, List.set_cons_succ]
                  refine takeHr (i := 37) (d := some 161) (v := undef) rfl rfl (by kernel_rfl) (by kernel_rfl) (by kernel_rfl) (fun _ _ _ h => h) (Or.inr ⟨by rfl, rfl⟩) hHeld ?_
                  try simp only [Act.put, List.setIfInBounds_toArray, List.set_cons_zero, List.set_cons_succ]
                  refine takeHr (i := 38) (d := some 162) (v := undef) rfl rfl (by kernel_rfl) (by kernel_rfl) (by kernel_rfl) (fun _ _ _ h => h) (Or.inr ⟨by rfl, rfl⟩) hHeld ?_
                  try simp only [Act.put, List.setIfInBounds_toArray, List.set_cons_zero, List.set_cons_succ]
                  refine takeHr (i := 39) (d := some 163) (v := undef) rfl rfl (by kernel_rfl) (by kernel_rfl) (by kernel_rfl) (fun _ _ _ h => h) (Or.inr ⟨by rfl, rfl⟩) hHeld ?_
                  try simp only [Act.put, List.setIfInBounds_toArray, List.set_cons_zero, List.set_cons_succ]
                  refine takeHr (i := 40) (d := some 164) (v := undef) rfl rfl (by kernel_rfl) (by kernel_rfl) (by kernel_rfl) (fun _ _ _ h => h) (Or.inr ⟨by rfl, rfl⟩) hHeld ?_
                  try simp only [Act.put, List.setIfInBounds_toArray, List.set_cons_zero, List.set_cons_succ]
                  refine takeHr (i := 41) (d := some 165) (v := .bool false) rfl rfl (by kernel_rfl) (by kernel_rfl) (by kernel_rfl) (fun _ _ _ h => h) (Or.inl ⟨by rfl, ?hy161⟩) hHeld ?rest161
                  case hy161 => intro X hSw; obtain ⟨g0, g1, g2, g3, g4, g5, g6, g7, g8, g9, g10⟩ := hSw; go_simp <;> first | with_reducible rfl | exact wkw
                  try simp only [Act.put, List.setIfInBounds_toArray, List.set_cons_zero, List.set_cons_succ]
                  refine wpAnyH_done (by kernel_rfl) ?_ _
                  have ca0 := hHeld.1
                  have ca1 := hHeld.2.1
                  have ca2 := hHeld.2.2.1
                  have ca3 := hHeld.2.2.2.1
                  have cb0 := hHeld.2.2.2.2.1
                  have cb1 := hHeld.2.2.2.2.2.1
                  have cb2 := hHeld.2.2.2.2.2.2.1
                  have cb3 := hHeld.2.2.2.2.2.2.2.1
                  have cb4 := hHeld.2.2.2.2.2.2.2.2.1
                  have s0 := hHeld.2.2.2.2.2.2.2.2.2.1
                  have s1 := hHeld.2.2.2.2.2.2.2.2.2.2
                  clear hHeld
                  go_wp2_with (fail)
                  go_ret
                  exact ⟨rfl, bt (bt HB5.out HB2.out) (bt HB17.out HBc.out)⟩
end
end Go.Proofs.Ytefomnlgpldgnaa
