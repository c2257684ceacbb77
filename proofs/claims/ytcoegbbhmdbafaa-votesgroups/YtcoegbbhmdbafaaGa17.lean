/-
  VotesGroups.
-/
import Derived.Test.YtcoegbbhmdbafaaPo17
import Derived.Test.YtcoegbbhmdbafaaSg17
namespace Go.Proofs.Ytcoegbbhmdbafaa
open Go.RowKit
theorem pss_mem {K : Int} {h : Nat} {l : List Grp} {q : Grp} (hq : q ∈ (pss K h l).1) : q ∈ l := by
  unfold pss at hq
  split at hq
  · exact List.mem_of_mem_take (List.mem_filter.1 hq).1
  · exact (List.mem_filter.1 hq).1
theorem pss_len (K : Int) (h : Nat) (l : List Grp) : (pss K h l).1.length ≤ l.length := by
  unfold pss
  split
  · exact Nat.le_trans (List.length_filter_le _ _) (by rw [List.length_take]; omega)
  · exact List.length_filter_le _ _
theorem Bls.one {w : World} {n : Nat} {ss : Nat → Sn} {bl : Nat → List (List (BitVec 8))} (h : Bls w n ss bl) : ∀ i, i < n → (ss i).bv.oneCell' = true := fun i hi => by
  obtain ⟨p, c, e, _⟩ := h i hi
  rw [e]; rfl
section
attribute [local irreducible] Calls GB Rgl shC LSn pss grps fitB
set_option maxHeartbeats 16000000 in
set_option maxRecDepth 1000000 in
theorem votesGroups_walk (k m b : Int) (hm : In64 m) {w : World} {p : Option Addr} {n c : Nat} {ss : Nat → Sn} {bl : Nat → List (List (BitVec 8))} (HS : SnL w p n ss) (hn : n ≤ 1172812402926) (hB : Bls w n ss bl) (hI : ∀ i, i < n → InW (ss i).wg) :
    Calls Try.prog 3 #[.agg (shC k m b), .slice p n c] w fun e w' => e = .returned (.bool true) ∧ Below w.heap.size w w' := by
  have HL := (show Hid (SnL w p n ss) from HS)
  have HN := (show Hid (n ≤ 1172812402926) from hn)
  have HN' := (show Hid (n ≤ 1172812402943) from by show _ ≤ _; omega)
  have HBl := (show Hid (Bls w n ss bl) from hB)
  have HI := (show Hid (∀ i, i < n → InW (ss i).wg) from hI)
  obtain ⟨G, hG⟩ : ∃ G, grps (shs ss) n = G := ⟨_, rfl⟩
  obtain ⟨PL, hP⟩ : ∃ PL, (if fitB k m b n = true then (pss k (hid (shs ss) n) G).1 else []) = PL := ⟨_, rfl⟩
  obtain ⟨bb, hbb⟩ : ∃ bb, (if fitB k m b n = true then (pss k (hid (shs ss) n) G).2 else false) = bb := ⟨_, rfl⟩
  have hIG := isG_grps (shs ss) n
  rw [hG] at hIG
  have HG1 := (show Hid (G.length ≤ 17592186044416) from by have := hIG.lenG; show _ ≤ _; omega)
  have HG2 := (show Hid (∀ q ∈ G, q.2.length ≤ 17592186044416) from fun q hq => by have := hIG.len q hq; omega)
  have HP1 := (show Hid (PL.length ≤ 17592186044416) from by
    show _ ≤ _
    rw [← hP]
    split
    · have := pss_len k (hid (shs ss) n) G; have := HG1.out; omega
    · exact Nat.zero_le _)
  have HP2 := (show Hid (∀ q ∈ PL, q.2.length ≤ 17592186044416) from fun q hq => by
    rw [← hP] at hq
    split at hq
    · exact HG2.out q (pss_mem hq)
    · exact absurd hq List.not_mem_nil)
  have RG := (show Hid (∀ W : World, Below w.heap.size w W → Calls Try.prog 9 #[.slice p n c] W fun e w' => ∃ v, e = .returned v ∧ Rgl w' v G ∧ Below W.heap.size W w') from fun W hW => by
    refine (rgroups_any (c := c) (HL.out.below hW) HN'.out).mono ?_
    rintro e w' ⟨v, es, rfl, hO, hA, hb⟩
    rw [hG] at hA
    exact ⟨v, rfl, rgl_ox hO hA, hb⟩)
  have RP := (show Hid (∀ W : World, Below w.heap.size w W → Calls Try.prog 10 #[.agg (shC k m b), .slice p n c] W fun e w' => ∃ v, e = .returned (.tuple #[v, .bool bb]) ∧ Rgl w' v PL ∧ Below W.heap.size W w') from fun W hW => by
    have h := rpossible_any k m b (c := c) (HL.out.below hW) HN'.out hB.one
    rw [hG, hP, hbb] at h
    exact h)
  have like : ∀ s' : Nat → Sn, (∀ i, i < n → (s' i).kd = (ss i).kd ∧ (s' i).hd = (ss i).hd ∧ (s' i).bv.oneCell' = true) → (∀ i, i < n → (s' i).wg = (ss i).wg) ∧ ∀ i, i < n → shs s' i = shs ss i := fun s' hl => by
    have hw : ∀ i, i < n → (s' i).wg = (ss i).wg := fun i hi => by unfold Sn.wg; rw [(hl i hi).2.1]
    exact ⟨hw, fun i hi => by unfold shs; rw [(hl i hi).1, hw i hi]⟩
  have GL := (show Hid (∀ (W : World) (g cap : Nat) (s' : Nat → Sn), SnL W (some ⟨g, 0, none⟩) n s' → (∀ i, i < n → (s' i).kd = (ss i).kd ∧ (s' i).hd = (ss i).hd ∧ (s' i).bv.oneCell' = true) → Calls Try.prog 12 #[.slice (some ⟨g, 0, none⟩) n cap] W fun e w' => ∃ v, e = .returned v ∧ Rgl w' v G ∧ Below W.heap.size W w') from fun W g cap s' hS hl => by
    refine (groups_any (c := cap) hS HN'.out (fun i hi => by rw [(like s' hl).1 i hi]; exact HI.out i hi)).mono ?_
    rintro e w' ⟨g2, cap2, l2, vs2, rfl, hI2, hV2, hb⟩
    obtain rfl := hI2.eq (isG_grps _ _)
    have h := rgl_gv hV2
    rw [grps_like (like s' hl).2, hG] at h
    rw [grps_like (like s' hl).2, hG]
    exact ⟨_, rfl, h, hb⟩)
  have PO := (show Hid (∀ (W : World) (g cap : Nat) (s' : Nat → Sn), SnL W (some ⟨g, 0, none⟩) n s' → (∀ i, i < n → (s' i).kd = (ss i).kd ∧ (s' i).hd = (ss i).hd ∧ (s' i).bv.oneCell' = true) → Calls Try.prog 13 #[.agg (shC k m b), .slice (some ⟨g, 0, none⟩) n cap] W fun e w' => ∃ v, e = .returned (.tuple #[v, .bool bb]) ∧ Rgl w' v PL ∧ Below W.heap.size W w') from fun W g cap s' hS hl => by
    have h := possible_any k m b hm (c := cap) hS HN'.out (fun i hi => by rw [(like s' hl).1 i hi]; exact HI.out i hi) (fun i hi => (hl i hi).2.2)
    rw [grps_like (like s' hl).2, hid_like (like s' hl).2, hG, hP, hbb] at h
    exact h)
  have ebb : (bb == bb) = true := by simp
  clear HS hn hB hI hm hG hP hbb like hIG
  go_enter Try.func3, Try.ntmps3
  go_wp2_with (first
    | (refine wpList_bxB rfl _ rfl rfl ?_; intro w1 hG1 hb1 hs1)
    | (go_at_call 9; refine (RG.out _ hb1).mono ?_; rintro e w2 ⟨v2, rfl, hR2, hb2⟩; have HB2 := (show Hid (Below w.heap.size w w2) from bt hb1 hb2); have HR2 := (show Hid (Rgl w2 v2 G) from hR2); have hG2 := hG1.below hb2; clear hR2)
    | (refine wpList_ldB rfl _ rfl w.heap.size rfl hG2 Try.underlying23 (size_Sp' _ _ _) ?_)
    | (go_at_call 10; refine (RP.out _ HB2.out).mono ?_; rintro e w3 ⟨v3, rfl, hR3, hb3⟩; have HB3 := (show Hid (Below w.heap.size w w3) from bt HB2.out hb3); have HR3 := (show Hid (Rgl w3 v3 PL) from hR3); have hG3 := hG2.below hb3; clear hR3)
    | (go_at_call 11; refine (lent_any (HL.out.below HB3.out) HN.out (HBl.out.below HB3.out)).mono ?_; rintro e w5 ⟨v5, rfl, hS5, hb5⟩; obtain ⟨gL, capL, ssL, eL, hSL, hlk⟩ := hS5.snl; subst eL; have HS5 := (show Hid (LSn w5 (.slice (some ⟨gL, 0, none⟩) n capL) n ss bl) from hS5); have hG5 := hG3.below hb5; have G5 := (show Hid (∀ W : World, Below w5.heap.size w5 W → _) from fun W hW => GL.out W gL capL ssL (hSL.below hW) hlk); have P5 := (show Hid (∀ W : World, Below w5.heap.size w5 W → _) from fun W hW => PO.out W gL capL ssL (hSL.below hW) hlk); clear hSL hlk hS5)
    | (go_at_call 12; refine (G5.out _ (Below.refl _ _)).mono ?_; rintro e w6 ⟨v6, rfl, hR6, hb6⟩; have HR6 := (show Hid (Rgl w6 v6 G) from hR6); have hG6 := hG5.below hb6; clear hR6)
    | (refine wpList_ldB rfl _ rfl w.heap.size rfl hG6 Try.underlying23 (size_Sp' _ _ _) ?_)
    | (go_at_call 13; refine (P5.out _ hb6).mono ?_; rintro e w7 ⟨v7, rfl, hR7, hb7⟩; have HR7 := (show Hid (Rgl w7 v7 PL) from hR7); have HR67 := (show Hid (Rgl w7 v6 G) from HR6.out.below hb7); have HR27 := (show Hid (Rgl w7 v2 G) from (HR2.out.below hb3).below (bt hb5 (bt hb6 hb7))); have HR37 := (show Hid (Rgl w7 v3 PL) from HR3.out.below (bt hb5 (bt hb6 hb7))); have HB7 := (show Hid (Below w.heap.size w w7) from bt (bt HB3.out hb5) (bt hb6 hb7)); have HS7 := (show Hid (LSn w7 (.slice (some ⟨gL, 0, none⟩) n capL) n ss bl) from HS5.out.below (bt hb6 hb7)); clear hR7)
    | (go_at_call 14; first | (refine (sameGroups_any (HR7.out.below hb8) (HR37.out.below hb8) HP1.out HP2.out).mono ?_; rintro e w9 ⟨rfl, hb9⟩) | (refine (sameGroups_any HR67.out HR27.out HG1.out HG2.out).mono ?_; rintro e w8 ⟨rfl, hb8⟩))
    | (go_at_call 15; refine (kept_any (c := c) ((HS7.out.below hb8).below hb9) (HL.out.below (bt (bt HB7.out hb8) hb9)) HN.out (HBl.out.below (bt (bt HB7.out hb8) hb9))).mono ?_; rintro e w10 ⟨rfl, hb10⟩))
  go_ret
  exact ⟨rfl, bt (bt (bt HB7.out hb8) hb9) hb10⟩
end
end Go.Proofs.Ytcoegbbhmdbafaa
