/-
  VotesJudges.
-/
import Derived.Test.YtcoegbbhmdbafaaVx17
namespace Go.Proofs.Ytcoegbbhmdbafaa
open Go.RowKit
theorem plc_like {s s' : Shs} {n : Nat} (h : ∀ i, i < n → s i = s' i) (k : Wg) : plc s n k = plc s' n k := List.filter_congr fun i hi => by
  unfold sh
  rw [h i (List.mem_range.1 hi)]
theorem kys_like {s s' : Shs} {n : Nat} (h : ∀ i, i < n → s i = s' i) : ∀ m, m ≤ n → kys s m = kys s' m
  | 0, _ => rfl
  | m + 1, hm => by
    unfold kys
    rw [h m (by omega), kys_like h m (by omega)]
theorem grps_like {s s' : Shs} {n : Nat} (h : ∀ i, i < n → s i = s' i) : grps s n = grps s' n := by
  unfold grps
  rw [kys_like h n (Nat.le_refl _)]
  exact List.map_congr_left fun k _ => by rw [plc_like h]
theorem hid_like {s s' : Shs} {n : Nat} (h : ∀ i, i < n → s i = s' i) : hid s n = hid s' n := by
  have e : hds s n = hds s' n := List.filter_congr fun i hi => by
    unfold hdn
    rw [h i (List.mem_range.1 hi)]
  unfold hid
  rw [e]
theorem jdg_like {s s' : Shs} {n : Nat} (h : ∀ i, i < n → s i = s' i) (k m b : Int) : jdg k m b s n = jdg k m b s' n := by
  unfold jdg
  rw [grps_like h, hid_like h]
theorem jdg_len (k m b : Int) (s : Shs) (n : Nat) : (jdg k m b s n).pl.length ≤ n := by
  unfold jdg
  split
  · unfold vjd
    split
    · rename_i p hp
      exact (isG_grps s n).len p (List.mem_of_find?_eq_some hp)
    · split <;> exact Nat.zero_le _
  · exact Nat.zero_le _
theorem size_Vd' (kd : Int) (k : Wg) (v : Value) : (Try.prog.info? 41).map (·.size) = some (vdC kd k v).size := size_Vd
theorem vdC_same (kd kd' : Int) (k k' : Wg) (v v' : Value) : (vdC kd k v).size = (vdC kd' k' v').size := rfl
section
attribute [local irreducible] Calls GB On Rn shC LSn vdC
set_option maxHeartbeats 16000000 in
set_option maxRecDepth 1000000 in
theorem votesJudges_walk (k m b : Int) (hm : In64 m) {w : World} {p : Option Addr} {n c : Nat} {ss : Nat → Sn} {bl : Nat → List (List (BitVec 8))} (HS : SnL w p n ss) (hn : n ≤ 1172812402926) (hB : Bls w n ss bl) (hI : ∀ i, i < n → InW (ss i).wg) :
    Calls Try.prog 4 #[.agg (shC k m b), .slice p n c] w fun e w' => e = .returned (.bool true) ∧ Below w.heap.size w w' := by
  have HL := (show Hid (SnL w p n ss) from HS)
  have HN := (show Hid (n ≤ 1172812402926) from hn)
  have HN' := (show Hid (n ≤ 1172812402943) from by show _ ≤ _; omega)
  have HBl := (show Hid (Bls w n ss bl) from hB)
  have HI := (show Hid (∀ i, i < n → InW (ss i).wg) from hI)
  have HM := (show Hid (In64 m) from hm)
  obtain ⟨J, hJ⟩ : ∃ J, jdg k m b (shs ss) n = J := ⟨_, rfl⟩
  have HJ := (show Hid (jdg k m b (shs ss) n = J) from hJ)
  have HLJ := (show Hid (J.pl.length ≤ 17592186044416) from by have := jdg_len k m b (shs ss) n; rw [hJ] at this; show _ ≤ _; omega)
  have RJ := (show Hid (∀ W : World, Below w.heap.size w W → Calls Try.prog 16 #[.agg (shC k m b), .slice p n c] W fun e w' => ∃ pv, e = .returned (.agg (vdC J.kd J.wg pv)) ∧ Rn w' pv J.pl ∧ Below W.heap.size W w') from fun W hW => by
    have h := rjudge_any k m b (c := c) (HL.out.below hW) HN'.out
    rw [hJ] at h
    exact h)
  have JL := (show Hid (∀ (W : World) (g cap : Nat) (s' : Nat → Sn), SnL W (some ⟨g, 0, none⟩) n s' → (∀ i, i < n → (s' i).kd = (ss i).kd ∧ (s' i).hd = (ss i).hd ∧ (s' i).bv.oneCell' = true) → Calls Try.prog 17 #[.agg (shC k m b), .slice (some ⟨g, 0, none⟩) n cap] W fun e w' => ∃ pv, e = .returned (.agg (vdC J.kd J.wg pv)) ∧ On w' W.heap.size pv J.pl ∧ Below W.heap.size W w') from fun W g cap s' hS hl => by
    have hw : ∀ i, i < n → (s' i).wg = (ss i).wg := fun i hi => by unfold Sn.wg; rw [(hl i hi).2.1]
    have h := judge_any k m b hm (c := cap) hS HN'.out (fun i hi => by rw [hw i hi]; exact HI.out i hi) (fun i hi => (hl i hi).2.2)
    rw [jdg_like (s := shs s') (s' := shs ss) (fun i hi => by unfold shs; rw [(hl i hi).1, hw i hi]) k m b, hJ] at h
    exact h)
  clear HS hn hB hI hm hJ
  go_enter Try.func4, Try.ntmps4
  go_wp2_with (first
    | (refine wpList_bxB rfl _ rfl rfl ?_; intro w1 hG1 hb1 hs1)
    | (refine wpList_ldB rfl _ rfl w.heap.size rfl hG1 Try.underlying23 (size_Sp' _ _ _) ?_)
    | (go_at_call 16; refine (RJ.out _ hb1).mono ?_; rintro e w2 ⟨pv2, rfl, hR2, hb2⟩; have HR2 := (show Hid (Rn w2 pv2 J.pl) from hR2); have h1c := (show Hid (pv2.oneCell' = true) from by have h := hR2; unfold Rn at h; obtain ⟨_, _, h, _⟩ := h; rw [h]; rfl); have hG2 := hG1.below hb2; clear hR2)
    | (refine wpList_stB (cs := vdC J.kd J.wg pv2) rfl _ _ rfl rfl w2.heap.size rfl rfl hG3 (size_Vd' _ _ _) (vdC_same _ _ _ _ _ _) (vdC_one _ _ _ h1c.out) ?_; intro w4 hG4 hg4 hs4; have HB24 := (show Hid (Below w2.heap.size w2 w4) from grown_below hb3 hg4 hb3.size (Nat.le_refl _)); have HV4 := (show Hid (GB w4 w2.heap.size 41 (vdC J.kd J.wg pv2)) from hG4); have HG4 := (show Hid (GB w4 w.heap.size 23 (shC k m b)) from hG2.below HB24.out); have HB4 := (show Hid (Below w.heap.size w w4) from bt (bt hb1 hb2) HB24.out); clear hG4 hG3)
    | (refine wpList_stB (cs := vdC J.kd J.wg pv6) rfl _ _ rfl rfl w6.heap.size rfl rfl hG3 (size_Vd' _ _ _) (vdC_same _ _ _ _ _ _) (vdC_one _ _ _ h6c.out) ?_; intro w8 hG8 hg8 hs8; have HB68 := (show Hid (Below w6.heap.size w6 w8) from grown_below hb3 hg8 hb3.size (Nat.le_refl _)); have hV8 := HV4.out.below (bt hb5 (bt hb6 HB68.out)); have HR8 := (show Hid (Rn w8 pv2 J.pl) from ((HR2.out.below HB24.out).below hb5).below (bt hb6 HB68.out)); have HR6 := (show Hid (Rn w8 pv6 J.pl) from HO6.out.rn.below HB68.out); have HB8 := (show Hid (Below w.heap.size w w8) from bt (bt HB4.out hb5) (bt hb6 HB68.out)); have HS8 := (show Hid (LSn w8 (.slice (some ⟨gL, 0, none⟩) n capL) n ss bl) from HS5.out.below (bt hb6 HB68.out)))
    | (refine wpList_alB rfl rfl vd0 ?_; intro w3 hG3 hb3 hs3)
    | (go_at_call 11; refine (lent_any (HL.out.below HB4.out) HN.out (HBl.out.below HB4.out)).mono ?_; rintro e w5 ⟨v5, rfl, hS5, hb5⟩; obtain ⟨gL, capL, ssL, eL, hSL, hlk⟩ := hS5.snl; subst eL; have HS5 := (show Hid (LSn w5 (.slice (some ⟨gL, 0, none⟩) n capL) n ss bl) from hS5); have hG5 := HG4.out.below hb5; have J5 := (show Hid _ from JL.out w5 gL capL ssL hSL hlk); clear hSL hlk hS5)
    | (refine wpList_ldB rfl _ rfl w.heap.size rfl hG5 Try.underlying23 (size_Sp' _ _ _) ?_)
    | (go_at_call 17; refine J5.out.mono ?_; rintro e w6 ⟨pv6, rfl, hO6, hb6⟩; have HO6 := (show Hid (On w6 w5.heap.size pv6 J.pl) from hO6); have h6c := (show Hid (pv6.oneCell' = true) from by have h := hO6.rn; unfold Rn at h; obtain ⟨_, _, h, _⟩ := h; rw [h]; rfl); clear hO6)
    | (refine wpList_ldB rfl _ rfl w6.heap.size rfl hG8 Try.underlying41 (size_Vd' _ _ _) ?_)
    | (refine wpList_ldB rfl _ rfl w2.heap.size rfl hV8 Try.underlying41 (size_Vd' _ _ _) ?_)
    | (go_at_call 18; refine (sameVerdict_any J.kd J.wg HR6.out HR8.out HLJ.out).mono ?_; rintro e w9 ⟨rfl, hb9⟩)
    | (go_at_call 15; refine (kept_any (c := c) (HS8.out.below hb9) (HL.out.below (bt HB8.out hb9)) HN.out (HBl.out.below (bt HB8.out hb9))).mono ?_; rintro e w10 ⟨rfl, hb10⟩))
  go_ret
  exact ⟨rfl, bt (bt HB8.out hb9) hb10⟩
end
end Go.Proofs.Ytcoegbbhmdbafaa
