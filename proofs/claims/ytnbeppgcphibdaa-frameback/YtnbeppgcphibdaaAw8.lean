/-
  The law's 'awake'.
-/
import Derived.Test.YtnbeppgcphibdaaPl8
import Derived.Deep.RegionWith
namespace Go.Proofs.Ytnbeppgcphibdaa
open Go.RowKit
theorem plH_in : plH.In := ⟨by unfold In64; decide, by unfold In64; decide, by unfold In64; decide, by unfold In64; decide, by unfold In64; decide, by unfold In64; decide, by unfold In64; decide⟩
theorem own54 {w : World} {B : Nat} {v : Value} {xs : List (BitVec 8)} (h : Ow w B v xs) (hl : xs.length = 54) : ∃ g cap, v = .slice (some ⟨g, 0, none⟩) 54 cap ∧ 54 ≤ cap ∧ cap ≤ 9223372036854775807 ∧ B ≤ g ∧ g < w.heap.size ∧ w.frozen? ⟨g, 53, none⟩ = false := by
  rcases h.2 with ⟨hv, h0⟩ | ⟨g, cap, c, hv, hg, hh, hc, hm, hs, ht⟩
  · omega
  · rw [hl] at hv hc
    exact ⟨g, cap, hv, hc, hm, hg, Hm.lt hh, frozen_of_row w g 53 _ _ hh⟩
theorem Rd.setAt {w : World} {g : Nat} {xs : List (BitVec 8)} (h : Rd w (some ⟨g, 0, none⟩) xs) (k : Nat) (hk : k < xs.length) (y : BitVec 8) : Rd (w.setCell ⟨g, k, none⟩ (.int .u8 (el y))) (some ⟨g, 0, none⟩) (xs.set k y) := by
  refine .inr ⟨g, 0, rfl, fun i hi => ?_⟩
  rw [List.length_set] at hi
  have hc := h.byte i hi
  rw [Nat.zero_add] at hc ⊢
  by_cases e : i = k
  · subst e
    rw [World.cell?_setCell_same (h := hc)]
    simp [List.getD, hi]
  · rw [World.cell?_setCell_other (h := fun e2 => e (by injection e2 with _ e2; exact e2.symm)), hc]
    simp [List.getD, Ne.symm e]
theorem sd_cells {w : World} {g : Nat} {v : Value} (H : SdAt w g plH v) : w.cell? ⟨g, 0, none⟩ = some (.int .u8 1) ∧ w.cell? ⟨g, 1, none⟩ = some (.int .u8 1) ∧ w.cell? ⟨g, 2, none⟩ = some (.int .u8 1) ∧ w.cell? ⟨g, 3, none⟩ = some (.int .u8 1) ∧ w.cell? ⟨g, 4, none⟩ = some (.int .u8 1) ∧ w.cell? ⟨g, 5, none⟩ = some (.int .u8 1) ∧ w.cell? ⟨g, 6, none⟩ = some (.int .u8 1) ∧ w.cell? ⟨g, 7, none⟩ = some (.int .u8 1) ∧ w.cell? ⟨g, 8, none⟩ = some (.int .i64 2) ∧ w.cell? ⟨g, 9, none⟩ = some (.int .i64 1) ∧ w.cell? ⟨g, 10, none⟩ = some (.int .i64 4) ∧ w.cell? ⟨g, 11, none⟩ = some (.string ⟨#[97]⟩) ∧ w.cell? ⟨g, 12, none⟩ = some (.int .i64 10) ∧ w.cell? ⟨g, 13, none⟩ = some (.int .i64 2) ∧ w.cell? ⟨g, 14, none⟩ = some (.int .i64 3) ∧ w.cell? ⟨g, 15, none⟩ = some (.int .i64 5) ∧ w.cell? ⟨g, 16, none⟩ = some v := by
  unfold SdAt at H
  rw [plH_sh, b97] at H
  have c := fun i => cell_of_row w g i _ _ (0, 0) H
  exact ⟨c 0, c 1, c 2, c 3, c 4, c 5, c 6, c 7, c 8, c 9, c 10, c 11, c 12, c 13, c 14, c 15, c 16⟩
theorem one_vr (w : World) : Vr (w.alloc (.cells #[.int .i64 1] 3)) (some ⟨w.heap.size, 0, none⟩) (ic [1]) := by
  refine .inr ⟨w.heap.size, 0, rfl, fun i u hu => ?_⟩
  match i, hu with
  | 0, hu =>
    rw [cell_of_row _ _ _ _ _ (0, 0) (heap_alloc_new w _), ← hu]; rfl
theorem frz {w w' : World} {g i : Nat} (hl : g < w.heap.size) (h : w.frozen? ⟨g, i, none⟩ = false) (hb : Below w.heap.size w w') : w'.frozen? ⟨g, i, none⟩ = false := by
  rw [← h]
  unfold World.frozen?
  simp only [hb.block g hl]
theorem rd54 {w : World} {B g n cap : Nat} {xs : List (BitVec 8)} (h : Ow w B (.slice (some ⟨g, 0, none⟩) n cap) xs) : Rd w (some ⟨g, 0, none⟩) xs := by
  obtain ⟨p, c, e, _, hr⟩ := h.rd
  injection e with e
  rw [e]; exact hr
theorem xor1 : ∀ x : BitVec 8, bits .xor .u8 (el x) 1 = el (x ^^^ 1#8) := by decide +kernel
theorem plF_len : plF.length = 54 := by unfold plF; rw [List.length_set, pl_len]
section
attribute [local irreducible] Calls el Hd.cs Hd.sh cmo rg sm bsm plH
set_option maxHeartbeats 4000000 in
set_option maxRecDepth 1000000 in
theorem awake_any (w : World) :
    Calls Try.prog 4 #[] w fun e w' => e = .returned (.bool true) ∧ Below w.heap.size w w' := by
  have al : ∀ (W : World) (o : Obj), Below W.heap.size W (W.alloc o) := fun W o => (Below.refl _ _).alloc (Nat.le_refl _) o
  have NU := (show Hid _ from fun z w => num_any z w)
  have PL := (show Hid _ from fun w => plain_any w)
  have hpS := pS_fm plH plB pl_may
  have EN := (show Hid (∀ (W : World) (p : Option Addr) (c : Nat), Rws W p plB → _) from fun W p c h => encode_ok plH plH_ok plH_in h 2 c rfl pl_may.2)
  have hfl := pl_len
  have PA := (show Hid (∀ (W : World) (p : Option Addr) (c : Nat), Rd W p (plH.fm plB) → 54 ≤ c → _) from fun W p c h h1 => parse_any h 54 c pl_len h1 (by omega))
  rw [hpS] at PA
  have PB := (show Hid (∀ (W : World) (p : Option Addr) (c : Nat), Rd W p plF → 54 ≤ c → _) from fun W p c h h1 => parse_any h 54 c plF_len h1 (by omega))
  rw [plF_pS] at PB
  generalize (pS plF).2.1 = hx at PB
  generalize (pS plF).2.2 = bx at PB
  have SP := (show Hid (∀ (W : World) (p : Option Addr) (c : Nat), Rd W p plF → 54 ≤ c → _) from fun W p c h h1 => spoilt_any rhd_ok h 54 c plF_len h1 (by omega))
  rw [plF_sP] at SP
  have hqq : hq plH plH = true := (hq_iff _ _).2 rfl
  have s0 : Hid (0 = 0) := rfl
  have hbw : Below w.heap.size w w := Below.refl _ _
  clear hpS
  go_enter Try.func4, Try.ntmps4
  go_wp2_with (first
    | (go_at_call 8; refine (NU.out _ _).mono ?_; rintro e w9 ⟨rfl, h9⟩; obtain rfl := h9.symm)
    | (go_at_call 14; first
        | (clear s0; have s1 : Hid (0 = 0) := rfl; refine (PL.out _).mono ?_; rintro e w1 ⟨p1, c1, rfl, hr1, hb⟩; replace hbw := bt hbw hb)
        | (refine (PL.out _).mono ?_; rintro e w4 ⟨p4, c4, rfl, hr4, hb⟩; replace hbw := bt hbw hb; replace hrb := hrb.below hb; replace hfz := frz hgl hfz hb; replace hgl := Nat.lt_of_lt_of_le hgl hb.size; replace hR3 := hR3.below hb))
    | (go_at_call 6; refine (EN.out _ _ _ hr1).mono ?_; rintro e w2 ⟨v2, rfl, ho2, hb⟩; obtain ⟨g, cap, rfl, hc1, hc2, hgB, hgl, hfz⟩ := own54 ho2 hfl; have hgw : w.heap.size ≤ g := Nat.le_trans hbw.size hgB; replace hbw := bt hbw hb; have hrb : Rd w2 (some ⟨g, 0, none⟩) (plH.fm plB) := rd54 ho2)
    | (go_at_call 10; first
        | (clear s1; have s2 : Hid (0 = 0) := rfl; refine (PA.out _ _ _ hrb hc1).mono ?_; rintro e w3 ⟨v3, rfl, hB3, hb⟩; obtain ⟨q3, d3, hv3, hd3, hR3⟩ := hB3.rws; replace hv3 : v3 = .slice q3 2 d3 := hv3; subst hv3; replace hbw := bt hbw hb; replace hrb := hrb.below hb; replace hfz := frz hgl hfz hb; replace hgl := Nat.lt_of_lt_of_le hgl hb.size)
        | (refine (PB.out _ _ _ hrF hc1).mono ?_; rintro e w6 ⟨v6, rfl, hB6, hb⟩; replace hbw := bt hbw hb; replace hrF := hrF.below hb))
    | (refine wpList_stS plH (.slice q3 2 d3) rfl rfl _ _ rfl rfl w3.heap.size rfl rfl (sz0 (heap_alloc_new w3 _)) ?_; intro wS HS hTS; have hb := hTS.2.1 _ _ (al w3 _) (Nat.le_refl _); replace hbw := bt hbw hb; replace hrb := hrb.below hb; replace hfz := frz hgl hfz hb; replace hgl := Nat.lt_of_lt_of_le hgl hb.size; replace hR3 := hR3.below hb))
  have hd : Below wS.heap.size wS wS.drew := (Below.refl _ _).drew
  replace hbw := bt hbw hd
  replace hrb := hrb.below hd
  replace hfz := frz hgl hfz hd
  replace hR3 := hR3.below hd
  replace HS := HS.below hd
  have hgl' : g < wS.drew.heap.size := hgl
  clear hgl hTS PA EN
  obtain ⟨k0, k1, k2, k3, k4, k5, k6, k7, k8, k9, k10, k11, k12, k13, k14, k15, k16⟩ := sd_cells HS
  have SM := (show Hid (∀ (W : World) (p : Option Addr) (c : Nat), Rws W q3 plB → Rws W p plB → Calls Try.prog 11 #[.agg #[.int .u8 1, .int .u8 1, .int .u8 1, .int .u8 1, .int .u8 1, .int .u8 1, .int .u8 1, .int .u8 1, .int .i64 2, .int .i64 1, .int .i64 4, .string ⟨#[97]⟩, .int .i64 10, .int .i64 2, .int .i64 3, .int .i64 5, .slice q3 2 d3], .agg (plH.sh (.slice p 2 c))] W fun e w' => e = .returned (.bool true) ∧ Below W.heap.size W w') from fun W p c h1 h2 => by
    have h := same_any plH plH h1 h2 2 d3 2 c rfl rfl (by omega)
    rw [hqq, decide_eq_true rfl, plH_sh (.slice q3 2 d3), b97] at h
    exact h)
  go_region_with (first
    | (go_at_call 8; refine (NU.out _ _).mono ?_; rintro e w9 ⟨rfl, h9⟩; obtain rfl := h9.symm)
    | (go_at_call 14; refine (PL.out _).mono ?_; rintro e w4 ⟨p4, c4, rfl, hr4, hb⟩; replace hbw := bt hbw hb; replace hrb := hrb.below hb; replace hfz := frz hgl' hfz hb; replace hgl' := Nat.lt_of_lt_of_le hgl' hb.size; replace hR3 := hR3.below hb; replace HS := HS.below hb; obtain ⟨l0, l1, l2, l3, l4, l5, l6, l7, l8, l9, l10, l11, l12, l13, l14, l15, l16⟩ := sd_cells HS)
    | (go_at_call 11; refine (SM.out _ _ _ hR3 hr4).mono ?_; rintro e w5 ⟨rfl, hb⟩; replace hbw := bt hbw hb; replace hrb := hrb.below hb; replace hfz := frz hgl' hfz hb; replace hgl' := Nat.lt_of_lt_of_le hgl' hb.size; have hbyte := hrb.byte 53 (by rw [hfl]; decide); rw [Nat.zero_add] at hbyte; have hxr := xor1 ((plH.fm plB).getD 53 0#8); have hrF : Rd (w5.setCell ⟨g, 53, none⟩ (.int .u8 (el ((plH.fm plB).getD 53 0#8 ^^^ 1#8)))) (some ⟨g, 0, none⟩) plF := hrb.setAt 53 (by rw [hfl]; decide) ((plH.fm plB).getD 53 0#8 ^^^ 1#8); have hbF := hbw.setCell (show w.heap.size ≤ (⟨g, 53, none⟩ : Addr).block from hgw) (.int .u8 (el ((plH.fm plB).getD 53 0#8 ^^^ 1#8)));
       generalize (plH.fm plB).getD 53 0#8 = z at hbyte hxr hrF hbF))
  all_goals
    go_wp2_with (first
      | (go_at_call 8; refine (NU.out _ _).mono ?_; rintro e w9 ⟨rfl, h9⟩; obtain rfl := h9.symm)
      | (go_at_call 10; refine (PB.out _ _ _ hrF hc1).mono ?_; rintro e w6 ⟨v6, rfl, hB6, hb⟩; obtain ⟨q6, d6, hv6, _, _⟩ := hB6.rws; subst hv6; replace hbF := bt hbF hb; replace hrF := hrF.below hb)
      | (refine wpList_stS hx (.slice q6 bx.length d6) rfl rfl _ _ rfl rfl w6.heap.size rfl rfl (sz0 (heap_alloc_new w6 _)) ?_; intro wT HT hTT; have hb := hTT.2.1 _ _ (al w6 _) (Nat.le_refl _); replace hbF := bt hbF hb; replace hrF := hrF.below hb)
      | (go_at_call 13; refine (SP.out _ _ _ hrF hc1).mono ?_; rintro e w7 ⟨v7, rfl, hO7, hb⟩; obtain ⟨p7, c7, rfl, hc7, hV7⟩ := hO7.rd; replace hbF := bt hbF hb)
      | (go_at_call 15; refine (sameInts_any (xs := [1]) (ys := [1]) (hV7.below (al _ _)) (one_vr w7) 1 1 c7 1 rfl rfl (by omega)).mono ?_; rintro e w8 ⟨rfl, hb⟩; rw [decide_eq_true rfl]; replace hbF := bt (bt hbF (al w7 (.cells #[.int .i64 1] 3))) hb))
    go_ret
    exact ⟨rfl, hbF⟩
end
end Go.Proofs.Ytnbeppgcphibdaa
