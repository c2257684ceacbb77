/-
  CodeRebuilds: the walk.
-/
import Derived.Test.YtienknoahjhopaaRbe
namespace Go.Proofs.Ytienknoahjhopaa
open Go.RowKit
section
attribute [local irreducible] Calls NmE NrE Cd Fac mm Bm Lnt Lm thr pk acc shr skk
set_option maxHeartbeats 32000000 in
set_option maxRecDepth 1000000 in
theorem codeRebuilds_yes (k m : Nat) (pR : Option Addr) (r cR : Nat) (L : Nat → Nat) (M0 : Nat → Nat → BitVec 8) (At : Int) (vD : Value) (w : World) (hm1 : 1 ≤ m) (hmk : m ≤ k) (hkm : k + m ≤ 255) (hr : r ≤ 5864062014634) (hL : Hid (∀ i, i < r → L i ≤ 140737488355200)) (hR : NmE w (.slice pR r cR) r L M0) :
    Calls Try.prog 3 #[.agg #[.int .i64 (k : Int), .int .i64 (m : Int), .slice pR r cR, .int .i64 At, vD]] w fun e w' => e = .returned (.bool true) ∧ Below w.heap.size w w' := by
  have hk1 : 1 ≤ k := by omega
  have MY := (show Hid _ from fun w => maybe_yes (k : Int) (m : Int) w (by unfold Shp; omega))
  have hb0 : Below w.heap.size w (w.alloc (.cells #[.int .i64 (k : Int), .int .i64 (m : Int), .slice pR r cR, .int .i64 At, vD] 25)) := (Below.refl _ _).alloc (Nat.le_refl _) _
  have q0 := ask_cell w #[.int .i64 (k : Int), .int .i64 (m : Int), .slice pR r cR, .int .i64 At, vD] 25 0 (.int .i64 (k : Int)) rfl
  have q1 := ask_cell w #[.int .i64 (k : Int), .int .i64 (m : Int), .slice pR r cR, .int .i64 At, vD] 25 1 (.int .i64 (m : Int)) rfl
  have q2 := ask_cell w #[.int .i64 (k : Int), .int .i64 (m : Int), .slice pR r cR, .int .i64 At, vD] 25 2 (.slice pR r cR) rfl
  obtain ⟨W, hW⟩ : ∃ W, W = w.alloc (.cells #[.int .i64 (k : Int), .int .i64 (m : Int), .slice pR r cR, .int .i64 At, vD] 25) := ⟨_, rfl⟩
  rw [← hW] at hb0 q0 q1 q2
  have HW : Hid (w.alloc (.cells #[.int .i64 (k : Int), .int .i64 (m : Int), .slice pR r cR, .int .i64 At, vD] 25) = W) := hW.symm
  have HR0 := (show Hid _ from NmE.below hR hb0)
  have HB0 := (show Hid _ from hb0)
  clear hW hR hb0
  go_enter Try.func3, Try.ntmps3
  go_wp2_with (first
    | (go_at_call 7; rw [HW.out]; refine (new_ok k m hm1 hmk hkm W).mono ?_; rintro e w1 ⟨v1, F, rfl, hC1, hF1, hb1⟩; have HC := (show Hid _ from hC1); have HF := (show Hid _ from hF1); obtain ⟨cb, _, _, ev, _⟩ := cd_open hC1; subst ev; have q01 := (show Hid _ from cell_below q0 hb1); have q11 := (show Hid _ from cell_below q1 hb1); have q0x := cell_below q0 hb1; have q1x := cell_below q1 hb1; have q21 := cell_below q2 hb1; have HX1 := (show Hid _ from bt HB0.out hb1); have HR1 := (show Hid _ from NmE.below HR0.out hb1); clear hC1 hF1 q0 q1 q2 hb1)
    | (go_at_call 8; refine (MY.out _).mono ?_; rintro e w' ⟨rfl, h⟩; obtain rfl := h.symm)
    | (go_at_call 9; refine (lentRows_core pR r cR L M0 w1 hr hL HR1).mono ?_; rintro e w2 ⟨B, cB, ρ, κ, μ, rfl, hLn2, _, hρ2, hb2⟩; have HLN := (show Hid _ from hLn2); have hρ := (show Hid _ from hρ2); have HB12 := (show Hid _ from hb2); clear hLn2 hρ2 hb2 q0x q1x q21))
  clear HW HR0 HR1 HB0 MY
  by_cases hrk : r = k + m
  · subst hrk
    by_cases hev : ∀ t, t < (thr L (k + m)).length → L (pk L (k + m) t) = L (pk L (k + m) 0)
    · have HEV := (show Hid _ from hev)
      clear hev
      by_cases hfew : (thr L (k + m)).length < k
      · have T9 : Hid True := trivial
        go_loopw [6] (fun i wr => ∃ (t : Nat) (M' : Nat → Nat → BitVec 8), t ≤ 2 ∧ i = .int .i64 t ∧ Hid (Lns wr B cB (k + m) ρ κ L μ M') ∧ Below w1.heap.size w1 wr) (fun i _ => 2 - (intOf i).toNat)
        case atStart => exact ⟨0, M0, by omega, rfl, HLN, HB12.out⟩
        case round =>
          clear HLN HB12
          obtain ⟨t, M1, ht, rfl, HLN, hb⟩ := hrel
          by_cases hlt : t < 2
          · have j1 : (t : Int) < 2 := by omega
            have HBr := (show Hid _ from hb)
            have HNr := (show Hid _ from Lns.nm HLN.out)
            have CP := (show Hid _ from copied_big (some ⟨B, 0, none⟩) (k + m) cB L M1 wr hr (fun i hi => Nat.le_trans (hL.out i hi) (by omega)) HNr)
            clear hb
            go_wp2_with (first
              | (go_at_call 10; refine CP.out.mono ?_; rintro e w3 ⟨v3, rfl, hM3, hb3⟩; have HN3 := (show Hid _ from Bm.nm hM3); obtain ⟨p3, c3, e3⟩ := nmE_form HN3.out; subst e3; have HB3 := (show Hid _ from hb3); have q03 := cell_below q01.out (bt HBr.out hb3); have q13 := cell_below q11.out (bt HBr.out hb3); clear hM3 CP hb3)
              | (go_at_call 11; refine (refRebuild_few p3 k m c3 L M1 w3 hk1 hkm HN3 HEV.out hfew).mono ?_; rintro e w4 ⟨rfl, hb4⟩; clear q03 q13)
              | (go_at_call 12; refine (rebuild_few hk1 hkm (Cd.below HC.out (bt (bt HBr.out HB3.out) hb4)) (NmE.below HNr.out (bt HB3.out hb4)) HEV.out hfew).mono ?_; rintro e w5 ⟨rfl, hb5⟩)
              | (go_at_call 13; refine (same_core none none 0 0 0 (fun _ => 0) (fun _ _ => 0#8) (fun _ _ => 0#8) w5 (by omega) (nm_none w5) (nm_none w5) (fun i hi => by omega)).mono ?_; rintro e w6 ⟨rfl, hb6⟩; have HB36 := (show Hid _ from bt (bt hb4 hb5) hb6); clear hb6)
              | (go_at_call 14; refine (keptRows_core B cB (k + m) c3 p3 ρ κ L μ M1 w6 hr hL (Lns.below HLN.out (bt HB3.out HB36.out)) (NmE.below HN3.out HB36.out)).mono ?_; rintro e w7 ⟨rfl, hb7⟩)
              | (go_at_call 15; refine (turned_core B cB (k + m) w1.heap.size ρ κ L μ M1 w7 hr hL hρ (Lns.below HLN.out (bt (bt HB3.out HB36.out) hb7))).mono ?_; rintro e w8 ⟨M2, rfl, hL8, hb8⟩; have HL8 := (show Hid _ from hL8); clear hL8))
            go_roundw
            case rel => exact ⟨t + 1, M2, by omega, by go_num, HL8, (bt (bt (bt HBr.out HB3.out) HB36.out) hb7).trans hb8⟩
            case measure => simp [intOf]; omega
          · obtain rfl : t = 2 := by omega
            go_wp2
            go_ret
            exact ⟨rfl, bt HX1.out hb⟩
      · obtain ⟨n, hn0⟩ : ∃ n, L (pk L (k + m) 0) = n := ⟨_, rfl⟩
        have HN0 : Hid (L (pk L (k + m) 0) = n) := hn0
        have hn : n ≤ 140737488355328 := by rw [← hn0]; have := hL.out (pk L (k + m) 0) (pk_mem (L := L) (r := k + m) (t := 0) (by omega)).1; omega
        have HLE : Hid (∀ i, i < k + m → 0 < L i → L i = n) := fun i hi hp => by
          obtain ⟨t, ht, e⟩ := thr_pk hi hp
          rw [← e, HEV.out t ht, HN0.out]
        clear hn0
        go_loopw [6] (fun i wr => ∃ (t : Nat) (M' : Nat → Nat → BitVec 8), t ≤ 2 ∧ i = .int .i64 t ∧ Hid (Lns wr B cB (k + m) ρ κ L μ M') ∧ Below w1.heap.size w1 wr) (fun i _ => 2 - (intOf i).toNat)
        case atStart => exact ⟨0, M0, by omega, rfl, HLN, HB12.out⟩
        case round =>
          clear HLN HB12
          obtain ⟨t, M1, ht, rfl, HLN, hb⟩ := hrel
          by_cases hlt : t < 2
          · have j1 : (t : Int) < 2 := by omega
            have HBr := (show Hid _ from hb)
            have HNr := (show Hid _ from Lns.nm HLN.out)
            have CP := (show Hid _ from copied_big (some ⟨B, 0, none⟩) (k + m) cB L M1 wr hr (fun i hi => Nat.le_trans (hL.out i hi) (by omega)) HNr)
            clear hb
            go_wp2_with (first
              | (go_at_call 10; refine CP.out.mono ?_; rintro e w3 ⟨v3, rfl, hM3, hb3⟩; have HN3 := (show Hid _ from Bm.nm hM3); obtain ⟨p3, c3, e3⟩ := nmE_form HN3.out; subst e3; have HB3 := (show Hid _ from hb3); have q03 := cell_below q01.out (bt HBr.out hb3); have q13 := cell_below q11.out (bt HBr.out hb3); clear hM3 CP hb3)
              | (go_at_call 11; refine (refRebuild_ok p3 k m c3 n L M1 w3 hk1 hkm hn HN3 HEV.out HN0.out hfew).mono ?_; rintro e w4 ⟨v4, rfl, hN4, hb4⟩; have HN4 := (show Hid _ from hN4); obtain ⟨p4, c4, e4⟩ := nmE_form hN4; subst e4; clear hN4; clear q03 q13)
              | (go_at_call 12; refine (rebuild_core hk1 hm1 hkm hn (Cd.below HC.out (bt (bt HBr.out HB3.out) hb4)) HF (NmE.below HNr.out (bt HB3.out hb4)) HLE (by omega)).mono ?_; rintro e w5 ⟨v5, Z, rfl, hz, hN5, hb5⟩; have HZ := (show Hid _ from hz); have HN5 := (show Hid _ from hN5); obtain ⟨p5, c5, e5⟩ := nmE_form hN5; subst e5; clear hN5 hz)
              | (go_at_call 13; refine (same_core p5 p4 (k + m) c5 c4 (fun _ => n) _ _ w5 (by omega) HN5 (NmE.below HN4.out hb5) (fun i _ j _ => reb_word HF.out (fun t ht => (by have := (pk_mem (L := L) (r := k + m) (t := t) (by omega)).1; omega)) (fun a ha b hb hne => pk_ne (by omega) (by omega) hne) HZ.out i j)).mono ?_; rintro e w6 ⟨rfl, hb6⟩; have HB36 := (show Hid _ from bt (bt hb4 hb5) hb6); clear hb6)
              | (go_at_call 14; refine (keptRows_core B cB (k + m) c3 p3 ρ κ L μ M1 w6 hr hL (Lns.below HLN.out (bt HB3.out HB36.out)) (NmE.below HN3.out HB36.out)).mono ?_; rintro e w7 ⟨rfl, hb7⟩)
              | (go_at_call 15; refine (turned_core B cB (k + m) w1.heap.size ρ κ L μ M1 w7 hr hL hρ (Lns.below HLN.out (bt (bt HB3.out HB36.out) hb7))).mono ?_; rintro e w8 ⟨M2, rfl, hL8, hb8⟩; have HL8 := (show Hid _ from hL8); clear hL8))
            go_roundw
            case rel => exact ⟨t + 1, M2, by omega, by go_num, HL8, (bt (bt (bt HBr.out HB3.out) HB36.out) hb7).trans hb8⟩
            case measure => simp [intOf]; omega
          · obtain rfl : t = 2 := by omega
            go_wp2
            go_ret
            exact ⟨rfl, bt HX1.out hb⟩
    · have HEV := (show Hid _ from hev)
      clear hev
      go_loopw [6] (fun i wr => ∃ (t : Nat) (M' : Nat → Nat → BitVec 8), t ≤ 2 ∧ i = .int .i64 t ∧ Hid (Lns wr B cB (k + m) ρ κ L μ M') ∧ Below w1.heap.size w1 wr) (fun i _ => 2 - (intOf i).toNat)
      case atStart => exact ⟨0, M0, by omega, rfl, HLN, HB12.out⟩
      case round =>
        clear HLN HB12
        obtain ⟨t, M1, ht, rfl, HLN, hb⟩ := hrel
        by_cases hlt : t < 2
        · have j1 : (t : Int) < 2 := by omega
          have HBr := (show Hid _ from hb)
          have HNr := (show Hid _ from Lns.nm HLN.out)
          have CP := (show Hid _ from copied_big (some ⟨B, 0, none⟩) (k + m) cB L M1 wr hr (fun i hi => Nat.le_trans (hL.out i hi) (by omega)) HNr)
          clear hb
          go_wp2_with (first
            | (go_at_call 10; refine CP.out.mono ?_; rintro e w3 ⟨v3, rfl, hM3, hb3⟩; have HN3 := (show Hid _ from Bm.nm hM3); obtain ⟨p3, c3, e3⟩ := nmE_form HN3.out; subst e3; have HB3 := (show Hid _ from hb3); have q03 := cell_below q01.out (bt HBr.out hb3); have q13 := cell_below q11.out (bt HBr.out hb3); clear hM3 CP hb3)
            | (go_at_call 11; refine (refRebuild_uneven p3 k m c3 L M1 w3 hk1 hkm HN3 HEV.out).mono ?_; rintro e w4 ⟨rfl, hb4⟩; clear q03 q13)
            | (go_at_call 12; refine (rebuild_uneven hk1 hkm (Cd.below HC.out (bt (bt HBr.out HB3.out) hb4)) (NmE.below HNr.out (bt HB3.out hb4)) HEV.out).mono ?_; rintro e w5 ⟨rfl, hb5⟩)
            | (go_at_call 13; refine (same_core none none 0 0 0 (fun _ => 0) (fun _ _ => 0#8) (fun _ _ => 0#8) w5 (by omega) (nm_none w5) (nm_none w5) (fun i hi => by omega)).mono ?_; rintro e w6 ⟨rfl, hb6⟩; have HB36 := (show Hid _ from bt (bt hb4 hb5) hb6); clear hb6)
            | (go_at_call 14; refine (keptRows_core B cB (k + m) c3 p3 ρ κ L μ M1 w6 hr hL (Lns.below HLN.out (bt HB3.out HB36.out)) (NmE.below HN3.out HB36.out)).mono ?_; rintro e w7 ⟨rfl, hb7⟩)
            | (go_at_call 15; refine (turned_core B cB (k + m) w1.heap.size ρ κ L μ M1 w7 hr hL hρ (Lns.below HLN.out (bt (bt HB3.out HB36.out) hb7))).mono ?_; rintro e w8 ⟨M2, rfl, hL8, hb8⟩; have HL8 := (show Hid _ from hL8); clear hL8))
          go_roundw
          case rel => exact ⟨t + 1, M2, by omega, by go_num, HL8, (bt (bt (bt HBr.out HB3.out) HB36.out) hb7).trans hb8⟩
          case measure => simp [intOf]; omega
        · obtain rfl : t = 2 := by omega
          go_wp2
          go_ret
          exact ⟨rfl, bt HX1.out hb⟩
  · have T9 : Hid True := trivial
    go_loopw [6] (fun i wr => ∃ (t : Nat) (M' : Nat → Nat → BitVec 8), t ≤ 2 ∧ i = .int .i64 t ∧ Hid (Lns wr B cB r ρ κ L μ M') ∧ Below w1.heap.size w1 wr) (fun i _ => 2 - (intOf i).toNat)
    case atStart => exact ⟨0, M0, by omega, rfl, HLN, HB12.out⟩
    case round =>
      clear HLN HB12
      obtain ⟨t, M1, ht, rfl, HLN, hb⟩ := hrel
      by_cases hlt : t < 2
      · have j1 : (t : Int) < 2 := by omega
        have HBr := (show Hid _ from hb)
        have HNr := (show Hid _ from Lns.nm HLN.out)
        have CP := (show Hid _ from copied_big (some ⟨B, 0, none⟩) r cB L M1 wr hr (fun i hi => Nat.le_trans (hL.out i hi) (by omega)) HNr)
        clear hb
        go_wp2_with (first
          | (go_at_call 10; refine CP.out.mono ?_; rintro e w3 ⟨v3, rfl, hM3, hb3⟩; have HN3 := (show Hid _ from Bm.nm hM3); obtain ⟨p3, c3, e3⟩ := nmE_form HN3.out; subst e3; have HB3 := (show Hid _ from hb3); have q03 := cell_below q01.out (bt HBr.out hb3); have q13 := cell_below q11.out (bt HBr.out hb3); clear hM3 CP hb3)
          | (go_at_call 11; refine (refRebuild_rows p3 r c3 k m w3 hkm hrk).mono ?_; rintro e w' ⟨rfl, h⟩; obtain rfl := h.symm; clear q03 q13)
          | (go_at_call 12; refine (rebuild_rows hk1 (Cd.below HC.out (bt HBr.out HB3.out)) hrk).mono ?_; rintro e w' ⟨rfl, h⟩; obtain rfl := h.symm)
          | (go_at_call 13; refine (same_core none none 0 0 0 (fun _ => 0) (fun _ _ => 0#8) (fun _ _ => 0#8) w3 (by omega) (nm_none w3) (nm_none w3) (fun i hi => by omega)).mono ?_; rintro e w6 ⟨rfl, hb6⟩; have HB36 := (show Hid _ from hb6); clear hb6)
          | (go_at_call 14; refine (keptRows_core B cB r c3 p3 ρ κ L μ M1 w6 hr hL (Lns.below HLN.out (bt HB3.out HB36.out)) (NmE.below HN3.out HB36.out)).mono ?_; rintro e w7 ⟨rfl, hb7⟩)
          | (go_at_call 15; refine (turned_core B cB r w1.heap.size ρ κ L μ M1 w7 hr hL hρ (Lns.below HLN.out (bt (bt HB3.out HB36.out) hb7))).mono ?_; rintro e w8 ⟨M2, rfl, hL8, hb8⟩; have HL8 := (show Hid _ from hL8); clear hL8))
        go_roundw
        case rel => exact ⟨t + 1, M2, by omega, by go_num, HL8, (bt (bt (bt HBr.out HB3.out) HB36.out) hb7).trans hb8⟩
        case measure => simp [intOf]; omega
      · obtain rfl : t = 2 := by omega
        go_wp2
        go_ret
        exact ⟨rfl, bt HX1.out hb⟩
end
section
attribute [local irreducible] Calls
set_option maxHeartbeats 4000000 in
set_option maxRecDepth 1000000 in
theorem codeRebuilds_no (K M : Int) (vR : Value) (At : Int) (vD : Value) (w : World) (h : ¬ Shp K M) (HM : Hid (1 ≤ M → wrap64 (255 - M) = 255 - M)) :
    Calls Try.prog 3 #[.agg #[.int .i64 K, .int .i64 M, vR, .int .i64 At, vD]] w fun e w' => e = .returned (.bool true) ∧ Below w.heap.size w w' := by
  have MN := (show Hid _ from fun w => maybe_no K M w h)
  have NN := (show Hid _ from fun w => new_no K M w h HM)
  have hb0 : Below w.heap.size w (w.alloc (.cells #[.int .i64 K, .int .i64 M, vR, .int .i64 At, vD] 25)) := (Below.refl _ _).alloc (Nat.le_refl _) _
  have HB0 := (show Hid _ from hb0)
  clear hb0 h HM
  go_enter Try.func3, Try.ntmps3
  go_wp2_with (first
    | (go_at_call 7; refine (NN.out _).mono ?_; rintro e w' ⟨rfl, h⟩; obtain rfl := h.symm)
    | (go_at_call 8; refine (MN.out _).mono ?_; rintro e w' ⟨rfl, h⟩; obtain rfl := h.symm))
  go_ret
  exact ⟨rfl, HB0.out⟩
end
theorem codeRebuilds_walk (K M : Int) (pR : Option Addr) (r cR : Nat) (L : Nat → Nat) (M0 : Nat → Nat → BitVec 8) (At : Int) (vD : Value) (w : World) (hr : r ≤ 5864062014634) (hL : ∀ i, i < r → L i ≤ 140737488355200) (HW : Hid (1 ≤ M → wrap64 (255 - M) = 255 - M)) (hR : NmE w (.slice pR r cR) r L M0) :
    Calls Try.prog 3 #[.agg #[.int .i64 K, .int .i64 M, .slice pR r cR, .int .i64 At, vD]] w fun e w' => e = .returned (.bool true) ∧ Below w.heap.size w w' := by
  by_cases h : Shp K M
  · obtain ⟨h1, h2, h3⟩ := h
    obtain ⟨k, rfl⟩ : ∃ k : Nat, K = (k : Int) := ⟨K.toNat, by omega⟩
    obtain ⟨m, rfl⟩ : ∃ m : Nat, M = (m : Int) := ⟨M.toNat, by omega⟩
    exact codeRebuilds_yes k m pR r cR L M0 At vD w (by omega) (by omega) (by omega) hr hL hR
  · exact codeRebuilds_no K M (.slice pR r cR) At vD w h HW
end Go.Proofs.Ytienknoahjhopaa
