/-
  CodeTurns: the walk.
-/
import Derived.Test.YtienknoahjhopaaRte
namespace Go.Proofs.Ytienknoahjhopaa
open Go.RowKit
section
attribute [local irreducible] Calls NmE NrE Cd Fac Bm Lnt Lm el tur Br
set_option maxHeartbeats 64000000 in
set_option maxRecDepth 1000000 in
theorem codeTurns_refuse (k m : Nat) (pR pD : Option Addr) (r cR nD cD : Nat) (L : Nat → Nat) (M0 : Nat → Nat → BitVec 8) (At x : Int) (D0 : Nat → BitVec 8) (w : World) (hm1 : 1 ≤ m) (hmk : m ≤ k) (hkm : k + m ≤ 255) (hr : r ≤ 5864062014634) (hnD : nD ≤ 140737488355200) (hL : Hid (∀ i, i < r → L i ≤ 140737488355200)) (hR : NmE w (.slice pR r cR) r L M0) (hD : NrE w (.slice pD nD cD) nD D0) (_e9 : (x != x) = false) (HREF : Hid (∀ (p : Option Addr) (c : Nat) (pd : Option Addr) (cd : Nat) (w : World) (M : Nat → Nat → BitVec 8) (X : Nat → BitVec 8), NmE w (.slice p r c) r L M → NrE w (.slice pd nD cd) nD X → Calls Try.prog 19 #[.int .i64 (k : Int), .int .i64 (m : Int), .slice p r c, .int .i64 At, .slice pd nD cd] w fun e w' => e = .returned (.tuple #[.slice none 0 0, .int .i64 x]) ∧ w' = w)) (HPRG : Hid (∀ (v : Value) (p : Option Addr) (c : Nat) (pd : Option Addr) (cd : Nat) (F : Nat → Nat → BitVec 8) (w : World) (M : Nat → Nat → BitVec 8) (X : Nat → BitVec 8), Cd w v k m F → NmE w (.slice p r c) r L M → NrE w (.slice pd nD cd) nD X → Calls Try.prog 20 #[v, .slice p r c, .int .i64 At, .slice pd nD cd] w fun e w' => e = .returned (.tuple #[.slice none 0 0, .int .i64 x]) ∧ w' = w)) :
    Calls Try.prog 5 #[.agg #[.int .i64 (k : Int), .int .i64 (m : Int), .slice pR r cR, .int .i64 At, .slice pD nD cD]] w fun e w' => e = .returned (.bool true) ∧ Below w.heap.size w w' := by
  have hk1 : 1 ≤ k := by omega
  have MY := (show Hid _ from fun w => maybe_yes (k : Int) (m : Int) w (by unfold Shp; omega))
  have hb0 : Below w.heap.size w (w.alloc (.cells #[.int .i64 (k : Int), .int .i64 (m : Int), .slice pR r cR, .int .i64 At, .slice pD nD cD] 25)) := (Below.refl _ _).alloc (Nat.le_refl _) _
  have q0 := ask_cell w #[.int .i64 (k : Int), .int .i64 (m : Int), .slice pR r cR, .int .i64 At, .slice pD nD cD] 25 0 (.int .i64 (k : Int)) rfl
  have q1 := ask_cell w #[.int .i64 (k : Int), .int .i64 (m : Int), .slice pR r cR, .int .i64 At, .slice pD nD cD] 25 1 (.int .i64 (m : Int)) rfl
  have q2 := ask_cell w #[.int .i64 (k : Int), .int .i64 (m : Int), .slice pR r cR, .int .i64 At, .slice pD nD cD] 25 2 (.slice pR r cR) rfl
  have q3 := ask_cell w #[.int .i64 (k : Int), .int .i64 (m : Int), .slice pR r cR, .int .i64 At, .slice pD nD cD] 25 3 (.int .i64 At) rfl
  have q4 := ask_cell w #[.int .i64 (k : Int), .int .i64 (m : Int), .slice pR r cR, .int .i64 At, .slice pD nD cD] 25 4 (.slice pD nD cD) rfl
  obtain ⟨W, hW⟩ : ∃ W, W = w.alloc (.cells #[.int .i64 (k : Int), .int .i64 (m : Int), .slice pR r cR, .int .i64 At, .slice pD nD cD] 25) := ⟨_, rfl⟩
  rw [← hW] at hb0 q0 q1 q2 q3 q4
  have HW : Hid (w.alloc (.cells #[.int .i64 (k : Int), .int .i64 (m : Int), .slice pR r cR, .int .i64 At, .slice pD nD cD] 25) = W) := hW.symm
  have HR0 := (show Hid _ from NmE.below hR hb0)
  have HD0 := (show Hid _ from NrE.below hD hb0)
  have HB0 := (show Hid _ from hb0)
  clear hW hR hD hb0
  go_enter Try.func5, Try.ntmps5
  go_wp2_with (first
    | (go_at_call 7; rw [HW.out]; refine (new_ok k m hm1 hmk hkm W).mono ?_; rintro e w1 ⟨v1, F, rfl, hC1, hF1, hb1⟩; have HC := (show Hid _ from hC1); have HF := (show Hid _ from hF1); obtain ⟨cb, _, _, ev, _⟩ := cd_open hC1; subst ev; have q01 := (show Hid _ from cell_below q0 hb1); have q11 := (show Hid _ from cell_below q1 hb1); have q31 := (show Hid _ from cell_below q3 hb1); have q0x := cell_below q0 hb1; have q1x := cell_below q1 hb1; have q21 := cell_below q2 hb1; have q41 := (show Hid _ from cell_below q4 hb1); have HX1 := (show Hid _ from bt HB0.out hb1); have HR1 := (show Hid _ from NmE.below HR0.out hb1); have HD1 := (show Hid _ from NrE.below HD0.out hb1); clear hC1 hF1 q0 q1 q2 q3 q4 hb1)
    | (go_at_call 8; refine (MY.out _).mono ?_; rintro e w' ⟨rfl, h⟩; obtain rfl := h.symm)
    | (go_at_call 9; refine (lentRows_core pR r cR L M0 w1 (by omega) hL HR1).mono ?_; rintro e w2 ⟨B, cB, ρ, κ, μ, rfl, hLn2, _, hρ2, hb2⟩; have HLN2 := (show Hid _ from hLn2); have hρ := (show Hid _ from hρ2); have HB2 := (show Hid _ from hb2); have q42 := cell_below q41.out hb2; clear hLn2 hρ2 hb2 q0x q1x q21)
    | (go_at_call 18; refine (lent_core pD nD cD D0 w2 hnD (NrE.below HD1.out HB2.out)).mono ?_; rintro e wd ⟨gd, capd, rfl, hgd, hLd, hbd⟩; have HGD := (show Hid _ from hgd); have HLD := (show Hid _ from hLd); have HBD := (show Hid _ from hbd); clear hgd hLd hbd q42))
  have HLN := (show Hid _ from Lns.below HLN2.out HBD.out)
  have HB12 := (show Hid _ from bt HB2.out HBD.out)
  have HG1 : Hid (∀ i, i < r → ρ i ≠ gd) := fun i hi => by have h1 := lnt_lt (Lns.row HLN2.out i hi); have h2 := HGD.out; omega
  have HG2 : Hid (∀ j, j < 64 → μ j ≠ gd) := fun j hj => by have h1 := block_lt_of_cell (Lns.mar HLN2.out j hj); have h2 := HGD.out; simp at h1; omega
  have hgw : w1.heap.size ≤ gd := Nat.le_trans HB2.out.size HGD.out
  clear HW HR0 HR1 HB0 MY HLN2 HB2 HBD HGD HD0 HD1 q41
  go_loopw [7] (fun i wr => ∃ (t : Nat) (M' : Nat → Nat → BitVec 8) (X' : Nat → BitVec 8), t ≤ 2 ∧ i = .int .i64 t ∧ Hid (Lns wr B cB r ρ κ L μ M') ∧ Hid (Lnt wr gd nD capd X') ∧ Below w1.heap.size w1 wr) (fun i _ => 2 - (intOf i).toNat)
  case atStart => exact ⟨0, M0, D0, by omega, rfl, HLN, HLD, HB12.out⟩
  case round =>
    clear HLN HB12 HLD
    obtain ⟨t, M1, X1, ht, rfl, HLN, HLD, hb⟩ := hrel
    by_cases hlt : t < 2
    · have j1 : (t : Int) < 2 := by omega
      have HBr := (show Hid _ from hb)
      have HNr := (show Hid _ from Lns.nm HLN.out)
      have HDr := (show Hid _ from Lnt.nr HLD.out)
      have CP := (show Hid _ from copied_big (some ⟨B, 0, none⟩) r cB L M1 wr (by omega) (fun i hi => Nat.le_trans (hL.out i hi) (by omega)) HNr)
      clear hb
      go_wp2_with (first
        | (go_at_call 10; refine CP.out.mono ?_; rintro e w3 ⟨v3, rfl, hM3, hb3⟩; have HN3 := (show Hid _ from Bm.nm hM3); obtain ⟨p3, c3, e3⟩ := nmE_form HN3.out; subst e3; have HB3 := (show Hid _ from hb3); have HD3 := (show Hid _ from NrE.below HDr.out hb3); clear hM3 CP hb3)
        | (at_builtin; refine wpList_clone_b rfl _ _ rfl rfl _ nD X1 rfl HD3.out (by omega) ?_; intro v4 w4 hI4 hb4; have HN4 := (show Hid _ from Br.nr hI4); obtain ⟨p4, c4, e4⟩ := hI4.form; subst e4; have HB4 := (show Hid _ from bt HB3.out hb4); have HN34 := (show Hid _ from NmE.below HN3.out hb4); have q04 := cell_below q01.out (bt HBr.out (bt HB3.out hb4)); have q14 := cell_below q11.out (bt HBr.out (bt HB3.out hb4)); have q34 := cell_below q31.out (bt HBr.out (bt HB3.out hb4)); clear hI4 hb4 HN3 HD3 HB3)
        | (go_at_call 19; refine (HREF.out p3 c3 p4 c4 w4 M1 X1 HN34.out HN4.out).mono ?_; rintro e w' ⟨rfl, h⟩; obtain rfl := h.symm)
        | (go_at_call 20; refine (HPRG.out _ (some ⟨B, 0, none⟩) cB (some ⟨gd, 0, none⟩) capd F w4 M1 X1 (Cd.below HC.out (bt HBr.out HB4.out)) (NmE.below HNr.out HB4.out) (NrE.below HDr.out HB4.out)).mono ?_; rintro e w' ⟨rfl, h⟩; obtain rfl := h.symm; clear q04 q14 q34)
        | (go_at_call 13; refine (same_core none none 0 0 0 (fun _ => 0) (fun _ _ => 0#8) (fun _ _ => 0#8) w4 (by omega) (nm_none w4) (nm_none w4) (fun i hi => by omega)).mono ?_; rintro e w7 ⟨rfl, hb7⟩; have HB7 := (show Hid _ from hb7); clear hb7)
        | (go_at_call 14; refine (keptRows_core B cB r c3 p3 ρ κ L μ M1 w7 (by omega) hL (Lns.below HLN.out (bt HB4.out HB7.out)) (NmE.below HN34.out HB7.out)).mono ?_; rintro e w8 ⟨rfl, hb8⟩; have HB8 := (show Hid _ from bt (bt HB4.out HB7.out) hb8); have HN48 := (show Hid _ from NrE.below HN4.out (bt HB7.out hb8)); clear hb8)
        | (go_at_call 21; refine (unmarked_core gd nD capd c4 p4 X1 w8 hnD (lnt_cap HLD.out) (Lnt.below HLD.out HB8.out) HN48).mono ?_; rintro e w' ⟨rfl, h⟩; obtain rfl := h.symm)
        | (go_at_call 15; refine (turned_keep B cB r w1.heap.size ρ κ L μ M1 w8 (by omega) hL hρ (Lns.below HLN.out HB8.out)).mono ?_; rintro e w9 ⟨M2, rfl, hL9, hK9, hb9⟩; have HL9 := (show Hid _ from hL9); have HD9 := (show Hid _ from Lnt.kept (Lnt.below HLD.out HB8.out) (hK9 gd (fun i hi e => HG1.out i hi e.symm))); have HB9 : Hid (Below w1.heap.size w1 w9) := (bt HBr.out HB8.out).trans hb9; clear hL9 hK9 hb9))
      clear HN34 HN4 HN48 HB4 HB7 HB8 HNr HDr HLN HLD HBr
      go_loopw [14] (fun i wr => ∃ (j : Nat) (X' : Nat → BitVec 8), j ≤ nD ∧ i = .int .i64 j ∧ Hid (Lns wr B cB r ρ κ L μ M2) ∧ Hid (Lnt wr gd nD capd X') ∧ Below w1.heap.size w1 wr) (fun i _ => nD - (intOf i).toNat)
      case atStart => exact ⟨0, X1, Nat.zero_le _, rfl, HL9, HD9, HB9.out⟩
      case round =>
        clear HL9 HD9 HB9
        obtain ⟨j, X2, hj, rfl, HLN, HLD, hb⟩ := hrel
        by_cases hjn : j < nD
        · have j2 : (j : Int) < (nD : Int) := by omega
          have g2 := Lnt.byte HLD.out hjn
          have g3 := Lnt.fro HLD.out j
          have HBs := (show Hid _ from hb)
          obtain ⟨x, hx⟩ : ∃ x, el (X2 j) = x := ⟨_, rfl⟩
          have hxb := el_bd (X2 j)
          rw [hx] at hxb g2
          obtain ⟨hx1, hx2⟩ := hxb
          obtain ⟨y, hy⟩ := u8_some ((x + 9) % 256) (by omega) (by omega)
          have HY : Hid ((x + 9) % 256 = el y) := hy.symm
          clear hx hb hy
          go_wp2
          go_roundw
          case rel =>
            rw [HY.out]
            exact ⟨j + 1, _, by omega, by go_num, Lns.apart HLN.out HLD.out HG1.out HG2.out (by rfl), Lnt.put HLD.out hjn y (by rfl), HBs.out.setCell hgw _⟩
          case measure => simp [intOf]; omega
        · obtain rfl : nD = j := by omega
          go_wp2
          go_roundw
          case rel => exact ⟨t + 1, M2, X2, by omega, by go_num, HLN, HLD, hb⟩
          case measure => simp [intOf]; omega
    · obtain rfl : t = 2 := by omega
      go_wp2
      go_ret
      exact ⟨rfl, bt HX1.out hb⟩
set_option maxHeartbeats 64000000 in
set_option maxRecDepth 1000000 in
theorem codeTurns_ok (k m : Nat) (pR pD : Option Addr) (a cR nD cD : Nat) (L : Nat → Nat) (M0 : Nat → Nat → BitVec 8) (D0 : Nat → BitVec 8) (w : World) (hm1 : 1 ≤ m) (hmk : m ≤ k) (hkm : k + m ≤ 255) (hnD : nD ≤ 140737488355200) (hL : Hid (∀ i, i < k + m → L i ≤ 140737488355200)) (hR : NmE w (.slice pR (k + m) cR) (k + m) L M0) (hD : NrE w (.slice pD nD cD) nD D0) (ha : a < k) (HEV : Hid (∀ i, i < k + m → L i = nD)) :
    Calls Try.prog 5 #[.agg #[.int .i64 (k : Int), .int .i64 (m : Int), .slice pR (k + m) cR, .int .i64 (a : Int), .slice pD nD cD]] w fun e w' => e = .returned (.bool true) ∧ Below w.heap.size w w' := by
  have hk1 : 1 ≤ k := by omega
  have MY := (show Hid _ from fun w => maybe_yes (k : Int) (m : Int) w (by unfold Shp; omega))
  have hb0 : Below w.heap.size w (w.alloc (.cells #[.int .i64 (k : Int), .int .i64 (m : Int), .slice pR (k + m) cR, .int .i64 (a : Int), .slice pD nD cD] 25)) := (Below.refl _ _).alloc (Nat.le_refl _) _
  have q0 := ask_cell w #[.int .i64 (k : Int), .int .i64 (m : Int), .slice pR (k + m) cR, .int .i64 (a : Int), .slice pD nD cD] 25 0 (.int .i64 (k : Int)) rfl
  have q1 := ask_cell w #[.int .i64 (k : Int), .int .i64 (m : Int), .slice pR (k + m) cR, .int .i64 (a : Int), .slice pD nD cD] 25 1 (.int .i64 (m : Int)) rfl
  have q2 := ask_cell w #[.int .i64 (k : Int), .int .i64 (m : Int), .slice pR (k + m) cR, .int .i64 (a : Int), .slice pD nD cD] 25 2 (.slice pR (k + m) cR) rfl
  have q3 := ask_cell w #[.int .i64 (k : Int), .int .i64 (m : Int), .slice pR (k + m) cR, .int .i64 (a : Int), .slice pD nD cD] 25 3 (.int .i64 (a : Int)) rfl
  have q4 := ask_cell w #[.int .i64 (k : Int), .int .i64 (m : Int), .slice pR (k + m) cR, .int .i64 (a : Int), .slice pD nD cD] 25 4 (.slice pD nD cD) rfl
  obtain ⟨W, hW⟩ : ∃ W, W = w.alloc (.cells #[.int .i64 (k : Int), .int .i64 (m : Int), .slice pR (k + m) cR, .int .i64 (a : Int), .slice pD nD cD] 25) := ⟨_, rfl⟩
  rw [← hW] at hb0 q0 q1 q2 q3 q4
  have HW : Hid (w.alloc (.cells #[.int .i64 (k : Int), .int .i64 (m : Int), .slice pR (k + m) cR, .int .i64 (a : Int), .slice pD nD cD] 25) = W) := hW.symm
  have HR0 := (show Hid _ from NmE.below hR hb0)
  have HD0 := (show Hid _ from NrE.below hD hb0)
  have HB0 := (show Hid _ from hb0)
  clear hW hR hD hb0
  go_enter Try.func5, Try.ntmps5
  go_wp2_with (first
    | (go_at_call 7; rw [HW.out]; refine (new_ok k m hm1 hmk hkm W).mono ?_; rintro e w1 ⟨v1, F, rfl, hC1, hF1, hb1⟩; have HC := (show Hid _ from hC1); have HF := (show Hid _ from hF1); obtain ⟨cb, _, _, ev, _⟩ := cd_open hC1; subst ev; have q01 := (show Hid _ from cell_below q0 hb1); have q11 := (show Hid _ from cell_below q1 hb1); have q31 := (show Hid _ from cell_below q3 hb1); have q0x := cell_below q0 hb1; have q1x := cell_below q1 hb1; have q21 := cell_below q2 hb1; have q41 := (show Hid _ from cell_below q4 hb1); have HX1 := (show Hid _ from bt HB0.out hb1); have HR1 := (show Hid _ from NmE.below HR0.out hb1); have HD1 := (show Hid _ from NrE.below HD0.out hb1); clear hC1 hF1 q0 q1 q2 q3 q4 hb1)
    | (go_at_call 8; refine (MY.out _).mono ?_; rintro e w' ⟨rfl, h⟩; obtain rfl := h.symm)
    | (go_at_call 9; refine (lentRows_core pR (k + m) cR L M0 w1 (by omega) hL HR1).mono ?_; rintro e w2 ⟨B, cB, ρ, κ, μ, rfl, hLn2, _, hρ2, hb2⟩; have HLN2 := (show Hid _ from hLn2); have hρ := (show Hid _ from hρ2); have HB2 := (show Hid _ from hb2); have q42 := cell_below q41.out hb2; clear hLn2 hρ2 hb2 q0x q1x q21)
    | (go_at_call 18; refine (lent_core pD nD cD D0 w2 hnD (NrE.below HD1.out HB2.out)).mono ?_; rintro e wd ⟨gd, capd, rfl, hgd, hLd, hbd⟩; have HGD := (show Hid _ from hgd); have HLD := (show Hid _ from hLd); have HBD := (show Hid _ from hbd); clear hgd hLd hbd q42))
  have HLN := (show Hid _ from Lns.below HLN2.out HBD.out)
  have HB12 := (show Hid _ from bt HB2.out HBD.out)
  have HG1 : Hid (∀ i, i < (k + m) → ρ i ≠ gd) := fun i hi => by have h1 := lnt_lt (Lns.row HLN2.out i hi); have h2 := HGD.out; omega
  have HG2 : Hid (∀ j, j < 64 → μ j ≠ gd) := fun j hj => by have h1 := block_lt_of_cell (Lns.mar HLN2.out j hj); have h2 := HGD.out; simp at h1; omega
  have hgw : w1.heap.size ≤ gd := Nat.le_trans HB2.out.size HGD.out
  clear HW HR0 HR1 HB0 MY HLN2 HB2 HBD HGD HD0 HD1 q41
  go_loopw [7] (fun i wr => ∃ (t : Nat) (M' : Nat → Nat → BitVec 8) (X' : Nat → BitVec 8), t ≤ 2 ∧ i = .int .i64 t ∧ Hid (Lns wr B cB (k + m) ρ κ L μ M') ∧ Hid (Lnt wr gd nD capd X') ∧ Below w1.heap.size w1 wr) (fun i _ => 2 - (intOf i).toNat)
  case atStart => exact ⟨0, M0, D0, by omega, rfl, HLN, HLD, HB12.out⟩
  case round =>
    clear HLN HB12 HLD
    obtain ⟨t, M1, X1, ht, rfl, HLN, HLD, hb⟩ := hrel
    by_cases hlt : t < 2
    · have j1 : (t : Int) < 2 := by omega
      have HBr := (show Hid _ from hb)
      have HNr := (show Hid _ from Lns.nm HLN.out)
      have HDr := (show Hid _ from Lnt.nr HLD.out)
      have CP := (show Hid _ from copied_big (some ⟨B, 0, none⟩) (k + m) cB L M1 wr (by omega) (fun i hi => Nat.le_trans (hL.out i hi) (by omega)) HNr)
      clear hb
      go_wp2_with (first
        | (go_at_call 10; refine CP.out.mono ?_; rintro e w3 ⟨v3, rfl, hM3, hb3⟩; have HN3 := (show Hid _ from Bm.nm hM3); obtain ⟨p3, c3, e3⟩ := nmE_form HN3.out; subst e3; have HB3 := (show Hid _ from hb3); have HD3 := (show Hid _ from NrE.below HDr.out hb3); clear hM3 CP hb3)
        | (at_builtin; refine wpList_clone_b rfl _ _ rfl rfl _ nD X1 rfl HD3.out (by omega) ?_; intro v4 w4 hI4 hb4; have HN4 := (show Hid _ from Br.nr hI4); obtain ⟨p4, c4, e4⟩ := hI4.form; subst e4; have HB4 := (show Hid _ from bt HB3.out hb4); have HN34 := (show Hid _ from NmE.below HN3.out hb4); have q04 := cell_below q01.out (bt HBr.out (bt HB3.out hb4)); have q14 := cell_below q11.out (bt HBr.out (bt HB3.out hb4)); have q34 := cell_below q31.out (bt HBr.out (bt HB3.out hb4)); clear hI4 hb4 HN3 HD3 HB3)
        | (go_at_call 19; refine (refTurn_ok p3 p4 k m nD a c3 c4 F M1 X1 w4 hk1 hkm (by omega) ha HF (nm_len HN34.out HEV.out) HN4).mono ?_; rintro e w5 ⟨v5, rfl, hN5, hb5⟩; have HN5 := (show Hid _ from hN5); obtain ⟨p5, c5, e5⟩ := nmE_form hN5; subst e5; have HB5 := (show Hid _ from hb5); have q35 := cell_below q34 hb5; clear hN5 hb5 q04 q14 q34)
        | (go_at_call 20; refine (turn_core hk1 hm1 hkm (by omega) ha (Cd.below HC.out (bt HBr.out (bt HB4.out HB5.out))) (nm_len (NmE.below HNr.out (bt HB4.out HB5.out)) HEV.out) (NrE.below HDr.out (bt HB4.out HB5.out))).mono ?_; rintro e w6 ⟨v6, rfl, hN6, hb6⟩; have HN6 := (show Hid _ from hN6); obtain ⟨p6, c6, e6⟩ := nmE_form hN6; subst e6; have HB6 := (show Hid _ from hb6); clear hN6 hb6 q35)
        | (go_at_call 13; refine (same_core p6 p5 (k + m) c6 c5 (fun _ => nD) _ _ w6 (by omega) HN6 (NmE.below HN5.out HB6.out) (fun i _ j _ => rfl)).mono ?_; rintro e w7 ⟨rfl, hb7⟩; have HB7 := (show Hid _ from bt (bt HB5.out HB6.out) hb7); clear hb7)
        | (go_at_call 14; refine (keptRows_core B cB (k + m) c3 p3 ρ κ L μ M1 w7 (by omega) hL (Lns.below HLN.out (bt HB4.out HB7.out)) (NmE.below HN34.out HB7.out)).mono ?_; rintro e w8 ⟨rfl, hb8⟩; have HB8 := (show Hid _ from bt (bt HB4.out HB7.out) hb8); have HN48 := (show Hid _ from NrE.below HN4.out (bt HB7.out hb8)); clear hb8)
        | (go_at_call 21; refine (unmarked_core gd nD capd c4 p4 X1 w8 hnD (lnt_cap HLD.out) (Lnt.below HLD.out HB8.out) HN48).mono ?_; rintro e w' ⟨rfl, h⟩; obtain rfl := h.symm)
        | (go_at_call 15; refine (turned_keep B cB (k + m) w1.heap.size ρ κ L μ M1 w8 (by omega) hL hρ (Lns.below HLN.out HB8.out)).mono ?_; rintro e w9 ⟨M2, rfl, hL9, hK9, hb9⟩; have HL9 := (show Hid _ from hL9); have HD9 := (show Hid _ from Lnt.kept (Lnt.below HLD.out HB8.out) (hK9 gd (fun i hi e => HG1.out i hi e.symm))); have HB9 : Hid (Below w1.heap.size w1 w9) := (bt HBr.out HB8.out).trans hb9; clear hL9 hK9 hb9))
      clear HN34 HN4 HN48 HB4 HB7 HB8 HNr HDr HLN HLD HBr HN5 HN6 HB5 HB6
      go_loopw [14] (fun i wr => ∃ (j : Nat) (X' : Nat → BitVec 8), j ≤ nD ∧ i = .int .i64 j ∧ Hid (Lns wr B cB (k + m) ρ κ L μ M2) ∧ Hid (Lnt wr gd nD capd X') ∧ Below w1.heap.size w1 wr) (fun i _ => nD - (intOf i).toNat)
      case atStart => exact ⟨0, X1, Nat.zero_le _, rfl, HL9, HD9, HB9.out⟩
      case round =>
        clear HL9 HD9 HB9
        obtain ⟨j, X2, hj, rfl, HLN, HLD, hb⟩ := hrel
        by_cases hjn : j < nD
        · have j2 : (j : Int) < (nD : Int) := by omega
          have g2 := Lnt.byte HLD.out hjn
          have g3 := Lnt.fro HLD.out j
          have HBs := (show Hid _ from hb)
          obtain ⟨x, hx⟩ : ∃ x, el (X2 j) = x := ⟨_, rfl⟩
          have hxb := el_bd (X2 j)
          rw [hx] at hxb g2
          obtain ⟨hx1, hx2⟩ := hxb
          obtain ⟨y, hy⟩ := u8_some ((x + 9) % 256) (by omega) (by omega)
          have HY : Hid ((x + 9) % 256 = el y) := hy.symm
          clear hx hb hy
          go_wp2
          go_roundw
          case rel =>
            rw [HY.out]
            exact ⟨j + 1, _, by omega, by go_num, Lns.apart HLN.out HLD.out HG1.out HG2.out (by rfl), Lnt.put HLD.out hjn y (by rfl), HBs.out.setCell hgw _⟩
          case measure => simp [intOf]; omega
        · obtain rfl : nD = j := by omega
          go_wp2
          go_roundw
          case rel => exact ⟨t + 1, M2, X2, by omega, by go_num, HLN, HLD, hb⟩
          case measure => simp [intOf]; omega
    · obtain rfl : t = 2 := by omega
      go_wp2
      go_ret
      exact ⟨rfl, bt HX1.out hb⟩
end
section
attribute [local irreducible] Calls
set_option maxHeartbeats 4000000 in
set_option maxRecDepth 1000000 in
theorem codeTurns_no (K M : Int) (vR : Value) (At : Int) (vD : Value) (w : World) (h : ¬ Shp K M) (HM : Hid (1 ≤ M → wrap64 (255 - M) = 255 - M)) :
    Calls Try.prog 5 #[.agg #[.int .i64 K, .int .i64 M, vR, .int .i64 At, vD]] w fun e w' => e = .returned (.bool true) ∧ Below w.heap.size w w' := by
  have MN := (show Hid _ from fun w => maybe_no K M w h)
  have NN := (show Hid _ from fun w => new_no K M w h HM)
  have hb0 : Below w.heap.size w (w.alloc (.cells #[.int .i64 K, .int .i64 M, vR, .int .i64 At, vD] 25)) := (Below.refl _ _).alloc (Nat.le_refl _) _
  have HB0 := (show Hid _ from hb0)
  clear hb0 h HM
  go_enter Try.func5, Try.ntmps5
  go_wp2_with (first
    | (go_at_call 7; refine (NN.out _).mono ?_; rintro e w' ⟨rfl, h⟩; obtain rfl := h.symm)
    | (go_at_call 8; refine (MN.out _).mono ?_; rintro e w' ⟨rfl, h⟩; obtain rfl := h.symm))
  go_ret
  exact ⟨rfl, HB0.out⟩
end
theorem codeTurns_yes (k m : Nat) (pR pD : Option Addr) (r cR nD cD : Nat) (L : Nat → Nat) (M0 : Nat → Nat → BitVec 8) (At : Int) (D0 : Nat → BitVec 8) (w : World) (hm1 : 1 ≤ m) (hmk : m ≤ k) (hkm : k + m ≤ 255) (hr : r ≤ 5864062014634) (hnD : nD ≤ 140737488355200) (hL : Hid (∀ i, i < r → L i ≤ 140737488355200)) (hR : NmE w (.slice pR r cR) r L M0) (hD : NrE w (.slice pD nD cD) nD D0) :
    Calls Try.prog 5 #[.agg #[.int .i64 (k : Int), .int .i64 (m : Int), .slice pR r cR, .int .i64 At, .slice pD nD cD]] w fun e w' => e = .returned (.bool true) ∧ Below w.heap.size w w' := by
  have hk1 : 1 ≤ k := by omega
  by_cases hrk : r = k + m
  · subst hrk
    by_cases hev : ∀ i, i < k + m → L i = L 0
    · have HL : ∀ {w : World} {p : Option Addr} {c : Nat} {M : Nat → Nat → BitVec 8}, NmE w (.slice p (k + m) c) (k + m) L M → Hid (Lm w (.slice p (k + m) c) (k + m) (fun _ => L 0)) := fun h => NmE.lm (nm_len h hev)
      by_cases h0 : At < 0
      · exact codeTurns_refuse k m pR pD (k + m) cR nD cD L M0 At 2 D0 w hm1 hmk hkm hr hnD hL hR hD rfl (fun p c pd cd w M X h1 h2 => refTurn_at1 p k m (L 0) c At _ w hk1 hkm (HL h1) h0) (fun v p c pd cd F w M X h1 h2 h3 => turn_at1 hk1 hkm h1 (HL h2) h0)
      · by_cases hk : (k : Int) ≤ At
        · exact codeTurns_refuse k m pR pD (k + m) cR nD cD L M0 At 2 D0 w hm1 hmk hkm hr hnD hL hR hD rfl (fun p c pd cd w M X h1 h2 => refTurn_at2 p k m (L 0) c At _ w hk1 hkm (HL h1) h0 hk) (fun v p c pd cd F w M X h1 h2 h3 => turn_at2 hk1 hkm h1 (HL h2) h0 hk)
        · obtain ⟨a, rfl⟩ : ∃ a : Nat, At = (a : Int) := ⟨At.toNat, by omega⟩
          have ha : a < k := by omega
          by_cases hn : nD = L 0
          · exact codeTurns_ok k m pR pD a cR nD cD L M0 D0 w hm1 hmk hkm hnD hL hR hD ha (fun i hi => by rw [hev i hi, hn])
          · exact codeTurns_refuse k m pR pD (k + m) cR nD cD L M0 (a : Int) 41 D0 w hm1 hmk hkm hr hnD hL hR hD rfl (fun p c pd cd w M X h1 h2 => refTurn_len p pd k m (L 0) nD c cd a w hk1 hkm ha (HL h1) hn) (fun v p c pd cd F w M X h1 h2 h3 => turn_len hk1 hkm ha h1 (HL h2) hn)
    · exact codeTurns_refuse k m pR pD (k + m) cR nD cD L M0 At 41 D0 w hm1 hmk hkm hr hnD hL hR hD rfl (fun p c pd cd w M X h1 h2 => refTurn_uneven p k m c L At _ w hk1 hkm (NmE.lm h1) hev) (fun v p c pd cd F w M X h1 h2 h3 => turn_err hk1 (.inr rfl) h1 (fault_uneven p (k + m) c L w hkm (NmE.lm h2) hev))
  · exact codeTurns_refuse k m pR pD r cR nD cD L M0 At 40 D0 w hm1 hmk hkm hr hnD hL hR hD rfl (fun p c pd cd w M X h1 h2 => refTurn_rows p r c k m At _ w hkm hrk) (fun v p c pd cd F w M X h1 h2 h3 => turn_err hk1 (.inl rfl) h1 (fault_rows p r c (k + m) w hrk))
theorem codeTurns_walk (K M : Int) (pR : Option Addr) (r cR : Nat) (L : Nat → Nat) (M0 : Nat → Nat → BitVec 8) (At : Int) (pD : Option Addr) (nD cD : Nat) (D0 : Nat → BitVec 8) (w : World) (hr : r ≤ 5864062014634) (hL : ∀ i, i < r → L i ≤ 140737488355200) (hnD : nD ≤ 140737488355200) (HW : Hid (1 ≤ M → wrap64 (255 - M) = 255 - M)) (hR : NmE w (.slice pR r cR) r L M0) (hD : NrE w (.slice pD nD cD) nD D0) :
    Calls Try.prog 5 #[.agg #[.int .i64 K, .int .i64 M, .slice pR r cR, .int .i64 At, .slice pD nD cD]] w fun e w' => e = .returned (.bool true) ∧ Below w.heap.size w w' := by
  by_cases h : Shp K M
  · obtain ⟨h1, h2, h3⟩ := h
    obtain ⟨k, rfl⟩ : ∃ k : Nat, K = (k : Int) := ⟨K.toNat, by omega⟩
    obtain ⟨m, rfl⟩ : ∃ m : Nat, M = (m : Int) := ⟨M.toNat, by omega⟩
    exact codeTurns_yes k m pR pD r cR nD cD L M0 At D0 w (by omega) (by omega) (by omega) hr hnD hL hR hD
  · exact codeTurns_no K M (.slice pR r cR) At (.slice pD nD cD) w h HW
end Go.Proofs.Ytienknoahjhopaa
