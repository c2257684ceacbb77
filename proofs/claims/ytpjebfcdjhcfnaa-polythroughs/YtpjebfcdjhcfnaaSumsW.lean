/-
  PolySums: the walk.
-/
import Derived.Test.YtpjebfcdjhcfnaaRefD
import Derived.Test.YtpjebfcdjhcfnaaLawA
namespace Go.Proofs.Ytpjebfcdjhcfnaa
open Go.RowKit
theorem lent_sl {w : World} {v : Value} {xs : List (BitVec 8)} (h : Sr w v xs) (hn : xs.length ≤ 140737488351232) :
    Calls Try.prog 12 #[v] w fun e w' => ∃ v, e = .returned v ∧ Lent 31 w.heap.size w' v xs ∧ Below w.heap.size w w' := by
  obtain ⟨p, c, rfl, hr⟩ := h
  exact lent_any hr _ c rfl hn
theorem kept_sl {t : TypeId} {B : Nat} {w : World} {v v2 : Value} {xs : List (BitVec 8)} (h1 : Lent t B w v xs) (h2 : Sr w v2 xs) (hm : xs.length ≤ 140737488351232) :
    Calls Try.prog 17 #[v, v2] w fun e w' => e = .returned (.bool true) ∧ Below w.heap.size w w' := by
  obtain ⟨p, c, rfl, hr⟩ := h2
  exact kept_any h1 hr _ c rfl hm
theorem trim_add_le (xs ys : List (BitVec 8)) : (trim (add xs ys)).length ≤ max xs.length ys.length := by
  have := trim_len (add xs ys); rw [add_len] at this; exact this
theorem trim_smul_le (c : BitVec 8) (xs : List (BitVec 8)) : (trim (smul c xs)).length ≤ xs.length := by
  have := trim_len (smul c xs); rw [smul_len] at this; exact this
theorem trim_der_le (xs : List (BitVec 8)) : (trim (der xs)).length ≤ xs.length := by
  have := trim_len (der xs); unfold der at this; rw [ls_len] at this; exact Nat.le_trans this (Nat.sub_le _ _)
theorem trim_mul_le (xs ys : List (BitVec 8)) : (trim (mul xs ys)).length ≤ (trim xs).length + (trim ys).length := by
  by_cases h1 : trim xs = []
  · rw [trim_mul_nil_l h1]; simp
  · by_cases h2 : trim ys = []
    · rw [trim_mul_nil_r h2]; simp
    · rw [trim_mul_len h1 h2]; omega
section
attribute [local irreducible] Calls el gm trim co vs Rs Sl Sr Lent Rd ev add mul smul der
set_option maxHeartbeats 4000000 in
set_option maxRecDepth 1000000 in
theorem polySums_walk {w : World} {va vb : Value} {xs ys : List (BitVec 8)} (hp : Sr w va xs) (hq : Sr w vb ys) (hn : xs.length + ys.length ≤ 140737488351232) (cc : BitVec 8) :
    Calls Try.prog 4 #[va, vb, .int .u8 (el cc)] w fun e w' => e = .returned (.bool true) ∧ Below w.heap.size w w' := by
  have t1 := trim_len xs
  have t2 := trim_len ys
  have t3 := trim_add_le xs ys
  have t4 := trim_smul_le cc xs
  have t5 := trim_der_le xs
  have t6 := trim_mul_le xs ys
  have L1 : Hid (xs.length ≤ 140737488355328) := by show _ ≤ _; omega
  have L2 : Hid (ys.length ≤ 140737488355328) := by show _ ≤ _; omega
  have L3 : Hid (xs.length + ys.length ≤ 140737488355328) := by show _ ≤ _; omega
  have L4 : Hid (xs.length ≤ 140737488351232) := by show _ ≤ _; omega
  have L5 : Hid (ys.length ≤ 140737488351232) := by show _ ≤ _; omega
  have L6 : Hid (xs.length ≤ 281474976710656) := by show _ ≤ _; omega
  have L7 : Hid (ys.length ≤ 281474976710656) := by show _ ≤ _; omega
  have L8 : Hid ((trim (add xs ys)).length ≤ 281474976710656) := by show _ ≤ _; omega
  have L9 : Hid ((trim xs).length + (trim ys).length ≤ 281474976710656) := by show _ ≤ _; omega
  have L10 : Hid ((trim (mul xs ys)).length ≤ 281474976710656) := by show _ ≤ _; omega
  have L11 : Hid ((trim (smul cc xs)).length ≤ 281474976710656) := by show _ ≤ _; omega
  have L12 : Hid ((trim (der xs)).length ≤ 281474976710656) := by show _ ≤ _; omega
  clear t1 t2 t3 t4 t5 t6 hn
  go_enter Try.func4, Try.ntmps4
  go_wp2_with (first
    | (go_at_call 18; refine (refPlus_any hp hq L1.out L2.out).mono ?_; rintro e w1 ⟨s, rfl, hS, hb1⟩; have hp_1 := hp.below hb1; have hq_1 := hq.below hb1)
    | (go_at_call 19; refine (refTimes_any hp_1 hq_1 L3.out).mono ?_; rintro e w2 ⟨m, rfl, hM, hb2⟩; have hp_2 := hp_1.below hb2; clear hp_1; have hq_2 := hq_1.below hb2; clear hq_1; have hS_2 := hS.below hb2)
    | (go_at_call 20; refine (refScale_any hp_2 cc L1.out).mono ?_; rintro e w3 ⟨n, rfl, hN, hb3⟩; have hp_3 := hp_2.below hb3; clear hp_2; have hq_3 := hq_2.below hb3; clear hq_2; have hS_3 := hS_2.below hb3; clear hS_2; have hM_3 := hM.below hb3)
    | (go_at_call 21; refine (refDerive_any hp_3 L1.out).mono ?_; rintro e w4 ⟨d, rfl, hD, hb4⟩; have hp_4 := hp_3.below hb4; clear hp_3; have hq_4 := hq_3.below hb4; clear hq_3; have hS_4 := hS_3.below hb4; clear hS_3; have hM_4 := hM_3.below hb4; clear hM_3; have hN_4 := hN.below hb4)
    | (go_at_call 12; refine (lent_sl hp_4 L4.out).mono ?_; rintro e w5 ⟨x, rfl, hX, hb5⟩; have hp_5 := hp_4.below hb5; clear hp_4; have hq_5 := hq_4.below hb5; clear hq_4; have hS_5 := hS_4.below hb5; clear hS_4; have hM_5 := hM_4.below hb5; clear hM_4; have hN_5 := hN_4.below hb5; clear hN_4; have hD_5 := hD.below hb5)
    | (go_at_call 12; refine (lent_sl hq_5 L5.out).mono ?_; rintro e w6 ⟨y, rfl, hY, hb6⟩; have hp_6 := hp_5.below hb6; clear hp_5; have hq_6 := hq_5.below hb6; clear hq_5; have hS_6 := hS_5.below hb6; clear hS_5; have hM_6 := hM_5.below hb6; clear hM_5; have hN_6 := hN_5.below hb6; clear hN_5; have hD_6 := hD_5.below hb6; clear hD_5; have hX_6 := hX.below hb6)
    | (go_at_call 22; refine (pplus_any hX_6.sl hY.sl L6.out L7.out).mono ?_; rintro e w7 ⟨a1, rfl, hA1, hb7⟩; have hp_7 := hp_6.below hb7; clear hp_6; have hq_7 := hq_6.below hb7; clear hq_6; have hS_7 := hS_6.below hb7; clear hS_6; have hM_7 := hM_6.below hb7; clear hM_6; have hN_7 := hN_6.below hb7; clear hN_6; have hD_7 := hD_6.below hb7; clear hD_6; have hX_7 := hX_6.below hb7; clear hX_6; have hY_7 := hY.below hb7)
    | (go_at_call 14; refine (same_any hA1.sr hS_7.sr L8.out).mono ?_; rintro e w8 ⟨rfl, hb8⟩; have hp_8 := hp_7.below hb8; clear hp_7; have hq_8 := hq_7.below hb8; clear hq_7; have hM_8 := hM_7.below hb8; clear hM_7; have hN_8 := hN_7.below hb8; clear hN_7; have hD_8 := hD_7.below hb8; clear hD_7; have hX_8 := hX_7.below hb8; clear hX_7; have hY_8 := hY_7.below hb8; clear hY_7)
    | (go_at_call 23; refine (ptimes_any hX_8.sl hY_8.sl L9.out L6.out L7.out).mono ?_; rintro e w9 ⟨a2, rfl, hA2, hb9⟩; have hp_9 := hp_8.below hb9; clear hp_8; have hq_9 := hq_8.below hb9; clear hq_8; have hM_9 := hM_8.below hb9; clear hM_8; have hN_9 := hN_8.below hb9; clear hN_8; have hD_9 := hD_8.below hb9; clear hD_8; have hX_9 := hX_8.below hb9; clear hX_8; have hY_9 := hY_8.below hb9; clear hY_8)
    | (go_at_call 14; refine (same_any hA2.sr hM_9.sr L10.out).mono ?_; rintro e w10 ⟨rfl, hb10⟩; have hp_10 := hp_9.below hb10; clear hp_9; have hq_10 := hq_9.below hb10; clear hq_9; have hN_10 := hN_9.below hb10; clear hN_9; have hD_10 := hD_9.below hb10; clear hD_9; have hX_10 := hX_9.below hb10; clear hX_9; have hY_10 := hY_9.below hb10; clear hY_9)
    | (go_at_call 24; refine (pscale_any hX_10.sl cc L6.out).mono ?_; rintro e w11 ⟨a3, rfl, hA3, hb11⟩; have hp_11 := hp_10.below hb11; clear hp_10; have hq_11 := hq_10.below hb11; clear hq_10; have hN_11 := hN_10.below hb11; clear hN_10; have hD_11 := hD_10.below hb11; clear hD_10; have hX_11 := hX_10.below hb11; clear hX_10; have hY_11 := hY_10.below hb11; clear hY_10)
    | (go_at_call 14; refine (same_any hA3.sr hN_11.sr L11.out).mono ?_; rintro e w12 ⟨rfl, hb12⟩; have hp_12 := hp_11.below hb12; clear hp_11; have hq_12 := hq_11.below hb12; clear hq_11; have hD_12 := hD_11.below hb12; clear hD_11; have hX_12 := hX_11.below hb12; clear hX_11; have hY_12 := hY_11.below hb12; clear hY_11)
    | (go_at_call 25; refine (pderive_any hX_12.sl L6.out).mono ?_; rintro e w13 ⟨a4, rfl, hA4, hb13⟩; have hp_13 := hp_12.below hb13; clear hp_12; have hq_13 := hq_12.below hb13; clear hq_12; have hD_13 := hD_12.below hb13; clear hD_12; have hX_13 := hX_12.below hb13; clear hX_12; have hY_13 := hY_12.below hb13; clear hY_12)
    | (go_at_call 14; refine (same_any hA4.sr hD_13.sr L12.out).mono ?_; rintro e w14 ⟨rfl, hb14⟩; have hp_14 := hp_13.below hb14; clear hp_13; have hq_14 := hq_13.below hb14; clear hq_13; have hX_14 := hX_13.below hb14; clear hX_13; have hY_14 := hY_13.below hb14; clear hY_13)
    | (go_at_call 17; refine (kept_sl hX_14 hp_14 L4.out).mono ?_; rintro e w15 ⟨rfl, hb15⟩; have hp_15 := hp_14.below hb15; clear hp_14; have hq_15 := hq_14.below hb15; clear hq_14; have hY_15 := hY_14.below hb15; clear hY_14)
    | (go_at_call 17; refine (kept_sl hY_15 hq_15 L5.out).mono ?_; rintro e w16 ⟨rfl, hb16⟩; have hp_16 := hp_15.below hb16; clear hp_15; have hq_16 := hq_15.below hb16; clear hq_15))
  go_ret
  exact ⟨rfl, (bt (bt (bt (bt (bt (bt (bt (bt (bt (bt (bt (bt (bt (bt (bt hb1 hb2) hb3) hb4) hb5) hb6) hb7) hb8) hb9) hb10) hb11) hb12) hb13) hb14) hb15) hb16)⟩
end
end Go.Proofs.Ytpjebfcdjhcfnaa
