/-
  PolyQuotients: the walk.
-/
import Derived.Test.YtpjebfcdjhcfnabAwake
import Derived.Test.YtpjebfcdjhcfnabPq
namespace Go.Proofs.Ytpjebfcdjhcfnab
open Go.RowKit
theorem mul_le (xs ys : List (BitVec 8)) : (trim (mul xs ys)).length ≤ (trim xs).length + (trim ys).length := by
  by_cases h1 : trim xs = []
  · rw [trim_mul_nil_l h1]; simp
  · by_cases h2 : trim ys = []
    · rw [trim_mul_nil_r h2]; simp
    · rw [trim_mul_len h1 h2]; omega
section
attribute [local irreducible] Calls el gm trim co vs Rs Sl Sr Rd ev add mul smul
set_option maxHeartbeats 8000000 in
set_option maxRecDepth 1000000 in
theorem polyQuotients_walk {w : World} {va vb vc : Value} {xs ys zs : List (BitVec 8)} (ha : Sr w va xs) (hb0 : Sr w vb ys) (hc : Sr w vc zs) (hn1 : xs.length ≤ 140737488351232) (hn2 : ys.length ≤ 140737488351232) (hn3 : zs.length ≤ 140737488351232) :
    Calls Try.prog 4 #[va, vb, vc] w fun e w' => e = .returned (.bool true) ∧ Below w.heap.size w w' := by
  have q1 := trim_len xs
  have q2 := trim_len ys
  have q3 := trim_len zs
  have q4 := mul_le zs ys
  have L1 : Hid (xs.length ≤ 140737488351232) := hn1
  have L2 : Hid (ys.length ≤ 140737488351232) := hn2
  have L3 : Hid (zs.length ≤ 140737488351232) := hn3
  have M2 : Hid (ys.length ≤ 281474976710656) := by show _ ≤ _; omega
  have M3 : Hid ((trim ys).length ≤ 140737488351232) := by show _ ≤ _; omega
  have M1 : Hid (xs.length ≤ 281474976710656) := by show _ ≤ _; omega
  have M4 : Hid ((trim xs).length ≤ 281474976710656) := by show _ ≤ _; omega
  have M5 : Hid ((trim zs).length + (trim ys).length ≤ 281474976710656) := by show _ ≤ _; omega
  have M6 : Hid (zs.length ≤ 281474976710656) := by show _ ≤ _; omega
  have M7 : Hid ((trim (mul zs ys)).length ≤ 281474976710656) := by show _ ≤ _; omega
  have M8 : Hid ((trim zs).length ≤ 281474976710656) := by show _ ≤ _; omega
  clear hn1 hn2 hn3 q1 q3 q4
  by_cases h0 : trim ys = []
  · have e0 : ((trim ys).length : Int) - 1 = -1 := by rw [h0]; rfl
    clear q2
    go_enter Try.func4, Try.ntmps4
    go_wp2_with (first
    | (go_at_call 9; refine (awake_any _).mono ?_; rintro e w1 ⟨rfl, hb1⟩; have ha_1 := ha.below hb1; have hb0_1 := hb0.below hb1; have hc_1 := hc.below hb1)
    | (go_at_call 10; refine (elems_any ha_1 L1.out).mono ?_; rintro e w2 ⟨p, rfl, hP, hb2⟩; have hb0_2 := hb0_1.below hb2; clear hb0_1; have hc_2 := hc_1.below hb2; clear hc_1)
    | (go_at_call 10; refine (elems_any hb0_2 L2.out).mono ?_; rintro e w3 ⟨q, rfl, hQ, hb3⟩; have hc_3 := hc_2.below hb3; clear hc_2; have hP_3 := hP.below hb3)
    | (go_at_call 20; refine (divide_zero _ _ ys _ hQ.sl M2.out h0).mono ?_; rintro e w' ⟨rfl, e⟩; obtain rfl := e.symm)
    | (go_at_call 19; refine (pdegree_any hQ.sl M2.out).mono ?_; rintro e w' ⟨rfl, e⟩; obtain rfl := e.symm)
    | (go_at_call 21; refine (num_any 10 _).mono ?_; rintro e w' ⟨rfl, e⟩; obtain rfl := e.symm))
    go_ret
    exact ⟨rfl, (bt (bt hb1 hb2) hb3)⟩
  · have p0 : 0 < (trim ys).length := List.length_pos_iff.2 h0
    have e1 : ¬ ((trim ys).length : Int) - 1 < 0 := by omega
    have e2 : ((trim ys).length : Int) ≤ 140737488351232 := by have := L2.out; omega
    clear q2
    go_enter Try.func4, Try.ntmps4
    go_wp2_with (first
    | (go_at_call 9; refine (awake_any _).mono ?_; rintro e w1 ⟨rfl, hb1⟩; have ha_1 := ha.below hb1; have hb0_1 := hb0.below hb1; have hc_1 := hc.below hb1)
    | (go_at_call 10; refine (elems_any ha_1 L1.out).mono ?_; rintro e w2 ⟨p, rfl, hP, hb2⟩; have hb0_2 := hb0_1.below hb2; clear hb0_1; have hc_2 := hc_1.below hb2; clear hc_1)
    | (go_at_call 10; refine (elems_any hb0_2 L2.out).mono ?_; rintro e w3 ⟨q, rfl, hQ, hb3⟩; have hc_3 := hc_2.below hb3; clear hc_2; have hP_3 := hP.below hb3)
    | (go_at_call 20; refine (pdivide_any hP_3.sl hQ.sl M1.out M2.out h0).mono ?_; rintro e w4 ⟨s, r, a1, a2, rfl, hD, hS, hR, _, hb4⟩; have hc_4 := hc_3.below hb4; clear hc_3; have hP_4 := hP_3.below hb4; clear hP_3; have hQ_4 := hQ.below hb4; have hls := div_lens hD; have eq1 := (show Hid _ from quo_eq hD); have eq2 := (show Hid _ from (fun z : List (BitVec 8) => quo_back (z := z) hD)); have tr := hD.tr; have lt := hD.lt; have ds := hD.ts; have LS : Hid (s.length ≤ 281474976710656) := (by show _ ≤ _; have := hls.1; have := M1.out; omega); have LR : Hid (r.length ≤ 281474976710656) := (by show _ ≤ _; have := hls.2.1; have := M2.out; omega); have LT : Hid ((trim s).length + (trim ys).length ≤ 281474976710656) := (by show _ ≤ _; rw [ds]; have := L1.out; have := M3.out; have := hls.1; omega); have LM : Hid ((trim (mul s ys)).length ≤ 281474976710656) := (by show _ ≤ _; have := mul_le s ys; have := LT.out; omega); have lr1 : ¬ ((trim ys).length : Int) - 1 ≤ (r.length : Int) - 1 := (by omega); have lr2 : ¬ ((trim ys).length : Int) ≤ (r.length : Int) := (by omega); clear hls ds lt)
    | (go_at_call 19; refine (pdegree_any hQ_4.sl M2.out).mono ?_; rintro e w' ⟨rfl, e⟩; obtain rfl := e.symm)
    | (go_at_call 19; refine (pdegree_any hR.sl LR.out).mono ?_; rintro e w' ⟨rfl, e⟩; obtain rfl := e.symm; rw [tr])
    | (go_at_call 21; refine (num_any 0 _).mono ?_; rintro e w' ⟨rfl, e⟩; obtain rfl := e.symm)
    | (go_at_call 13; refine (ptimes_any hS.sl hQ_4.sl LT.out LS.out M2.out).mono ?_; rintro e w5 ⟨m1, rfl, hM1, hb5⟩; have hc_5 := hc_4.below hb5; clear hc_4; have hP_5 := hP_4.below hb5; clear hP_4; have hQ_5 := hQ_4.below hb5; clear hQ_4; have hR_5 := hR.below hb5)
    | (go_at_call 12; refine (pplus_any hM1.sl hR_5.sl LM.out LR.out).mono ?_; rintro e w6 ⟨n1, rfl, hN1, hb6⟩; have hc_6 := hc_5.below hb6; clear hc_5; have hP_6 := hP_5.below hb6; clear hP_5; have hQ_6 := hQ_5.below hb6; clear hQ_5; have hR_6 := hR_5.below hb6; clear hR_5; rw [eq1.out] at hN1)
    | (go_at_call 22; refine (ptrim_any hP_6.sl M1.out).mono ?_; rintro e w7 ⟨t1, rfl, hT1, hb7⟩; have hc_7 := hc_6.below hb7; clear hc_6; have hQ_7 := hQ_6.below hb7; clear hQ_6; have hR_7 := hR_6.below hb7; clear hR_6; have hN1_7 := hN1.below hb7)
    | (go_at_call 11; refine (equal_any hN1_7.sr hT1.sr M4.out).mono ?_; rintro e w8 ⟨rfl, hb8⟩; have hc_8 := hc_7.below hb8; clear hc_7; have hQ_8 := hQ_7.below hb8; clear hQ_7; have hR_8 := hR_7.below hb8; clear hR_7)
    | (go_at_call 10; refine (elems_any hc_8 L3.out).mono ?_; rintro e w9 ⟨z, rfl, hZ, hb9⟩; have hc_9 := hc_8.below hb9; clear hc_8; have hQ_9 := hQ_8.below hb9; clear hQ_8; have hR_9 := hR_8.below hb9; clear hR_8)
    | (go_at_call 13; refine (ptimes_any hZ.sl hQ_9.sl M5.out M6.out M2.out).mono ?_; rintro e w10 ⟨m2, rfl, hM2, hb10⟩; have hc_10 := hc_9.below hb10; clear hc_9; have hQ_10 := hQ_9.below hb10; clear hQ_9; have hR_10 := hR_9.below hb10; clear hR_9)
    | (go_at_call 12; refine (pplus_any hM2.sl hR_10.sl M7.out LR.out).mono ?_; rintro e w11 ⟨n2, rfl, hN2, hb11⟩; have hc_11 := hc_10.below hb11; clear hc_10; have hQ_11 := hQ_10.below hb11; clear hQ_10; have hR_11 := hR_10.below hb11; clear hR_10; have LN : Hid ((trim (add (trim (mul zs ys)) r)).length ≤ 281474976710656) := (by show _ ≤ _; have := trim_len (add (trim (mul zs ys)) r); rw [add_len] at this; have := M7.out; have := LR.out; omega))
    | (go_at_call 20; refine (pdivide_any hN2.sl hQ_11.sl LN.out M2.out h0).mono ?_; rintro e w12 ⟨s2, r2, a3, a4, rfl, hD2, hS2, hR2, _, hb12⟩; have hc_12 := hc_11.below hb12; clear hc_11; have hQ_12 := hQ_11.below hb12; clear hQ_11; have hR_12 := hR_11.below hb12; clear hR_11; obtain ⟨es, er⟩ := hD2.unique (eq2.out zs); rw [es] at hS2; rw [er] at hR2; clear hD2 es er)
    | (go_at_call 10; refine (elems_any hc_12 L3.out).mono ?_; rintro e w13 ⟨z2, rfl, hZ2, hb13⟩; have hQ_13 := hQ_12.below hb13; clear hQ_12; have hR_13 := hR_12.below hb13; clear hR_12; have hS2_13 := hS2.below hb13; have hR2_13 := hR2.below hb13)
    | (go_at_call 22; refine (ptrim_any hZ2.sl M6.out).mono ?_; rintro e w14 ⟨t2, rfl, hT2, hb14⟩; have hQ_14 := hQ_13.below hb14; clear hQ_13; have hR_14 := hR_13.below hb14; clear hR_13; have hS2_14 := hS2_13.below hb14; clear hS2_13; have hR2_14 := hR2_13.below hb14; clear hR2_13)
    | (go_at_call 11; refine (equal_any hS2_14.sr hT2.sr M8.out).mono ?_; rintro e w15 ⟨rfl, hb15⟩; have hQ_15 := hQ_14.below hb15; clear hQ_14; have hR_15 := hR_14.below hb15; clear hR_14; have hR2_15 := hR2_14.below hb15; clear hR2_14)
    | (go_at_call 11; refine (equal_any hR2_15.sr hR_15.sr LR.out).mono ?_; rintro e w16 ⟨rfl, hb16⟩; have hQ_16 := hQ_15.below hb16; clear hQ_15; have hR_16 := hR_15.below hb16; clear hR_15))
    go_ret
    exact ⟨rfl, (bt (bt (bt (bt (bt (bt (bt (bt (bt (bt (bt (bt (bt (bt (bt hb1 hb2) hb3) hb4) hb5) hb6) hb7) hb8) hb9) hb10) hb11) hb12) hb13) hb14) hb15) hb16)⟩
end
end Go.Proofs.Ytpjebfcdjhcfnab
