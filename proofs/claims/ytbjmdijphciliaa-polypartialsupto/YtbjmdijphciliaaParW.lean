/-
  PolyPartials: the walk.
-/
import Derived.Test.YtbjmdijphciliaaRefP
import Derived.Test.YtbjmdijphciliaaLawA
namespace Go.Proofs.Ytbjmdijphciliaa
open Go.RowKit
theorem First.lens {p q : List (BitVec 8)} {b : Int} {t : Tm} (h : First p q b t) : t.g.length ≤ max (trim p).length (trim q).length ∧ t.u.length ≤ (trim q).length + 1 ∧ t.v.length ≤ (trim p).length + 1 := by
  rcases h with ⟨h1, rfl⟩ | ⟨_, k, a, h2, h3, _⟩
  · have i := (Eu.zero (p := p) (q := q)).inv
    exact ⟨i.la, i.ulen.1, i.ulen.2.2.1⟩
  · have i := h2.inv
    exact ⟨i.lb, i.ulen.2.1, i.ulen.2.2.2⟩
theorem First.lg {p q : List (BitVec 8)} {b : Int} {t : Tm} (h : First p q b t) (h1 : Hid (p.length ≤ 1048576)) (h2 : Hid (q.length ≤ 1048576)) : Hid (t.g.length ≤ 281474976710656) := by
  show _ ≤ _; have := h.lens; have := h1.out; have := h2.out; have := trim_len p; have := trim_len q; omega
theorem First.lu {p q : List (BitVec 8)} {b : Int} {t : Tm} (h : First p q b t) (h1 : Hid (p.length ≤ 1048576)) (h2 : Hid (q.length ≤ 1048576)) : Hid (t.u.length ≤ 281474976710656) := by
  show _ ≤ _; have := h.lens; have := h1.out; have := h2.out; have := trim_len p; have := trim_len q; omega
theorem First.lv {p q : List (BitVec 8)} {b : Int} {t : Tm} (h : First p q b t) (h1 : Hid (p.length ≤ 1048576)) (h2 : Hid (q.length ≤ 1048576)) : Hid (t.v.length ≤ 281474976710656) := by
  show _ ≤ _; have := h.lens; have := h1.out; have := h2.out; have := trim_len p; have := trim_len q; omega
theorem num_pa (k : Int) (w : World) : Calls Try.prog 9 #[.int .i64 k] w fun e w' => e = .returned (.int .i64 k) ∧ w' = w := by
  go_enter Try.func9, Try.ntmps9
  go_wp2
  go_ret
  exact ⟨rfl, rfl⟩
theorem lent_sl {w : World} {v : Value} {xs : List (BitVec 8)} (h : Sr w v xs) (hn : xs.length ≤ 140737488351232) :
    Calls Try.prog 7 #[v] w fun e w' => ∃ v, e = .returned v ∧ Lent 48 w.heap.size w' v xs ∧ Below w.heap.size w w' := by
  obtain ⟨p, c, rfl, hr⟩ := h
  exact lent_any hr _ c rfl hn
theorem kept_sl {t : TypeId} {B : Nat} {w : World} {v v2 : Value} {xs : List (BitVec 8)} (h1 : Lent t B w v xs) (h2 : Sr w v2 xs) (hm : xs.length ≤ 140737488351232) :
    Calls Try.prog 11 #[v, v2] w fun e w' => e = .returned (.bool true) ∧ Below w.heap.size w w' := by
  obtain ⟨p, c, rfl, hr⟩ := h2
  exact kept_any h1 hr _ c rfl hm
theorem trim_add_le (xs ys : List (BitVec 8)) : (trim (add xs ys)).length ≤ max xs.length ys.length := by
  have := trim_len (add xs ys); rw [add_len] at this; exact this
theorem trim_smul_le (c : BitVec 8) (xs : List (BitVec 8)) : (trim (smul c xs)).length ≤ xs.length := by
  have := trim_len (smul c xs); rw [smul_len] at this; exact this
theorem trim_der_le (xs : List (BitVec 8)) : (trim (der xs)).length ≤ xs.length := by
  have := trim_len (der xs); unfold der at this; rw [ls_len] at this; exact Nat.le_trans this (Nat.sub_le _ _)
theorem trim_mul_le (xs ys : List (BitVec 8)) : (trim (mul xs ys)).length ≤ (trim xs).length + (trim ys).length := by
  by_cases h1 : trim xs = []
  · rw [trim_mul_nil_l h1]; simp
  · by_cases h2 : trim ys = []
    · rw [trim_mul_nil_r h2]; simp
    · rw [trim_mul_len h1 h2]; omega
section
attribute [local irreducible] Calls el gm trim co vs Rs Sl Sr Lent Rd ev add mul smul First
set_option maxHeartbeats 8000000 in
set_option maxRecDepth 1000000 in
theorem polyPartials_walk {w : World} {va vb : Value} {xs ys : List (BitVec 8)} (hp : Sr w va xs) (hq : Sr w vb ys) (hn1 : xs.length ≤ 1048576) (hn2 : ys.length ≤ 1048576) (b : Int) :
    Calls Try.prog 3 #[va, vb, .int .i64 b] w fun e w' => e = .returned (.bool true) ∧ Below w.heap.size w w' := by
  have L1 : Hid (xs.length ≤ 140737488351232) := by show _ ≤ _; omega
  have L2 : Hid (ys.length ≤ 140737488351232) := by show _ ≤ _; omega
  have N1 : Hid (xs.length ≤ 140737488355328) := by show _ ≤ _; omega
  have N2 : Hid (ys.length ≤ 140737488355328) := by show _ ≤ _; omega
  have M1 : Hid (xs.length ≤ 1048576) := hn1
  have M2 : Hid (ys.length ≤ 1048576) := hn2
  clear hn1 hn2
  by_cases hb : b < 0
  · go_enter Try.func3, Try.ntmps3
    go_wp2_with (first
      | (go_at_call 6; refine (refPartial_err _ _ b hb _).mono ?_; rintro e w' ⟨rfl, e⟩; obtain rfl := e.symm)
      | (go_at_call 7; refine (lent_sl hp L1.out).mono ?_; rintro e w1 ⟨x, rfl, hX, hb1⟩; have hp_1 := hp.below hb1; have hq_1 := hq.below hb1)
      | (go_at_call 7; refine (lent_sl hq_1 L2.out).mono ?_; rintro e w2 ⟨y, rfl, hY, hb2⟩; have hp_2 := hp_1.below hb2; clear hp_1; have hq_2 := hq_1.below hb2; clear hq_1; have hX_2 := hX.below hb2)
      | (go_at_call 8; refine (partial_err _ _ b hb _).mono ?_; rintro e w3 ⟨rfl, hb3⟩; have hp_3 := hp_2.below hb3; clear hp_2; have hq_3 := hq_2.below hb3; clear hq_2; have hX_3 := hX_2.below hb3; clear hX_2; have hY_3 := hY.below hb3)
      | (go_at_call 9; refine (num_pa 2 _).mono ?_; rintro e w' ⟨rfl, e⟩; obtain rfl := e.symm)
      | (go_at_call 10; refine (same_nil none none 0 0 _).mono ?_; rintro e w4 ⟨rfl, hb4⟩; have hp_4 := hp_3.below hb4; clear hp_3; have hq_4 := hq_3.below hb4; clear hq_3; have hX_4 := hX_3.below hb4; clear hX_3; have hY_4 := hY_3.below hb4; clear hY_3)
      | (go_at_call 10; refine (same_nil none none 0 0 _).mono ?_; rintro e w5 ⟨rfl, hb5⟩; have hp_5 := hp_4.below hb5; clear hp_4; have hq_5 := hq_4.below hb5; clear hq_4; have hX_5 := hX_4.below hb5; clear hX_4; have hY_5 := hY_4.below hb5; clear hY_4)
      | (go_at_call 10; refine (same_nil none none 0 0 _).mono ?_; rintro e w6 ⟨rfl, hb6⟩; have hp_6 := hp_5.below hb6; clear hp_5; have hq_6 := hq_5.below hb6; clear hq_5; have hX_6 := hX_5.below hb6; clear hX_5; have hY_6 := hY_5.below hb6; clear hY_5)
      | (go_at_call 11; refine (kept_sl hX_6 hp_6 L1.out).mono ?_; rintro e w7 ⟨rfl, hb7⟩; have hp_7 := hp_6.below hb7; clear hp_6; have hq_7 := hq_6.below hb7; clear hq_6; have hY_7 := hY_6.below hb7; clear hY_6)
      | (go_at_call 11; refine (kept_sl hY_7 hq_7 L2.out).mono ?_; rintro e w8 ⟨rfl, hb8⟩; have hp_8 := hp_7.below hb8; clear hp_7; have hq_8 := hq_7.below hb8; clear hq_7))
    go_ret
    exact ⟨rfl, (bt (bt (bt (bt (bt (bt (bt hb1 hb2) hb3) hb4) hb5) hb6) hb7) hb8)⟩
  · replace hb : 0 ≤ b := by omega
    go_enter Try.func3, Try.ntmps3
    go_wp2_with (first
      | (go_at_call 6; refine (refPartial_any hp hq M1 M2 b hb).mono ?_; rintro e w1 ⟨t1, g1, u1, v1, rfl, hF1, hG1, hU1, hV1, hb1⟩; have hp_1 := hp.below hb1; have hq_1 := hq.below hb1; have LG : Hid (t1.g.length ≤ 281474976710656) := First.lg hF1 M1 M2; have LU : Hid (t1.u.length ≤ 281474976710656) := First.lu hF1 M1 M2; have LV : Hid (t1.v.length ≤ 281474976710656) := First.lv hF1 M1 M2; have HF1 : Hid (First xs ys b t1) := hF1; clear hF1)
      | (go_at_call 7; refine (lent_sl hp_1 L1.out).mono ?_; rintro e w2 ⟨x, rfl, hX, hb2⟩; have hp_2 := hp_1.below hb2; clear hp_1; have hq_2 := hq_1.below hb2; clear hq_1; have hG1_2 := hG1.below hb2; have hU1_2 := hU1.below hb2; have hV1_2 := hV1.below hb2)
      | (go_at_call 7; refine (lent_sl hq_2 L2.out).mono ?_; rintro e w3 ⟨y, rfl, hY, hb3⟩; have hp_3 := hp_2.below hb3; clear hp_2; have hq_3 := hq_2.below hb3; clear hq_2; have hG1_3 := hG1_2.below hb3; clear hG1_2; have hU1_3 := hU1_2.below hb3; clear hU1_2; have hV1_3 := hV1_2.below hb3; clear hV1_2; have hX_3 := hX.below hb3)
      | (go_at_call 8; refine (partial_core _ _ xs ys b hb _ hX_3.sl hY.sl N1 N2).mono ?_; rintro e w4 ⟨t2, g2, u2, v2, rfl, hF2, hG2, hU2, hV2, hb4⟩; have hp_4 := hp_3.below hb4; clear hp_3; have hq_4 := hq_3.below hb4; clear hq_3; have hG1_4 := hG1_3.below hb4; clear hG1_3; have hU1_4 := hU1_3.below hb4; clear hU1_3; have hV1_4 := hV1_3.below hb4; clear hV1_3; have hX_4 := hX_3.below hb4; clear hX_3; have hY_4 := hY.below hb4; have et := First.unique hF2 HF1.out; subst et; clear hF2)
      | (go_at_call 9; refine (num_pa 0 _).mono ?_; rintro e w' ⟨rfl, e⟩; obtain rfl := e.symm)
      | (go_at_call 10; refine (same_any hG2.sr hG1_4.sr LG.out).mono ?_; rintro e w5 ⟨rfl, hb5⟩; have hp_5 := hp_4.below hb5; clear hp_4; have hq_5 := hq_4.below hb5; clear hq_4; have hU1_5 := hU1_4.below hb5; clear hU1_4; have hV1_5 := hV1_4.below hb5; clear hV1_4; have hX_5 := hX_4.below hb5; clear hX_4; have hY_5 := hY_4.below hb5; clear hY_4; have hU2_5 := hU2.below hb5; have hV2_5 := hV2.below hb5)
      | (go_at_call 10; refine (same_any hU2_5.sr hU1_5.sr LU.out).mono ?_; rintro e w6 ⟨rfl, hb6⟩; have hp_6 := hp_5.below hb6; clear hp_5; have hq_6 := hq_5.below hb6; clear hq_5; have hV1_6 := hV1_5.below hb6; clear hV1_5; have hX_6 := hX_5.below hb6; clear hX_5; have hY_6 := hY_5.below hb6; clear hY_5; have hV2_6 := hV2_5.below hb6; clear hV2_5)
      | (go_at_call 10; refine (same_any hV2_6.sr hV1_6.sr LV.out).mono ?_; rintro e w7 ⟨rfl, hb7⟩; have hp_7 := hp_6.below hb7; clear hp_6; have hq_7 := hq_6.below hb7; clear hq_6; have hX_7 := hX_6.below hb7; clear hX_6; have hY_7 := hY_6.below hb7; clear hY_6)
      | (go_at_call 11; refine (kept_sl hX_7 hp_7 L1.out).mono ?_; rintro e w8 ⟨rfl, hb8⟩; have hp_8 := hp_7.below hb8; clear hp_7; have hq_8 := hq_7.below hb8; clear hq_7; have hY_8 := hY_7.below hb8; clear hY_7)
      | (go_at_call 11; refine (kept_sl hY_8 hq_8 L2.out).mono ?_; rintro e w9 ⟨rfl, hb9⟩; have hp_9 := hp_8.below hb9; clear hp_8; have hq_9 := hq_8.below hb9; clear hq_8))
    go_ret
    exact ⟨rfl, (bt (bt (bt (bt (bt (bt (bt (bt hb1 hb2) hb3) hb4) hb5) hb6) hb7) hb8) hb9)⟩
end
end Go.Proofs.Ytbjmdijphciliaa
