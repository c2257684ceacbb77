/-
  PolyBezout: the walk.
-/
import Derived.Test.YtbjmdijphciliaaAwake
import Derived.Test.YtbjmdijphciliaaPPar
namespace Go.Proofs.Ytbjmdijphciliaa
open Go.RowKit
theorem First.inv {p q : List (BitVec 8)} {b : Int} {t : Tm} (h : First p q b t) : trim t.g = t.g ∧ trim t.u = t.u ∧ trim t.v = t.v ∧ (∀ i, co t.g i = co (mul t.u p) i ^^^ co (mul t.v q) i) ∧ (t.g.length : Int) - 1 < b ∧ t.g.length ≤ max (trim p).length (trim q).length ∧ t.u.length ≤ (trim q).length + 1 ∧ t.v.length ≤ (trim p).length + 1 := by
  rcases h with ⟨h1, rfl⟩ | ⟨_, k, a, h2, h3, _⟩
  · have i := (Eu.zero (p := p) (q := q)).inv
    exact ⟨i.ga, i.ua, i.va, i.ea, h1, i.la, i.ulen.1, i.ulen.2.2.1⟩
  · have i := h2.inv
    exact ⟨i.gb, i.ub, i.vb, i.eb, h3, i.lb, i.ulen.2.1, i.ulen.2.2.2⟩
theorem FirstEq {p q : List (BitVec 8)} {t : Tm} {A B C D : Prop} {e : Prop} (h : trim t.g = t.g ∧ A ∧ B ∧ (∀ i, co t.g i = co (mul t.u p) i ^^^ co (mul t.v q) i) ∧ e ∧ C ∧ D) : trim (add (trim (mul t.u p)) (trim (mul t.v q))) = t.g := by
  rw [← h.1]
  exact trim_congr (fun i => by rw [co_add, co_trim, co_trim, h.2.2.2.1 i])
theorem First0 {t : Tm} {A B C D E : Prop} (h : A ∧ B ∧ C ∧ D ∧ (t.g.length : Int) - 1 < 0 ∧ E) : t.g = [] := List.length_eq_zero_iff.1 (by have := h.2.2.2.2.1; omega)
theorem sum_le {s p : List (BitVec 8)} (h1 : s.length ≤ 1048577) (h2 : p.length ≤ 1048576) : (trim s).length + (trim p).length ≤ 281474976710656 := by have := trim_len s; have := trim_len p; omega
theorem prod_le {s p : List (BitVec 8)} (h1 : s.length ≤ 1048577) (h2 : p.length ≤ 1048576) : (trim (mul s p)).length ≤ 281474976710656 := by rcases mul_len_le (s := s) (u := p) with h | h <;> omega
theorem sum_le2 {s p : List (BitVec 8)} (h1 : s.length ≤ 2097154) (h2 : p.length ≤ 2097152) : (trim s).length + (trim p).length ≤ 281474976710656 := by have := trim_len s; have := trim_len p; omega
theorem prod_le2 {s p : List (BitVec 8)} (h1 : s.length ≤ 2097154) (h2 : p.length ≤ 2097152) : (trim (mul s p)).length ≤ 281474976710656 := by rcases mul_len_le (s := s) (u := p) with h | h <;> omega
/-- What is made of multiples of d is one. -/
theorem div_mult {xs ys zs : List (BitVec 8)} {t : Tm} (h : ∀ i, co t.g i = co (mul t.u (trim (mul xs zs))) i ^^^ co (mul t.v (trim (mul ys zs))) i) (hz : trim zs ≠ []) {s r : List (BitVec 8)} (hd : IsDiv t.g zs s r) : r = [] := by
  have h2 : IsDiv t.g zs (trim (add (mul t.u xs) (mul t.v ys))) [] := by
    refine ⟨trim_trim _, rfl, fun i => ?_, List.length_pos_iff.2 hz⟩
    rw [co_nil, mul_congr (co_trim _) (fun _ => rfl), mul_add_l, mul_assoc, mul_assoc, h i, mul_congr_r t.u (co_trim _), mul_congr_r t.v (co_trim _)]
    simp
  exact (hd.unique h2).2
theorem mul_le (xs ys : List (BitVec 8)) : (trim (mul xs ys)).length ≤ (trim xs).length + (trim ys).length := by
  rcases mul_len_le (s := trim xs) (u := trim ys) with h | h
  · rw [← trim_congr (mul_congr (co_trim xs) (co_trim ys)), h]; omega
  · rw [← trim_congr (mul_congr (co_trim xs) (co_trim ys))]; omega
section
attribute [local irreducible] Calls el gm co
set_option maxRecDepth 1000000 in
theorem trimmed_some (b o n c : Nat) (a : BitVec 8) (w : World) (h0 : 0 < n) (hn : n ≤ 281474976710656) (ha : a ≠ 0#8) (hc : w.cell? ⟨b, o + (n - 1), none⟩ = some (.int .u8 (el a))) :
    Calls Try.prog 18 #[.slice (some ⟨b, o, none⟩) n c] w fun e w' => e = .returned (.bool true) ∧ w' = w := by
  have i1 : ((n : Int) == 0) = false := by simp; omega
  have i2 : (0 : Int) ≤ (n : Int) - 1 := by omega
  have i3 : (n : Int) - 1 < (n : Int) := by omega
  have i4 : (el a != 0) = true := by rw [← el_0, el_bne]; simpa using ha
  go_enter Try.func18, Try.ntmps18
  go_wp2
  go_ret
  exact ⟨rfl, rfl⟩
set_option maxRecDepth 1000000 in
theorem trimmed_none (p : Option Addr) (c : Nat) (w : World) :
    Calls Try.prog 18 #[.slice p 0 c] w fun e w' => e = .returned (.bool true) ∧ w' = w := by
  go_enter Try.func18, Try.ntmps18
  go_wp2
  go_ret
  exact ⟨rfl, rfl⟩
end
theorem trimmed_any {w : World} {v : Value} {xs : List (BitVec 8)} (h : Sr w v xs) (ht : trim xs = xs) (hn : xs.length ≤ 281474976710656) :
    Calls Try.prog 18 #[v] w fun e w' => e = .returned (.bool true) ∧ w' = w := by
  by_cases h0 : xs = []
  · subst h0
    obtain ⟨p, c, rfl⟩ := h.empty
    exact trimmed_none p c w
  · obtain ⟨b, o, c, rfl, _, hc⟩ := h.cells h0
    have hp := List.length_pos_iff.2 h0
    have := trim_top xs (by rw [ht]; exact h0)
    rw [ht] at this
    exact trimmed_some b o _ c _ w hp hn this (hc _ (by omega))
/-- The struct that came in, in its own box. -/
structure Box (w : World) (g : Nat) (va vb vc : Value) (x : BitVec 8) (bl : Int) : Prop where
  c0 : w.cell? ⟨g, 0, none⟩ = some va
  c1 : w.cell? ⟨g, 1, none⟩ = some vb
  c2 : w.cell? ⟨g, 2, none⟩ = some vc
  c3 : w.cell? ⟨g, 3, none⟩ = some (.int .u8 (el x))
  c4 : w.cell? ⟨g, 4, none⟩ = some (.int .i64 bl)
theorem Box.below {w w' : World} {g : Nat} {va vb vc : Value} {x : BitVec 8} {bl : Int} (h : Box w g va vb vc x bl) (hb : Below w.heap.size w w') : Box w' g va vb vc x bl :=
  ⟨cell_below h.c0 hb, cell_below h.c1 hb, cell_below h.c2 hb, cell_below h.c3 hb, cell_below h.c4 hb⟩
theorem box_new (w : World) (t : TypeId) (va vb vc : Value) (x : BitVec 8) (bl : Int) : Box (w.alloc (.cells #[va, vb, vc, .int .u8 (el x), .int .i64 bl] t)) w.heap.size va vb vc x bl := by
  constructor <;> (rw [cell_of_row _ _ _ _ _ (0, 0) (heap_alloc_any _ _ _)]; rfl)
section
attribute [local irreducible] Calls el gm trim co vs Rs Sl Sr Rd ev add mul smul
set_option maxHeartbeats 16000000 in
set_option maxRecDepth 1000000 in
theorem polyBezout_walk {w : World} {p0 p1 p2 : Option Addr} {c0 c1 c2 : Nat} {xs ys zs : List (BitVec 8)} (ha0 : Sr w (.slice p0 xs.length c0) xs) (hb00 : Sr w (.slice p1 ys.length c1) ys) (hc0 : Sr w (.slice p2 zs.length c2) zs) (hn1 : xs.length ≤ 1048576) (hn2 : ys.length ≤ 1048576) (hn3 : zs.length ≤ 1048576) (x : BitVec 8) (bl : Int) :
    Calls Try.prog 4 #[.agg #[.slice p0 xs.length c0, .slice p1 ys.length c1, .slice p2 zs.length c2, .int .u8 (el x), .int .i64 bl]] w fun e w' => e = .returned (.bool true) ∧ Below w.heap.size w w' := by
  have hb1 := trim_len xs
  have hb2 := trim_len ys
  have hb3 := trim_len zs
  have m13 := mul_le xs zs
  have m23 := mul_le ys zs
  have L1 : Hid (xs.length ≤ 140737488351232) := by show _ ≤ _; omega
  have L2 : Hid (ys.length ≤ 140737488351232) := by show _ ≤ _; omega
  have L3 : Hid (zs.length ≤ 140737488351232) := by show _ ≤ _; omega
  have N1 : Hid (xs.length ≤ 140737488355328) := by show _ ≤ _; omega
  have N2 : Hid (ys.length ≤ 140737488355328) := by show _ ≤ _; omega
  have N3 : Hid ((trim (mul xs zs)).length ≤ 140737488355328) := by show _ ≤ _; omega
  have N4 : Hid ((trim (mul ys zs)).length ≤ 140737488355328) := by show _ ≤ _; omega
  have A1 : Hid (xs.length ≤ 281474976710656) := by show _ ≤ _; omega
  have A2 : Hid (ys.length ≤ 281474976710656) := by show _ ≤ _; omega
  have A3 : Hid (zs.length ≤ 281474976710656) := by show _ ≤ _; omega
  have S13 : Hid ((trim xs).length + (trim zs).length ≤ 281474976710656) := by show _ ≤ _; omega
  have S23 : Hid ((trim ys).length + (trim zs).length ≤ 281474976710656) := by show _ ≤ _; omega
  have K1 : Hid ((trim xs).length ≤ 1048576 ∧ (trim ys).length ≤ 1048576 ∧ (trim zs).length ≤ 1048576 ∧ xs.length ≤ 1048576 ∧ ys.length ≤ 1048576) := ⟨by omega, by omega, by omega, by omega, by omega⟩
  have K2 : Hid ((trim zs).length ≤ 1048576 ∧ zs.length ≤ 1048576 ∧ (trim (mul xs zs)).length ≤ 2097152 ∧ (trim (mul ys zs)).length ≤ 2097152) := ⟨by omega, by omega, by omega, by omega⟩
  have HB := box_new w 34 (.slice p0 xs.length c0) (.slice p1 ys.length c1) (.slice p2 zs.length c2) x bl
  have hbA := ba w (.cells #[.slice p0 xs.length c0, .slice p1 ys.length c1, .slice p2 zs.length c2, .int .u8 (el x), .int .i64 bl] 34)
  have ha := ha0.below hbA
  have hb0 := hb00.below hbA
  have hc := hc0.below hbA
  have HX := HB
  obtain ⟨D, hDD⟩ : ∃ D, D = (trim zs).length := ⟨_, rfl⟩
  have PD : Hid (∀ (W : World) (v : Value), Sl W v zs → Calls Try.prog 14 #[v] W fun e w' => e = .returned (.int .i64 ((D : Int) - 1)) ∧ w' = W) := fun W v h => by rw [hDD]; exact pdegree_any h A3.out
  have bd : (D : Int) ≤ 1048576 := by omega
  have HDD : Hid (D = (trim zs).length) := hDD
  have g0 := HX.c0
  have g1 := HX.c1
  have g2 := HX.c2
  have g4 := HX.c4
  clear ha0 hb00 hc0 HB m13 m23 hb1 hb2 hb3 hn1 hn2 hn3 hDD
  by_cases hbl : bl < 0
  · go_enter Try.func4, Try.ntmps4
    go_wp2_with (first
      | (go_at_call 12; refine (awake_any _).mono ?_; rintro e w1 ⟨rfl, hb1⟩; have ha_1 := ha.below hb1; have hb0_1 := hb0.below hb1; have hc_1 := hc.below hb1; have HX_1 := HX.below hb1; have g0 := HX_1.c0; have g1 := HX_1.c1; have g2 := HX_1.c2; have g4 := HX_1.c4)
      | (go_at_call 13; refine (elems_any ha_1 L1.out).mono ?_; rintro e w2 ⟨p, rfl, hP, hb2⟩; have hb0_2 := hb0_1.below hb2; clear hb0_1; have hc_2 := hc_1.below hb2; clear hc_1; have HX_2 := HX_1.below hb2; clear HX_1; have g0 := HX_2.c0; have g1 := HX_2.c1; have g2 := HX_2.c2; have g4 := HX_2.c4)
      | (go_at_call 13; refine (elems_any hb0_2 L2.out).mono ?_; rintro e w3 ⟨q, rfl, hQ, hb3⟩; have hc_3 := hc_2.below hb3; clear hc_2; have HX_3 := HX_2.below hb3; clear HX_2; have hP_3 := hP.below hb3; have g0 := HX_3.c0; have g1 := HX_3.c1; have g2 := HX_3.c2; have g4 := HX_3.c4)
      | (go_at_call 8; refine (partial_err _ _ bl hbl _).mono ?_; rintro e w4 ⟨rfl, hb4⟩; have hc_4 := hc_3.below hb4; clear hc_3; have HX_4 := HX_3.below hb4; clear HX_3; have hP_4 := hP_3.below hb4; clear hP_3; have hQ_4 := hQ.below hb4)
      | (go_at_call 9; refine (num_any 2 _).mono ?_; rintro e w' ⟨rfl, e⟩; obtain rfl := e.symm))
    go_ret
    exact ⟨rfl, bt hbA (bt (bt (bt hb1 hb2) hb3) hb4)⟩
  · replace hbl : 0 ≤ bl := by omega
    have nbl : ¬ bl < 0 := by omega
    go_enter Try.func4, Try.ntmps4
    go_wp2_with (first
      | (go_at_call 12; refine (awake_any _).mono ?_; rintro e w1 ⟨rfl, hb1⟩; have ha_1 := ha.below hb1; have hb0_1 := hb0.below hb1; have hc_1 := hc.below hb1; have HX_1 := HX.below hb1; have g0 := HX_1.c0; have g1 := HX_1.c1; have g2 := HX_1.c2; have g4 := HX_1.c4)
      | (go_at_call 13; refine (elems_any ha_1 L1.out).mono ?_; rintro e w2 ⟨p, rfl, hP, hb2⟩; have hb0_2 := hb0_1.below hb2; clear hb0_1; have hc_2 := hc_1.below hb2; clear hc_1; have HX_2 := HX_1.below hb2; clear HX_1; have g0 := HX_2.c0; have g1 := HX_2.c1; have g2 := HX_2.c2; have g4 := HX_2.c4)
      | (go_at_call 13; refine (elems_any hb0_2 L2.out).mono ?_; rintro e w3 ⟨q, rfl, hQ, hb3⟩; have hc_3 := hc_2.below hb3; clear hc_2; have HX_3 := HX_2.below hb3; clear HX_2; have hP_3 := hP.below hb3; have g0 := HX_3.c0; have g1 := HX_3.c1; have g2 := HX_3.c2; have g4 := HX_3.c4)
      | (go_at_call 8; refine (partial_core _ _ xs ys bl hbl _ hP_3.sl hQ.sl N1 N2).mono ?_; rintro e w4 ⟨t1, vg, vu, vv, rfl, hF, hG, hU, hV, hb4⟩; have hc_4 := hc_3.below hb4; clear hc_3; have HX_4 := HX_3.below hb4; clear HX_3; have hP_4 := hP_3.below hb4; clear hP_3; have hQ_4 := hQ.below hb4; have fi := hF.inv; have tg : Hid (trim t1.g = t1.g) := fi.1; have tu : Hid (trim t1.u = t1.u) := fi.2.1; have tv : Hid (trim t1.v = t1.v) := fi.2.2.1; have dg : ¬ bl ≤ (t1.g.length : Int) - 1 := (by have := fi.2.2.2.2.1; omega); have LG : Hid (t1.g.length ≤ 281474976710656) := (by show _ ≤ _; have := fi.2.2.2.2.2.1; have := K1.out; omega); have LU : Hid (t1.u.length ≤ 1048577) := (by show _ ≤ _; have := fi.2.2.2.2.2.2.1; have := K1.out; omega); have LV : Hid (t1.v.length ≤ 1048577) := (by show _ ≤ _; have := fi.2.2.2.2.2.2.2; have := K1.out; omega); have EQ : Hid (trim (add (trim (mul t1.u xs)) (trim (mul t1.v ys))) = t1.g) := FirstEq fi; clear fi hF; have g0 := HX_4.c0; have g1 := HX_4.c1; have g2 := HX_4.c2; have g4 := HX_4.c4)
      | (go_at_call 9; refine (num_any 0 _).mono ?_; rintro e w' ⟨rfl, e⟩; obtain rfl := e.symm)
      | (go_at_call 14; refine (pdegree_any hG.sl LG.out).mono ?_; rintro e w' ⟨rfl, e⟩; obtain rfl := e.symm; rw [tg.out])
      | (go_at_call 17; refine (ptimes_any hU.sl hP_4.sl (sum_le LU.out K1.out.2.2.2.1) (by have := LU.out; omega) A1.out).mono ?_; rintro e w5 ⟨m1, rfl, hM1, hb5⟩; have hc_5 := hc_4.below hb5; clear hc_4; have HX_5 := HX_4.below hb5; clear HX_4; have hP_5 := hP_4.below hb5; clear hP_4; have hQ_5 := hQ_4.below hb5; clear hQ_4; have hG_5 := hG.below hb5; have hU_5 := hU.below hb5; have hV_5 := hV.below hb5)
      | (go_at_call 17; refine (ptimes_any hV_5.sl hQ_5.sl (sum_le LV.out K1.out.2.2.2.2) (by have := LV.out; omega) A2.out).mono ?_; rintro e w6 ⟨m2, rfl, hM2, hb6⟩; have hc_6 := hc_5.below hb6; clear hc_5; have HX_6 := HX_5.below hb6; clear HX_5; have hP_6 := hP_5.below hb6; clear hP_5; have hQ_6 := hQ_5.below hb6; clear hQ_5; have hG_6 := hG_5.below hb6; clear hG_5; have hU_6 := hU_5.below hb6; clear hU_5; have hV_6 := hV_5.below hb6; clear hV_5; have hM1_6 := hM1.below hb6)
      | (go_at_call 16; refine (pplus_any hM1_6.sl hM2.sl (prod_le LU.out K1.out.2.2.2.1) (prod_le LV.out K1.out.2.2.2.2)).mono ?_; rintro e w7 ⟨m3, rfl, hM3, hb7⟩; have hc_7 := hc_6.below hb7; clear hc_6; have HX_7 := HX_6.below hb7; clear HX_6; have hP_7 := hP_6.below hb7; clear hP_6; have hQ_7 := hQ_6.below hb7; clear hQ_6; have hG_7 := hG_6.below hb7; clear hG_6; have hU_7 := hU_6.below hb7; clear hU_6; have hV_7 := hV_6.below hb7; clear hV_6; rw [EQ.out] at hM3)
      | (go_at_call 15; refine (equal_any hG_7.sr hM3.sr LG.out).mono ?_; rintro e w8 ⟨rfl, hb8⟩; have hc_8 := hc_7.below hb8; clear hc_7; have HX_8 := HX_7.below hb8; clear HX_7; have hP_8 := hP_7.below hb8; clear hP_7; have hQ_8 := hQ_7.below hb8; clear hQ_7; have hU_8 := hU_7.below hb8; clear hU_7; have hV_8 := hV_7.below hb8; clear hV_7; have g0 := HX_8.c0; have g1 := HX_8.c1; have g2 := HX_8.c2; have g4 := HX_8.c4)
      | (go_at_call 18; refine (trimmed_any hU_8.sr tu.out (by have := LU.out; omega)).mono ?_; rintro e w' ⟨rfl, e⟩; obtain rfl := e.symm)
      | (go_at_call 18; refine (trimmed_any hV_8.sr tv.out (by have := LV.out; omega)).mono ?_; rintro e w' ⟨rfl, e⟩; obtain rfl := e.symm)
      | (go_at_call 13; refine (elems_any hc_8 L3.out).mono ?_; rintro e w9 ⟨d, rfl, hD, hb9⟩; have hP_9 := hP_8.below hb9; clear hP_8; have hQ_9 := hQ_8.below hb9; clear hQ_8)
      | (go_at_call 17; refine (ptimes_any hP_9.sl hD.sl S13.out A1.out A3.out).mono ?_; rintro e w10 ⟨x1, rfl, hX, hb10⟩; have hP_10 := hP_9.below hb10; clear hP_9; have hQ_10 := hQ_9.below hb10; clear hQ_9; have hD_10 := hD.below hb10)
      | (go_at_call 17; refine (ptimes_any hQ_10.sl hD_10.sl S23.out A2.out A3.out).mono ?_; rintro e w11 ⟨y1, rfl, hY, hb11⟩; have hD_11 := hD_10.below hb11; clear hD_10; have hX_11 := hX.below hb11)
      | (go_at_call 8; refine (partial_core _ _ (trim (mul xs zs)) (trim (mul ys zs)) 0 (by omega) _ hX_11.sl hY.sl N3 N4).mono ?_; rintro e w12 ⟨t2, vh, vs, vt, rfl, hF2, hH, hS, hT, hb12⟩; have hD_12 := hD_11.below hb12; clear hD_11; have hX_12 := hX_11.below hb12; clear hX_11; have hY_12 := hY.below hb12; have fi2 := hF2.inv; have z2 : t2.g = [] := First0 fi2; have LS : Hid (t2.u.length ≤ 2097154) := (by show _ ≤ _; have h7 := fi2.2.2.2.2.2.2.1; rw [trim_trim] at h7; have := K2.out; omega); have LT : Hid (t2.v.length ≤ 2097154) := (by show _ ≤ _; have h7 := fi2.2.2.2.2.2.2.2; rw [trim_trim] at h7; have := K2.out; omega); have EQ2 : Hid (trim (add (trim (mul t2.u (trim (mul xs zs)))) (trim (mul t2.v (trim (mul ys zs))))) = []) := (by show _ = _; rw [FirstEq fi2, z2]); clear fi2 hF2; rw [z2] at hH; obtain ⟨ph, ch, eh⟩ := hH.sr.empty; subst eh)
      | (go_at_call 9; refine (num_any 0 _).mono ?_; rintro e w' ⟨rfl, e⟩; obtain rfl := e.symm)
      | (go_at_call 17; refine (ptimes_any hS.sl hX_12.sl (sum_le2 LS.out K2.out.2.2.1) (by have := LS.out; omega) (by have := K2.out; omega)).mono ?_; rintro e w13 ⟨m4, rfl, hM4, hb13⟩; have hD_13 := hD_12.below hb13; clear hD_12; have hX_13 := hX_12.below hb13; clear hX_12; have hY_13 := hY_12.below hb13; clear hY_12; have hS_13 := hS.below hb13; have hT_13 := hT.below hb13)
      | (go_at_call 17; refine (ptimes_any hT_13.sl hY_13.sl (sum_le2 LT.out K2.out.2.2.2) (by have := LT.out; omega) (by have := K2.out; omega)).mono ?_; rintro e w14 ⟨m5, rfl, hM5, hb14⟩; have hD_14 := hD_13.below hb14; clear hD_13; have hX_14 := hX_13.below hb14; clear hX_13; have hY_14 := hY_13.below hb14; clear hY_13; have hM4_14 := hM4.below hb14)
      | (go_at_call 16; refine (pplus_any hM4_14.sl hM5.sl (prod_le2 LS.out K2.out.2.2.1) (prod_le2 LT.out K2.out.2.2.2)).mono ?_; rintro e w15 ⟨m6, rfl, hM6, hb15⟩; have hD_15 := hD_14.below hb15; clear hD_14; have hX_15 := hX_14.below hb15; clear hX_14; have hY_15 := hY_14.below hb15; clear hY_14; rw [EQ2.out] at hM6; obtain ⟨p6, c6, e6⟩ := hM6.sr.empty; subst e6)
      | (go_at_call 14; refine (PD.out _ _ hD_15.sl).mono ?_; rintro e w' ⟨rfl, e⟩; obtain rfl := e.symm))
    have BW := (show Hid _ from bt hbA (bt (bt (bt (bt (bt (bt (bt (bt (bt (bt (bt (bt (bt (bt hb1 hb2) hb3) hb4) hb5) hb6) hb7) hb8) hb9) hb10) hb11) hb12) hb13) hb14) hb15))
    have PX := (show Hid _ from hX_15)
    have PY := (show Hid _ from hY_15)
    have PZ := (show Hid _ from hD_15)
    clear hX_15 hY_15 hD_15
    by_cases hD0 : D = 0
    · have i0 : ¬ 0 ≤ (D : Int) - 1 := by omega
      refine wp_loop_rounds 1 ?_
      rw [rounds_succ]
      go_wp2
      go_ret
      exact ⟨rfl, BW.out⟩
    · have i0 : 0 ≤ (D : Int) - 1 := by omega
      have hz : Hid (trim zs ≠ []) := fun e => by have := HDD.out; rw [e] at this; simp at this; omega
      go_loopw [19] (fun i wr => ∃ j : Nat, j ≤ 3 ∧ i = .int .i64 ((D : Int) + (j : Int)) ∧ Below w15.heap.size w15 wr) (fun i _ => D + 4 - (intOf i).toNat)
      case atStart => exact ⟨0, by omega, by simp, Below.refl _ _⟩
      case round =>
        obtain ⟨j, hj, rfl, hbr⟩ := hrel
        by_cases hlt : j < 3
        · have i1 : (D : Int) + (j : Int) ≤ (D : Int) - 1 + 3 := by omega
          have i2 : 0 ≤ (D : Int) + (j : Int) := by omega
          have qx := (show Hid _ from PX.out.below hbr)
          have qy := (show Hid _ from PY.out.below hbr)
          have qz := (show Hid _ from PZ.out.below hbr)
          go_wp2_with (first
            | (go_at_call 8; refine (partial_core _ _ (trim (mul xs zs)) (trim (mul ys zs)) _ i2 _ (Rs.sl qx.out) (Rs.sl qy.out) N3 N4).mono ?_; rintro e u1 ⟨t3, vi, v6, v7, rfl, hF3, hI, _, _, hu1⟩; have qz1 := (show Hid _ from qz.out.below hu1); have fi3 := hF3.inv; have EQ3 := (show Hid _ from fi3.2.2.2.1); have LI : Hid (t3.g.length ≤ 281474976710656) := (by show _ ≤ _; have h6 := fi3.2.2.2.2.2.1; rw [trim_trim, trim_trim] at h6; have := K2.out; omega); clear fi3 hF3)
            | (go_at_call 19; refine (pdivide_any hI.sl (Rs.sl qz1.out) LI.out A3.out hz.out).mono ?_; rintro e u2 ⟨s3, r3, v8, v9, rfl, hd3, _, hR3, _, hu2⟩; obtain rfl := div_mult EQ3.out hz.out hd3; obtain ⟨p9, c9, e9⟩ := hR3.sr.empty; subst e9)
            | (go_at_call 9; refine (num_any 0 _).mono ?_; rintro e w' ⟨rfl, e⟩; obtain rfl := e.symm))
          go_roundw
          case rel => exact ⟨j + 1, by omega, by rw [show ((j + 1 : Nat) : Int) = (j : Int) + 1 by omega]; first | rfl | (congr 1; done) | (congr 1; omega), bt hbr (bt hu1 hu2)⟩
          case measure => simp [intOf]; omega
        · have i1 : ¬ (D : Int) + (j : Int) ≤ (D : Int) - 1 + 3 := by omega
          go_wp2
          go_ret
          exact ⟨rfl, bt BW.out hbr⟩
end
end Go.Proofs.Ytbjmdijphciliaa
