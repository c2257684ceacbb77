/-
  FrameForeign: a frame out of another file, mathematics.
-/
import Derived.Test.YtkafbeicgaoebaaSz8
import Derived.Test.YtkafbeicgaoebaaSa8
import Derived.Deep.DeepCutAuto
import Derived.Test.YtkafbeicgaoebaaSv8
import Derived.Deep.CutBlock
import Derived.Deep.AppendLies
import Derived.BigRegion
import Derived.Test.YtkafbeicgaoebaaSf8
namespace Go.Proofs.Ytkafbeicgaoebaa
theorem one_inj {r : BitVec 32} {a b : BitVec 8} (e : ov r [a] = ov r [b]) : a = b := by
  have e1 : stps 8 (r ^^^ a.setWidth 32) = stps 8 (r ^^^ b.setWidth 32) := e
  have e2 := stps_inj _ e1
  have e3 : a.setWidth 32 = b.setWidth 32 := by
    have := congrArg (fun z => r ^^^ z) e2
    simpa [← BitVec.xor_assoc] using this
  apply BitVec.eq_of_getLsbD_eq; intro i hi
  have := congrArg (fun z => z.getLsbD i) e3
  simpa [show i < 32 by omega] using this
theorem lb_one {r : BitVec 32} {a b : Nat} (ha : a < 256) (hb : b < 256) (e : ov r (lb 1 a) = ov r (lb 1 b)) : a = b := by
  have h1 : ∀ n, ∃ x, lb 1 n = [x] := fun n => by
    have := lb_len 1 n
    match h : lb 1 n, this with
    | [x], _ => exact ⟨x, rfl⟩
  obtain ⟨x, hx⟩ := h1 a
  obtain ⟨y, hy⟩ := h1 b
  rw [hx, hy] at e
  have e2 := one_inj e
  have e3 : lb 1 a = lb 1 b := by rw [hx, hy, e2]
  have e4 := congrArg lv e3
  rwa [lv_lb 1 a (by simpa using ha), lv_lb 1 b (by simpa using hb)] at e4
theorem lb_four {r : BitVec 32} {a b : Nat} (ha : a < 4294967296) (hb : b < 4294967296) (e : ov r (lb 4 a) = ov r (lb 4 b)) : a = b := by
  have e3 := four_inj (lb_len 4 a) (lb_len 4 b) e
  have e4 := congrArg lv e3
  rwa [lv_lb 4 a (by simpa using ha), lv_lb 4 b (by simpa using hb)] at e4
theorem cmo_mid {s : BitVec 32} {P X Y R : List (BitVec 8)} (e : cmo s (P ++ X ++ R) = cmo s (P ++ Y ++ R)) : ov (ov (~~~ s) P) X = ov (ov (~~~ s) P) Y := by
  unfold cmo at e
  have e1 : ov (~~~ s) (P ++ X ++ R) = ov (~~~ s) (P ++ Y ++ R) := by
    have := congrArg (~~~ ·) e
    simpa using this
  rw [ov_append, ov_append, ov_append, ov_append] at e1
  exact ov_inj e1
/-- A head with another number in one of four places. -/
def alt (q z : Int) (h : Hd) : Hd := if q = 0 then { h with m := z } else if q = 1 then { h with ix := z } else if q = 2 then { h with ep := z } else { h with ct := z }
theorem alt_key (q z : Int) (h : Hd) : (alt q z h).key = h.key := by unfold alt; split; rfl; split; rfl; split <;> rfl
theorem alt_ls (q z : Int) (h : Hd) : (alt q z h).ls = h.ls := by unfold alt; split; rfl; split; rfl; split <;> rfl
theorem alt_len (q z : Int) (h : Hd) : (alt q z h).len = h.len := by unfold Hd.len; rw [alt_ls, alt_key]
theorem alt_s2 (q z : Int) (h : Hd) (ok : h.Ok) (og : (alt q z h).Ok) (hne : alt q z h ≠ h) : (alt q z h).s2 ≠ h.s2 := by
  intro e
  unfold Hd.s2 at e
  rw [alt_key] at e
  have e1 := cmo_inj e
  unfold Hd.s1 at e1
  apply hne
  obtain ⟨o1, o2, o3, o4, o5, o6, o7, o8, o9, o10, o11, o12, o13, o14, o15, o16, o17, o18, o19⟩ := ok
  obtain ⟨p1, p2, p3, p4, p5, p6, p7, p8, p9, p10, p11, p12, p13, p14, p15, p16, p17, p18, p19⟩ := og
  unfold alt at *
  by_cases q0 : q = 0
  · rw [if_pos q0] at *
    have e2 : cmo 0#32 (([67#8, 82#8, 78#8, 2#8] ++ h.st ++ lb 1 h.k.toNat) ++ lb 1 z.toNat ++ (lb 4 h.b.toNat ++ lb 4 h.sz.toNat ++ lb 1 h.ix.toNat ++ lb 4 h.ep.toNat ++ lb 4 h.ct.toNat ++ lb 1 h.key.length)) = cmo 0#32 (([67#8, 82#8, 78#8, 2#8] ++ h.st ++ lb 1 h.k.toNat) ++ lb 1 h.m.toNat ++ (lb 4 h.b.toNat ++ lb 4 h.sz.toNat ++ lb 1 h.ix.toNat ++ lb 4 h.ep.toNat ++ lb 4 h.ct.toNat ++ lb 1 h.key.length)) := by
      simpa only [Hd.fx, Hd.st, List.append_assoc] using e1
    have e3 := lb_one (by simp only at p4; omega) (by omega) (cmo_mid e2)
    have e4 : z = h.m := by simp only at p3; omega
    rw [e4]
  · rw [if_neg q0] at *
    by_cases q1 : q = 1
    · rw [if_pos q1] at *
      have e2 : cmo 0#32 (([67#8, 82#8, 78#8, 2#8] ++ h.st ++ lb 1 h.k.toNat ++ lb 1 h.m.toNat ++ lb 4 h.b.toNat ++ lb 4 h.sz.toNat) ++ lb 1 z.toNat ++ (lb 4 h.ep.toNat ++ lb 4 h.ct.toNat ++ lb 1 h.key.length)) = cmo 0#32 (([67#8, 82#8, 78#8, 2#8] ++ h.st ++ lb 1 h.k.toNat ++ lb 1 h.m.toNat ++ lb 4 h.b.toNat ++ lb 4 h.sz.toNat) ++ lb 1 h.ix.toNat ++ (lb 4 h.ep.toNat ++ lb 4 h.ct.toNat ++ lb 1 h.key.length)) := by
        simpa only [Hd.fx, Hd.st, List.append_assoc] using e1
      have e3 := lb_one (by simp only at p15; omega) (by omega) (cmo_mid e2)
      have e4 : z = h.ix := by simp only at p14; omega
      rw [e4]
    · rw [if_neg q1] at *
      by_cases q2 : q = 2
      · rw [if_pos q2] at *
        have e2 : cmo 0#32 (([67#8, 82#8, 78#8, 2#8] ++ h.st ++ lb 1 h.k.toNat ++ lb 1 h.m.toNat ++ lb 4 h.b.toNat ++ lb 4 h.sz.toNat ++ lb 1 h.ix.toNat) ++ lb 4 z.toNat ++ (lb 4 h.ct.toNat ++ lb 1 h.key.length)) = cmo 0#32 (([67#8, 82#8, 78#8, 2#8] ++ h.st ++ lb 1 h.k.toNat ++ lb 1 h.m.toNat ++ lb 4 h.b.toNat ++ lb 4 h.sz.toNat ++ lb 1 h.ix.toNat) ++ lb 4 h.ep.toNat ++ (lb 4 h.ct.toNat ++ lb 1 h.key.length)) := by
          simpa only [Hd.fx, Hd.st, List.append_assoc] using e1
        have e3 := lb_four (by simp only at p17; omega) (by omega) (cmo_mid e2)
        have e4 : z = h.ep := by simp only at p16; omega
        rw [e4]
      · rw [if_neg q2] at *
        have e2 : cmo 0#32 (([67#8, 82#8, 78#8, 2#8] ++ h.st ++ lb 1 h.k.toNat ++ lb 1 h.m.toNat ++ lb 4 h.b.toNat ++ lb 4 h.sz.toNat ++ lb 1 h.ix.toNat ++ lb 4 h.ep.toNat) ++ lb 4 z.toNat ++ lb 1 h.key.length) = cmo 0#32 (([67#8, 82#8, 78#8, 2#8] ++ h.st ++ lb 1 h.k.toNat ++ lb 1 h.m.toNat ++ lb 4 h.b.toNat ++ lb 4 h.sz.toNat ++ lb 1 h.ix.toNat ++ lb 4 h.ep.toNat) ++ lb 4 h.ct.toNat ++ lb 1 h.key.length) := by
          simpa only [Hd.fx, Hd.st, List.append_assoc] using e1
        have e3 := lb_four (by simp only at p19; omega) (by omega) (cmo_mid e2)
        have e4 : z = h.ct := by simp only at p18; omega
        rw [e4]
/-- A piece of a list, from another one. -/
def fgf (f c : List (BitVec 8)) (a m p : Nat) : BitVec 8 := if a ≤ p ∧ p < a + m then c.getD p 0#8 else f.getD p 0#8
def fgl (f c : List (BitVec 8)) (a m : Nat) : List (BitVec 8) := (List.range f.length).map (fgf f c a m)
theorem fgl_len (f c : List (BitVec 8)) (a m : Nat) : (fgl f c a m).length = f.length := by unfold fgl; simp
theorem fgl_at (f c : List (BitVec 8)) (a m p : Nat) (hp : p < f.length) : (fgl f c a m)[p]? = some (fgf f c a m p) := by unfold fgl; simp [hp]
theorem fgl_zero (f c : List (BitVec 8)) (a : Nat) : fgl f c a 0 = f := by
  apply List.ext_getElem?
  intro p
  by_cases hp : p < f.length
  · rw [fgl_at _ _ _ _ _ hp]
    unfold fgf
    rw [if_neg (by omega)]
    simp [List.getD, hp]
  · rw [List.getElem?_eq_none (by rw [fgl_len]; omega), List.getElem?_eq_none (by omega)]
theorem fgl_succ (f c : List (BitVec 8)) (a m : Nat) (h2 : a + m < f.length) : (fgl f c a m).set (a + m) (c.getD (a + m) 0#8) = fgl f c a (m + 1) := by
  apply List.ext_getElem?
  intro p
  by_cases hp : p < f.length
  · rw [fgl_at _ _ _ _ _ hp, List.getElem?_set]
    by_cases e1 : a + m = p
    · subst e1
      rw [if_pos rfl, if_pos (by rw [fgl_len]; exact h2)]
      unfold fgf
      rw [if_pos (by omega)]
    · rw [if_neg e1, fgl_at _ _ _ _ _ hp]
      unfold fgf
      by_cases c1 : a ≤ p ∧ p < a + m
      · rw [if_pos c1, if_pos (by omega)]
      · rw [if_neg c1, if_neg (by omega)]
  · rw [List.getElem?_eq_none (by rw [List.length_set, fgl_len]; omega), List.getElem?_eq_none (by rw [fgl_len]; omega)]
theorem fgl_parts (P X R P' Y R' : List (BitVec 8)) (h1 : P.length = P'.length) (hm : X.length = Y.length) : fgl (P ++ (X ++ R)) (P' ++ (Y ++ R')) P.length X.length = P ++ (Y ++ R) := by
  apply List.ext_getElem?
  intro p
  have hl : (P ++ (X ++ R)).length = P.length + (X.length + R.length) := by simp only [List.length_append]
  by_cases hp : p < (P ++ (X ++ R)).length
  · rw [fgl_at _ _ _ _ _ hp]
    unfold fgf
    by_cases c1 : P.length ≤ p ∧ p < P.length + X.length
    · rw [if_pos c1, List.getElem?_append_right c1.1, List.getElem?_append_left (by omega)]
      have e : (P' ++ (Y ++ R'))[p]? = some (Y[p - P.length]'(by omega)) := by
        rw [List.getElem?_append_right (by omega), List.getElem?_append_left (by omega), List.getElem?_eq_getElem (by omega)]
        congr 2; omega
      rw [getD_of e, List.getElem?_eq_getElem (by omega)]
    · rw [if_neg c1]
      have e : (P ++ (X ++ R))[p]? = (P ++ (Y ++ R))[p]? := by
        by_cases d1 : p < P.length
        · rw [List.getElem?_append_left d1, List.getElem?_append_left d1]
        · have l1 : (P ++ (X ++ R))[p]? = R[p - P.length - X.length]? := by rw [List.getElem?_append_right (by omega), List.getElem?_append_right (by omega)]
          have r1 : (P ++ (Y ++ R))[p]? = R[p - P.length - Y.length]? := by rw [List.getElem?_append_right (by omega), List.getElem?_append_right (by omega)]
          rw [l1, r1, hm]
      rw [← e, List.getD_eq_getElem?_getD, List.getElem?_eq_getElem hp]
      rfl
  · rw [List.getElem?_eq_none (by rw [fgl_len]; omega), List.getElem?_eq_none (by simp only [List.length_append] at hp ⊢; omega)]
/-- The frames with one out of another file. -/
def fgp (h : Hd) (s : BitVec 32) (A C : List (List (BitVec 8))) (y : List (BitVec 8)) : List (List (BitVec 8) × List (BitVec 8)) :=
  frp h.s2 0 A ++ ((y, sm (bsm s A.length y)) :: frp h.s2 (A.length + 1) C)
theorem fgp_four (h : Hd) (s : BitVec 32) (A C : List (List (BitVec 8))) (y : List (BitVec 8)) : ∀ q ∈ fgp h s A C y, q.2.length = 4 := by
  intro q hq
  unfold fgp at hq
  simp only [List.mem_append, List.mem_cons] at hq
  rcases hq with hq | rfl | hq
  · exact frp_four _ _ _ q hq
  · exact sm_len _
  · exact frp_four _ _ _ q hq
theorem fgp_grd (h : Hd) (s : BitVec 32) (A C : List (List (BitVec 8))) (y : List (BitVec 8)) (hs : s ≠ h.s2) : grd h.s2 0 (fgp h s A C y) = A.map some ++ (none :: C.map some) := by
  unfold fgp
  have n1 : ¬ lv (sm (bsm s A.length y)) = (bsm h.s2 A.length y).toNat := fun e => by
    rw [lv_sm] at e
    exact hs (bsm_head (BitVec.eq_of_toNat_eq e))
  rw [grd_app, grd_frp, frp_len, Nat.zero_add]
  simp only [grd]
  rw [if_neg n1, grd_frp]
theorem gfr_len (ps : List (List (BitVec 8) × List (BitVec 8))) : (∀ q ∈ ps, q.2.length = 4) → (gfr ps).length = tot (ps.map (fun q => q.1.length)) := by
  induction ps with
  | nil => intro _; rfl
  | cons q ps ih =>
    obtain ⟨u, v⟩ := q
    intro h4
    have h0 : v.length = 4 := h4 (u, v) (by simp)
    simp only [gfr, List.length_append, List.map_cons, tot, h0]
    rw [ih (fun q hq => h4 q (by simp [hq]))]
theorem foreign_told (h : Hd) (s : BitVec 32) (A C : List (List (BitVec 8))) (x y : List (BitVec 8)) (hm : May h (A ++ (x :: C))) (hxy : x.length = y.length) (hs : s ≠ h.s2) :
    sP (h.hb ++ gfr (fgp h s A C y)) = (0, [A.length]) ∧ pS (h.hb ++ gfr (fgp h s A C y)) = (82, hd0, []) := by
  have hl : (fgp h s A C y).map (fun q => q.1.length) = h.ls := by rw [← hm.2]; unfold fgp; simp only [List.map_append, List.map_cons, frp_ls, hxy]
  have eb := h.bk_gfr (fgp h s A C y) (fgp_four h s A C y) hl
  rw [fgp_grd h s A C y hs] at eb
  have eh := pH_fm h hm.1 (gfr (fgp h s A C y))
  have elen : (h.hb ++ gfr (fgp h s A C y)).length = h.len := by
    rw [List.length_append, h.hb_len, gfr_len _ (fgp_four h s A C y), hl]
    rfl
  refine ⟨?_, ?_⟩
  · unfold sP
    rw [eh]
    simp only [eb]
    rw [if_neg (by simp), spo_app, spo_map, List.length_map, Nat.zero_add, List.nil_append]
    simp only [spo]
    rw [spo_map]
  · unfold pS
    rw [eh]
    simp only [eb, alls_none, elen]
    simp
theorem part1 (B : List (List (BitVec 8))) (j : Nat) (hj : j < B.length) : ∃ A C, B = A ++ (B.getD j [] :: C) ∧ A.length = j := by
  refine ⟨B.take j, B.drop (j + 1), ?_, by rw [List.length_take]; omega⟩
  have e1 : B.drop j = B.getD j [] :: B.drop (j + 1) := by rw [List.drop_eq_getElem_cons (by omega)]; simp [List.getD, show j < B.length by omega]
  rw [← e1, List.take_append_drop]
theorem fm_mid (h : Hd) (A C : List (List (BitVec 8))) (x : List (BitVec 8)) : h.fm (A ++ (x :: C)) = (h.hb ++ frs h.s2 0 A) ++ ((x ++ sm (bsm h.s2 A.length x)) ++ frs h.s2 (A.length + 1) C) := by
  unfold Hd.fm
  rw [← frp_gfr, frp_app, gfr_app, frp_gfr, Nat.zero_add, List.append_assoc]
  congr 2
  simp only [frp, gfr, frp_gfr]
theorem tot_app (U V : List Nat) : tot (U ++ V) = tot U + tot V := by
  induction U with
  | nil => simp [tot]
  | cons n U ih => simp only [List.cons_append, tot, ih]; omega
/-- All that the foreign frame asks, in plain numbers. -/
theorem foreign_all (h g : Hd) (B D : List (List (BitVec 8))) (hm : May h B) (hg : May g D) (hk : g.key = h.key) (hl : g.ls = h.ls) (hs : g.s2 ≠ h.s2) (j : Nat) (hj : j < B.length) :
    ∃ al m : Nat, (bgs (40 + h.key.length) (B.map List.length)).getD j 0 = al ∧ (bgs (40 + h.key.length) (B.map List.length)).getD (j + 1) 0 = al + m ∧ (bgs (40 + h.key.length) (B.map List.length)).getD B.length 0 = h.len ∧ al + m ≤ h.len
      ∧ sP (fgl (h.fm B) (g.fm D) al m) = (0, [j]) ∧ pS (fgl (h.fm B) (g.fm D) al m) = (82, hd0, []) := by
  have eL : D.map List.length = B.map List.length := by rw [hg.2, hm.2, hl]
  have hDl : D.length = B.length := by have := congrArg List.length eL; simpa using this
  obtain ⟨A, C, eB, eA⟩ := part1 B j hj
  obtain ⟨A', C', eD, eA'⟩ := part1 D j (by omega)
  generalize B.getD j [] = x at *
  generalize D.getD j [] = y at *
  have eM : B.map List.length = A.map List.length ++ (x.length :: C.map List.length) := by rw [eB]; simp
  have eM' : D.map List.length = A'.map List.length ++ (y.length :: C'.map List.length) := by rw [eD]; simp
  have lM : (B.map List.length).length = B.length := by simp
  have e5 : A'.map List.length ++ (y.length :: C'.map List.length) = A.map List.length ++ (x.length :: C.map List.length) := by rw [← eM, ← eM', eL]
  have e6 := List.append_inj e5 (by simp [eA, eA'])
  have e7 : y.length = x.length := by have := e6.2; injection this
  have t1 : (B.map List.length).take j = A.map List.length := by rw [eM, List.take_append_of_le_length (by simp [eA]), List.take_of_length_le (by simp [eA])]
  have t2 : (B.map List.length).take (j + 1) = A.map List.length ++ [x.length] := by
    have e8 : B.map List.length = (A.map List.length ++ [x.length]) ++ C.map List.length := by rw [eM]; simp
    rw [e8, List.take_append_of_le_length (by simp; omega), List.take_of_length_le (by simp; omega)]
  have t4 : (B.map List.length).take B.length = B.map List.length := List.take_of_length_le (by simp)
  have hlen : 40 + h.key.length + tot (B.map List.length) = h.len := by rw [hm.2]; rfl
  have q := foreign_told h g.s2 A C x y (by rw [← eB]; exact hm) e7.symm hs
  have l1 : (h.hb ++ frs h.s2 0 A).length = 40 + h.key.length + tot (A.map List.length) := by rw [List.length_append, h.hb_len, frs_len]
  have l1' : (g.hb ++ frs g.s2 0 A').length = 40 + h.key.length + tot (A.map List.length) := by rw [List.length_append, g.hb_len, frs_len, hk, e6.1]
  have l2 : (x ++ sm (bsm h.s2 A.length x)).length = x.length + 4 := by rw [List.length_append, sm_len]
  have l2' : (y ++ sm (bsm g.s2 A'.length y)).length = y.length + 4 := by rw [List.length_append, sm_len]
  have q2 : fgl (h.fm B) (g.fm D) (40 + h.key.length + tot (A.map List.length)) (x.length + 4) = h.hb ++ gfr (fgp h g.s2 A C y) := by
    have p := fgl_parts (h.hb ++ frs h.s2 0 A) (x ++ sm (bsm h.s2 A.length x)) (frs h.s2 (A.length + 1) C) (g.hb ++ frs g.s2 0 A') (y ++ sm (bsm g.s2 A'.length y)) (frs g.s2 (A'.length + 1) C') (by rw [l1, l1']) (by rw [l2, l2', e7])
    rw [← fm_mid, ← fm_mid, l1, l2, ← eB, ← eD] at p
    rw [p]
    unfold fgp
    rw [gfr_app, frp_gfr]
    simp only [gfr, frp_gfr, List.append_assoc]
    rw [eA', eA]
  rw [← q2, eA] at q
  refine ⟨40 + h.key.length + tot (A.map List.length), x.length + 4, ?_, ?_, ?_, ?_, q.1, q.2⟩
  · rw [bgs_at _ _ _ (by omega), t1]
  · rw [bgs_at _ _ _ (by omega), t2, tot_app]; simp only [tot]; omega
  · rw [bgs_at _ _ _ (by omega), t4, hlen]
  · rw [← hlen, eM, tot_app]; simp only [tot]; omega
end Go.Proofs.Ytkafbeicgaoebaa
/-
  FrameForeign: the struct that is handed in; the way of a head that may not be.
-/
namespace Go.Proofs.Ytkafbeicgaoebaa
open Go.RowKit
/-- What is handed in. -/
def fgC (h : Hd) (v v2 : Value) (q z j : Int) : Array Value := (((h.sh v).push v2).push (.int .i64 q)).push (.int .i64 z) |>.push (.int .i64 j)
/-- It lies in the block g. -/
def FgAt (w : World) (g : Nat) (h : Hd) (v v2 : Value) (q z j : Int) : Prop := w.heap[g]? = some (.cells (fgC h v v2 q z j) 54)
theorem FgAt.below {w w' : World} {g : Nat} {h : Hd} {v v2 : Value} {q z j : Int} (H : FgAt w g h v v2 q z j) (hb : Below w.heap.size w w') : FgAt w' g h v v2 q z j := by
  unfold FgAt at *; rw [hb.block g (Hm.lt H)]; exact H
theorem FgAt.at {w : World} {g : Nat} {h : Hd} {v v2 : Value} {q z j : Int} (H : FgAt w g h v v2 q z j) (i : Nat) (u : Value) (hu : (fgC h v v2 q z j)[i]? = some u) : w.cell? ⟨g, i, none⟩ = some u := by
  unfold FgAt at H
  rw [cell_of_row _ _ _ _ _ (0, 0) H]; exact hu
theorem FgAt.nums {w : World} {g : Nat} {h : Hd} {v v2 : Value} {q z j : Int} (H : FgAt w g h v v2 q z j) : w.cell? ⟨g, 17, none⟩ = some v2 ∧ w.cell? ⟨g, 18, none⟩ = some (.int .i64 q) ∧ w.cell? ⟨g, 19, none⟩ = some (.int .i64 z) ∧ w.cell? ⟨g, 20, none⟩ = some (.int .i64 j) :=
  ⟨H.at 17 _ rfl, H.at 18 _ rfl, H.at 19 _ rfl, H.at 20 _ rfl⟩
theorem FgAt.shard {w : World} {g : Nat} {h : Hd} {v v2 : Value} {q z j : Int} (H : FgAt w g h v v2 q z j) : ∀ i u, (h.sh v).toList[i]? = some u → w.cell? ⟨g, i, none⟩ = some u := by
  intro i u hi
  refine H.at i u ?_
  have hl : i < (h.sh v).size := by
    rcases Nat.lt_or_ge i (h.sh v).toList.length with h1 | h1
    · simpa using h1
    · rw [List.getElem?_eq_none h1] at hi; cases hi
  unfold fgC
  rw [Array.getElem?_push_lt (by simp only [Array.size_push]; omega)]
  simp only [Array.getElem_push]
  rw [dif_pos (by simp only [Array.size_push]; omega), dif_pos (by simp only [Array.size_push]; omega), dif_pos hl]
  simpa [hl] using hi
theorem FgAt.head {w : World} {g : Nat} {h : Hd} {v v2 : Value} {q z j : Int} (H : FgAt w g h v v2 q z j) : HdIn w g h := by
  intro i u hi
  refine H.shard i u ?_
  have hl : i < h.cs.size := by
    rcases Nat.lt_or_ge i h.cs.toList.length with h1 | h1
    · simpa using h1
    · rw [List.getElem?_eq_none h1] at hi; cases hi
  unfold Hd.sh
  rw [Array.getElem?_toList, Array.getElem?_push_lt hl]
  simpa [hl] using hi
theorem FgAt.run {w : World} {g : Nat} {h : Hd} {v v2 : Value} {q z j : Int} (H : FgAt w g h v v2 q z j) : (loadVar 31 ⟨g, 0, none⟩).run Try.prog w = .ok (.agg (h.sh v)) w :=
  run_loadVar_in w g 31 (h.sh v) _ H.shard Try.underlying31 rfl sizeSd
theorem wpList_ldF {w : World} {ops : Array Oper} {rest : List Oper} {o : Oper} {a : Act} {Q : Exit → Act → World → Prop} {h : Hd} {v v2 : Value} {q z j : Int} (hgd : o.guard = none) (x : Operand) (ho : o.op = .load 31 x) (g : Nat) (hx : a.eval x = .pointer (some ⟨g, 0, none⟩)) (H : FgAt w g h v v2 q z j)
    (k : wpList Try.prog ops Q rest (a.put o.dst (.agg (h.sh v))) w) : wpList Try.prog ops Q (o :: rest) a w := by
  refine wpList_plain hgd fun K hK => ?_
  unfold Oper.wp execOp
  simp only [ho, hx, Instr.loadAt, Instr.sureAddr, Sem.run_bind, Sem.run_pure, Result.andThen_ok, H.run]
  exact hK _ _ k
theorem run_bdT (h : Hd) (p : Option Addr) (n c : Nat) (w : World) : (Instr.build 31 #[(0, .agg h.cs), (1, .slice p n c)]).run Try.prog w = .ok (.agg (h.sh (.slice p n c))) w := by kernel_rfl
theorem wpList_bdT {w : World} {ops : Array Oper} {rest : List Oper} {o : Oper} {a : Act} {Q : Exit → Act → World → Prop} {h : Hd} {p : Option Addr} {n c : Nat} (hgd : o.guard = none) (x y : Operand) (ho : o.op = .build 31 #[(0, x), (1, y)]) (hx : a.eval x = .agg h.cs) (hy : a.eval y = .slice p n c)
    (k : wpList Try.prog ops Q rest (a.put o.dst (.agg (h.sh (.slice p n c)))) w) : wpList Try.prog ops Q (o :: rest) a w := by
  refine wpList_plain hgd fun K hK => ?_
  unfold Oper.wp execOp
  simp only [ho, List.map_toArray, List.map_cons, List.map_nil, hx, hy, run_bdT h p n c, Sem.run_bind, Sem.run_pure, Result.andThen_ok]
  exact hK _ _ k
theorem alt_set {w : World} {g : Nat} {h : Hd} {v : Value} (H : SdAt w g h v) (z : Int) :
    SdAt (w.setCell ⟨g, 9, none⟩ (.int .i64 z)) g { h with m := z } v ∧ SdAt (w.setCell ⟨g, 13, none⟩ (.int .i64 z)) g { h with ix := z } v ∧ SdAt (w.setCell ⟨g, 14, none⟩ (.int .i64 z)) g { h with ep := z } v ∧ SdAt (w.setCell ⟨g, 15, none⟩ (.int .i64 z)) g { h with ct := z } v := by
  unfold SdAt at *
  exact ⟨heap_setCell_same w g 9 _ _ _ H, heap_setCell_same w g 13 _ _ _ H, heap_setCell_same w g 14 _ _ _ H, heap_setCell_same w g 15 _ _ _ H⟩
theorem alt_in (q z : Int) (h : Hd) (hi : h.In) (hz : In64 z) : (alt q z h).In := by
  obtain ⟨i1, i2, i3, i4, i5, i6, i7⟩ := hi
  unfold alt
  split
  · exact ⟨i1, hz, i3, i4, i5, i6, i7⟩
  split
  · exact ⟨i1, i2, i3, i4, hz, i6, i7⟩
  split
  · exact ⟨i1, i2, i3, i4, i5, hz, i7⟩
  · exact ⟨i1, i2, i3, i4, i5, i6, hz⟩
section
attribute [local irreducible] Calls el Hd.cs Hd.sh chk fgC
set_option maxHeartbeats 16000000 in
set_option maxRecDepth 1000000 in
theorem frameForeign_no (h : Hd) (hin : h.In) (hy : h.key.length ≤ 9223372036854775807) (a : Option Addr) (n c : Nat) (v2 : Value) (q z j : Int) (w : World) (hc : chk h ≠ 0) :
    Calls Try.prog 4 #[.agg (fgC h (.slice a n c) v2 q z j)] w fun e w' => e = .returned (.bool true) ∧ Below w.heap.size w w' := by
  have al : ∀ (W : World) (o : Obj), Below W.heap.size W (W.alloc o) := fun W o => (Below.refl _ _).alloc (Nat.le_refl _) o
  have AW := (show Hid _ from awake_any)
  have S0 := (show Hid (FgAt (w.alloc (.cells (fgC h (.slice a n c) v2 q z j) 54)) w.heap.size h (.slice a n c) v2 q z j) from heap_alloc_new w _)
  have B0 := (show Hid (Below w.heap.size w (w.alloc (.cells (fgC h (.slice a n c) v2 q z j) 54))) from al _ _)
  go_enter Try.func4, Try.ntmps4
  go_wp2_with (first
    | (go_at_call 5; refine (AW.out _).mono ?_; rintro e w1 ⟨rfl, hb1⟩; have S1 := (show Hid (FgAt w1 w.heap.size h (.slice a n c) v2 q z j) from FgAt.below S0.out hb1); have Bw1 := (show Hid (Below w.heap.size w w1) from bt B0.out hb1); clear S0 B0)
    | (refine wpList_ldF rfl _ rfl w.heap.size rfl S1.out ?_)
    | (go_at_call 6; refine (fit8_no h hin hy a n c w1 hc).mono ?_; rintro e w2 ⟨rfl, hb2⟩)
    | (refine wpList_stS h (.slice a n c) rfl rfl _ _ rfl rfl w2.heap.size rfl rfl (sz0 (heap_alloc_new w2 _)) ?_; intro w3 H3 hT3; have B23 := hT3.2.1 _ _ (al w2 _) (Nat.le_refl _); have Bw3 := (show Hid (Below w.heap.size w w3) from bt (bt Bw1.out hb2) B23); clear S1 hT3 H3 Bw1 B23))
  go_ret
  exact ⟨rfl, Bw3.out⟩
end
end Go.Proofs.Ytkafbeicgaoebaa
/-
  FrameForeign: the walk.
-/
namespace Go.Proofs.Ytkafbeicgaoebaa
open Go.RowKit
theorem HdIn.run8 {w : World} {g : Nat} {h : Hd} (H : HdIn w g h) : (loadVar 28 ⟨g, 0, none⟩).run Try.prog w = .ok (.agg h.cs) w :=
  run_loadVar_in w g 28 h.cs _ H Try.underlying28 rfl sizeHd
theorem wpList_ldHg {w : World} {ops : Array Oper} {rest : List Oper} {o : Oper} {a : Act} {Q : Exit → Act → World → Prop} {h : Hd} (hw : Region.wanted o (yielded ops a.tmps) = true) (x : Operand) (ho : o.op = .load 28 x) (g : Nat) (hx : a.eval x = .pointer (some ⟨g, 0, none⟩)) (H : HdIn w g h)
    (k : wpList Try.prog ops Q rest (a.put o.dst (.agg h.cs)) w) : wpList Try.prog ops Q (o :: rest) a w := by
  refine wpList_step fun K hK => ?_
  rw [if_pos hw]
  unfold Oper.wp execOp
  simp only [ho, hx, Instr.loadAt, Instr.sureAddr, Sem.run_bind, Sem.run_pure, Result.andThen_ok, H.run8]
  exact hK _ _ k
theorem oi_cells8 {w : World} {base : Nat} {v : Value} {L : List Nat} (h : Oi w base v L) (h0 : 0 < L.length) : ∃ g cap, v = .slice (some ⟨g, 0, none⟩) L.length cap ∧ base ≤ g ∧ ∀ i, i < L.length → w.cell? ⟨g, i, none⟩ = some (.int .i64 ((L.getD i 0 : Nat) : Int)) := by
  rcases h.2 with ⟨hv, h1⟩ | ⟨g, cap, c, hv, hg, hh, hc, hm, hs, ht⟩
  · omega
  · refine ⟨g, cap, hv, hg, fun i hi => ?_⟩
    have := h.cells (g := g) (by rw [hv]; rfl) i _ (ic_at L i hi)
    rwa [add_pl, Nat.zero_add] at this
theorem fn_getD (xs : List (BitVec 8)) (i : Nat) : fn xs i = xs.getD i 0#8 := rfl
theorem one_vj (w : World) (j : Nat) : Vr (w.alloc (.cells #[.int .i64 (j : Int)] 3)) (some ⟨w.heap.size, 0, none⟩) (ic [j]) := by
  refine .inr ⟨w.heap.size, 0, rfl, fun i u hu => ?_⟩
  match i, hu with
  | 0, hu =>
    rw [cell_of_row _ _ _ _ _ (0, 0) (heap_alloc_new w _), ← hu]; rfl
theorem fg_facts {al0 t m len : Nat} {f : List (BitVec 8)} (hl : len ≤ 140737488355328) (h : al0 + m ≤ len) (ht : t < m) (hf : f.length = len) : ∃ A1 : Nat, al0 + t = A1 ∧ (A1 : Int) < (len : Int) ∧ (A1 : Int) < ((al0 + m : Nat) : Int) ∧ wrap64 ((A1 : Int) + 1) = ((al0 + (t + 1) : Nat) : Int) ∧ Hid (A1 < f.length) := by
  refine ⟨al0 + t, rfl, by omega, by omega, by unfold wrap64; omega, (by show _ < _; omega)⟩
theorem fg_meas {al0 t m : Nat} (ht : t < m) : al0 + m - (intOf (.int .i64 ((al0 + (t + 1) : Nat) : Int))).toNat < al0 + m - (intOf (.int .i64 ((al0 + t : Nat) : Int))).toNat := by
  simp only [intOf, Int.toNat_natCast]; omega
section
attribute [local irreducible] Calls el Hd.cs Hd.sh chk fgC fgl fn bgs hq Wr alt
set_option maxHeartbeats 16000000 in
set_option maxRecDepth 1000000 in
theorem frameForeign_ok (h : Hd) (hin : h.In) (hy : h.key.length ≤ 9223372036854775807) (a : Option Addr) (n c : Nat) (bl : List (List (BitVec 8))) (hb : bl.length = n) (a2 : Option Addr) (n2 c2 : Nat) (bl2 : List (List (BitVec 8))) (hb2 : bl2.length = n2) (q z j : Int) (hz : In64 z) (w : World) (hR : Rws w a bl) (hR2 : Rws w a2 bl2) (ok : h.Ok) :
    Calls Try.prog 4 #[.agg (fgC h (.slice a n c) (.slice a2 n2 c2) q z j)] w fun e w' => e = .returned (.bool true) ∧ Below w.heap.size w w' := by
  have al : ∀ (W : World) (o : Obj), Below W.heap.size W (W.alloc o) := fun W o => (Below.refl _ _).alloc (Nat.le_refl _) o
  have AW := (show Hid _ from awake_any)
  have S0 := (show Hid (FgAt (w.alloc (.cells (fgC h (.slice a n c) (.slice a2 n2 c2) q z j) 54)) w.heap.size h (.slice a n c) (.slice a2 n2 c2) q z j) from heap_alloc_new w _)
  have B0 := (show Hid (Below w.heap.size w (w.alloc (.cells (fgC h (.slice a n c) (.slice a2 n2 c2) q z j) 54))) from al _ _)
  have Q0 := (show Hid (Rws w a bl) from hR)
  have P0 := (show Hid (Rws w a2 bl2) from hR2)
  clear hR hR2
  go_enter Try.func4, Try.ntmps4
  go_upto_region 8 with (first
    | (go_at_call 5; refine (AW.out _).mono ?_; rintro e w1 ⟨rfl, hb1⟩; have S1 := (show Hid (FgAt w1 w.heap.size h (.slice a n c) (.slice a2 n2 c2) q z j) from FgAt.below S0.out hb1); have Bw1 := (show Hid (Below w.heap.size w w1) from bt B0.out hb1); clear S0 B0)
    | (refine wpList_ldF rfl _ rfl w.heap.size rfl S1.out ?_)
    | (go_at_call 6; refine (fit8_ok h hin ok (Rws.below Q0.out Bw1.out) n c hb).mono ?_; rintro e w2 ⟨v2, rfl, hB2, hb2'⟩; obtain ⟨q2, d2, rfl, hd2, hR2⟩ := hB2.rws; have R2 := (show Hid (Rws w2 q2 (fitB h.ls bl)) from hR2); clear hB2 hR2)
    | (refine wpList_stS h (.slice q2 (fitB h.ls bl).length d2) rfl rfl _ _ rfl rfl w2.heap.size rfl rfl (sz0 (heap_alloc_new w2 _)) ?_; intro w3 H3 hT3; have B23 := hT3.2.1 _ _ (al w2 _) (Nat.le_refl _); have S3 := (show Hid (SdAt w3 w2.heap.size h (.slice q2 (fitB h.ls bl).length d2)) from H3); have R3 := (show Hid (Rws w3 q2 (fitB h.ls bl)) from Rws.below R2.out B23); have Bw3 := (show Hid (Below w.heap.size w w3) from bt (bt Bw1.out hb2') B23); have F3 := (show Hid (FgAt w3 w.heap.size h (.slice a n c) (.slice a2 n2 c2) q z j) from FgAt.below (FgAt.below S1.out hb2') B23); have k17 := F3.out.nums.1; clear S1 hT3 H3 R2 Bw1 B23)
    | (refine wpList_loadIn rfl _ rfl w.heap.size rfl (FgAt.head F3.out) ?_)
    | (refine wpList_bdT (h := h) (p := a2) (n := n2) (c := c2) rfl _ _ rfl rfl rfl ?_)
    | (refine wpList_stS h (.slice a2 n2 c2) rfl rfl _ _ rfl rfl w3.heap.size rfl rfl (sz0 (heap_alloc_new w3 _)) ?_; intro w4 H4 hT4; have B34 := (show Hid (Below w3.heap.size w3 w4) from hT4.2.1 _ _ (al w3 _) (Nat.le_refl _)); have S4 := (show Hid (SdAt w4 w3.heap.size h (.slice a2 n2 c2)) from H4); have F4 := (show Hid (FgAt w4 w.heap.size h (.slice a n c) (.slice a2 n2 c2) q z j) from FgAt.below F3.out B34.out); clear hT4 H4 k17))
  have k18 := F4.out.nums.2.1
  go_upto_block 0 with fail
  clear k18
  go_cut [] (fun wx => Hid (SdAt wx w3.heap.size (alt q z h) (.slice a2 n2 c2)) ∧ Hid (Below w3.heap.size w3 wx))
  case first =>
    have k19 := F4.out.nums.2.2.1
    obtain ⟨-, c9, -, -, -, c13, c14, c15⟩ := (SdAt.head S4.out).cells
    have f9 := S4.out.frozen 9
    have f13 := S4.out.frozen 13
    have f14 := S4.out.frozen 14
    have f15 := S4.out.frozen 15
    by_cases e0 : q = 0
    · have dd0 : (q == 0) = true := by simp [e0]
      have E0 := (show Hid (q = 0) from e0)
      clear e0
      go_wp2_with (fail)
      go_meet
      case rel => exact ⟨(by show SdAt _ _ _ _; unfold alt; rw [if_pos E0.out]; exact (alt_set S4.out z).1), (by show Below _ _ _; exact B34.out.setCell (Nat.le_refl _) _)⟩
    · have dd0 : (q == 0) = false := by simp [e0]
      by_cases e1 : q = 1
      · have dd1 : (q == 1) = true := by simp [e1]
        have E1 := (show Hid (q = 1) from e1)
        clear e1
        go_wp2_with (fail)
        go_meet
        case rel => exact ⟨(by show SdAt _ _ _ _; unfold alt; rw [if_neg e0, if_pos E1.out]; exact (alt_set S4.out z).2.1), (by show Below _ _ _; exact B34.out.setCell (Nat.le_refl _) _)⟩
      · have dd1 : (q == 1) = false := by simp [e1]
        by_cases e2 : q = 2
        · have dd2 : (q == 2) = true := by simp [e2]
          have E2 := (show Hid (q = 2) from e2)
          clear e2
          go_wp2_with (fail)
          go_meet
          case rel => exact ⟨(by show SdAt _ _ _ _; unfold alt; rw [if_neg e0, if_neg e1, if_pos E2.out]; exact (alt_set S4.out z).2.2.1), (by show Below _ _ _; exact B34.out.setCell (Nat.le_refl _) _)⟩
        · have dd2 : (q == 2) = false := by simp [e2]
          go_wp2_with (fail)
          go_meet
          case rel => exact ⟨(by show SdAt _ _ _ _; unfold alt; rw [if_neg e0, if_neg e1, if_neg e2]; exact (alt_set S4.out z).2.2.2), (by show Below _ _ _; exact B34.out.setCell (Nat.le_refl _) _)⟩
  case rest =>
    clear S4 B34 F4
    obtain ⟨SC, BC⟩ := hcut
    obtain ⟨g, hg⟩ : ∃ g, g = alt q z h := ⟨_, rfl⟩
    have gin : g.In := by rw [hg]; exact alt_in q z h hin hz
    have eK := (show Hid (g.key = h.key) from by rw [hg]; exact alt_key q z h)
    have gy : g.key.length ≤ 9223372036854775807 := by rw [eK.out]; exact hy
    have eL := (show Hid (g.ls = h.ls ∧ g.len = h.len) from by rw [hg]; exact ⟨alt_ls q z h, alt_len q z h⟩)
    have eS := (show Hid (g.Ok → g ≠ h → g.s2 ≠ h.s2) from by rw [hg]; exact fun o1 o2 => alt_s2 q z h ok o1 o2)
    rw [← hg] at SC
    clear hg
    have S3c := (show Hid (SdAt wc w2.heap.size h (.slice q2 (fitB h.ls bl).length d2)) from SdAt.below S3.out BC.out)
    have R3c := (show Hid (Rws wc q2 (fitB h.ls bl)) from Rws.below R3.out BC.out)
    have Bwc := (show Hid (Below w.heap.size w wc) from bt Bw3.out BC.out)
    have Fc := (show Hid (FgAt wc w.heap.size h (.slice a n c) (.slice a2 n2 c2) q z j) from FgAt.below F3.out BC.out)
    have Pc := (show Hid (Rws wc a2 bl2) from Rws.below P0.out Bwc.out)
    clear S3 R3 Bw3 F3 BC P0 Q0
    by_cases hcg : chk g = 0
    · have okg := (chk_ok g).1 hcg
      go_upto_region 18 with (first
        | (refine wpList_ldS rfl _ rfl w3.heap.size rfl SC.out ?_)
        | (go_at_call 6; refine (fit8_ok g gin okg Pc.out n2 c2 hb2).mono ?_; rintro e w5 ⟨v5, rfl, hB5, hb5⟩; obtain ⟨q5, d5, rfl, hd5, hR5⟩ := hB5.rws; have R5 := (show Hid (Rws w5 q5 (fitB g.ls bl2)) from hR5); clear hB5 hR5)
        | (refine wpList_stS g (.slice q5 (fitB g.ls bl2).length d5) rfl rfl _ _ rfl rfl w5.heap.size rfl rfl (sz0 (heap_alloc_new w5 _)) ?_; intro w6 H6 hT6; have B56 := hT6.2.1 _ _ (al w5 _) (Nat.le_refl _); have Bw6 := (show Hid (Below w.heap.size w w6) from bt (bt Bwc.out hb5) B56); have k20 := (FgAt.below (FgAt.below Fc.out hb5) B56).nums.2.2.2; have G6 := (show Hid (SdAt w6 w5.heap.size g (.slice q5 (fitB g.ls bl2).length d5)) from H6); have S6 := (show Hid (SdAt w6 w2.heap.size h (.slice q2 (fitB h.ls bl).length d2)) from SdAt.below (SdAt.below S3c.out hb5) B56); have RG6 := (show Hid (Rws w6 q5 (fitB g.ls bl2)) from Rws.below R5.out B56); have R6 := (show Hid (Rws w6 q2 (fitB h.ls bl)) from Rws.below (Rws.below R3c.out hb5) B56); clear hT6 H6 B56 R5 S3c R3c Fc Pc Bwc SC hb5))
      clear k20
      have s16 := S6.out.last
      have EH := fun W => eql_head g h W
      by_cases hgh : hq g h = true
      · rw [hgh] at EH
        go_wp2_with (first
          | (refine wpList_ldHg (by rfl) _ rfl w5.heap.size rfl (SdAt.head G6.out) ?_)
          | (refine wpList_ldHg (by rfl) _ rfl w2.heap.size rfl (SdAt.head S6.out) ?_))
        go_ret
        exact ⟨rfl, Bw6.out⟩
      · have hne := (show Hid (g ≠ h) from fun e => hgh ((hq_iff g h).2 e))
        have hqf : hq g h = false := by simpa using hgh
        rw [hqf] at EH
        clear hqf hgh
        by_cases f1 : j < 0
        · go_wp2_with (first
            | (refine wpList_ldHg (by rfl) _ rfl w5.heap.size rfl (SdAt.head G6.out) ?_)
            | (refine wpList_ldHg (by rfl) _ rfl w2.heap.size rfl (SdAt.head S6.out) ?_))
          go_ret
          exact ⟨rfl, Bw6.out⟩
        · by_cases f2 : ((fitB h.ls bl).length : Int) ≤ j
          · go_wp2_with (first
              | (refine wpList_ldHg (by rfl) _ rfl w5.heap.size rfl (SdAt.head G6.out) ?_)
              | (refine wpList_ldHg (by rfl) _ rfl w2.heap.size rfl (SdAt.head S6.out) ?_))
            go_ret
            exact ⟨rfl, Bw6.out⟩
          · obtain ⟨jn, rfl⟩ : ∃ jn : Nat, j = (jn : Int) := ⟨j.toNat, by omega⟩
            have hj : jn < (fitB h.ls bl).length := by omega
            have hm := fit_may h ok bl
            have hmg := fit_may g okg bl2
            obtain ⟨al0, m, b1, b2, b3, b4, b5, b6⟩ := foreign_all h g (fitB h.ls bl) (fitB g.ls bl2) hm hmg eK.out eL.out.1 (eS.out okg hne.out) jn hj
            have hlb : (fitB h.ls bl).length ≤ 1000000000 := by rw [fitB_len]; exact Nat.le_trans (h.ls_bd ok) (by decide)
            have hfl := fm_is hm
            have hcl : (g.fm (fitB g.ls bl2)).length = h.len := by rw [fm_is hmg]; exact eL.out.2
            have hld := h.len_bd ok
            have hky : h.key.length ≤ 255 := by obtain ⟨⟩ := ok; omega
            have hlen : 40 + h.key.length + tot ((fitB h.ls bl).map List.length) = h.len := by rw [hm.2]; rfl
            have h40 : 0 < h.len := by omega
            have EN := (show Hid (∀ (W : World) (p : Option Addr) (d : Nat), Rws W p (fitB h.ls bl) → _) from fun W p d hW => encode_any h hin hy (w := W) (p := p) hW (fitB h.ls bl).length d rfl)
            rw [(en_may hm).1, (en_may hm).2] at EN
            have EG := (show Hid (∀ (W : World) (p : Option Addr) (d : Nat), Rws W p (fitB g.ls bl2) → _) from fun W p d hW => encode_any g gin gy (w := W) (p := p) hW (fitB g.ls bl2).length d rfl)
            rw [(en_may hmg).1, (en_may hmg).2] at EG
            have BG := (show Hid (∀ (W : World) (p : Option Addr) (d : Nat), Rws W p (fitB h.ls bl) → _) from fun W p d hW => begins_any h (w := W) (p := p) hW (fitB h.ls bl).length d rfl hlb hky (by omega))
            have NU := (show Hid _ from fun z W => num_any z W)
            have PA := (show Hid (∀ (W : World) (p : Option Addr) (d : Nat), Rd W p (fgl (h.fm (fitB h.ls bl)) (g.fm (fitB g.ls bl2)) al0 m) → h.len ≤ d → Calls Try.prog 11 #[.slice p h.len d] W fun e w' => ∃ v, e = .returned (.tuple #[.agg (hd0.sh v), .int .i64 82]) ∧ Bl w' W.heap.size v [] ∧ Below W.heap.size W w') from fun W p d h1 h2 => by
              have h9 := parse_any (w := W) (p := p) h1 h.len d (by rw [fgl_len]; exact hfl) h2 (by omega)
              rw [b6] at h9
              exact h9)
            have SP := (show Hid (∀ (W : World) (p : Option Addr) (d : Nat), Rd W p (fgl (h.fm (fitB h.ls bl)) (g.fm (fitB g.ls bl2)) al0 m) → h.len ≤ d → Calls Try.prog 13 #[.slice p h.len d] W fun e w' => ∃ v, e = .returned (.tuple #[v, .int .i64 0]) ∧ Oi w' W.heap.size v [jn] ∧ Below W.heap.size W w') from fun W p d h1 h2 => by
              have h9 := spoilt_any rhd_ok (w := W) (p := p) h1 h.len d (by rw [fgl_len]; exact hfl) h2 (by omega)
              rw [b5] at h9
              exact h9)
            have hgl := bgs_len (40 + h.key.length) ((fitB h.ls bl).map List.length)
            rw [List.length_map] at hgl
            clear eK eL eS
            generalize bgs (40 + h.key.length) ((fitB h.ls bl).map List.length) = G at *
            generalize hf : h.fm (fitB h.ls bl) = f at *
            generalize hcf : g.fm (fitB g.ls bl2) = cb at *
            generalize hB : fitB h.ls bl = B at *
            generalize hD : fitB g.ls bl2 = D at *
            generalize hL : h.len = len at *
            clear hB hD hf hcf hL hlen hm hmg
            have g1 : decide ((jn : Int) < 0) = false := by simp
            have g3 : decide (B.length ≤ jn) = false := by simp; omega
            have HM := (show Hid (al0 + m ≤ len ∧ len ≤ 140737488355328) from ⟨b4, by omega⟩)
            have HLb := (show Hid (B.length ≤ 1000000000) from hlb)
            have HG := (show Hid (G.getD jn 0 = al0 ∧ G.getD (jn + 1) 0 = al0 + m ∧ G.getD B.length 0 = len) from ⟨b1, b2, b3⟩)
            clear b1 b2 b3 b4 b5 b6 hld hlb hky
            obtain ⟨nG, enG⟩ : ∃ nG, nG = G.length := ⟨_, rfl⟩
            have i3 : (B.length : Int) < (nG : Int) := by omega
            have nn : ((len : Int) != (len : Int)) = false := by simp
            have wn : wrap64 ((nG : Int) - 1) = (B.length : Int) := by have := HLb.out; unfold wrap64; omega
            have i4 : (jn : Int) < (nG : Int) := by omega
            have HEG := (show Hid (nG = G.length ∧ G.length = B.length + 1) from ⟨enG, hgl⟩)
            clear enG hgl
            go_wp2_with (first
              | (refine wpList_ldHg (by rfl) _ rfl w5.heap.size rfl (SdAt.head G6.out) ?_)
              | (refine wpList_ldHg (by rfl) _ rfl w2.heap.size rfl (SdAt.head S6.out) ?_)
              | (refine wpList_ldS rfl _ rfl w2.heap.size rfl S6.out ?_)
              | (go_at_call 7; refine (EN.out _ _ _ R6.out).mono ?_; rintro e w7 ⟨v7, rfl, hO7, hb7⟩; obtain ⟨g7, cap7, e7, hc7, hg76, hW7⟩ := ow_wr hO7 (by omega); rw [hfl] at e7 hc7; subst e7; have W7 := (show Hid (Wr w7 g7 f) from hW7); have S7 := (show Hid (SdAt w7 w2.heap.size h (.slice q2 B.length d2)) from SdAt.below S6.out hb7); have G7 := (show Hid (SdAt w7 w5.heap.size g (.slice q5 D.length d5)) from SdAt.below G6.out hb7); have R7 := (show Hid (Rws w7 q2 B) from Rws.below R6.out hb7); have RG7 := (show Hid (Rws w7 q5 D) from Rws.below RG6.out hb7); have Bw7 := (show Hid (Below w.heap.size w w7) from bt Bw6.out hb7); have gw7 := (show Hid (w.heap.size ≤ g7) from Nat.le_trans Bw6.out.size hg76); clear S6 G6 R6 RG6 Bw6 hO7 hW7 hb7 hg76 s16)
              | (refine wpList_ldS rfl _ rfl w5.heap.size rfl G7.out ?_)
              | (go_at_call 7; refine (EG.out _ _ _ RG7.out).mono ?_; rintro e w8 ⟨v8, rfl, hO8, hb8⟩; obtain ⟨g8, cap8, e8, hc8, hg87, hW8⟩ := ow_wr hO8 (by omega); rw [hcl] at e8 hc8; subst e8; have V8 := (show Hid (Wr w8 g8 cb) from hW8); have W8 := (show Hid (Wr w8 g7 f) from W7.out.below hb8); have ne8 := (show Hid (g8 ≠ g7) from by show g8 ≠ g7; have := W7.out.lt; omega); have S8 := (show Hid (SdAt w8 w2.heap.size h (.slice q2 B.length d2)) from SdAt.below S7.out hb8); have R8 := (show Hid (Rws w8 q2 B) from Rws.below R7.out hb8); have Bw8 := (show Hid (Below w.heap.size w w8) from bt Bw7.out hb8); clear S7 G7 R7 RG7 Bw7 W7 hO8 hW8 hb8 hg87)
              | (go_at_call 8; refine (NU.out _ _).mono ?_; rintro e w99 ⟨rfl, h9⟩; obtain rfl := h9.symm)
              | (refine wpList_ldS rfl _ rfl w2.heap.size rfl S8.out ?_)
              | (go_at_call 10; refine (BG.out _ _ _ R8.out).mono ?_; rintro e w9 ⟨v9, rfl, hO9, hb9⟩; obtain ⟨g9, cap9, e9, hg9, hC9⟩ := oi_cells8 hO9 (by have := HEG.out.2; omega); rw [← HEG.out.1] at e9; subst e9; have cn := hC9 B.length (by have := HEG.out.2; omega); rw [HG.out.2.2] at cn; have cj := hC9 jn (by have := HEG.out.2; omega); rw [HG.out.1] at cj; have cj1 := hC9 (jn + 1) (by have := HEG.out.2; omega); rw [HG.out.2.1] at cj1; have CC := (show Hid _ from cj1); have W9 := (show Hid (Wr w9 g7 f) from W8.out.below hb9); have V9 := (show Hid (Wr w9 g8 cb) from V8.out.below hb9); have Bw9 := (show Hid (Below w.heap.size w w9) from bt Bw8.out hb9); have ne9 := (show Hid (g9 ≠ g7) from by show g9 ≠ g7; have := W8.out.lt; omega); clear S8 R8 Bw8 W8 V8 hO9 hC9 hb9 cj1 hg9))
            clear cn cj
            obtain ⟨J1, hJ1⟩ : ∃ J1, jn + 1 = J1 := ⟨_, rfl⟩
            rw [hJ1] at CC
            have wj := (show Hid _ from sw_w4 hJ1 hj HLb.out)
            have iJ : (J1 : Int) < (nG : Int) := by have := HEG.out; omega
            clear hJ1 wn i3 i4 nn g1 g3 f1 f2 hj EH
            go_loopw [15] (fun i wr => ∃ t : Nat, t ≤ m ∧ i = .int .i64 ((al0 + t : Nat) : Int) ∧ Hid (Wr wr g7 (fgl f cb al0 t)) ∧ Hid (w9.grownBy wr (some g7))) (fun i _ => al0 + m - (intOf i).toNat)
            case atStart => exact ⟨0, Nat.zero_le _, rfl, (by show Wr _ _ _; rw [fgl_zero]; exact W9.out), ⟨rfl, rfl, rfl, Nat.le_refl _, fun _ _ _ => rfl⟩⟩
            case round =>
              obtain ⟨t, ht, rfl, hW, hG⟩ := hrel
              have cj1 := far8 CC.out hG.out ne9.out
              by_cases hlt : t < m
              · obtain ⟨A1, hA1, iA, iM, wA, HA⟩ := fg_facts (f := f) HM.out.2 HM.out.1 hlt hfl
                have HT := (show Hid (t < m ∧ al0 + t = A1) from ⟨hlt, hA1⟩)
                rw [hA1]
                obtain ⟨AM, hAM⟩ : ∃ AM, al0 + m = AM := ⟨_, rfl⟩
                rw [hAM] at cj1 iM
                have HAM := (show Hid _ from hAM)
                clear hAM
                have WA := (show Hid _ from wA)
                have wj1 := wj.out
                clear wA hA1 hlt ht
                have tA := hW.out.cell (i := A1) (by rw [fgl_len]; exact HA.out)
                have zA := hW.out.frozen A1
                have sB := far8 (V9.out.cell (i := A1) (by rw [hcl, ← hfl]; exact HA.out)) hG.out ne8.out
                obtain ⟨v1, hv1⟩ : ∃ v1, v1 = fn cb A1 := ⟨_, rfl⟩
                rw [← hv1] at sB
                generalize (.int .u8 (el (fn (fgl f cb al0 t) A1)) : Value) = old at tA
                have HV := (show Hid (v1 = fn cb A1) from hv1)
                clear hv1
                go_wp2
                obtain ⟨X, hX⟩ : ∃ X, X = wr.setCell ⟨g7, A1, none⟩ (.int .u8 (el v1)) := ⟨_, rfl⟩
                have hW1 := (show Hid (Wr X g7 (fgl f cb al0 (t + 1))) from by
                  show Wr X g7 _
                  rw [← fgl_succ f cb al0 t (by rw [HT.out.2]; exact HA.out), HT.out.2, show cb.getD A1 0#8 = v1 from by rw [HV.out, fn_getD]]
                  exact Wr.set hW.out (by rw [fgl_len]; exact HA.out) (by rw [hX]))
                have hG1 := (show Hid (w9.grownBy X (some g7)) from by show w9.grownBy X _; rw [hX]; exact gset8 hG.out 0 _ _)
                go_roundw
                case rel => exact ⟨t + 1, HT.out.1, by rw [WA.out], by rw [hX] at hW1; exact hW1, by rw [hX] at hG1; exact hG1⟩
                case measure => rw [WA.out, ← HT.out.2]; exact fg_meas HT.out.1
              · obtain rfl : t = m := by omega
                have hi : ¬ ((al0 + t : Nat) : Int) < ((al0 + t : Nat) : Int) := by omega
                have wj1 := wj.out
                have Bx := (show Hid (Below w.heap.size w wr) from (Bw9.out.grown hG.out Bw9.out.size (fun g hg => by cases hg; exact gw7.out)))
                have Rx := (show Hid (Rd wr (some ⟨g7, 0, none⟩) (fgl f cb al0 t)) from hW.out.rd)
                clear hG hW ht
                generalize al0 + t = AM at *
                go_wp2_with (first
                  | (go_at_call 13; refine (SP.out _ _ _ Rx.out hc7).mono ?_; rintro e w12 ⟨v12, rfl, hO12, hb12⟩; obtain ⟨p12, c12, rfl, hc12, hV12⟩ := hO12.rd; have V12 := (show Hid _ from hV12); have R12 := (show Hid (Rd w12 (some ⟨g7, 0, none⟩) (fgl f cb al0 t)) from Rd.below Rx.out hb12); have B12 := (show Hid (Below w.heap.size w w12) from bt Bx.out hb12); clear hV12 hO12 hb12 Bx Rx)
                  | (go_at_call 11; refine (PA.out _ _ _ R12.out hc7).mono ?_; rintro e w10 ⟨v10, rfl, hB10, hb10⟩; obtain ⟨q10, d10, hv10, _, _⟩ := hB10.rws; subst hv10; have V10 := (show Hid _ from Vr.below V12.out hb10); have B10 := (show Hid (Below w.heap.size w w10) from bt B12.out hb10); clear R12 B12 hb10 hB10 V12)
                  | (refine wpList_stS hd0 (.slice q10 ([] : List (List (BitVec 8))).length d10) rfl rfl _ _ rfl rfl w10.heap.size rfl rfl (sz0 (heap_alloc_new w10 _)) ?_; intro w11 H11 hT11; have hb11 := hT11.2.1 _ _ (al w10 _) (Nat.le_refl _); have V11 := (show Hid _ from Vr.below V10.out hb11); have B11 := (show Hid (Below w.heap.size w w11) from bt B10.out hb11); clear V10 B10 hb11 H11 hT11)
                  | (go_at_call 8; refine (NU.out _ _).mono ?_; rintro e w99 ⟨rfl, h9⟩; obtain rfl := h9.symm)
                  | (go_at_call 14; refine (sameInts_any (xs := [jn]) (ys := [jn]) (Vr.below V11.out (al _ _)) (one_vj w11 jn) 1 1 c12 1 rfl rfl (by decide)).mono ?_; rintro e w13 ⟨rfl, hb13⟩; rw [decide_eq_true rfl]; have B13 := (show Hid (Below w.heap.size w w13) from bt (bt B11.out (al w11 (.cells #[.int .i64 (jn : Int)] 3))) hb13)))
                go_ret
                exact ⟨rfl, B13.out⟩
    · go_wp2_with (first
        | (refine wpList_ldS rfl _ rfl w3.heap.size rfl SC.out ?_)
        | (go_at_call 6; refine (fit8_no g gin gy a2 n2 c2 wc hcg).mono ?_; rintro e w5 ⟨rfl, hb5⟩)
        | (refine wpList_stS g (.slice a2 n2 c2) rfl rfl _ _ rfl rfl w5.heap.size rfl rfl (sz0 (heap_alloc_new w5 _)) ?_; intro w6 H6 hT6; have B56 := hT6.2.1 _ _ (al w5 _) (Nat.le_refl _); have Bw6 := (show Hid (Below w.heap.size w w6) from bt (bt Bwc.out hb5) B56); have k20 := (FgAt.below (FgAt.below Fc.out hb5) B56).nums.2.2.2; clear hT6 H6 B56))
      go_ret
      exact ⟨rfl, Bw6.out⟩
end
end Go.Proofs.Ytkafbeicgaoebaa
/-
  FrameForeign: the struct that is handed in, opened; the walk as a whole.
-/
namespace Go.Proofs.Ytkafbeicgaoebaa
open Go.RowKit
theorem list21 {α : Type} {l : List α} (h : l.length = 21) : ∃ (k : List α) (c17 c18 c19 c20 : α), k.length = 17 ∧ l = k ++ [c17, c18, c19, c20] := by
  refine ⟨l.take 17, l[17]'(by omega), l[18]'(by omega), l[19]'(by omega), l[20]'(by omega), by simp [h], ?_⟩
  apply List.ext_getElem?
  intro i
  by_cases hi : i < 17
  · rw [List.getElem?_append_left (by simp [h]; omega), List.getElem?_take_of_lt hi]
  · rw [List.getElem?_append_right (by simp [h]; omega)]
    by_cases h2 : i < 21
    · have h4 : i = 17 ∨ i = 18 ∨ i = 19 ∨ i = 20 := by omega
      rcases h4 with rfl | rfl | rfl | rfl <;> simp [h]
    · rw [List.getElem?_eq_none (by omega), List.getElem?_eq_none (by simp [h]; omega)]
theorem foreign_of {H : Type} {enc : TypeId × Value → H} {W : World} {n : Nat} {cs : List Value} {y : DataW H × List MemPlace}
    (h : DataW.trod enc Try.prog W 0 (fun _ => true) true n 54 cs = some y) : ∃ (hd : Hd) (p : Option Addr) (n c : Nat) (bl : List (List (BitVec 8))) (p2 : Option Addr) (n2 c2 : Nat) (bl2 : List (List (BitVec 8))) (q z j : Int), hd.In ∧ hd.key.length ≤ 9223372036854775807 ∧ cs = (fgC hd (.slice p n c) (.slice p2 n2 c2) q z j).toList ∧ bl.length = n ∧ Rws W p bl ∧ bl2.length = n2 ∧ Rws W p2 bl2 ∧ In64 z := by
  obtain ⟨xs, m, _, _, hl, hlen, hf⟩ := DataW.trod_struct Try.underlying54 h
  have hl' : cs.length = 21 := hl.trans (by kernel_rfl)
  have n17 : Try.prog.cellsOf 31 = 17 := by kernel_rfl
  have n1 : Try.prog.cellsOf 29 = 1 := by kernel_rfl
  have ni : Try.prog.cellsOf 3 = 1 := by kernel_rfl
  obtain ⟨k, c17, c18, c19, c20, hk, rfl⟩ := list21 hl'
  match xs, hlen with
  | [y0, y1, y2, y3, y4], _ =>
    have f0 := hf 0 _ rfl
    have f1 := hf 1 _ rfl
    have f2 := hf 2 _ rfl
    have f3 := hf 3 _ rfl
    have f4 := hf 4 _ rfl
    simp [n17, n1, ni, hk] at f0 f1 f2 f3 f4
    obtain ⟨hd, p, n, c, bl, h1, h2, h3, h4, h5, h6⟩ := shard_of f0
    obtain ⟨p2, n2, c2, bl2, e1, g1, g2, g3⟩ := rows_of f1
    obtain ⟨q, e2, _, w2⟩ := DataW.trod_int Try.underlying3 f2
    obtain ⟨z, e3, _, w3⟩ := DataW.trod_int Try.underlying3 f3
    obtain ⟨j, e4, _, w4⟩ := DataW.trod_int Try.underlying3 f4
    rw [List.drop_append, List.drop_of_length_le (by omega), hk] at e2 e3 e4
    simp at e2 e3 e4
    subst e1 e2 e3 e4
    refine ⟨hd, p, n, c, bl, p2, n2, c2, bl2, q, z, j, h1, h2, ?_, h4, h6, g1, g3, i64_of w3⟩
    rw [h3]
    simp [fgC]
theorem frameForeign_walk (h : Hd) (hin : h.In) (hy : h.key.length ≤ 9223372036854775807) (a : Option Addr) (n c : Nat) (bl : List (List (BitVec 8))) (hb : bl.length = n) (a2 : Option Addr) (n2 c2 : Nat) (bl2 : List (List (BitVec 8))) (hb2 : bl2.length = n2) (q z j : Int) (hz : In64 z) (w : World) (hR : Rws w a bl) (hR2 : Rws w a2 bl2) :
    Calls Try.prog 4 #[.agg (fgC h (.slice a n c) (.slice a2 n2 c2) q z j)] w fun e w' => e = .returned (.bool true) ∧ Below w.heap.size w w' := by
  by_cases hc : chk h = 0
  · exact frameForeign_ok h hin hy a n c bl hb a2 n2 c2 bl2 hb2 q z j hz w hR hR2 ((chk_ok h).1 hc)
  · exact frameForeign_no h hin hy a n c _ q z j w hc
end Go.Proofs.Ytkafbeicgaoebaa
