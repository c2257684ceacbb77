/-
  PolyThroughBack: the walk where there are points and values.
-/
import Derived.Test.YtpjebfcdjhcfnabBackZ
namespace Go.Proofs.Ytpjebfcdjhcfnab
open Go.RowKit

theorem own_at {t : TypeId} {B g n cap : Nat} {w : World} {f : Nat → BitVec 8} (h : w.ownsRow B t 1 (.slice (some ⟨g, 0, none⟩) n cap) n (vs f n)) (h0 : 0 < n) : w.cell? ⟨g, 0, none⟩ = some (.int .u8 (el (f 0))) := by
  have := h.cells rfl 0 _ (vs_at f n 0 h0)
  rwa [add_pl] at this
theorem own_plain {t : TypeId} {B n : Nat} {w : World} {v : Value} {l : List Value} (h : w.ownsRow B t 1 v (0 + n) ([] ++ l)) : w.ownsRow B t 1 v n l := by simpa using h
theorem ne_of_base {t : TypeId} {B n : Nat} {w : World} {v : Value} {l : List Value} (h : w.ownsRow B t 1 v n l) {g a b : Nat} (hg : g < B) : (Value.slice (some ⟨g, 0, none⟩) a b).ownBlock ≠ v.ownBlock := fun he => by
  have := (h.lt g he.symm).1; omega
theorem ne_own {t : TypeId} {B n : Nat} {w : World} {v : Value} {l : List Value} (h : w.ownsRow B t 1 v n l) {g : Nat} (hg : g < B) : v.ownBlock ≠ some g := fun he => by
  have := (h.lt g he).1; omega
theorem base_alloc {t : TypeId} {B g n cap : Nat} {w : World} {l : List Value} (h : w.ownsRow B t 1 (.slice (some ⟨g, 0, none⟩) n cap) n l) (o : Obj) : B ≤ (w.alloc o).heap.size := by
  have := owns_cap2 h; simp; omega
theorem tw_sr {t : TypeId} {B n : Nat} {w : World} {v : Value} {xl : List (BitVec 8)} {a : BitVec 8} (h : w.ownsRow B t 1 v (n + 1) (vs (co xl) n ++ [.int .u8 (el a)])) (hm : xl.length = n) : Sr w v (xl ++ [a]) := by
  subst hm; exact (Rs.push h).sr
theorem yw_sr {t : TypeId} {B n : Nat} {w : World} {v : Value} {yl : List (BitVec 8)} (h : w.ownsRow B t 1 v (n + 1) (vs (co yl) n ++ [.int .u8 1])) (hm : yl.length = n) : Sr w v (yl ++ [1#8]) := tw_sr (a := 1#8) h hm
theorem xw_sr {t : TypeId} {B n : Nat} {w : World} {v : Value} {xl : List (BitVec 8)} (h : w.ownsRow B t 1 v n (vs (co xl) n)) (hm : xl.length = n) : Sr w v xl := by
  subst hm; exact Rs.sr h
theorem len_rs {t : TypeId} {B : Nat} {w : World} {v : Value} {xs : List (BitVec 8)} (h : Rs t B w v xs) : ∃ p c, v = .slice p xs.length c := by
  obtain ⟨p, c, e, _⟩ := h.sr
  exact ⟨p, c, e⟩
section
attribute [local irreducible] Calls el gm trim co vs Rs Sl Sr Rd ev add mul onc ls
set_option maxHeartbeats 16000000 in
set_option maxRecDepth 1000000 in
theorem back_X2_keep {w : World} {va vb vc : Value} {xs ps u ys : List (BitVec 8)} (ha : Sr w va xs) (hps : Sr w vb ps) (hc0 : Sr w vc ys) (L1 : Hid (xs.length ≤ 140737488351232)) (L2 : Hid (ps.length ≤ 140737488351232)) (hu : Hid (onc ps ps.length = u)) (hpn : Hid (ps ≠ [])) (U : Nat) (hUe : Hid (U = u.length)) (HU : Hid (0 < u.length)) (hU48 : U ≤ 140737488351232) (L3 : Hid (ys.length ≤ 140737488351232)) (Y : Nat) (hYe : Hid (Y = ys.length)) (HYL : Hid (0 < ys.length)) (hY48 : Y ≤ 140737488351232) (D : Nat) (hD : Hid (D = (trim xs).length)) (hD48 : D ≤ 140737488351232) (hA : D ≤ U) (hB : U < Y) :
    Calls Try.prog 5 #[va, vb, vc] w fun e w' => e = .returned (.bool true) ∧ Below w.heap.size w w' := by
  obtain ⟨pl, hpl⟩ : ∃ pl, pl = trim xs := ⟨_, rfl⟩
  have HPT : Hid (trim pl = pl) := by show _ = _; rw [hpl, trim_trim]
  have HPU : Hid (pl.length ≤ u.length) := by show _ ≤ _; rw [hpl, ← hD.out]; have := hUe.out; omega
  have LPL : Hid (pl.length ≤ 281474976710656) := by show _ ≤ _; have := HPU.out; have := hUe.out; omega
  have LU : Hid (u.length ≤ 140737488351232) := by show _ ≤ _; have := hUe.out; omega
  have LU4 : Hid (u.length + 4 ≤ 281474976710656) := by show _ ≤ _; have := hUe.out; omega
  have HND : Hid (u.Nodup) := by show List.Nodup _; rw [← hu.out]; exact onc_nodup (Nat.le_refl _)
  have HSELF : Hid (IsThr u (u.map (fun a => ev a pl)) pl) := thr_self HPT.out HPU.out
  have LMAP : Hid (u.length = (u.map (fun a => ev a pl)).length) := by show _ = _; rw [List.length_map]
  have HTR : Hid (∀ (W : World) (v : Value), Sl W v xs → Calls Try.prog 22 #[v] W fun e w' => e = .returned (.slice (some ⟨W.heap.size, 0, none⟩) D D) ∧ Rs 28 W.heap.size w' (.slice (some ⟨W.heap.size, 0, none⟩) D D) pl ∧ Below W.heap.size W w') := fun W v h => by
    have h3 := ptrim_own h (by have := L1.out; omega)
    rw [← hD.out] at h3
    refine h3.mono fun e w' ⟨he, ho, hb⟩ => ⟨he, ?_, hb⟩
    rw [hpl, hD.out] at *
    exact ho.rs (Nat.le_refl _) (by omega) (Nat.le_refl _) (fun i _ => (co_trim xs i).symm)
  have HUN : Hid (∀ W : World, Sr W vb ps → Calls Try.prog 23 #[vb] W fun e w' => ∃ v', e = .returned v' ∧ Rs 28 W.heap.size w' v' u ∧ Below W.heap.size W w') := fun W h => by rw [← hu.out]; exact unlike_x h hpn.out L2.out
  have d1 : ¬ ((U : Int) : Int) < (D : Int) := by omega
  have y2 : (U : Int) < (Y : Int) := by omega
  have y3 : (U : Int) ≤ (Y : Int) := by omega
  have z0 : 0 < U := by have := HU.out; have := HYL.out; have := hUe.out; have := hYe.out; omega
  have z1 : ((U : Int) == 0) = false := by simp; omega
  have z2 : ¬ (U : Int) = 0 := by omega
  have z3 : (0 : Int) < (U : Int) := by omega
  have HLE : Hid (U ≤ Y) := by show _ ≤ _; omega
  have HXM : Hid (u.length = U) := by show _ = _; exact hUe.out.symm
  have HYM : Hid ((ys.take U).length = U) := by show _ = _; rw [List.length_take]; have := hYe.out; omega
  have HXY : Hid (u.length = (ys.take U).length) := by show _ = _; rw [HXM.out, HYM.out]
  have HM4 : Hid (u.length + 4 ≤ 281474976710656) := by show _ ≤ _; rw [HXM.out]; omega
  have HMU : Hid (u.length ≤ 140737488351232) := by show _ ≤ _; rw [HXM.out]; omega
  have HMY : Hid ((ys.take U).length ≤ 281474976710656) := by show _ ≤ _; rw [HYM.out]; omega
  have HXN : Hid (u.Nodup) := HND.out
  have HVL : Hid ((vs (co u) U).length = U * 1) := by show _ = _; rw [vs_len, Nat.mul_one]
  have MA : Hid (0 + U ≤ maxLen) := by show _ ≤ _; unfold maxLen; omega
  have MB : Hid ((0 + U) * 1 ≤ 140737488355328) := by show _ ≤ _; omega
  have MC : Hid (U + 1 ≤ maxLen) := by show _ ≤ _; unfold maxLen; omega
  have MD : Hid ((U + 1) * 1 ≤ 140737488355328) := by show _ ≤ _; omega
  have ME := MC
  have MF := MD
  have HM0 : Hid (0 < U) := z0
  have HLL : Hid ((u ++ [co u 0]).length = ((ys.take U) ++ [1#8]).length) := by show _ = _; rw [List.length_append, List.length_append, HXM.out, HYM.out]; rfl
  have HL48 : Hid ((u ++ [co u 0]).length ≤ 281474976710656) := by show _ ≤ _; rw [List.length_append, HXM.out]; simp; omega
  have HDUP : Hid (¬ (u ++ [co u 0]).Nodup) := again_dup (by intro e; have := HXM.out; rw [e] at this; simp at this; omega)
  have HUE : Hid (u.length ≠ ((ys.take U) ++ [1#8]).length) := by show _ ≠ _; rw [List.length_append, HXM.out, HYM.out]; simp
  obtain ⟨i0, hi, hz0, hz1, hz2⟩ := info_parts infoE
  clear hpl
  go_enter Try.func5, Try.ntmps5
  go_wp2_with (first
    | (go_at_call 9; refine (awake_any _).mono ?_; rintro e w1 ⟨rfl, hb1⟩; have ha1 := ha.below hb1; have hc1 := hc0.below hb1; have hp1 := hps.below hb1)
    | (go_at_call 23; refine (HUN.out _ hp1).mono ?_; rintro e w2 ⟨vx, rfl, hX, hb2⟩; have ha2 := ha1.below hb2; have hc2 := hc1.below hb2; have c2 := bt hb1 hb2; obtain ⟨gx, cx, hvx, hgx1, hgx2, hcx1, hcx2⟩ := rs_some hX HU.out; subst hvx; rw [← hUe.out] at hcx1 hX ⊢)
    | (go_at_call 10; refine (elems_any ha2 L1.out).mono ?_; rintro e w3 ⟨p3, rfl, hP3, hb3⟩; have hc3 := hc2.below hb3; have hX3 := hX.below hb3; have c3 := bt c2 hb3; clear ha2)
    | (go_at_call 22; refine (HTR.out _ _ hP3.sl).mono ?_; rintro e w5 ⟨rfl, hPl, hb5⟩; have hc5 := hc3.below hb5; have hX5 := hX3.below hb5; have c5 := bt c3 hb5; clear hX3)
    | (go_at_call 25; refine (values_any hPl.sl hX5.sr LPL.out LU.out).mono ?_; rintro e w6 ⟨v6, rfl, hV6, hb6⟩; have hc6 := hc5.below hb6; have hX6 := hX5.below hb6; have hPl6 := hPl.below hb6; have c6 := bt c5 hb6; clear hX5)
    | (go_at_call 24; refine (pthrough_any hX6.sr hV6.sr LMAP.out LU4.out HND.out).mono ?_; rintro e w7 ⟨v7, t7, rfl, hT7, hV7, hb7⟩; have et := hT7.out.unique HSELF.out HND.out; rw [et] at hV7; have hc7 := hc6.below hb7; have hX7 := hX6.below hb7; have hPl7 := hPl6.below hb7; have c7 := bt c6 hb7; clear hX6 hT7 et)
    | (go_at_call 21; refine (num_any 0 _).mono ?_; rintro e w' ⟨rfl, e⟩; obtain rfl := e.symm)
    | (go_at_call 11; refine (equal_any hV7.sr hPl7.sr LPL.out).mono ?_; rintro e w8 ⟨rfl, hb8⟩; have hc8 := hc7.below hb8; have hX8 := hX7.below hb8; have c8 := bt c7 hb8; clear hX7 hV7)
    | (go_at_call 10; refine (elems_any hc8 L3.out).mono ?_; rintro e w9 ⟨vy, rfl, hYa, hb9⟩; obtain ⟨gy, cy, hvy, hgy1, hgy2, hcy1, hcy2⟩ := rs_some hYa HYL.out; subst hvy; rw [← hYe.out] at hcy1 hYa ⊢; have hX9 := hX8.below hb9; have c9 := bt c8 hb9; have hgx8 := (hX8.own gx rfl).2; have HGXY : Hid (∀ a b, (Value.slice (some ⟨gx, 0, none⟩) a b).ownBlock ≠ some gy) := (fun a b e => by have := Option.some.inj e; have h3 : gx = gy := this; omega); have HGY : Hid (w.heap.size ≤ gy) := Nat.le_trans c8.size hgy1; have hYc := rs_cut hYa hYe.out.symm HLE.out; have hXc := hX9; clear hX8)
    | (go_at_call 24; refine (pthrough_any hXc.sr hYc.sr HXY.out HM4.out HXN.out).mono ?_; rintro e w10 ⟨v10, t10, rfl, hT10, hV10, hb10⟩; obtain ⟨pt, ct, hvt⟩ := len_rs hV10; subst hvt; have hT10l := hT10.out.len; rw [HXM.out] at hT10l; have LT10 : Hid (t10.length ≤ 281474976710656) := (by show _ ≤ _; have := HM4.out; rw [HXM.out] at this; omega); have EV := (show Hid _ from thr_vals hT10.out HXY.out); have hXd := hXc.below hb10; have hYd := hYc.below hb10; have c10 := bt c9 hb10; clear hXc hYc)
    | (go_at_call 25; refine (values_any hV10.sl hXd.sr LT10.out HMU.out).mono ?_; rw [EV.out]; rintro e w11 ⟨v11, rfl, hV11, hb11⟩; have hYe2 := hYd.below hb11; have hXe2 := hXd.below hb11; have c11 := bt c10 hb11; clear hXd hYd)
    | (go_at_call 11; refine (equal_any hV11.sr hYe2.sr HMY.out).mono ?_; rintro e w12 ⟨rfl, hb12⟩; have c12 := bt c11 hb12; have hX12 := hXe2.below hb12; have hY12 := hYe2.below hb12; clear hXe2 hYe2; unfold Rs at hX12 hY12; rw [HXM.out] at hX12; rw [HYM.out] at hY12; have kx := (owns_cap2 hX12).2.2.2; have ky := (owns_cap2 hY12).2.2.2)
    | (go_at_call 10; refine (elems_nil none 0 _).mono ?_; rintro e w' ⟨rfl, e⟩; obtain rfl := e.symm)
    | (at_builtin; refine wpList_append_own _ rfl _ _ 26 rfl w12.heap.size 28 i0 (.int .u8 0) 1 1 Try.underlying26 hi hz0 hz1 hz2 rfl (by decide) (.slice none 0 0) 0 [] rfl (World.ownsRow_nil _ _ _ _) ⟨gx, 0, none⟩ U cx (vs (co u) U) rfl HVL.out (hX12.cells rfl) (vs_one _ _) MA.out MB.out (Nat.le_refl _) ?_; intro v14 w14 hW14a hg14 _; have hW14 := own_plain hW14a; clear hW14a; have hX14 := hX12.kept hg14 (.inr (by simp [Value.ownBlock])); have hY14 := hY12.kept hg14 (.inr (by simp [Value.ownBlock])); have c14 := c12.grown hg14 c12.size (fun k hk => by cases hk); have gx0 := own_at hX14 HM0.out; have S14 : Hid (∀ o : Obj, w12.heap.size ≤ (w14.alloc o).heap.size) := (fun o => by have := hg14.size; simp; omega); clear hX12 hY12)
    | (at_builtin; refine wpList_append_own _ rfl _ _ 26 rfl w12.heap.size 28 i0 (.int .u8 0) 1 1 Try.underlying26 hi hz0 hz1 hz2 rfl (by decide) v14 _ _ rfl (hW14.alloc (.cells #[.int .u8 (el (co u 0))] 28)) ⟨w14.heap.size, 0, none⟩ 1 1 [.int .u8 (el (co u 0))] rfl rfl ?q1 ?q2 MC.out MD.out (S14.out _) ?_; (case q1 => exact one_new _ _ _); (case q2 => exact one_cell _ _); intro v15 w15 hW15 hg15 _; have hX15 := (hX14.alloc _).kept hg15 (.inr (ne_of_base (hW14.alloc (.cells #[.int .u8 (el (co u 0))] 28)) kx)); have hY15 := (hY14.alloc _).kept hg15 (.inr (ne_of_base (hW14.alloc (.cells #[.int .u8 (el (co u 0))] 28)) ky)); have c15 := (c14.alloc c14.size (.cells #[.int .u8 (el (co u 0))] 28)).grown hg15 (Nat.le_trans c12.size (S14.out _)) (fun k hk => Nat.le_trans (Nat.le_trans c12.size (Nat.le_refl _)) (hW14.lt k hk).1); clear hX14 hY14 hW14 gx0)
    | (at_builtin; refine wpList_append_keep rfl _ _ 26 rfl w8.heap.size 28 i0 (.int .u8 0) Try.underlying26 hi hz0 hz1 hz2 rfl gy U cy (vs (co (ys.take U)) U) rfl (hY15.alloc (.cells #[.int .u8 1] 28)) ⟨w15.heap.size, 0, none⟩ 1 (.int .u8 1) rfl ?q1 ?q2 ME.out MF.out (base_alloc hY15 _) ?_; (case q1 => exact one_new _ _ _); (case q2 => exact one_cell _ _); intro v16 w16 hZ16 hY16 hg16; have n3 := ne_own (hW15.alloc (.cells #[.int .u8 1] 28)) ky; have hX16 := (hX15.alloc _).kept hg16 (.inr (HGXY.out _ _)); have hW16 := (hW15.alloc _).kept hg16 (.inr n3); have c16 := (c15.alloc c15.size _).grown hg16 (Nat.le_trans c15.size (by simp)) (fun k hk => by cases hk; exact HGY.out); clear hX15 hY15 hW15; have R16 := tw_sr hW16 HXM.out; have Q16 := yw_sr hZ16 HYM.out)
    | (go_at_call 24; refine (pthrough_twice R16 Q16 HLL.out HL48.out HDUP.out).mono ?_; rintro e w17 ⟨rfl, hb17⟩; have hX17 := owns_below hX16 hb17; have hY17 := owns_below hY16 hb17; have c17 := bt c16 hb17; clear hX16 hY16 R16 Q16 hW16 hZ16)
    | (at_builtin; refine wpList_append_keep rfl _ _ 26 rfl w8.heap.size 28 i0 (.int .u8 0) Try.underlying26 hi hz0 hz1 hz2 rfl gy U cy (vs (co (ys.take U)) U) rfl (hY17.alloc (.cells #[.int .u8 1] 28)) ⟨w17.heap.size, 0, none⟩ 1 (.int .u8 1) rfl ?q1 ?q2 ME.out MF.out (base_alloc hY17 _) ?_; (case q1 => exact one_new _ _ _); (case q2 => exact one_cell _ _); intro v18 w18 hZ18 hY18 hg18; have hX18 := (hX17.alloc _).kept hg18 (.inr (HGXY.out _ _)); have c18 := (c17.alloc c17.size _).grown hg18 (Nat.le_trans c17.size (by simp)) (fun k hk => by cases hk; exact HGY.out); have Q18 := yw_sr hZ18 HYM.out; have R18 := xw_sr hX18 HXM.out; clear hX17 hY17)
    | (go_at_call 24; refine (pthrough_uneven R18 Q18 HUE.out).mono ?_; rintro e w' ⟨rfl, e⟩; obtain rfl := e.symm)
    | (go_at_call 21; refine (num_any 20 _).mono ?_; rintro e w' ⟨rfl, e⟩; obtain rfl := e.symm)
    | (go_at_call 21; refine (num_any 2 _).mono ?_; rintro e w' ⟨rfl, e⟩; obtain rfl := e.symm))
  go_ret
  exact ⟨rfl, c18⟩
set_option maxHeartbeats 16000000 in
set_option maxRecDepth 1000000 in
theorem back_X2_cut {w : World} {va vb vc : Value} {xs ps u ys : List (BitVec 8)} (ha : Sr w va xs) (hps : Sr w vb ps) (hc0 : Sr w vc ys) (L1 : Hid (xs.length ≤ 140737488351232)) (L2 : Hid (ps.length ≤ 140737488351232)) (hu : Hid (onc ps ps.length = u)) (hpn : Hid (ps ≠ [])) (U : Nat) (hUe : Hid (U = u.length)) (HU : Hid (0 < u.length)) (hU48 : U ≤ 140737488351232) (L3 : Hid (ys.length ≤ 140737488351232)) (Y : Nat) (hYe : Hid (Y = ys.length)) (HYL : Hid (0 < ys.length)) (hY48 : Y ≤ 140737488351232) (D : Nat) (hD : Hid (D = (trim xs).length)) (hD48 : D ≤ 140737488351232) (hA : U < D) (hB : U < Y) :
    Calls Try.prog 5 #[va, vb, vc] w fun e w' => e = .returned (.bool true) ∧ Below w.heap.size w w' := by
  obtain ⟨pl, hpl⟩ : ∃ pl, pl = trim (ls (co xs) U) := ⟨_, rfl⟩
  have HPT : Hid (trim pl = pl) := by show _ = _; rw [hpl, trim_trim]
  have HPU : Hid (pl.length ≤ u.length) := by show _ ≤ _; rw [hpl]; have h3 := trim_len (ls (co xs) U); rw [ls_len] at h3; have := hUe.out; omega
  have LPL : Hid (pl.length ≤ 281474976710656) := by show _ ≤ _; have := HPU.out; have := hUe.out; omega
  have LU : Hid (u.length ≤ 140737488351232) := by show _ ≤ _; have := hUe.out; omega
  have LU4 : Hid (u.length + 4 ≤ 281474976710656) := by show _ ≤ _; have := hUe.out; omega
  have HND : Hid (u.Nodup) := by show List.Nodup _; rw [← hu.out]; exact onc_nodup (Nat.le_refl _)
  have HSELF : Hid (IsThr u (u.map (fun a => ev a pl)) pl) := thr_self HPT.out HPU.out
  have LMAP : Hid (u.length = (u.map (fun a => ev a pl)).length) := by show _ = _; rw [List.length_map]
  have HTR : Hid (∀ (W : World) (v : Value), Sl W v xs → Calls Try.prog 22 #[v] W fun e w' => e = .returned (.slice (some ⟨W.heap.size, 0, none⟩) D D) ∧ Sl w' (.slice (some ⟨W.heap.size, 0, none⟩) U D) (ls (co xs) U) ∧ Below W.heap.size W w') := fun W v h => by
    have h3 := ptrim_own h (by have := L1.out; omega)
    rw [← hD.out] at h3
    exact h3.mono fun e w' ⟨he, ho, hb⟩ => ⟨he, own_take ho (by omega) (by omega), hb⟩
  have HTR2 : Hid (∀ (W : World) (v : Value), Sl W v (ls (co xs) U) → Calls Try.prog 22 #[v] W fun e w' => ∃ v', e = .returned v' ∧ Rs 28 W.heap.size w' v' pl ∧ Below W.heap.size W w') := fun W v h => by rw [hpl]; exact ptrim_any h (by rw [ls_len]; omega)
  have HUN : Hid (∀ W : World, Sr W vb ps → Calls Try.prog 23 #[vb] W fun e w' => ∃ v', e = .returned v' ∧ Rs 28 W.heap.size w' v' u ∧ Below W.heap.size W w') := fun W h => by rw [← hu.out]; exact unlike_x h hpn.out L2.out
  have d1 : ((U : Int) : Int) < (D : Int) := by omega
  have d2 : ((U : Int) : Int) ≤ (D : Int) := by omega
  have y2 : (U : Int) < (Y : Int) := by omega
  have y3 : (U : Int) ≤ (Y : Int) := by omega
  have z0 : 0 < U := by have := HU.out; have := HYL.out; have := hUe.out; have := hYe.out; omega
  have z1 : ((U : Int) == 0) = false := by simp; omega
  have z2 : ¬ (U : Int) = 0 := by omega
  have z3 : (0 : Int) < (U : Int) := by omega
  have HLE : Hid (U ≤ Y) := by show _ ≤ _; omega
  have HXM : Hid (u.length = U) := by show _ = _; exact hUe.out.symm
  have HYM : Hid ((ys.take U).length = U) := by show _ = _; rw [List.length_take]; have := hYe.out; omega
  have HXY : Hid (u.length = (ys.take U).length) := by show _ = _; rw [HXM.out, HYM.out]
  have HM4 : Hid (u.length + 4 ≤ 281474976710656) := by show _ ≤ _; rw [HXM.out]; omega
  have HMU : Hid (u.length ≤ 140737488351232) := by show _ ≤ _; rw [HXM.out]; omega
  have HMY : Hid ((ys.take U).length ≤ 281474976710656) := by show _ ≤ _; rw [HYM.out]; omega
  have HXN : Hid (u.Nodup) := HND.out
  have HVL : Hid ((vs (co u) U).length = U * 1) := by show _ = _; rw [vs_len, Nat.mul_one]
  have MA : Hid (0 + U ≤ maxLen) := by show _ ≤ _; unfold maxLen; omega
  have MB : Hid ((0 + U) * 1 ≤ 140737488355328) := by show _ ≤ _; omega
  have MC : Hid (U + 1 ≤ maxLen) := by show _ ≤ _; unfold maxLen; omega
  have MD : Hid ((U + 1) * 1 ≤ 140737488355328) := by show _ ≤ _; omega
  have ME := MC
  have MF := MD
  have HM0 : Hid (0 < U) := z0
  have HLL : Hid ((u ++ [co u 0]).length = ((ys.take U) ++ [1#8]).length) := by show _ = _; rw [List.length_append, List.length_append, HXM.out, HYM.out]; rfl
  have HL48 : Hid ((u ++ [co u 0]).length ≤ 281474976710656) := by show _ ≤ _; rw [List.length_append, HXM.out]; simp; omega
  have HDUP : Hid (¬ (u ++ [co u 0]).Nodup) := again_dup (by intro e; have := HXM.out; rw [e] at this; simp at this; omega)
  have HUE : Hid (u.length ≠ ((ys.take U) ++ [1#8]).length) := by show _ ≠ _; rw [List.length_append, HXM.out, HYM.out]; simp
  obtain ⟨i0, hi, hz0, hz1, hz2⟩ := info_parts infoE
  clear hpl
  go_enter Try.func5, Try.ntmps5
  go_wp2_with (first
    | (go_at_call 9; refine (awake_any _).mono ?_; rintro e w1 ⟨rfl, hb1⟩; have ha1 := ha.below hb1; have hc1 := hc0.below hb1; have hp1 := hps.below hb1)
    | (go_at_call 23; refine (HUN.out _ hp1).mono ?_; rintro e w2 ⟨vx, rfl, hX, hb2⟩; have ha2 := ha1.below hb2; have hc2 := hc1.below hb2; have c2 := bt hb1 hb2; obtain ⟨gx, cx, hvx, hgx1, hgx2, hcx1, hcx2⟩ := rs_some hX HU.out; subst hvx; rw [← hUe.out] at hcx1 hX ⊢)
    | (go_at_call 10; refine (elems_any ha2 L1.out).mono ?_; rintro e w3 ⟨p3, rfl, hP3, hb3⟩; have hc3 := hc2.below hb3; have hX3 := hX.below hb3; have c3 := bt c2 hb3; clear ha2)
    | (go_at_call 22; refine (HTR.out _ _ hP3.sl).mono ?_; rintro e w4 ⟨rfl, hS4, hb4⟩; have hc4 := hc3.below hb4; have hX4 := hX3.below hb4; have c4 := bt c3 hb4; clear hX3)
    | (go_at_call 22; refine (HTR2.out _ _ hS4).mono ?_; rintro e w5 ⟨v5, rfl, hPl, hb5⟩; have hc5 := hc4.below hb5; have hX5 := hX4.below hb5; have c5 := bt c4 hb5; clear hX4 hS4)
    | (go_at_call 25; refine (values_any hPl.sl hX5.sr LPL.out LU.out).mono ?_; rintro e w6 ⟨v6, rfl, hV6, hb6⟩; have hc6 := hc5.below hb6; have hX6 := hX5.below hb6; have hPl6 := hPl.below hb6; have c6 := bt c5 hb6; clear hX5)
    | (go_at_call 24; refine (pthrough_any hX6.sr hV6.sr LMAP.out LU4.out HND.out).mono ?_; rintro e w7 ⟨v7, t7, rfl, hT7, hV7, hb7⟩; have et := hT7.out.unique HSELF.out HND.out; rw [et] at hV7; have hc7 := hc6.below hb7; have hX7 := hX6.below hb7; have hPl7 := hPl6.below hb7; have c7 := bt c6 hb7; clear hX6 hT7 et)
    | (go_at_call 21; refine (num_any 0 _).mono ?_; rintro e w' ⟨rfl, e⟩; obtain rfl := e.symm)
    | (go_at_call 11; refine (equal_any hV7.sr hPl7.sr LPL.out).mono ?_; rintro e w8 ⟨rfl, hb8⟩; have hc8 := hc7.below hb8; have hX8 := hX7.below hb8; have c8 := bt c7 hb8; clear hX7 hV7)
    | (go_at_call 10; refine (elems_any hc8 L3.out).mono ?_; rintro e w9 ⟨vy, rfl, hYa, hb9⟩; obtain ⟨gy, cy, hvy, hgy1, hgy2, hcy1, hcy2⟩ := rs_some hYa HYL.out; subst hvy; rw [← hYe.out] at hcy1 hYa ⊢; have hX9 := hX8.below hb9; have c9 := bt c8 hb9; have hgx8 := (hX8.own gx rfl).2; have HGXY : Hid (∀ a b, (Value.slice (some ⟨gx, 0, none⟩) a b).ownBlock ≠ some gy) := (fun a b e => by have := Option.some.inj e; have h3 : gx = gy := this; omega); have HGY : Hid (w.heap.size ≤ gy) := Nat.le_trans c8.size hgy1; have hYc := rs_cut hYa hYe.out.symm HLE.out; have hXc := hX9; clear hX8)
    | (go_at_call 24; refine (pthrough_any hXc.sr hYc.sr HXY.out HM4.out HXN.out).mono ?_; rintro e w10 ⟨v10, t10, rfl, hT10, hV10, hb10⟩; obtain ⟨pt, ct, hvt⟩ := len_rs hV10; subst hvt; have hT10l := hT10.out.len; rw [HXM.out] at hT10l; have LT10 : Hid (t10.length ≤ 281474976710656) := (by show _ ≤ _; have := HM4.out; rw [HXM.out] at this; omega); have EV := (show Hid _ from thr_vals hT10.out HXY.out); have hXd := hXc.below hb10; have hYd := hYc.below hb10; have c10 := bt c9 hb10; clear hXc hYc)
    | (go_at_call 25; refine (values_any hV10.sl hXd.sr LT10.out HMU.out).mono ?_; rw [EV.out]; rintro e w11 ⟨v11, rfl, hV11, hb11⟩; have hYe2 := hYd.below hb11; have hXe2 := hXd.below hb11; have c11 := bt c10 hb11; clear hXd hYd)
    | (go_at_call 11; refine (equal_any hV11.sr hYe2.sr HMY.out).mono ?_; rintro e w12 ⟨rfl, hb12⟩; have c12 := bt c11 hb12; have hX12 := hXe2.below hb12; have hY12 := hYe2.below hb12; clear hXe2 hYe2; unfold Rs at hX12 hY12; rw [HXM.out] at hX12; rw [HYM.out] at hY12; have kx := (owns_cap2 hX12).2.2.2; have ky := (owns_cap2 hY12).2.2.2)
    | (go_at_call 10; refine (elems_nil none 0 _).mono ?_; rintro e w' ⟨rfl, e⟩; obtain rfl := e.symm)
    | (at_builtin; refine wpList_append_own _ rfl _ _ 26 rfl w12.heap.size 28 i0 (.int .u8 0) 1 1 Try.underlying26 hi hz0 hz1 hz2 rfl (by decide) (.slice none 0 0) 0 [] rfl (World.ownsRow_nil _ _ _ _) ⟨gx, 0, none⟩ U cx (vs (co u) U) rfl HVL.out (hX12.cells rfl) (vs_one _ _) MA.out MB.out (Nat.le_refl _) ?_; intro v14 w14 hW14a hg14 _; have hW14 := own_plain hW14a; clear hW14a; have hX14 := hX12.kept hg14 (.inr (by simp [Value.ownBlock])); have hY14 := hY12.kept hg14 (.inr (by simp [Value.ownBlock])); have c14 := c12.grown hg14 c12.size (fun k hk => by cases hk); have gx0 := own_at hX14 HM0.out; have S14 : Hid (∀ o : Obj, w12.heap.size ≤ (w14.alloc o).heap.size) := (fun o => by have := hg14.size; simp; omega); clear hX12 hY12)
    | (at_builtin; refine wpList_append_own _ rfl _ _ 26 rfl w12.heap.size 28 i0 (.int .u8 0) 1 1 Try.underlying26 hi hz0 hz1 hz2 rfl (by decide) v14 _ _ rfl (hW14.alloc (.cells #[.int .u8 (el (co u 0))] 28)) ⟨w14.heap.size, 0, none⟩ 1 1 [.int .u8 (el (co u 0))] rfl rfl ?q1 ?q2 MC.out MD.out (S14.out _) ?_; (case q1 => exact one_new _ _ _); (case q2 => exact one_cell _ _); intro v15 w15 hW15 hg15 _; have hX15 := (hX14.alloc _).kept hg15 (.inr (ne_of_base (hW14.alloc (.cells #[.int .u8 (el (co u 0))] 28)) kx)); have hY15 := (hY14.alloc _).kept hg15 (.inr (ne_of_base (hW14.alloc (.cells #[.int .u8 (el (co u 0))] 28)) ky)); have c15 := (c14.alloc c14.size (.cells #[.int .u8 (el (co u 0))] 28)).grown hg15 (Nat.le_trans c12.size (S14.out _)) (fun k hk => Nat.le_trans (Nat.le_trans c12.size (Nat.le_refl _)) (hW14.lt k hk).1); clear hX14 hY14 hW14 gx0)
    | (at_builtin; refine wpList_append_keep rfl _ _ 26 rfl w8.heap.size 28 i0 (.int .u8 0) Try.underlying26 hi hz0 hz1 hz2 rfl gy U cy (vs (co (ys.take U)) U) rfl (hY15.alloc (.cells #[.int .u8 1] 28)) ⟨w15.heap.size, 0, none⟩ 1 (.int .u8 1) rfl ?q1 ?q2 ME.out MF.out (base_alloc hY15 _) ?_; (case q1 => exact one_new _ _ _); (case q2 => exact one_cell _ _); intro v16 w16 hZ16 hY16 hg16; have n3 := ne_own (hW15.alloc (.cells #[.int .u8 1] 28)) ky; have hX16 := (hX15.alloc _).kept hg16 (.inr (HGXY.out _ _)); have hW16 := (hW15.alloc _).kept hg16 (.inr n3); have c16 := (c15.alloc c15.size _).grown hg16 (Nat.le_trans c15.size (by simp)) (fun k hk => by cases hk; exact HGY.out); clear hX15 hY15 hW15; have R16 := tw_sr hW16 HXM.out; have Q16 := yw_sr hZ16 HYM.out)
    | (go_at_call 24; refine (pthrough_twice R16 Q16 HLL.out HL48.out HDUP.out).mono ?_; rintro e w17 ⟨rfl, hb17⟩; have hX17 := owns_below hX16 hb17; have hY17 := owns_below hY16 hb17; have c17 := bt c16 hb17; clear hX16 hY16 R16 Q16 hW16 hZ16)
    | (at_builtin; refine wpList_append_keep rfl _ _ 26 rfl w8.heap.size 28 i0 (.int .u8 0) Try.underlying26 hi hz0 hz1 hz2 rfl gy U cy (vs (co (ys.take U)) U) rfl (hY17.alloc (.cells #[.int .u8 1] 28)) ⟨w17.heap.size, 0, none⟩ 1 (.int .u8 1) rfl ?q1 ?q2 ME.out MF.out (base_alloc hY17 _) ?_; (case q1 => exact one_new _ _ _); (case q2 => exact one_cell _ _); intro v18 w18 hZ18 hY18 hg18; have hX18 := (hX17.alloc _).kept hg18 (.inr (HGXY.out _ _)); have c18 := (c17.alloc c17.size _).grown hg18 (Nat.le_trans c17.size (by simp)) (fun k hk => by cases hk; exact HGY.out); have Q18 := yw_sr hZ18 HYM.out; have R18 := xw_sr hX18 HXM.out; clear hX17 hY17)
    | (go_at_call 24; refine (pthrough_uneven R18 Q18 HUE.out).mono ?_; rintro e w' ⟨rfl, e⟩; obtain rfl := e.symm)
    | (go_at_call 21; refine (num_any 20 _).mono ?_; rintro e w' ⟨rfl, e⟩; obtain rfl := e.symm)
    | (go_at_call 21; refine (num_any 2 _).mono ?_; rintro e w' ⟨rfl, e⟩; obtain rfl := e.symm))
  go_ret
  exact ⟨rfl, c18⟩
set_option maxHeartbeats 16000000 in
set_option maxRecDepth 1000000 in
theorem back_X3_keep {w : World} {va vb vc : Value} {xs ps u ys : List (BitVec 8)} (ha : Sr w va xs) (hps : Sr w vb ps) (hc0 : Sr w vc ys) (L1 : Hid (xs.length ≤ 140737488351232)) (L2 : Hid (ps.length ≤ 140737488351232)) (hu : Hid (onc ps ps.length = u)) (hpn : Hid (ps ≠ [])) (U : Nat) (hUe : Hid (U = u.length)) (HU : Hid (0 < u.length)) (hU48 : U ≤ 140737488351232) (L3 : Hid (ys.length ≤ 140737488351232)) (Y : Nat) (hYe : Hid (Y = ys.length)) (HYL : Hid (0 < ys.length)) (hY48 : Y ≤ 140737488351232) (D : Nat) (hD : Hid (D = (trim xs).length)) (hD48 : D ≤ 140737488351232) (hA : D ≤ U) (hB : Y ≤ U) :
    Calls Try.prog 5 #[va, vb, vc] w fun e w' => e = .returned (.bool true) ∧ Below w.heap.size w w' := by
  obtain ⟨pl, hpl⟩ : ∃ pl, pl = trim xs := ⟨_, rfl⟩
  have HPT : Hid (trim pl = pl) := by show _ = _; rw [hpl, trim_trim]
  have HPU : Hid (pl.length ≤ u.length) := by show _ ≤ _; rw [hpl, ← hD.out]; have := hUe.out; omega
  have LPL : Hid (pl.length ≤ 281474976710656) := by show _ ≤ _; have := HPU.out; have := hUe.out; omega
  have LU : Hid (u.length ≤ 140737488351232) := by show _ ≤ _; have := hUe.out; omega
  have LU4 : Hid (u.length + 4 ≤ 281474976710656) := by show _ ≤ _; have := hUe.out; omega
  have HND : Hid (u.Nodup) := by show List.Nodup _; rw [← hu.out]; exact onc_nodup (Nat.le_refl _)
  have HSELF : Hid (IsThr u (u.map (fun a => ev a pl)) pl) := thr_self HPT.out HPU.out
  have LMAP : Hid (u.length = (u.map (fun a => ev a pl)).length) := by show _ = _; rw [List.length_map]
  have HTR : Hid (∀ (W : World) (v : Value), Sl W v xs → Calls Try.prog 22 #[v] W fun e w' => e = .returned (.slice (some ⟨W.heap.size, 0, none⟩) D D) ∧ Rs 28 W.heap.size w' (.slice (some ⟨W.heap.size, 0, none⟩) D D) pl ∧ Below W.heap.size W w') := fun W v h => by
    have h3 := ptrim_own h (by have := L1.out; omega)
    rw [← hD.out] at h3
    refine h3.mono fun e w' ⟨he, ho, hb⟩ => ⟨he, ?_, hb⟩
    rw [hpl, hD.out] at *
    exact ho.rs (Nat.le_refl _) (by omega) (Nat.le_refl _) (fun i _ => (co_trim xs i).symm)
  have HUN : Hid (∀ W : World, Sr W vb ps → Calls Try.prog 23 #[vb] W fun e w' => ∃ v', e = .returned v' ∧ Rs 28 W.heap.size w' v' u ∧ Below W.heap.size W w') := fun W h => by rw [← hu.out]; exact unlike_x h hpn.out L2.out
  have d1 : ¬ ((U : Int) : Int) < (D : Int) := by omega
  have y2 : ¬ (U : Int) < (Y : Int) := by omega
  have y3 : (Y : Int) ≤ (U : Int) := by omega
  have z0 : 0 < Y := by have := HU.out; have := HYL.out; have := hUe.out; have := hYe.out; omega
  have z1 : ((Y : Int) == 0) = false := by simp; omega
  have z2 : ¬ (Y : Int) = 0 := by omega
  have z3 : (0 : Int) < (Y : Int) := by omega
  have HLE : Hid (Y ≤ U) := by show _ ≤ _; omega
  have HXM : Hid ((u.take Y).length = Y) := by show _ = _; rw [List.length_take]; have := hUe.out; omega
  have HYM : Hid (ys.length = Y) := by show _ = _; exact hYe.out.symm
  have HXY : Hid ((u.take Y).length = ys.length) := by show _ = _; rw [HXM.out, HYM.out]
  have HM4 : Hid ((u.take Y).length + 4 ≤ 281474976710656) := by show _ ≤ _; rw [HXM.out]; omega
  have HMU : Hid ((u.take Y).length ≤ 140737488351232) := by show _ ≤ _; rw [HXM.out]; omega
  have HMY : Hid (ys.length ≤ 281474976710656) := by show _ ≤ _; rw [HYM.out]; omega
  have HXN : Hid ((u.take Y).Nodup) := HND.out.sublist (List.take_sublist _ _)
  have HVL : Hid ((vs (co (u.take Y)) Y).length = Y * 1) := by show _ = _; rw [vs_len, Nat.mul_one]
  have MA : Hid (0 + Y ≤ maxLen) := by show _ ≤ _; unfold maxLen; omega
  have MB : Hid ((0 + Y) * 1 ≤ 140737488355328) := by show _ ≤ _; omega
  have MC : Hid (Y + 1 ≤ maxLen) := by show _ ≤ _; unfold maxLen; omega
  have MD : Hid ((Y + 1) * 1 ≤ 140737488355328) := by show _ ≤ _; omega
  have ME := MC
  have MF := MD
  have HM0 : Hid (0 < Y) := z0
  have HLL : Hid (((u.take Y) ++ [co (u.take Y) 0]).length = (ys ++ [1#8]).length) := by show _ = _; rw [List.length_append, List.length_append, HXM.out, HYM.out]; rfl
  have HL48 : Hid (((u.take Y) ++ [co (u.take Y) 0]).length ≤ 281474976710656) := by show _ ≤ _; rw [List.length_append, HXM.out]; simp; omega
  have HDUP : Hid (¬ ((u.take Y) ++ [co (u.take Y) 0]).Nodup) := again_dup (by intro e; have := HXM.out; rw [e] at this; simp at this; omega)
  have HUE : Hid ((u.take Y).length ≠ (ys ++ [1#8]).length) := by show _ ≠ _; rw [List.length_append, HXM.out, HYM.out]; simp
  obtain ⟨i0, hi, hz0, hz1, hz2⟩ := info_parts infoE
  clear hpl
  go_enter Try.func5, Try.ntmps5
  go_wp2_with (first
    | (go_at_call 9; refine (awake_any _).mono ?_; rintro e w1 ⟨rfl, hb1⟩; have ha1 := ha.below hb1; have hc1 := hc0.below hb1; have hp1 := hps.below hb1)
    | (go_at_call 23; refine (HUN.out _ hp1).mono ?_; rintro e w2 ⟨vx, rfl, hX, hb2⟩; have ha2 := ha1.below hb2; have hc2 := hc1.below hb2; have c2 := bt hb1 hb2; obtain ⟨gx, cx, hvx, hgx1, hgx2, hcx1, hcx2⟩ := rs_some hX HU.out; subst hvx; rw [← hUe.out] at hcx1 hX ⊢)
    | (go_at_call 10; refine (elems_any ha2 L1.out).mono ?_; rintro e w3 ⟨p3, rfl, hP3, hb3⟩; have hc3 := hc2.below hb3; have hX3 := hX.below hb3; have c3 := bt c2 hb3; clear ha2)
    | (go_at_call 22; refine (HTR.out _ _ hP3.sl).mono ?_; rintro e w5 ⟨rfl, hPl, hb5⟩; have hc5 := hc3.below hb5; have hX5 := hX3.below hb5; have c5 := bt c3 hb5; clear hX3)
    | (go_at_call 25; refine (values_any hPl.sl hX5.sr LPL.out LU.out).mono ?_; rintro e w6 ⟨v6, rfl, hV6, hb6⟩; have hc6 := hc5.below hb6; have hX6 := hX5.below hb6; have hPl6 := hPl.below hb6; have c6 := bt c5 hb6; clear hX5)
    | (go_at_call 24; refine (pthrough_any hX6.sr hV6.sr LMAP.out LU4.out HND.out).mono ?_; rintro e w7 ⟨v7, t7, rfl, hT7, hV7, hb7⟩; have et := hT7.out.unique HSELF.out HND.out; rw [et] at hV7; have hc7 := hc6.below hb7; have hX7 := hX6.below hb7; have hPl7 := hPl6.below hb7; have c7 := bt c6 hb7; clear hX6 hT7 et)
    | (go_at_call 21; refine (num_any 0 _).mono ?_; rintro e w' ⟨rfl, e⟩; obtain rfl := e.symm)
    | (go_at_call 11; refine (equal_any hV7.sr hPl7.sr LPL.out).mono ?_; rintro e w8 ⟨rfl, hb8⟩; have hc8 := hc7.below hb8; have hX8 := hX7.below hb8; have c8 := bt c7 hb8; clear hX7 hV7)
    | (go_at_call 10; refine (elems_any hc8 L3.out).mono ?_; rintro e w9 ⟨vy, rfl, hYa, hb9⟩; obtain ⟨gy, cy, hvy, hgy1, hgy2, hcy1, hcy2⟩ := rs_some hYa HYL.out; subst hvy; rw [← hYe.out] at hcy1 hYa ⊢; have hX9 := hX8.below hb9; have c9 := bt c8 hb9; have hgx8 := (hX8.own gx rfl).2; have HGXY : Hid (∀ a b, (Value.slice (some ⟨gx, 0, none⟩) a b).ownBlock ≠ some gy) := (fun a b e => by have := Option.some.inj e; have h3 : gx = gy := this; omega); have HGY : Hid (w.heap.size ≤ gy) := Nat.le_trans c8.size hgy1; have hYc := hYa; have hXc := rs_cut hX9 hUe.out.symm HLE.out; clear hX8)
    | (go_at_call 24; refine (pthrough_any hXc.sr hYc.sr HXY.out HM4.out HXN.out).mono ?_; rintro e w10 ⟨v10, t10, rfl, hT10, hV10, hb10⟩; obtain ⟨pt, ct, hvt⟩ := len_rs hV10; subst hvt; have hT10l := hT10.out.len; rw [HXM.out] at hT10l; have LT10 : Hid (t10.length ≤ 281474976710656) := (by show _ ≤ _; have := HM4.out; rw [HXM.out] at this; omega); have EV := (show Hid _ from thr_vals hT10.out HXY.out); have hXd := hXc.below hb10; have hYd := hYc.below hb10; have c10 := bt c9 hb10; clear hXc hYc)
    | (go_at_call 25; refine (values_any hV10.sl hXd.sr LT10.out HMU.out).mono ?_; rw [EV.out]; rintro e w11 ⟨v11, rfl, hV11, hb11⟩; have hYe2 := hYd.below hb11; have hXe2 := hXd.below hb11; have c11 := bt c10 hb11; clear hXd hYd)
    | (go_at_call 11; refine (equal_any hV11.sr hYe2.sr HMY.out).mono ?_; rintro e w12 ⟨rfl, hb12⟩; have c12 := bt c11 hb12; have hX12 := hXe2.below hb12; have hY12 := hYe2.below hb12; clear hXe2 hYe2; unfold Rs at hX12 hY12; rw [HXM.out] at hX12; rw [HYM.out] at hY12; have kx := (owns_cap2 hX12).2.2.2; have ky := (owns_cap2 hY12).2.2.2)
    | (go_at_call 10; refine (elems_nil none 0 _).mono ?_; rintro e w' ⟨rfl, e⟩; obtain rfl := e.symm)
    | (at_builtin; refine wpList_append_own _ rfl _ _ 26 rfl w12.heap.size 28 i0 (.int .u8 0) 1 1 Try.underlying26 hi hz0 hz1 hz2 rfl (by decide) (.slice none 0 0) 0 [] rfl (World.ownsRow_nil _ _ _ _) ⟨gx, 0, none⟩ Y cx (vs (co (u.take Y)) Y) rfl HVL.out (hX12.cells rfl) (vs_one _ _) MA.out MB.out (Nat.le_refl _) ?_; intro v14 w14 hW14a hg14 _; have hW14 := own_plain hW14a; clear hW14a; have hX14 := hX12.kept hg14 (.inr (by simp [Value.ownBlock])); have hY14 := hY12.kept hg14 (.inr (by simp [Value.ownBlock])); have c14 := c12.grown hg14 c12.size (fun k hk => by cases hk); have gx0 := own_at hX14 HM0.out; have S14 : Hid (∀ o : Obj, w12.heap.size ≤ (w14.alloc o).heap.size) := (fun o => by have := hg14.size; simp; omega); clear hX12 hY12)
    | (at_builtin; refine wpList_append_own _ rfl _ _ 26 rfl w12.heap.size 28 i0 (.int .u8 0) 1 1 Try.underlying26 hi hz0 hz1 hz2 rfl (by decide) v14 _ _ rfl (hW14.alloc (.cells #[.int .u8 (el (co (u.take Y) 0))] 28)) ⟨w14.heap.size, 0, none⟩ 1 1 [.int .u8 (el (co (u.take Y) 0))] rfl rfl ?q1 ?q2 MC.out MD.out (S14.out _) ?_; (case q1 => exact one_new _ _ _); (case q2 => exact one_cell _ _); intro v15 w15 hW15 hg15 _; have hX15 := (hX14.alloc _).kept hg15 (.inr (ne_of_base (hW14.alloc (.cells #[.int .u8 (el (co (u.take Y) 0))] 28)) kx)); have hY15 := (hY14.alloc _).kept hg15 (.inr (ne_of_base (hW14.alloc (.cells #[.int .u8 (el (co (u.take Y) 0))] 28)) ky)); have c15 := (c14.alloc c14.size (.cells #[.int .u8 (el (co (u.take Y) 0))] 28)).grown hg15 (Nat.le_trans c12.size (S14.out _)) (fun k hk => Nat.le_trans (Nat.le_trans c12.size (Nat.le_refl _)) (hW14.lt k hk).1); clear hX14 hY14 hW14 gx0)
    | (at_builtin; refine wpList_append_keep rfl _ _ 26 rfl w8.heap.size 28 i0 (.int .u8 0) Try.underlying26 hi hz0 hz1 hz2 rfl gy Y cy (vs (co ys) Y) rfl (hY15.alloc (.cells #[.int .u8 1] 28)) ⟨w15.heap.size, 0, none⟩ 1 (.int .u8 1) rfl ?q1 ?q2 ME.out MF.out (base_alloc hY15 _) ?_; (case q1 => exact one_new _ _ _); (case q2 => exact one_cell _ _); intro v16 w16 hZ16 hY16 hg16; have n3 := ne_own (hW15.alloc (.cells #[.int .u8 1] 28)) ky; have hX16 := (hX15.alloc _).kept hg16 (.inr (HGXY.out _ _)); have hW16 := (hW15.alloc _).kept hg16 (.inr n3); have c16 := (c15.alloc c15.size _).grown hg16 (Nat.le_trans c15.size (by simp)) (fun k hk => by cases hk; exact HGY.out); clear hX15 hY15 hW15; have R16 := tw_sr hW16 HXM.out; have Q16 := yw_sr hZ16 HYM.out)
    | (go_at_call 24; refine (pthrough_twice R16 Q16 HLL.out HL48.out HDUP.out).mono ?_; rintro e w17 ⟨rfl, hb17⟩; have hX17 := owns_below hX16 hb17; have hY17 := owns_below hY16 hb17; have c17 := bt c16 hb17; clear hX16 hY16 R16 Q16 hW16 hZ16)
    | (at_builtin; refine wpList_append_keep rfl _ _ 26 rfl w8.heap.size 28 i0 (.int .u8 0) Try.underlying26 hi hz0 hz1 hz2 rfl gy Y cy (vs (co ys) Y) rfl (hY17.alloc (.cells #[.int .u8 1] 28)) ⟨w17.heap.size, 0, none⟩ 1 (.int .u8 1) rfl ?q1 ?q2 ME.out MF.out (base_alloc hY17 _) ?_; (case q1 => exact one_new _ _ _); (case q2 => exact one_cell _ _); intro v18 w18 hZ18 hY18 hg18; have hX18 := (hX17.alloc _).kept hg18 (.inr (HGXY.out _ _)); have c18 := (c17.alloc c17.size _).grown hg18 (Nat.le_trans c17.size (by simp)) (fun k hk => by cases hk; exact HGY.out); have Q18 := yw_sr hZ18 HYM.out; have R18 := xw_sr hX18 HXM.out; clear hX17 hY17)
    | (go_at_call 24; refine (pthrough_uneven R18 Q18 HUE.out).mono ?_; rintro e w' ⟨rfl, e⟩; obtain rfl := e.symm)
    | (go_at_call 21; refine (num_any 20 _).mono ?_; rintro e w' ⟨rfl, e⟩; obtain rfl := e.symm)
    | (go_at_call 21; refine (num_any 2 _).mono ?_; rintro e w' ⟨rfl, e⟩; obtain rfl := e.symm))
  go_ret
  exact ⟨rfl, c18⟩
set_option maxHeartbeats 16000000 in
set_option maxRecDepth 1000000 in
theorem back_X3_cut {w : World} {va vb vc : Value} {xs ps u ys : List (BitVec 8)} (ha : Sr w va xs) (hps : Sr w vb ps) (hc0 : Sr w vc ys) (L1 : Hid (xs.length ≤ 140737488351232)) (L2 : Hid (ps.length ≤ 140737488351232)) (hu : Hid (onc ps ps.length = u)) (hpn : Hid (ps ≠ [])) (U : Nat) (hUe : Hid (U = u.length)) (HU : Hid (0 < u.length)) (hU48 : U ≤ 140737488351232) (L3 : Hid (ys.length ≤ 140737488351232)) (Y : Nat) (hYe : Hid (Y = ys.length)) (HYL : Hid (0 < ys.length)) (hY48 : Y ≤ 140737488351232) (D : Nat) (hD : Hid (D = (trim xs).length)) (hD48 : D ≤ 140737488351232) (hA : U < D) (hB : Y ≤ U) :
    Calls Try.prog 5 #[va, vb, vc] w fun e w' => e = .returned (.bool true) ∧ Below w.heap.size w w' := by
  obtain ⟨pl, hpl⟩ : ∃ pl, pl = trim (ls (co xs) U) := ⟨_, rfl⟩
  have HPT : Hid (trim pl = pl) := by show _ = _; rw [hpl, trim_trim]
  have HPU : Hid (pl.length ≤ u.length) := by show _ ≤ _; rw [hpl]; have h3 := trim_len (ls (co xs) U); rw [ls_len] at h3; have := hUe.out; omega
  have LPL : Hid (pl.length ≤ 281474976710656) := by show _ ≤ _; have := HPU.out; have := hUe.out; omega
  have LU : Hid (u.length ≤ 140737488351232) := by show _ ≤ _; have := hUe.out; omega
  have LU4 : Hid (u.length + 4 ≤ 281474976710656) := by show _ ≤ _; have := hUe.out; omega
  have HND : Hid (u.Nodup) := by show List.Nodup _; rw [← hu.out]; exact onc_nodup (Nat.le_refl _)
  have HSELF : Hid (IsThr u (u.map (fun a => ev a pl)) pl) := thr_self HPT.out HPU.out
  have LMAP : Hid (u.length = (u.map (fun a => ev a pl)).length) := by show _ = _; rw [List.length_map]
  have HTR : Hid (∀ (W : World) (v : Value), Sl W v xs → Calls Try.prog 22 #[v] W fun e w' => e = .returned (.slice (some ⟨W.heap.size, 0, none⟩) D D) ∧ Sl w' (.slice (some ⟨W.heap.size, 0, none⟩) U D) (ls (co xs) U) ∧ Below W.heap.size W w') := fun W v h => by
    have h3 := ptrim_own h (by have := L1.out; omega)
    rw [← hD.out] at h3
    exact h3.mono fun e w' ⟨he, ho, hb⟩ => ⟨he, own_take ho (by omega) (by omega), hb⟩
  have HTR2 : Hid (∀ (W : World) (v : Value), Sl W v (ls (co xs) U) → Calls Try.prog 22 #[v] W fun e w' => ∃ v', e = .returned v' ∧ Rs 28 W.heap.size w' v' pl ∧ Below W.heap.size W w') := fun W v h => by rw [hpl]; exact ptrim_any h (by rw [ls_len]; omega)
  have HUN : Hid (∀ W : World, Sr W vb ps → Calls Try.prog 23 #[vb] W fun e w' => ∃ v', e = .returned v' ∧ Rs 28 W.heap.size w' v' u ∧ Below W.heap.size W w') := fun W h => by rw [← hu.out]; exact unlike_x h hpn.out L2.out
  have d1 : ((U : Int) : Int) < (D : Int) := by omega
  have d2 : ((U : Int) : Int) ≤ (D : Int) := by omega
  have y2 : ¬ (U : Int) < (Y : Int) := by omega
  have y3 : (Y : Int) ≤ (U : Int) := by omega
  have z0 : 0 < Y := by have := HU.out; have := HYL.out; have := hUe.out; have := hYe.out; omega
  have z1 : ((Y : Int) == 0) = false := by simp; omega
  have z2 : ¬ (Y : Int) = 0 := by omega
  have z3 : (0 : Int) < (Y : Int) := by omega
  have HLE : Hid (Y ≤ U) := by show _ ≤ _; omega
  have HXM : Hid ((u.take Y).length = Y) := by show _ = _; rw [List.length_take]; have := hUe.out; omega
  have HYM : Hid (ys.length = Y) := by show _ = _; exact hYe.out.symm
  have HXY : Hid ((u.take Y).length = ys.length) := by show _ = _; rw [HXM.out, HYM.out]
  have HM4 : Hid ((u.take Y).length + 4 ≤ 281474976710656) := by show _ ≤ _; rw [HXM.out]; omega
  have HMU : Hid ((u.take Y).length ≤ 140737488351232) := by show _ ≤ _; rw [HXM.out]; omega
  have HMY : Hid (ys.length ≤ 281474976710656) := by show _ ≤ _; rw [HYM.out]; omega
  have HXN : Hid ((u.take Y).Nodup) := HND.out.sublist (List.take_sublist _ _)
  have HVL : Hid ((vs (co (u.take Y)) Y).length = Y * 1) := by show _ = _; rw [vs_len, Nat.mul_one]
  have MA : Hid (0 + Y ≤ maxLen) := by show _ ≤ _; unfold maxLen; omega
  have MB : Hid ((0 + Y) * 1 ≤ 140737488355328) := by show _ ≤ _; omega
  have MC : Hid (Y + 1 ≤ maxLen) := by show _ ≤ _; unfold maxLen; omega
  have MD : Hid ((Y + 1) * 1 ≤ 140737488355328) := by show _ ≤ _; omega
  have ME := MC
  have MF := MD
  have HM0 : Hid (0 < Y) := z0
  have HLL : Hid (((u.take Y) ++ [co (u.take Y) 0]).length = (ys ++ [1#8]).length) := by show _ = _; rw [List.length_append, List.length_append, HXM.out, HYM.out]; rfl
  have HL48 : Hid (((u.take Y) ++ [co (u.take Y) 0]).length ≤ 281474976710656) := by show _ ≤ _; rw [List.length_append, HXM.out]; simp; omega
  have HDUP : Hid (¬ ((u.take Y) ++ [co (u.take Y) 0]).Nodup) := again_dup (by intro e; have := HXM.out; rw [e] at this; simp at this; omega)
  have HUE : Hid ((u.take Y).length ≠ (ys ++ [1#8]).length) := by show _ ≠ _; rw [List.length_append, HXM.out, HYM.out]; simp
  obtain ⟨i0, hi, hz0, hz1, hz2⟩ := info_parts infoE
  clear hpl
  go_enter Try.func5, Try.ntmps5
  go_wp2_with (first
    | (go_at_call 9; refine (awake_any _).mono ?_; rintro e w1 ⟨rfl, hb1⟩; have ha1 := ha.below hb1; have hc1 := hc0.below hb1; have hp1 := hps.below hb1)
    | (go_at_call 23; refine (HUN.out _ hp1).mono ?_; rintro e w2 ⟨vx, rfl, hX, hb2⟩; have ha2 := ha1.below hb2; have hc2 := hc1.below hb2; have c2 := bt hb1 hb2; obtain ⟨gx, cx, hvx, hgx1, hgx2, hcx1, hcx2⟩ := rs_some hX HU.out; subst hvx; rw [← hUe.out] at hcx1 hX ⊢)
    | (go_at_call 10; refine (elems_any ha2 L1.out).mono ?_; rintro e w3 ⟨p3, rfl, hP3, hb3⟩; have hc3 := hc2.below hb3; have hX3 := hX.below hb3; have c3 := bt c2 hb3; clear ha2)
    | (go_at_call 22; refine (HTR.out _ _ hP3.sl).mono ?_; rintro e w4 ⟨rfl, hS4, hb4⟩; have hc4 := hc3.below hb4; have hX4 := hX3.below hb4; have c4 := bt c3 hb4; clear hX3)
    | (go_at_call 22; refine (HTR2.out _ _ hS4).mono ?_; rintro e w5 ⟨v5, rfl, hPl, hb5⟩; have hc5 := hc4.below hb5; have hX5 := hX4.below hb5; have c5 := bt c4 hb5; clear hX4 hS4)
    | (go_at_call 25; refine (values_any hPl.sl hX5.sr LPL.out LU.out).mono ?_; rintro e w6 ⟨v6, rfl, hV6, hb6⟩; have hc6 := hc5.below hb6; have hX6 := hX5.below hb6; have hPl6 := hPl.below hb6; have c6 := bt c5 hb6; clear hX5)
    | (go_at_call 24; refine (pthrough_any hX6.sr hV6.sr LMAP.out LU4.out HND.out).mono ?_; rintro e w7 ⟨v7, t7, rfl, hT7, hV7, hb7⟩; have et := hT7.out.unique HSELF.out HND.out; rw [et] at hV7; have hc7 := hc6.below hb7; have hX7 := hX6.below hb7; have hPl7 := hPl6.below hb7; have c7 := bt c6 hb7; clear hX6 hT7 et)
    | (go_at_call 21; refine (num_any 0 _).mono ?_; rintro e w' ⟨rfl, e⟩; obtain rfl := e.symm)
    | (go_at_call 11; refine (equal_any hV7.sr hPl7.sr LPL.out).mono ?_; rintro e w8 ⟨rfl, hb8⟩; have hc8 := hc7.below hb8; have hX8 := hX7.below hb8; have c8 := bt c7 hb8; clear hX7 hV7)
    | (go_at_call 10; refine (elems_any hc8 L3.out).mono ?_; rintro e w9 ⟨vy, rfl, hYa, hb9⟩; obtain ⟨gy, cy, hvy, hgy1, hgy2, hcy1, hcy2⟩ := rs_some hYa HYL.out; subst hvy; rw [← hYe.out] at hcy1 hYa ⊢; have hX9 := hX8.below hb9; have c9 := bt c8 hb9; have hgx8 := (hX8.own gx rfl).2; have HGXY : Hid (∀ a b, (Value.slice (some ⟨gx, 0, none⟩) a b).ownBlock ≠ some gy) := (fun a b e => by have := Option.some.inj e; have h3 : gx = gy := this; omega); have HGY : Hid (w.heap.size ≤ gy) := Nat.le_trans c8.size hgy1; have hYc := hYa; have hXc := rs_cut hX9 hUe.out.symm HLE.out; clear hX8)
    | (go_at_call 24; refine (pthrough_any hXc.sr hYc.sr HXY.out HM4.out HXN.out).mono ?_; rintro e w10 ⟨v10, t10, rfl, hT10, hV10, hb10⟩; obtain ⟨pt, ct, hvt⟩ := len_rs hV10; subst hvt; have hT10l := hT10.out.len; rw [HXM.out] at hT10l; have LT10 : Hid (t10.length ≤ 281474976710656) := (by show _ ≤ _; have := HM4.out; rw [HXM.out] at this; omega); have EV := (show Hid _ from thr_vals hT10.out HXY.out); have hXd := hXc.below hb10; have hYd := hYc.below hb10; have c10 := bt c9 hb10; clear hXc hYc)
    | (go_at_call 25; refine (values_any hV10.sl hXd.sr LT10.out HMU.out).mono ?_; rw [EV.out]; rintro e w11 ⟨v11, rfl, hV11, hb11⟩; have hYe2 := hYd.below hb11; have hXe2 := hXd.below hb11; have c11 := bt c10 hb11; clear hXd hYd)
    | (go_at_call 11; refine (equal_any hV11.sr hYe2.sr HMY.out).mono ?_; rintro e w12 ⟨rfl, hb12⟩; have c12 := bt c11 hb12; have hX12 := hXe2.below hb12; have hY12 := hYe2.below hb12; clear hXe2 hYe2; unfold Rs at hX12 hY12; rw [HXM.out] at hX12; rw [HYM.out] at hY12; have kx := (owns_cap2 hX12).2.2.2; have ky := (owns_cap2 hY12).2.2.2)
    | (go_at_call 10; refine (elems_nil none 0 _).mono ?_; rintro e w' ⟨rfl, e⟩; obtain rfl := e.symm)
    | (at_builtin; refine wpList_append_own _ rfl _ _ 26 rfl w12.heap.size 28 i0 (.int .u8 0) 1 1 Try.underlying26 hi hz0 hz1 hz2 rfl (by decide) (.slice none 0 0) 0 [] rfl (World.ownsRow_nil _ _ _ _) ⟨gx, 0, none⟩ Y cx (vs (co (u.take Y)) Y) rfl HVL.out (hX12.cells rfl) (vs_one _ _) MA.out MB.out (Nat.le_refl _) ?_; intro v14 w14 hW14a hg14 _; have hW14 := own_plain hW14a; clear hW14a; have hX14 := hX12.kept hg14 (.inr (by simp [Value.ownBlock])); have hY14 := hY12.kept hg14 (.inr (by simp [Value.ownBlock])); have c14 := c12.grown hg14 c12.size (fun k hk => by cases hk); have gx0 := own_at hX14 HM0.out; have S14 : Hid (∀ o : Obj, w12.heap.size ≤ (w14.alloc o).heap.size) := (fun o => by have := hg14.size; simp; omega); clear hX12 hY12)
    | (at_builtin; refine wpList_append_own _ rfl _ _ 26 rfl w12.heap.size 28 i0 (.int .u8 0) 1 1 Try.underlying26 hi hz0 hz1 hz2 rfl (by decide) v14 _ _ rfl (hW14.alloc (.cells #[.int .u8 (el (co (u.take Y) 0))] 28)) ⟨w14.heap.size, 0, none⟩ 1 1 [.int .u8 (el (co (u.take Y) 0))] rfl rfl ?q1 ?q2 MC.out MD.out (S14.out _) ?_; (case q1 => exact one_new _ _ _); (case q2 => exact one_cell _ _); intro v15 w15 hW15 hg15 _; have hX15 := (hX14.alloc _).kept hg15 (.inr (ne_of_base (hW14.alloc (.cells #[.int .u8 (el (co (u.take Y) 0))] 28)) kx)); have hY15 := (hY14.alloc _).kept hg15 (.inr (ne_of_base (hW14.alloc (.cells #[.int .u8 (el (co (u.take Y) 0))] 28)) ky)); have c15 := (c14.alloc c14.size (.cells #[.int .u8 (el (co (u.take Y) 0))] 28)).grown hg15 (Nat.le_trans c12.size (S14.out _)) (fun k hk => Nat.le_trans (Nat.le_trans c12.size (Nat.le_refl _)) (hW14.lt k hk).1); clear hX14 hY14 hW14 gx0)
    | (at_builtin; refine wpList_append_keep rfl _ _ 26 rfl w8.heap.size 28 i0 (.int .u8 0) Try.underlying26 hi hz0 hz1 hz2 rfl gy Y cy (vs (co ys) Y) rfl (hY15.alloc (.cells #[.int .u8 1] 28)) ⟨w15.heap.size, 0, none⟩ 1 (.int .u8 1) rfl ?q1 ?q2 ME.out MF.out (base_alloc hY15 _) ?_; (case q1 => exact one_new _ _ _); (case q2 => exact one_cell _ _); intro v16 w16 hZ16 hY16 hg16; have n3 := ne_own (hW15.alloc (.cells #[.int .u8 1] 28)) ky; have hX16 := (hX15.alloc _).kept hg16 (.inr (HGXY.out _ _)); have hW16 := (hW15.alloc _).kept hg16 (.inr n3); have c16 := (c15.alloc c15.size _).grown hg16 (Nat.le_trans c15.size (by simp)) (fun k hk => by cases hk; exact HGY.out); clear hX15 hY15 hW15; have R16 := tw_sr hW16 HXM.out; have Q16 := yw_sr hZ16 HYM.out)
    | (go_at_call 24; refine (pthrough_twice R16 Q16 HLL.out HL48.out HDUP.out).mono ?_; rintro e w17 ⟨rfl, hb17⟩; have hX17 := owns_below hX16 hb17; have hY17 := owns_below hY16 hb17; have c17 := bt c16 hb17; clear hX16 hY16 R16 Q16 hW16 hZ16)
    | (at_builtin; refine wpList_append_keep rfl _ _ 26 rfl w8.heap.size 28 i0 (.int .u8 0) Try.underlying26 hi hz0 hz1 hz2 rfl gy Y cy (vs (co ys) Y) rfl (hY17.alloc (.cells #[.int .u8 1] 28)) ⟨w17.heap.size, 0, none⟩ 1 (.int .u8 1) rfl ?q1 ?q2 ME.out MF.out (base_alloc hY17 _) ?_; (case q1 => exact one_new _ _ _); (case q2 => exact one_cell _ _); intro v18 w18 hZ18 hY18 hg18; have hX18 := (hX17.alloc _).kept hg18 (.inr (HGXY.out _ _)); have c18 := (c17.alloc c17.size _).grown hg18 (Nat.le_trans c17.size (by simp)) (fun k hk => by cases hk; exact HGY.out); have Q18 := yw_sr hZ18 HYM.out; have R18 := xw_sr hX18 HXM.out; clear hX17 hY17)
    | (go_at_call 24; refine (pthrough_uneven R18 Q18 HUE.out).mono ?_; rintro e w' ⟨rfl, e⟩; obtain rfl := e.symm)
    | (go_at_call 21; refine (num_any 20 _).mono ?_; rintro e w' ⟨rfl, e⟩; obtain rfl := e.symm)
    | (go_at_call 21; refine (num_any 2 _).mono ?_; rintro e w' ⟨rfl, e⟩; obtain rfl := e.symm))
  go_ret
  exact ⟨rfl, c18⟩
end
end Go.Proofs.Ytpjebfcdjhcfnab
