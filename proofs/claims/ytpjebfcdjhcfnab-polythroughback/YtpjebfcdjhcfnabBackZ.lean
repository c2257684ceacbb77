/-
  PolyThroughBack: the walk, once for each way.
-/
import Derived.Test.YtpjebfcdjhcfnabBack
namespace Go.Proofs.Ytpjebfcdjhcfnab
open Go.RowKit

theorem unlike_x {w : World} {v : Value} {xs : List (BitVec 8)} (h : Sr w v xs) (h0 : xs ≠ []) (hn : xs.length ≤ 140737488351232) :
    Calls Try.prog 23 #[v] w fun e w' => ∃ v', e = .returned v' ∧ Rs 28 w.heap.size w' v' (onc xs xs.length) ∧ Below w.heap.size w w' := by
  obtain ⟨b, o, c, rfl, _, hc⟩ := h.cells h0
  exact (unlike_core b o _ c xs w rfl hn hc).mono fun e w' ⟨v, he, hr, hb⟩ => ⟨v, he, hr.mono (Nat.le_succ _), hb⟩
theorem onc_ne {xs : List (BitVec 8)} (h : xs ≠ []) : 0 < (onc xs xs.length).length := by
  have hp := List.length_pos_iff.2 h
  have : co xs 0 ∈ onc xs xs.length := (onc_mem (Nat.le_refl _) _).2 (by rw [List.take_length]; exact co_mem hp)
  exact List.length_pos_of_mem this
theorem owns_pos2 {t : TypeId} {B n : Nat} {w : World} {v : Value} {l : List Value} (h : w.ownsRow B t 1 v n l) (h0 : 0 < n) : ∃ g cap, v = .slice (some ⟨g, 0, none⟩) n cap := by
  rcases h.2 with ⟨hv, h1⟩ | ⟨g, cap, c, hv, _⟩
  · omega
  · exact ⟨g, cap, hv⟩
theorem owns_cap2 {t : TypeId} {B g cap n : Nat} {w : World} {l : List Value} (h : w.ownsRow B t 1 (.slice (some ⟨g, 0, none⟩) n cap) n l) : n ≤ cap ∧ cap ≤ 9223372036854775807 ∧ B ≤ g ∧ g < w.heap.size := by
  have hlt := h.lt g rfl
  rcases h.2 with ⟨hv, h0⟩ | ⟨g', cap', c, hv, hg, hh, hc, hm, hs, ht⟩
  · cases hv
  · injection hv with e1 e2 e3
    subst e3
    exact ⟨hc, by unfold maxLen at hm; omega, hlt.1, hlt.2⟩
theorem rs_some {t : TypeId} {B : Nat} {w : World} {v : Value} {xs : List (BitVec 8)} (h : Rs t B w v xs) (h0 : 0 < xs.length) : ∃ g cap, v = .slice (some ⟨g, 0, none⟩) xs.length cap ∧ B ≤ g ∧ g < w.heap.size ∧ xs.length ≤ cap ∧ cap ≤ 9223372036854775807 := by
  obtain ⟨g, cap, e⟩ := owns_pos2 h h0
  subst e
  have hc := owns_cap2 h
  exact ⟨g, cap, rfl, hc.2.2.1, hc.2.2.2, hc.1, hc.2.1⟩
theorem rs_cut {t : TypeId} {B g n cap : Nat} {w : World} {xs : List (BitVec 8)} (h : Rs t B w (.slice (some ⟨g, 0, none⟩) n cap) xs) (hn : xs.length = n) {k : Nat} (hk : k ≤ n) : Rs t B w (.slice (some ⟨g, 0, none⟩) k cap) (xs.take k) := by
  subst hn
  unfold Rs at h ⊢
  have hl : (xs.take k).length = k := by rw [List.length_take]; omega
  have e : vs (co (xs.take k)) k = vs (co xs) k := vs_congr (fun i hi => by unfold co; simp [List.getD_eq_getElem?_getD, List.getElem?_take_of_lt hi])
  rw [hl, e]
  have e2 : vs (co xs) xs.length = vs (co xs) k ++ (vs (co xs) xs.length).drop k := by
    conv => lhs; rw [← List.take_append_drop k (vs (co xs) xs.length)]
    rw [vs_take _ _ _ hk]
  rw [e2] at h
  exact owns_prefix h (vs_len _ _) hk
theorem len_thr {y t : List (BitVec 8)} (h : IsThr [] y t) : t = [] := List.length_eq_zero_iff.1 (Nat.le_zero.1 h.len)
theorem again_dup {x : List (BitVec 8)} (h : x ≠ []) : ¬ (x ++ [co x 0]).Nodup := fun hn => by
  rw [List.nodup_append] at hn
  exact hn.2.2 _ (co_mem (List.length_pos_iff.2 h)) _ (by simp) rfl
theorem elems_nils {w : World} {v : Value} (h : Sr w v []) : Calls Try.prog 10 #[v] w fun e w' => e = .returned (.slice none 0 0) ∧ w' = w := by
  obtain ⟨p, c, rfl⟩ := h.empty
  exact elems_nil p c w
section
attribute [local irreducible] Calls el gm trim co vs Rs Sl Sr Rd ev add mul onc ls
set_option maxHeartbeats 16000000 in
set_option maxRecDepth 1000000 in
theorem back_X0y0_keep {w : World} {va vb vc : Value} {xs : List (BitVec 8)} (ha : Sr w va xs) (hps : Sr w vb []) (hc0 : Sr w vc []) (L1 : Hid (xs.length ≤ 140737488351232)) (D : Nat) (hD : Hid (D = (trim xs).length)) (hD48 : D ≤ 140737488351232) (hA : D ≤ 0) :
    Calls Try.prog 5 #[va, vb, vc] w fun e w' => e = .returned (.bool true) ∧ Below w.heap.size w w' := by
  obtain ⟨pl, hpl⟩ : ∃ pl, pl = trim xs := ⟨_, rfl⟩
  have HPT : Hid (trim pl = pl) := by show _ = _; rw [hpl, trim_trim]
  have HPU : Hid (pl.length ≤ ([] : List (BitVec 8)).length) := by show _ ≤ _; rw [hpl, ← hD.out]; simpa using hA
  have LPL : Hid (pl.length ≤ 281474976710656) := by show _ ≤ _; have := HPU.out; simp at this; rw [this]; simp
  have LU : Hid (([] : List (BitVec 8)).length ≤ 140737488351232) := by show _ ≤ _; simp
  have LU4 : Hid (([] : List (BitVec 8)).length + 4 ≤ 281474976710656) := by show _ ≤ _; simp
  have HND : Hid (([] : List (BitVec 8)).Nodup) := List.nodup_nil
  have HSELF : Hid (IsThr ([] : List (BitVec 8)) (([] : List (BitVec 8)).map (fun a => ev a pl)) pl) := thr_self HPT.out HPU.out
  have LMAP : Hid (([] : List (BitVec 8)).length = (([] : List (BitVec 8)).map (fun a => ev a pl)).length) := by show _ = _; rw [List.length_map]
  have HTR : Hid (∀ (W : World) (v : Value), Sl W v xs → Calls Try.prog 22 #[v] W fun e w' => e = .returned (.slice (some ⟨W.heap.size, 0, none⟩) D D) ∧ Rs 28 W.heap.size w' (.slice (some ⟨W.heap.size, 0, none⟩) D D) pl ∧ Below W.heap.size W w') := fun W v h => by
    have h3 := ptrim_own h (by have := L1.out; omega)
    rw [← hD.out] at h3
    refine h3.mono fun e w' ⟨he, ho, hb⟩ => ⟨he, ?_, hb⟩
    rw [hpl, hD.out] at *
    exact ho.rs (Nat.le_refl _) (by omega) (Nat.le_refl _) (fun i _ => (co_trim xs i).symm)
  have HUN : Hid (∀ W : World, Sr W vb [] → Calls Try.prog 23 #[vb] W fun e w' => e = .returned (.slice none 0 0) ∧ Below W.heap.size W w') := fun W h => by
    obtain ⟨p, c, e⟩ := h.empty
    rw [e]; exact unlike_nil p c W
  have d1 : ¬ (0 : Int) < (D : Int) := by omega
  clear hpl
  go_enter Try.func5, Try.ntmps5
  go_wp2_with (first
    | (go_at_call 9; refine (awake_any _).mono ?_; rintro e w1 ⟨rfl, hb1⟩; have ha1 := ha.below hb1; have hc1 := hc0.below hb1; have hp1 := hps.below hb1)
    | (go_at_call 23; refine (HUN.out _ hp1).mono ?_; rintro e w2 ⟨rfl, hb2⟩; have ha2 := ha1.below hb2; have hc2 := hc1.below hb2; have c2 := bt hb1 hb2; have hX := Rs.nil 28 0 w2)
    | (go_at_call 10; refine (elems_any ha2 L1.out).mono ?_; rintro e w3 ⟨p3, rfl, hP3, hb3⟩; have hc3 := hc2.below hb3; have hX3 := hX.below hb3; have c3 := bt c2 hb3; clear ha2)
    | (go_at_call 22; refine (HTR.out _ _ hP3.sl).mono ?_; rintro e w5 ⟨rfl, hPl, hb5⟩; have hc5 := hc3.below hb5; have hX5 := hX3.below hb5; have c5 := bt c3 hb5; clear hX3)
    | (go_at_call 25; refine (values_any hPl.sl hX5.sr LPL.out LU.out).mono ?_; rintro e w6 ⟨v6, rfl, hV6, hb6⟩; have hc6 := hc5.below hb6; have hX6 := hX5.below hb6; have hPl6 := hPl.below hb6; have c6 := bt c5 hb6; clear hX5)
    | (go_at_call 24; refine (pthrough_any hX6.sr hV6.sr LMAP.out LU4.out HND.out).mono ?_; rintro e w7 ⟨v7, t7, rfl, hT7, hV7, hb7⟩; have et := hT7.out.unique HSELF.out HND.out; rw [et] at hV7; have hc7 := hc6.below hb7; have hX7 := hX6.below hb7; have hPl7 := hPl6.below hb7; have c7 := bt c6 hb7; clear hX6 hT7 et)
    | (go_at_call 21; refine (num_any 0 _).mono ?_; rintro e w' ⟨rfl, e⟩; obtain rfl := e.symm)
    | (go_at_call 11; refine (equal_any hV7.sr hPl7.sr LPL.out).mono ?_; rintro e w8 ⟨rfl, hb8⟩; have hc8 := hc7.below hb8; have hX8 := hX7.below hb8; have c8 := bt c7 hb8; clear hX7 hV7)
    | (go_at_call 10; refine (elems_nils hc8).mono ?_; rintro e w' ⟨rfl, e⟩; obtain rfl := e.symm; have hYc := Rs.nil 28 0 w8; have c9 := c8; have hX9 := hX8; have hXc := hX9; clear hX8)
    | (go_at_call 24; refine (pthrough_any (xs := []) (ys := []) hXc.sr hYc.sr rfl (by decide) List.nodup_nil).mono ?_; rintro e w10 ⟨v10, t10, rfl, hT10, hV10, hb10⟩; have et := len_thr hT10.out; rw [et] at hV10; obtain ⟨pt, ct, rfl⟩ := hV10.sr.empty; have hXd := hXc.below hb10; have hYd := hYc.below hb10; have c10 := bt c9 hb10)
    | (go_at_call 25; refine (values_any (pl := []) (u := []) hV10.sl hXd.sr (by decide) (by decide)).mono ?_; rintro e w11 ⟨v11, rfl, hV11, hb11⟩; have hYe2 := hYd.below hb11; have c11 := bt c10 hb11)
    | (go_at_call 11; refine (equal_any (xs := []) hV11.sr hYe2.sr (by decide)).mono ?_; rintro e w12 ⟨rfl, hb12⟩; have c12 := bt c11 hb12))
  go_ret
  exact ⟨rfl, c12⟩
set_option maxHeartbeats 16000000 in
set_option maxRecDepth 1000000 in
theorem back_X0y0_cut {w : World} {va vb vc : Value} {xs : List (BitVec 8)} (ha : Sr w va xs) (hps : Sr w vb []) (hc0 : Sr w vc []) (L1 : Hid (xs.length ≤ 140737488351232)) (D : Nat) (hD : Hid (D = (trim xs).length)) (hD48 : D ≤ 140737488351232) (hA : 0 < D) :
    Calls Try.prog 5 #[va, vb, vc] w fun e w' => e = .returned (.bool true) ∧ Below w.heap.size w w' := by
  obtain ⟨pl, hpl⟩ : ∃ pl, pl = trim (ls (co xs) 0) := ⟨_, rfl⟩
  have HPT : Hid (trim pl = pl) := by show _ = _; rw [hpl, trim_trim]
  have HPU : Hid (pl.length ≤ ([] : List (BitVec 8)).length) := by show _ ≤ _; rw [hpl]; have h3 := trim_len (ls (co xs) 0); rw [ls_len] at h3; simpa using h3
  have LPL : Hid (pl.length ≤ 281474976710656) := by show _ ≤ _; have := HPU.out; simp at this; rw [this]; simp
  have LU : Hid (([] : List (BitVec 8)).length ≤ 140737488351232) := by show _ ≤ _; simp
  have LU4 : Hid (([] : List (BitVec 8)).length + 4 ≤ 281474976710656) := by show _ ≤ _; simp
  have HND : Hid (([] : List (BitVec 8)).Nodup) := List.nodup_nil
  have HSELF : Hid (IsThr ([] : List (BitVec 8)) (([] : List (BitVec 8)).map (fun a => ev a pl)) pl) := thr_self HPT.out HPU.out
  have LMAP : Hid (([] : List (BitVec 8)).length = (([] : List (BitVec 8)).map (fun a => ev a pl)).length) := by show _ = _; rw [List.length_map]
  have HTR : Hid (∀ (W : World) (v : Value), Sl W v xs → Calls Try.prog 22 #[v] W fun e w' => e = .returned (.slice (some ⟨W.heap.size, 0, none⟩) D D) ∧ Sl w' (.slice (some ⟨W.heap.size, 0, none⟩) 0 D) (ls (co xs) 0) ∧ Below W.heap.size W w') := fun W v h => by
    have h3 := ptrim_own h (by have := L1.out; omega)
    rw [← hD.out] at h3
    exact h3.mono fun e w' ⟨he, ho, hb⟩ => ⟨he, own_take ho (by omega) (by omega), hb⟩
  have HTR2 : Hid (∀ (W : World) (v : Value), Sl W v (ls (co xs) 0) → Calls Try.prog 22 #[v] W fun e w' => ∃ v', e = .returned v' ∧ Rs 28 W.heap.size w' v' pl ∧ Below W.heap.size W w') := fun W v h => by rw [hpl]; exact ptrim_any h (by rw [ls_len]; omega)
  have HUN : Hid (∀ W : World, Sr W vb [] → Calls Try.prog 23 #[vb] W fun e w' => e = .returned (.slice none 0 0) ∧ Below W.heap.size W w') := fun W h => by
    obtain ⟨p, c, e⟩ := h.empty
    rw [e]; exact unlike_nil p c W
  have d1 : (0 : Int) < (D : Int) := by omega
  have d2 : (0 : Int) ≤ (D : Int) := by omega
  clear hpl
  go_enter Try.func5, Try.ntmps5
  go_wp2_with (first
    | (go_at_call 9; refine (awake_any _).mono ?_; rintro e w1 ⟨rfl, hb1⟩; have ha1 := ha.below hb1; have hc1 := hc0.below hb1; have hp1 := hps.below hb1)
    | (go_at_call 23; refine (HUN.out _ hp1).mono ?_; rintro e w2 ⟨rfl, hb2⟩; have ha2 := ha1.below hb2; have hc2 := hc1.below hb2; have c2 := bt hb1 hb2; have hX := Rs.nil 28 0 w2)
    | (go_at_call 10; refine (elems_any ha2 L1.out).mono ?_; rintro e w3 ⟨p3, rfl, hP3, hb3⟩; have hc3 := hc2.below hb3; have hX3 := hX.below hb3; have c3 := bt c2 hb3; clear ha2)
    | (go_at_call 22; refine (HTR.out _ _ hP3.sl).mono ?_; rintro e w4 ⟨rfl, hS4, hb4⟩; have hc4 := hc3.below hb4; have hX4 := hX3.below hb4; have c4 := bt c3 hb4; clear hX3)
    | (go_at_call 22; refine (HTR2.out _ _ hS4).mono ?_; rintro e w5 ⟨v5, rfl, hPl, hb5⟩; have hc5 := hc4.below hb5; have hX5 := hX4.below hb5; have c5 := bt c4 hb5; clear hX4 hS4)
    | (go_at_call 25; refine (values_any hPl.sl hX5.sr LPL.out LU.out).mono ?_; rintro e w6 ⟨v6, rfl, hV6, hb6⟩; have hc6 := hc5.below hb6; have hX6 := hX5.below hb6; have hPl6 := hPl.below hb6; have c6 := bt c5 hb6; clear hX5)
    | (go_at_call 24; refine (pthrough_any hX6.sr hV6.sr LMAP.out LU4.out HND.out).mono ?_; rintro e w7 ⟨v7, t7, rfl, hT7, hV7, hb7⟩; have et := hT7.out.unique HSELF.out HND.out; rw [et] at hV7; have hc7 := hc6.below hb7; have hX7 := hX6.below hb7; have hPl7 := hPl6.below hb7; have c7 := bt c6 hb7; clear hX6 hT7 et)
    | (go_at_call 21; refine (num_any 0 _).mono ?_; rintro e w' ⟨rfl, e⟩; obtain rfl := e.symm)
    | (go_at_call 11; refine (equal_any hV7.sr hPl7.sr LPL.out).mono ?_; rintro e w8 ⟨rfl, hb8⟩; have hc8 := hc7.below hb8; have hX8 := hX7.below hb8; have c8 := bt c7 hb8; clear hX7 hV7)
    | (go_at_call 10; refine (elems_nils hc8).mono ?_; rintro e w' ⟨rfl, e⟩; obtain rfl := e.symm; have hYc := Rs.nil 28 0 w8; have c9 := c8; have hX9 := hX8; have hXc := hX9; clear hX8)
    | (go_at_call 24; refine (pthrough_any (xs := []) (ys := []) hXc.sr hYc.sr rfl (by decide) List.nodup_nil).mono ?_; rintro e w10 ⟨v10, t10, rfl, hT10, hV10, hb10⟩; have et := len_thr hT10.out; rw [et] at hV10; obtain ⟨pt, ct, rfl⟩ := hV10.sr.empty; have hXd := hXc.below hb10; have hYd := hYc.below hb10; have c10 := bt c9 hb10)
    | (go_at_call 25; refine (values_any (pl := []) (u := []) hV10.sl hXd.sr (by decide) (by decide)).mono ?_; rintro e w11 ⟨v11, rfl, hV11, hb11⟩; have hYe2 := hYd.below hb11; have c11 := bt c10 hb11)
    | (go_at_call 11; refine (equal_any (xs := []) hV11.sr hYe2.sr (by decide)).mono ?_; rintro e w12 ⟨rfl, hb12⟩; have c12 := bt c11 hb12))
  go_ret
  exact ⟨rfl, c12⟩
set_option maxHeartbeats 16000000 in
set_option maxRecDepth 1000000 in
theorem back_X0y1_keep {w : World} {va vb vc : Value} {xs ys : List (BitVec 8)} (ha : Sr w va xs) (hps : Sr w vb []) (hc0 : Sr w vc ys) (L1 : Hid (xs.length ≤ 140737488351232)) (L3 : Hid (ys.length ≤ 140737488351232)) (Y : Nat) (hYe : Hid (Y = ys.length)) (HYL : Hid (0 < ys.length)) (hY48 : Y ≤ 140737488351232) (D : Nat) (hD : Hid (D = (trim xs).length)) (hD48 : D ≤ 140737488351232) (hA : D ≤ 0) :
    Calls Try.prog 5 #[va, vb, vc] w fun e w' => e = .returned (.bool true) ∧ Below w.heap.size w w' := by
  obtain ⟨pl, hpl⟩ : ∃ pl, pl = trim xs := ⟨_, rfl⟩
  have HPT : Hid (trim pl = pl) := by show _ = _; rw [hpl, trim_trim]
  have HPU : Hid (pl.length ≤ ([] : List (BitVec 8)).length) := by show _ ≤ _; rw [hpl, ← hD.out]; simpa using hA
  have LPL : Hid (pl.length ≤ 281474976710656) := by show _ ≤ _; have := HPU.out; simp at this; rw [this]; simp
  have LU : Hid (([] : List (BitVec 8)).length ≤ 140737488351232) := by show _ ≤ _; simp
  have LU4 : Hid (([] : List (BitVec 8)).length + 4 ≤ 281474976710656) := by show _ ≤ _; simp
  have HND : Hid (([] : List (BitVec 8)).Nodup) := List.nodup_nil
  have HSELF : Hid (IsThr ([] : List (BitVec 8)) (([] : List (BitVec 8)).map (fun a => ev a pl)) pl) := thr_self HPT.out HPU.out
  have LMAP : Hid (([] : List (BitVec 8)).length = (([] : List (BitVec 8)).map (fun a => ev a pl)).length) := by show _ = _; rw [List.length_map]
  have HTR : Hid (∀ (W : World) (v : Value), Sl W v xs → Calls Try.prog 22 #[v] W fun e w' => e = .returned (.slice (some ⟨W.heap.size, 0, none⟩) D D) ∧ Rs 28 W.heap.size w' (.slice (some ⟨W.heap.size, 0, none⟩) D D) pl ∧ Below W.heap.size W w') := fun W v h => by
    have h3 := ptrim_own h (by have := L1.out; omega)
    rw [← hD.out] at h3
    refine h3.mono fun e w' ⟨he, ho, hb⟩ => ⟨he, ?_, hb⟩
    rw [hpl, hD.out] at *
    exact ho.rs (Nat.le_refl _) (by omega) (Nat.le_refl _) (fun i _ => (co_trim xs i).symm)
  have HUN : Hid (∀ W : World, Sr W vb [] → Calls Try.prog 23 #[vb] W fun e w' => e = .returned (.slice none 0 0) ∧ Below W.heap.size W w') := fun W h => by
    obtain ⟨p, c, e⟩ := h.empty
    rw [e]; exact unlike_nil p c W
  have d1 : ¬ (0 : Int) < (D : Int) := by omega
  have y1 : (0 : Int) < (Y : Int) := by have := HYL.out; have := hYe.out; omega
  clear hpl
  go_enter Try.func5, Try.ntmps5
  go_wp2_with (first
    | (go_at_call 9; refine (awake_any _).mono ?_; rintro e w1 ⟨rfl, hb1⟩; have ha1 := ha.below hb1; have hc1 := hc0.below hb1; have hp1 := hps.below hb1)
    | (go_at_call 23; refine (HUN.out _ hp1).mono ?_; rintro e w2 ⟨rfl, hb2⟩; have ha2 := ha1.below hb2; have hc2 := hc1.below hb2; have c2 := bt hb1 hb2; have hX := Rs.nil 28 0 w2)
    | (go_at_call 10; refine (elems_any ha2 L1.out).mono ?_; rintro e w3 ⟨p3, rfl, hP3, hb3⟩; have hc3 := hc2.below hb3; have hX3 := hX.below hb3; have c3 := bt c2 hb3; clear ha2)
    | (go_at_call 22; refine (HTR.out _ _ hP3.sl).mono ?_; rintro e w5 ⟨rfl, hPl, hb5⟩; have hc5 := hc3.below hb5; have hX5 := hX3.below hb5; have c5 := bt c3 hb5; clear hX3)
    | (go_at_call 25; refine (values_any hPl.sl hX5.sr LPL.out LU.out).mono ?_; rintro e w6 ⟨v6, rfl, hV6, hb6⟩; have hc6 := hc5.below hb6; have hX6 := hX5.below hb6; have hPl6 := hPl.below hb6; have c6 := bt c5 hb6; clear hX5)
    | (go_at_call 24; refine (pthrough_any hX6.sr hV6.sr LMAP.out LU4.out HND.out).mono ?_; rintro e w7 ⟨v7, t7, rfl, hT7, hV7, hb7⟩; have et := hT7.out.unique HSELF.out HND.out; rw [et] at hV7; have hc7 := hc6.below hb7; have hX7 := hX6.below hb7; have hPl7 := hPl6.below hb7; have c7 := bt c6 hb7; clear hX6 hT7 et)
    | (go_at_call 21; refine (num_any 0 _).mono ?_; rintro e w' ⟨rfl, e⟩; obtain rfl := e.symm)
    | (go_at_call 11; refine (equal_any hV7.sr hPl7.sr LPL.out).mono ?_; rintro e w8 ⟨rfl, hb8⟩; have hc8 := hc7.below hb8; have hX8 := hX7.below hb8; have c8 := bt c7 hb8; clear hX7 hV7)
    | (go_at_call 10; refine (elems_any hc8 L3.out).mono ?_; rintro e w9 ⟨vy, rfl, hYa, hb9⟩; obtain ⟨gy, cy, hvy, hgy1, hgy2, hcy1, hcy2⟩ := rs_some hYa HYL.out; subst hvy; rw [← hYe.out] at hcy1 hYa ⊢; have hX9 := hX8.below hb9; have c9 := bt c8 hb9; have hYc := rs_cut hYa hYe.out.symm (Nat.zero_le _); have hXc := hX9; clear hX8)
    | (go_at_call 24; refine (pthrough_any (xs := []) (ys := []) hXc.sr hYc.sr rfl (by decide) List.nodup_nil).mono ?_; rintro e w10 ⟨v10, t10, rfl, hT10, hV10, hb10⟩; have et := len_thr hT10.out; rw [et] at hV10; obtain ⟨pt, ct, rfl⟩ := hV10.sr.empty; have hXd := hXc.below hb10; have hYd := hYc.below hb10; have c10 := bt c9 hb10)
    | (go_at_call 25; refine (values_any (pl := []) (u := []) hV10.sl hXd.sr (by decide) (by decide)).mono ?_; rintro e w11 ⟨v11, rfl, hV11, hb11⟩; have hYe2 := hYd.below hb11; have c11 := bt c10 hb11)
    | (go_at_call 11; refine (equal_any (xs := []) hV11.sr hYe2.sr (by decide)).mono ?_; rintro e w12 ⟨rfl, hb12⟩; have c12 := bt c11 hb12))
  go_ret
  exact ⟨rfl, c12⟩
set_option maxHeartbeats 16000000 in
set_option maxRecDepth 1000000 in
theorem back_X0y1_cut {w : World} {va vb vc : Value} {xs ys : List (BitVec 8)} (ha : Sr w va xs) (hps : Sr w vb []) (hc0 : Sr w vc ys) (L1 : Hid (xs.length ≤ 140737488351232)) (L3 : Hid (ys.length ≤ 140737488351232)) (Y : Nat) (hYe : Hid (Y = ys.length)) (HYL : Hid (0 < ys.length)) (hY48 : Y ≤ 140737488351232) (D : Nat) (hD : Hid (D = (trim xs).length)) (hD48 : D ≤ 140737488351232) (hA : 0 < D) :
    Calls Try.prog 5 #[va, vb, vc] w fun e w' => e = .returned (.bool true) ∧ Below w.heap.size w w' := by
  obtain ⟨pl, hpl⟩ : ∃ pl, pl = trim (ls (co xs) 0) := ⟨_, rfl⟩
  have HPT : Hid (trim pl = pl) := by show _ = _; rw [hpl, trim_trim]
  have HPU : Hid (pl.length ≤ ([] : List (BitVec 8)).length) := by show _ ≤ _; rw [hpl]; have h3 := trim_len (ls (co xs) 0); rw [ls_len] at h3; simpa using h3
  have LPL : Hid (pl.length ≤ 281474976710656) := by show _ ≤ _; have := HPU.out; simp at this; rw [this]; simp
  have LU : Hid (([] : List (BitVec 8)).length ≤ 140737488351232) := by show _ ≤ _; simp
  have LU4 : Hid (([] : List (BitVec 8)).length + 4 ≤ 281474976710656) := by show _ ≤ _; simp
  have HND : Hid (([] : List (BitVec 8)).Nodup) := List.nodup_nil
  have HSELF : Hid (IsThr ([] : List (BitVec 8)) (([] : List (BitVec 8)).map (fun a => ev a pl)) pl) := thr_self HPT.out HPU.out
  have LMAP : Hid (([] : List (BitVec 8)).length = (([] : List (BitVec 8)).map (fun a => ev a pl)).length) := by show _ = _; rw [List.length_map]
  have HTR : Hid (∀ (W : World) (v : Value), Sl W v xs → Calls Try.prog 22 #[v] W fun e w' => e = .returned (.slice (some ⟨W.heap.size, 0, none⟩) D D) ∧ Sl w' (.slice (some ⟨W.heap.size, 0, none⟩) 0 D) (ls (co xs) 0) ∧ Below W.heap.size W w') := fun W v h => by
    have h3 := ptrim_own h (by have := L1.out; omega)
    rw [← hD.out] at h3
    exact h3.mono fun e w' ⟨he, ho, hb⟩ => ⟨he, own_take ho (by omega) (by omega), hb⟩
  have HTR2 : Hid (∀ (W : World) (v : Value), Sl W v (ls (co xs) 0) → Calls Try.prog 22 #[v] W fun e w' => ∃ v', e = .returned v' ∧ Rs 28 W.heap.size w' v' pl ∧ Below W.heap.size W w') := fun W v h => by rw [hpl]; exact ptrim_any h (by rw [ls_len]; omega)
  have HUN : Hid (∀ W : World, Sr W vb [] → Calls Try.prog 23 #[vb] W fun e w' => e = .returned (.slice none 0 0) ∧ Below W.heap.size W w') := fun W h => by
    obtain ⟨p, c, e⟩ := h.empty
    rw [e]; exact unlike_nil p c W
  have d1 : (0 : Int) < (D : Int) := by omega
  have d2 : (0 : Int) ≤ (D : Int) := by omega
  have y1 : (0 : Int) < (Y : Int) := by have := HYL.out; have := hYe.out; omega
  clear hpl
  go_enter Try.func5, Try.ntmps5
  go_wp2_with (first
    | (go_at_call 9; refine (awake_any _).mono ?_; rintro e w1 ⟨rfl, hb1⟩; have ha1 := ha.below hb1; have hc1 := hc0.below hb1; have hp1 := hps.below hb1)
    | (go_at_call 23; refine (HUN.out _ hp1).mono ?_; rintro e w2 ⟨rfl, hb2⟩; have ha2 := ha1.below hb2; have hc2 := hc1.below hb2; have c2 := bt hb1 hb2; have hX := Rs.nil 28 0 w2)
    | (go_at_call 10; refine (elems_any ha2 L1.out).mono ?_; rintro e w3 ⟨p3, rfl, hP3, hb3⟩; have hc3 := hc2.below hb3; have hX3 := hX.below hb3; have c3 := bt c2 hb3; clear ha2)
    | (go_at_call 22; refine (HTR.out _ _ hP3.sl).mono ?_; rintro e w4 ⟨rfl, hS4, hb4⟩; have hc4 := hc3.below hb4; have hX4 := hX3.below hb4; have c4 := bt c3 hb4; clear hX3)
    | (go_at_call 22; refine (HTR2.out _ _ hS4).mono ?_; rintro e w5 ⟨v5, rfl, hPl, hb5⟩; have hc5 := hc4.below hb5; have hX5 := hX4.below hb5; have c5 := bt c4 hb5; clear hX4 hS4)
    | (go_at_call 25; refine (values_any hPl.sl hX5.sr LPL.out LU.out).mono ?_; rintro e w6 ⟨v6, rfl, hV6, hb6⟩; have hc6 := hc5.below hb6; have hX6 := hX5.below hb6; have hPl6 := hPl.below hb6; have c6 := bt c5 hb6; clear hX5)
    | (go_at_call 24; refine (pthrough_any hX6.sr hV6.sr LMAP.out LU4.out HND.out).mono ?_; rintro e w7 ⟨v7, t7, rfl, hT7, hV7, hb7⟩; have et := hT7.out.unique HSELF.out HND.out; rw [et] at hV7; have hc7 := hc6.below hb7; have hX7 := hX6.below hb7; have hPl7 := hPl6.below hb7; have c7 := bt c6 hb7; clear hX6 hT7 et)
    | (go_at_call 21; refine (num_any 0 _).mono ?_; rintro e w' ⟨rfl, e⟩; obtain rfl := e.symm)
    | (go_at_call 11; refine (equal_any hV7.sr hPl7.sr LPL.out).mono ?_; rintro e w8 ⟨rfl, hb8⟩; have hc8 := hc7.below hb8; have hX8 := hX7.below hb8; have c8 := bt c7 hb8; clear hX7 hV7)
    | (go_at_call 10; refine (elems_any hc8 L3.out).mono ?_; rintro e w9 ⟨vy, rfl, hYa, hb9⟩; obtain ⟨gy, cy, hvy, hgy1, hgy2, hcy1, hcy2⟩ := rs_some hYa HYL.out; subst hvy; rw [← hYe.out] at hcy1 hYa ⊢; have hX9 := hX8.below hb9; have c9 := bt c8 hb9; have hYc := rs_cut hYa hYe.out.symm (Nat.zero_le _); have hXc := hX9; clear hX8)
    | (go_at_call 24; refine (pthrough_any (xs := []) (ys := []) hXc.sr hYc.sr rfl (by decide) List.nodup_nil).mono ?_; rintro e w10 ⟨v10, t10, rfl, hT10, hV10, hb10⟩; have et := len_thr hT10.out; rw [et] at hV10; obtain ⟨pt, ct, rfl⟩ := hV10.sr.empty; have hXd := hXc.below hb10; have hYd := hYc.below hb10; have c10 := bt c9 hb10)
    | (go_at_call 25; refine (values_any (pl := []) (u := []) hV10.sl hXd.sr (by decide) (by decide)).mono ?_; rintro e w11 ⟨v11, rfl, hV11, hb11⟩; have hYe2 := hYd.below hb11; have c11 := bt c10 hb11)
    | (go_at_call 11; refine (equal_any (xs := []) hV11.sr hYe2.sr (by decide)).mono ?_; rintro e w12 ⟨rfl, hb12⟩; have c12 := bt c11 hb12))
  go_ret
  exact ⟨rfl, c12⟩
set_option maxHeartbeats 16000000 in
set_option maxRecDepth 1000000 in
theorem back_X1_keep {w : World} {va vb vc : Value} {xs ps u : List (BitVec 8)} (ha : Sr w va xs) (hps : Sr w vb ps) (hc0 : Sr w vc []) (L1 : Hid (xs.length ≤ 140737488351232)) (L2 : Hid (ps.length ≤ 140737488351232)) (hu : Hid (onc ps ps.length = u)) (hpn : Hid (ps ≠ [])) (U : Nat) (hUe : Hid (U = u.length)) (HU : Hid (0 < u.length)) (hU48 : U ≤ 140737488351232) (D : Nat) (hD : Hid (D = (trim xs).length)) (hD48 : D ≤ 140737488351232) (hA : D ≤ U) :
    Calls Try.prog 5 #[va, vb, vc] w fun e w' => e = .returned (.bool true) ∧ Below w.heap.size w w' := by
  obtain ⟨pl, hpl⟩ : ∃ pl, pl = trim xs := ⟨_, rfl⟩
  have HPT : Hid (trim pl = pl) := by show _ = _; rw [hpl, trim_trim]
  have HPU : Hid (pl.length ≤ u.length) := by show _ ≤ _; rw [hpl, ← hD.out]; have := hUe.out; omega
  have LPL : Hid (pl.length ≤ 281474976710656) := by show _ ≤ _; have := HPU.out; have := hUe.out; omega
  have LU : Hid (u.length ≤ 140737488351232) := by show _ ≤ _; have := hUe.out; omega
  have LU4 : Hid (u.length + 4 ≤ 281474976710656) := by show _ ≤ _; have := hUe.out; omega
  have HND : Hid (u.Nodup) := by show List.Nodup _; rw [← hu.out]; exact onc_nodup (Nat.le_refl _)
  have HSELF : Hid (IsThr u (u.map (fun a => ev a pl)) pl) := thr_self HPT.out HPU.out
  have LMAP : Hid (u.length = (u.map (fun a => ev a pl)).length) := by show _ = _; rw [List.length_map]
  have HTR : Hid (∀ (W : World) (v : Value), Sl W v xs → Calls Try.prog 22 #[v] W fun e w' => e = .returned (.slice (some ⟨W.heap.size, 0, none⟩) D D) ∧ Rs 28 W.heap.size w' (.slice (some ⟨W.heap.size, 0, none⟩) D D) pl ∧ Below W.heap.size W w') := fun W v h => by
    have h3 := ptrim_own h (by have := L1.out; omega)
    rw [← hD.out] at h3
    refine h3.mono fun e w' ⟨he, ho, hb⟩ => ⟨he, ?_, hb⟩
    rw [hpl, hD.out] at *
    exact ho.rs (Nat.le_refl _) (by omega) (Nat.le_refl _) (fun i _ => (co_trim xs i).symm)
  have HUN : Hid (∀ W : World, Sr W vb ps → Calls Try.prog 23 #[vb] W fun e w' => ∃ v', e = .returned v' ∧ Rs 28 W.heap.size w' v' u ∧ Below W.heap.size W w') := fun W h => by rw [← hu.out]; exact unlike_x h hpn.out L2.out
  have d1 : ¬ ((U : Int) : Int) < (D : Int) := by omega
  have y1 : (0 : Int) < (U : Int) := by have := HU.out; have := hUe.out; omega
  clear hpl
  go_enter Try.func5, Try.ntmps5
  go_wp2_with (first
    | (go_at_call 9; refine (awake_any _).mono ?_; rintro e w1 ⟨rfl, hb1⟩; have ha1 := ha.below hb1; have hc1 := hc0.below hb1; have hp1 := hps.below hb1)
    | (go_at_call 23; refine (HUN.out _ hp1).mono ?_; rintro e w2 ⟨vx, rfl, hX, hb2⟩; have ha2 := ha1.below hb2; have hc2 := hc1.below hb2; have c2 := bt hb1 hb2; obtain ⟨gx, cx, hvx, hgx1, hgx2, hcx1, hcx2⟩ := rs_some hX HU.out; subst hvx; rw [← hUe.out] at hcx1 hX ⊢)
    | (go_at_call 10; refine (elems_any ha2 L1.out).mono ?_; rintro e w3 ⟨p3, rfl, hP3, hb3⟩; have hc3 := hc2.below hb3; have hX3 := hX.below hb3; have c3 := bt c2 hb3; clear ha2)
    | (go_at_call 22; refine (HTR.out _ _ hP3.sl).mono ?_; rintro e w5 ⟨rfl, hPl, hb5⟩; have hc5 := hc3.below hb5; have hX5 := hX3.below hb5; have c5 := bt c3 hb5; clear hX3)
    | (go_at_call 25; refine (values_any hPl.sl hX5.sr LPL.out LU.out).mono ?_; rintro e w6 ⟨v6, rfl, hV6, hb6⟩; have hc6 := hc5.below hb6; have hX6 := hX5.below hb6; have hPl6 := hPl.below hb6; have c6 := bt c5 hb6; clear hX5)
    | (go_at_call 24; refine (pthrough_any hX6.sr hV6.sr LMAP.out LU4.out HND.out).mono ?_; rintro e w7 ⟨v7, t7, rfl, hT7, hV7, hb7⟩; have et := hT7.out.unique HSELF.out HND.out; rw [et] at hV7; have hc7 := hc6.below hb7; have hX7 := hX6.below hb7; have hPl7 := hPl6.below hb7; have c7 := bt c6 hb7; clear hX6 hT7 et)
    | (go_at_call 21; refine (num_any 0 _).mono ?_; rintro e w' ⟨rfl, e⟩; obtain rfl := e.symm)
    | (go_at_call 11; refine (equal_any hV7.sr hPl7.sr LPL.out).mono ?_; rintro e w8 ⟨rfl, hb8⟩; have hc8 := hc7.below hb8; have hX8 := hX7.below hb8; have c8 := bt c7 hb8; clear hX7 hV7)
    | (go_at_call 10; refine (elems_nils hc8).mono ?_; rintro e w' ⟨rfl, e⟩; obtain rfl := e.symm; have hYc := Rs.nil 28 0 w8; have c9 := c8; have hX9 := hX8; have hXc := rs_cut hX9 hUe.out.symm (Nat.zero_le _); clear hX8)
    | (go_at_call 24; refine (pthrough_any (xs := []) (ys := []) hXc.sr hYc.sr rfl (by decide) List.nodup_nil).mono ?_; rintro e w10 ⟨v10, t10, rfl, hT10, hV10, hb10⟩; have et := len_thr hT10.out; rw [et] at hV10; obtain ⟨pt, ct, rfl⟩ := hV10.sr.empty; have hXd := hXc.below hb10; have hYd := hYc.below hb10; have c10 := bt c9 hb10)
    | (go_at_call 25; refine (values_any (pl := []) (u := []) hV10.sl hXd.sr (by decide) (by decide)).mono ?_; rintro e w11 ⟨v11, rfl, hV11, hb11⟩; have hYe2 := hYd.below hb11; have c11 := bt c10 hb11)
    | (go_at_call 11; refine (equal_any (xs := []) hV11.sr hYe2.sr (by decide)).mono ?_; rintro e w12 ⟨rfl, hb12⟩; have c12 := bt c11 hb12))
  go_ret
  exact ⟨rfl, c12⟩
set_option maxHeartbeats 16000000 in
set_option maxRecDepth 1000000 in
theorem back_X1_cut {w : World} {va vb vc : Value} {xs ps u : List (BitVec 8)} (ha : Sr w va xs) (hps : Sr w vb ps) (hc0 : Sr w vc []) (L1 : Hid (xs.length ≤ 140737488351232)) (L2 : Hid (ps.length ≤ 140737488351232)) (hu : Hid (onc ps ps.length = u)) (hpn : Hid (ps ≠ [])) (U : Nat) (hUe : Hid (U = u.length)) (HU : Hid (0 < u.length)) (hU48 : U ≤ 140737488351232) (D : Nat) (hD : Hid (D = (trim xs).length)) (hD48 : D ≤ 140737488351232) (hA : U < D) :
    Calls Try.prog 5 #[va, vb, vc] w fun e w' => e = .returned (.bool true) ∧ Below w.heap.size w w' := by
  obtain ⟨pl, hpl⟩ : ∃ pl, pl = trim (ls (co xs) U) := ⟨_, rfl⟩
  have HPT : Hid (trim pl = pl) := by show _ = _; rw [hpl, trim_trim]
  have HPU : Hid (pl.length ≤ u.length) := by show _ ≤ _; rw [hpl]; have h3 := trim_len (ls (co xs) U); rw [ls_len] at h3; have := hUe.out; omega
  have LPL : Hid (pl.length ≤ 281474976710656) := by show _ ≤ _; have := HPU.out; have := hUe.out; omega
  have LU : Hid (u.length ≤ 140737488351232) := by show _ ≤ _; have := hUe.out; omega
  have LU4 : Hid (u.length + 4 ≤ 281474976710656) := by show _ ≤ _; have := hUe.out; omega
  have HND : Hid (u.Nodup) := by show List.Nodup _; rw [← hu.out]; exact onc_nodup (Nat.le_refl _)
  have HSELF : Hid (IsThr u (u.map (fun a => ev a pl)) pl) := thr_self HPT.out HPU.out
  have LMAP : Hid (u.length = (u.map (fun a => ev a pl)).length) := by show _ = _; rw [List.length_map]
  have HTR : Hid (∀ (W : World) (v : Value), Sl W v xs → Calls Try.prog 22 #[v] W fun e w' => e = .returned (.slice (some ⟨W.heap.size, 0, none⟩) D D) ∧ Sl w' (.slice (some ⟨W.heap.size, 0, none⟩) U D) (ls (co xs) U) ∧ Below W.heap.size W w') := fun W v h => by
    have h3 := ptrim_own h (by have := L1.out; omega)
    rw [← hD.out] at h3
    exact h3.mono fun e w' ⟨he, ho, hb⟩ => ⟨he, own_take ho (by omega) (by omega), hb⟩
  have HTR2 : Hid (∀ (W : World) (v : Value), Sl W v (ls (co xs) U) → Calls Try.prog 22 #[v] W fun e w' => ∃ v', e = .returned v' ∧ Rs 28 W.heap.size w' v' pl ∧ Below W.heap.size W w') := fun W v h => by rw [hpl]; exact ptrim_any h (by rw [ls_len]; omega)
  have HUN : Hid (∀ W : World, Sr W vb ps → Calls Try.prog 23 #[vb] W fun e w' => ∃ v', e = .returned v' ∧ Rs 28 W.heap.size w' v' u ∧ Below W.heap.size W w') := fun W h => by rw [← hu.out]; exact unlike_x h hpn.out L2.out
  have d1 : ((U : Int) : Int) < (D : Int) := by omega
  have d2 : ((U : Int) : Int) ≤ (D : Int) := by omega
  have y1 : (0 : Int) < (U : Int) := by have := HU.out; have := hUe.out; omega
  clear hpl
  go_enter Try.func5, Try.ntmps5
  go_wp2_with (first
    | (go_at_call 9; refine (awake_any _).mono ?_; rintro e w1 ⟨rfl, hb1⟩; have ha1 := ha.below hb1; have hc1 := hc0.below hb1; have hp1 := hps.below hb1)
    | (go_at_call 23; refine (HUN.out _ hp1).mono ?_; rintro e w2 ⟨vx, rfl, hX, hb2⟩; have ha2 := ha1.below hb2; have hc2 := hc1.below hb2; have c2 := bt hb1 hb2; obtain ⟨gx, cx, hvx, hgx1, hgx2, hcx1, hcx2⟩ := rs_some hX HU.out; subst hvx; rw [← hUe.out] at hcx1 hX ⊢)
    | (go_at_call 10; refine (elems_any ha2 L1.out).mono ?_; rintro e w3 ⟨p3, rfl, hP3, hb3⟩; have hc3 := hc2.below hb3; have hX3 := hX.below hb3; have c3 := bt c2 hb3; clear ha2)
    | (go_at_call 22; refine (HTR.out _ _ hP3.sl).mono ?_; rintro e w4 ⟨rfl, hS4, hb4⟩; have hc4 := hc3.below hb4; have hX4 := hX3.below hb4; have c4 := bt c3 hb4; clear hX3)
    | (go_at_call 22; refine (HTR2.out _ _ hS4).mono ?_; rintro e w5 ⟨v5, rfl, hPl, hb5⟩; have hc5 := hc4.below hb5; have hX5 := hX4.below hb5; have c5 := bt c4 hb5; clear hX4 hS4)
    | (go_at_call 25; refine (values_any hPl.sl hX5.sr LPL.out LU.out).mono ?_; rintro e w6 ⟨v6, rfl, hV6, hb6⟩; have hc6 := hc5.below hb6; have hX6 := hX5.below hb6; have hPl6 := hPl.below hb6; have c6 := bt c5 hb6; clear hX5)
    | (go_at_call 24; refine (pthrough_any hX6.sr hV6.sr LMAP.out LU4.out HND.out).mono ?_; rintro e w7 ⟨v7, t7, rfl, hT7, hV7, hb7⟩; have et := hT7.out.unique HSELF.out HND.out; rw [et] at hV7; have hc7 := hc6.below hb7; have hX7 := hX6.below hb7; have hPl7 := hPl6.below hb7; have c7 := bt c6 hb7; clear hX6 hT7 et)
    | (go_at_call 21; refine (num_any 0 _).mono ?_; rintro e w' ⟨rfl, e⟩; obtain rfl := e.symm)
    | (go_at_call 11; refine (equal_any hV7.sr hPl7.sr LPL.out).mono ?_; rintro e w8 ⟨rfl, hb8⟩; have hc8 := hc7.below hb8; have hX8 := hX7.below hb8; have c8 := bt c7 hb8; clear hX7 hV7)
    | (go_at_call 10; refine (elems_nils hc8).mono ?_; rintro e w' ⟨rfl, e⟩; obtain rfl := e.symm; have hYc := Rs.nil 28 0 w8; have c9 := c8; have hX9 := hX8; have hXc := rs_cut hX9 hUe.out.symm (Nat.zero_le _); clear hX8)
    | (go_at_call 24; refine (pthrough_any (xs := []) (ys := []) hXc.sr hYc.sr rfl (by decide) List.nodup_nil).mono ?_; rintro e w10 ⟨v10, t10, rfl, hT10, hV10, hb10⟩; have et := len_thr hT10.out; rw [et] at hV10; obtain ⟨pt, ct, rfl⟩ := hV10.sr.empty; have hXd := hXc.below hb10; have hYd := hYc.below hb10; have c10 := bt c9 hb10)
    | (go_at_call 25; refine (values_any (pl := []) (u := []) hV10.sl hXd.sr (by decide) (by decide)).mono ?_; rintro e w11 ⟨v11, rfl, hV11, hb11⟩; have hYe2 := hYd.below hb11; have c11 := bt c10 hb11)
    | (go_at_call 11; refine (equal_any (xs := []) hV11.sr hYe2.sr (by decide)).mono ?_; rintro e w12 ⟨rfl, hb12⟩; have c12 := bt c11 hb12))
  go_ret
  exact ⟨rfl, c12⟩
end
end Go.Proofs.Ytpjebfcdjhcfnab
