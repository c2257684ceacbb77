/-
  LabelOwn: the walk.
-/
import Derived.Test.YtpmcdkijlpcmeaaMe15
import Derived.Test.YtpmcdkijlpcmeaaAp15
import Derived.Deep.RegionHeld3
namespace Go.Proofs.Ytpmcdkijlpcmeaa
open Go.RowKit Go.Maps
/-- A row of the call's own, as what 'apart' takes. -/
def bvk (xs : List (BitVec 8)) (t : Nat) : Value := .int .u8 (el (fn xs t))
theorem ow_mde {w : World} {base : Nat} {v : Value} {xs : List (BitVec 8)} (h : Ow w base v xs) (n : Nat) (hl : xs.length = n) (hn : 0 < n) : ∃ g c, v = .slice (some ⟨g, 0, none⟩) n c ∧ n ≤ c ∧ base ≤ g ∧ Mde 5 w g c n (bvk xs) := by
  unfold Ow at h
  rw [hl] at h
  obtain ⟨g, c, h1, h2, h3⟩ := mde_of (x := bvk xs) h hn
  exact ⟨g, c, h1, h3.le, h2, h3⟩
theorem Mde.rd {w : World} {g c n : Nat} {xs : List (BitVec 8)} (h : Mde 5 w g c n (bvk xs)) (hl : xs.length = n) : Rd w (some ⟨g, 0, none⟩) xs := by
  refine .inr ⟨g, 0, rfl, fun i hi => ?_⟩
  rw [Nat.zero_add]
  exact h.cell (by omega)
theorem lb_cells {w : World} {g : Nat} {h : Lbl} (H : LbAt w g h) : w.cell? ⟨g, 0, none⟩ = some (.int .u8 (el h.a0)) ∧ w.cell? ⟨g, 1, none⟩ = some (.int .u8 (el h.a1)) ∧ w.cell? ⟨g, 2, none⟩ = some (.int .u8 (el h.a2)) ∧ w.cell? ⟨g, 3, none⟩ = some (.int .u8 (el h.a3)) ∧ w.cell? ⟨g, 4, none⟩ = some (.int .u8 (el h.a4)) ∧ w.cell? ⟨g, 5, none⟩ = some (.int .u8 (el h.a5)) ∧ w.cell? ⟨g, 6, none⟩ = some (.int .u8 (el h.a6)) ∧ w.cell? ⟨g, 7, none⟩ = some (.int .u8 (el h.a7))
    ∧ w.cell? ⟨g, 8, none⟩ = some (.int .i64 h.k) ∧ w.cell? ⟨g, 9, none⟩ = some (.int .i64 h.m) ∧ w.cell? ⟨g, 10, none⟩ = some (.int .i64 h.b) ∧ w.cell? ⟨g, 11, none⟩ = some (.int .i64 h.ix) ∧ w.cell? ⟨g, 12, none⟩ = some (.int .i64 h.ep) := by
  unfold LbAt at H
  have c := fun i => cell_of_row w g i _ _ (0, 0) H
  exact ⟨c 0, c 1, c 2, c 3, c 4, c 5, c 6, c 7, c 8, c 9, c 10, c 11, c 12⟩
def lbV (h : Lbl) : Value := .agg #[.int .u8 (el h.a0), .int .u8 (el h.a1), .int .u8 (el h.a2), .int .u8 (el h.a3), .int .u8 (el h.a4), .int .u8 (el h.a5), .int .u8 (el h.a6), .int .u8 (el h.a7), .int .i64 h.k, .int .i64 h.m, .int .i64 h.b, .int .i64 h.ix, .int .i64 h.ep]
theorem neq_lbV (h : Lbl) (w : World) : (binOp .neq 26 (lbV h) (lbV h)).run Try.prog w = .ok (.bool false) w := by
  have e := neq_lbl h h w
  rw [(lq_iff _ _).2 rfl] at e
  exact e
/-- An append in a drawn region, guarded or not. -/
theorem stepg_ap {ops : Array Oper} {o : Oper} {a : Act} {w : World} {K : Act → World → Prop} {Q : Exit → Act → World → Prop} {E : Prop} (hw : Region.wanted o (yielded ops a.tmps) = true) (s x : Operand) (ho : o.op = .call { callee := .builtin .append, args := #[s, x], argTypes := #[29, 29] })
    (base : Nat) (v : Value) (xs : List (BitVec 8)) (hs : a.eval s = v) (hown : Ow w base v xs) (ad : Addr) (n c : Nat) (ys : List (BitVec 8)) (hx : a.eval x = .slice (some ad) n c) (hr : Rd w (some ad) ys) (hn : ys.length = n) (hm : xs.length + n ≤ 140737488355328) (hbase : base ≤ w.heap.size)
    (h : ∀ v' w', Ow w' base v' (xs ++ ys) → w.grownBy w' v.ownBlock → K (a.put o.dst v') w') : if Region.wanted o (yielded ops a.tmps) = true then Oper.wp Try.prog o a w K Q else E := by
  rw [if_pos hw]
  obtain ⟨i0, hi, hz0, hz1, hz2⟩ := info_parts info5
  subst hn
  have S : ∀ j u, (vs (fn ys) ys.length)[j]? = some u → w.cell? (ad.add j) = some u := by
    rcases hr with e | ⟨b, off, e, hc⟩
    · subst e; intro j u hu; simp [vs] at hu
    · cases e
      exact vs_src hc
  refine wp_append_own w s x 29 ho base 5 i0 (.int .u8 0) 1 1 Try.underlying29 hi hz0 hz1 hz2 rfl (by decide) v xs.length (vs (fn xs) xs.length) hs hown ad ys.length c (vs (fn ys) ys.length) hx (by rw [vs_len, Nat.mul_one]) S (vs_one _ _) (by unfold maxLen; omega) (by omega) hbase ?_
  intro v' w' ho' hg _
  refine h v' w' ?_ hg
  unfold Ow
  rw [List.length_append, vs_fn_app]; exact ho'
theorem takeHr {P : Program} {ops : Array Oper} {Q : Exit → Act → World → Prop} {md : Region.Mode} {S : World → Prop} {i : Nat} {oi : Oper} {d : Option Tmp} {v : Value} {fuel : Nat} {listed : Array Bool} {a : Act} {w : World} (hi : ops[i]? = some oi) (hd : oi.dst = d)
    (hs : Region.noSelect ops = true) (hf : Region.free md ops listed i = true) (hr : (Region.ready md ops listed).contains i = true)
    (hQ : ∀ c a w, Q (.panic c) (a.put oi.dst v) w → Q (.panic c) a w) (hy : YieldsIf P ops S oi v a) (hS : S w)
    (h : wpAnyH P md ops Q S fuel (listed.setIfInBounds i true) (a.put d v) w) : wpAnyH P md ops Q S (fuel + 1) listed a w := by
  subst hd; exact wpAnyH_take hi hs hf hr hQ hy hS h
theorem ex_ldLb {o : Oper} {a : Act} {X : World} {h : Lbl} (x : Operand) (ho : o.op = .load 26 x) (g : Nat) (hx : a.eval x = .pointer (some ⟨g, 0, none⟩)) (H : LbAt X g h) : (execOp a.eval o).run Try.prog X = .ok (.value (.agg h.cs)) X := by
  unfold execOp
  simp only [ho, hx, Instr.loadAt, Instr.sureAddr, Sem.run_bind, Sem.run_pure, Result.andThen_ok, run_loadLb H]
def k8 : List (BitVec 8) := [1, 2, 3, 4, 5, 6, 7, 8]
theorem rd_k8 (W : World) : Rd (W.alloc (.cells #[.int .u8 1, .int .u8 2, .int .u8 3, .int .u8 4, .int .u8 5, .int .u8 6, .int .u8 7, .int .u8 8] 5)) (some ⟨W.heap.size, 0, none⟩) k8 := rd_newl W k8 _ (0, 0)
theorem lb_new2 (w : World) (one two : Lbl) : LbAt ((w.alloc (.cells one.cs 26)).alloc (.cells two.cs 26)) (w.heap.size + 1) two := by
  have h := LbAt.new (w.alloc (.cells one.cs 26)) two
  rwa [show (w.alloc (.cells one.cs 26)).heap.size = w.heap.size + 1 by simp] at h
/-- Four things by number. -/
def q4 {α : Type} (a b c d : α) (m : Nat) : α := if m = 0 then a else if m = 1 then b else if m = 2 then c else d
theorem q4_all {α : Type} {P : Nat → α → Prop} {a b c d : α} (h0 : P 0 a) (h1 : P 1 b) (h2 : P 2 c) (h3 : P 3 d) : ∀ m, m < 4 → P m (q4 a b c d m) := by
  intro m hm
  match m, hm with
  | 0, _ => exact h0
  | 1, _ => exact h1
  | 2, _ => exact h2
  | 3, _ => exact h3
theorem four_cells (w : World) (u0 u1 u2 u3 : Value) (t : TypeId) : ∀ m, m < 4 → (w.alloc (.cells #[u0, u1, u2, u3] t)).cell? ⟨w.heap.size, m, none⟩ = some (q4 u0 u1 u2 u3 m) := by
  have h := fun j => cell_of_row _ _ j _ _ (0, 0) (heap_alloc_new w (.cells #[u0, u1, u2, u3] t))
  exact q4_all (P := fun m u => (w.alloc (.cells #[u0, u1, u2, u3] t)).cell? ⟨w.heap.size, m, none⟩ = some u) (h 0) (h 1) (h 2) (h 3)
theorem apart4 {w : World} {g1 g2 g3 g4 c1 c2 c3 c4 : Nat} {f1 f2 f3 f4 : Nat → Value} (M1 : Mde 5 w g1 c1 31 f1) (M2 : Mde 5 w g2 c2 31 f2) (M3 : Mde 5 w g3 c3 31 f3) (M4 : Mde 5 w g4 c4 31 f4) (o1 : g1 < g2) (o2 : g2 < g3) (o3 : g3 < g4) (t : TypeId) :
    Calls Try.prog 9 #[.slice (some ⟨w.heap.size, 0, none⟩) 4 4] (w.alloc (.cells #[.slice (some ⟨g1, 0, none⟩) 31 c1, .slice (some ⟨g2, 0, none⟩) 31 c2, .slice (some ⟨g3, 0, none⟩) 31 c3, .slice (some ⟨g4, 0, none⟩) 31 c4] t)) fun e w' => e = .returned (.bool true) ∧ Kpt 4 (q4 g1 g2 g3 g4) (w.alloc (.cells #[.slice (some ⟨g1, 0, none⟩) 31 c1, .slice (some ⟨g2, 0, none⟩) 31 c2, .slice (some ⟨g3, 0, none⟩) 31 c3, .slice (some ⟨g4, 0, none⟩) 31 c4] t)) w' := by
  have l1 := M1.lt
  have l2 := M2.lt
  have l3 := M3.lt
  have l4 := M4.lt
  have ba := (Below.refl _ w).alloc (Nat.le_refl _) (.cells #[.slice (some ⟨g1, 0, none⟩) 31 c1, .slice (some ⟨g2, 0, none⟩) 31 c2, .slice (some ⟨g3, 0, none⟩) 31 c3, .slice (some ⟨g4, 0, none⟩) 31 c4] t)
  refine apart15_any w.heap.size 4 (q4 g1 g2 g3 g4) (q4 c1 c2 c3 c4) (q4 f1 f2 f3 f4) _ ?_ ?_ ?_ ?_
  · intro m hm
    rw [four_cells w _ _ _ _ t m hm]
    match m, hm with
    | 0, _ => rfl
    | 1, _ => rfl
    | 2, _ => rfl
    | 3, _ => rfl
  · intro m hm
    match m, hm with
    | 0, _ => exact M1.below ba
    | 1, _ => exact M2.below ba
    | 2, _ => exact M3.below ba
    | 3, _ => exact M4.below ba
  · refine ⟨fun m m' hm hm' hne => ?_, fun m hm => ?_⟩
    · unfold q4
      repeat' split
      all_goals omega
    · have := ba.size
      unfold q4
      repeat' split
      all_goals omega
  · intro m hm
    unfold q4
    repeat' split
    all_goals omega
theorem Kpt.at4 {w w' : World} {g1 g2 g3 g4 k : Nat} (h : Kpt 4 (q4 g1 g2 g3 g4) w w') (hk : k < w.heap.size) (n1 : k ≠ g1) (n2 : k ≠ g2) (n3 : k ≠ g3) (n4 : k ≠ g4) : w'.heap[k]? = w.heap[k]? :=
  h.block k hk (q4_all (P := fun _ g => k ≠ g) n1 n2 n3 n4)
theorem LbAt.keep {w w' : World} {g : Nat} {h : Lbl} (H : LbAt w g h) (e : w'.heap[g]? = w.heap[g]?) : LbAt w' g h := by unfold LbAt at H ⊢; rw [e]; exact H
def ovr (xs ys : List (BitVec 8)) (k t : Nat) : Value := if t < k then bvk xs t else bvk ys t
theorem ovr_set {w W : World} {g c n k : Nat} {xs ys : List (BitVec 8)} (h : Mde 5 w g c n (ovr xs ys k)) (e : W.heap = (w.setCell ⟨g, k, none⟩ (bvk xs k)).heap) : Mde 5 W g c n (ovr xs ys (k + 1)) :=
  (h.set k (bvk xs k) e).congr (fun i hi => by
    unfold ovr
    by_cases e1 : i = k
    · subst e1; rw [if_pos rfl, if_pos (by omega)]
    · rw [if_neg e1]
      by_cases e2 : i < k
      · rw [if_pos e2, if_pos (by omega)]
      · rw [if_neg e2, if_neg (by omega)])
section
attribute [local irreducible] Calls el Lbl.cs cmo rg smL ar8
set_option maxHeartbeats 8000000 in
set_option maxRecDepth 1000000 in
theorem labelOwn_no1 (one two : Lbl) (h1 : one.In) (hf : fitb one = false) (w : World) : Calls Try.prog 3 #[.agg one.cs, .agg two.cs] w fun e w' => e = .returned (.bool true) ∧ Below w.heap.size w w' := by
  have KN := (show Hid _ from fun w => known_any w)
  have FT := (show Hid _ from fun w => fit_any one h1 w)
  rw [hf] at FT
  have HA := (LbAt.new w one).below ((Below.refl _ _).alloc (Nat.le_refl _) (.cells two.cs 26))
  have hbw := balloc (balloc (Below.refl _ w) (.cells one.cs 26)) (.cells two.cs 26)
  clear hf
  go_enter Try.func3, Try.ntmps3
  go_wp2_with (first
    | (go_at_call 4; refine (KN.out _).mono ?_; rintro e w1 ⟨rfl, hb1⟩; replace hbw := bt hbw hb1; replace HA := HA.below hb1)
    | (refine wpList_loadLb rfl _ rfl w.heap.size rfl HA ?_)
    | (go_at_call 5; refine (FT.out _).mono ?_; rintro e w2 ⟨rfl, hb2⟩; replace hbw := bt hbw hb2))
  go_ret
  exact ⟨rfl, hbw⟩
set_option maxHeartbeats 8000000 in
set_option maxRecDepth 1000000 in
theorem labelOwn_no2 (one two : Lbl) (h1 : one.In) (h2 : two.In) (hf : fitb one = true) (hf2 : fitb two = false) (w : World) : Calls Try.prog 3 #[.agg one.cs, .agg two.cs] w fun e w' => e = .returned (.bool true) ∧ Below w.heap.size w w' := by
  have KN := (show Hid _ from fun w => known_any w)
  have FT := (show Hid _ from fun w => fit_any one h1 w)
  rw [hf] at FT
  have FU := (show Hid _ from fun w => fit_any two h2 w)
  rw [hf2] at FU
  have HA := (LbAt.new w one).below ((Below.refl _ _).alloc (Nat.le_refl _) (.cells two.cs 26))
  have HB := lb_new2 w one two
  have hbw := balloc (balloc (Below.refl _ w) (.cells one.cs 26)) (.cells two.cs 26)
  clear hf hf2
  go_enter Try.func3, Try.ntmps3
  go_wp2_with (first
    | (go_at_call 4; refine (KN.out _).mono ?_; rintro e w1 ⟨rfl, hb1⟩; replace hbw := bt hbw hb1; replace HA := HA.below hb1; replace HB := HB.below hb1)
    | (refine wpList_loadLb rfl _ rfl w.heap.size rfl HA ?_)
    | (refine wpList_ldLg (by rfl) _ rfl (w.heap.size + 1) rfl HB ?_)
    | (go_at_call 5; refine (FT.out _).mono ?_; rintro e w2 ⟨rfl, hb2⟩; replace hbw := bt hbw hb2; replace HB := HB.below hb2)
    | (go_at_call 5; refine (FU.out _).mono ?_; rintro e w3 ⟨rfl, hb3⟩; replace hbw := bt hbw hb3))
  go_ret
  exact ⟨rfl, hbw⟩
set_option maxHeartbeats 8000000 in
set_option maxRecDepth 1000000 in
theorem labelOwn_ok (one two : Lbl) (h1 : one.In) (h2 : two.In) (k1 : one.ck = 0) (k2 : two.ck = 0) (w : World) : Calls Try.prog 3 #[.agg one.cs, .agg two.cs] w fun e w' => e = .returned (.bool true) ∧ Below w.heap.size w w' := by
  have KN := (show Hid _ from fun w => known_any w)
  have hf : fitb one = true := by unfold fitb; exact decide_eq_true k1
  have hf2 : fitb two = true := by unfold fitb; exact decide_eq_true k2
  have FT := (show Hid _ from fun w => fit_any one h1 w)
  rw [hf] at FT
  have FU := (show Hid _ from fun w => fit_any two h2 w)
  rw [hf2] at FU
  have EN1 := (show Hid _ from fun w => lencode_any one h1 w)
  unfold Lbl.enc at EN1
  rw [if_pos k1, k1] at EN1
  have EN2 := (show Hid _ from fun w => lencode_any two h2 w)
  unfold Lbl.enc at EN2
  rw [if_pos k2, k2] at EN2
  have LP1 := (show Hid (∀ (W : World) (g c : Nat) (hr : Rd W (some ⟨g, 0, none⟩) one.fm) (hc : 31 ≤ c), Calls Try.prog 8 #[.slice (some ⟨g, 0, none⟩) 31 c] W fun e w' => e = .returned (.tuple #[.agg one.cs, .int .i64 0]) ∧ Below W.heap.size W w') from fun W g c hr hc => by
    have := lparse_any hr 31 c one.fm_len hc
    rw [pL_fm one ((ck_ok one).1 k1)] at this
    exact this)
  have LP2 := (show Hid (∀ (W : World) (g c : Nat) (hr : Rd W (some ⟨g, 0, none⟩) two.fm) (hc : 31 ≤ c), Calls Try.prog 8 #[.slice (some ⟨g, 0, none⟩) 31 c] W fun e w' => e = .returned (.tuple #[.agg two.cs, .int .i64 0]) ∧ Below W.heap.size W w') from fun W g c hr hc => by
    have := lparse_any hr 31 c two.fm_len hc
    rw [pL_fm two ((ck_ok two).1 k2)] at this
    exact this)
  have TW := (show Hid _ from fun (W : World) (g c : Nat) (xs : List (BitVec 8)) (hr : Rd W (some ⟨g, 0, none⟩) xs) (hl : xs.length = 31) => twin15_any hr 31 c hl (by decide))
  have HA := (LbAt.new w one).below ((Below.refl _ _).alloc (Nat.le_refl _) (.cells two.cs 26))
  have HB := lb_new2 w one two
  have hbw := balloc (balloc (Below.refl _ w) (.cells one.cs 26)) (.cells two.cs 26)
  have SQ : ((bstr one.fm).toList == (bstr one.fm).toList) = true := by simp
  have hl1 := one.fm_len
  have hl2 := two.fm_len
  clear hf hf2 k1 k2
  go_enter Try.func3, Try.ntmps3
  go_wp2_with (first
    | (go_at_call 4; refine (KN.out _).mono ?_; rintro e x0 ⟨rfl, hb0⟩; replace hbw := bt hbw hb0; replace HA := HA.below hb0; replace HB := HB.below hb0)
    | (refine wpList_loadLb rfl _ rfl w.heap.size rfl HA ?_)
    | (refine wpList_loadLb rfl _ rfl (w.heap.size + 1) rfl HB ?_)
    | (refine wpList_ldLg (by rfl) _ rfl (w.heap.size + 1) rfl HB ?_)
    | (go_at_call 5; refine (FT.out _).mono ?_; rintro e xa ⟨rfl, hba⟩; replace hbw := bt hbw hba; replace HA := HA.below hba; replace HB := HB.below hba)
    | (go_at_call 5; refine (FU.out _).mono ?_; rintro e xb ⟨rfl, hbb⟩; replace hbw := bt hbw hbb; replace HA := HA.below hbb; replace HB := HB.below hbb; have hgw := (show Hid _ from HB.lt))
    | (go_at_call 6; revert hM3; intro hM3; refine (EN1.out _).mono ?_; rintro e x4 ⟨v4, rfl, ho4, hb4⟩; obtain ⟨g4, c4, rfl, hc4, hg4, hM4⟩ := ow_mde ho4 31 hl1 (by decide); have hL3 := hM3.lt; replace hM1 := hM1.below hb4; replace hM2 := hM2.below hb4; replace hM3 := hM3.below hb4; replace HA := HA.below hb4; replace HB := HB.below hb4; replace hbw := bt hbw hb4; clear ho4; have CV1 := conv_rd (hM1.rd hl1) 31 c1 hl1; have CV3 := conv_rd (hM3.rd hl1) 31 c3 hl1; have CV4 := conv_rd (hM4.rd hl1) 31 c4 hl1)
    | (go_at_call 6; revert hM2; intro hM2; refine (EN1.out _).mono ?_; rintro e x3 ⟨v3, rfl, ho3, hb3⟩; obtain ⟨g3, c3, rfl, hc3, hg3, hM3⟩ := ow_mde ho3 31 hl1 (by decide); have hL2 := hM2.lt; replace hM1 := hM1.below hb3; replace hM2 := hM2.below hb3; replace HA := HA.below hb3; replace HB := HB.below hb3; replace hbw := bt hbw hb3; clear ho3)
    | (go_at_call 6; revert hM1; intro hM1; refine (EN2.out _).mono ?_; rintro e x2 ⟨v2, rfl, ho2, hb2⟩; obtain ⟨g2, c2, rfl, hc2, hg2, hM2⟩ := ow_mde ho2 31 hl2 (by decide); have hL1 := hM1.lt; replace hM1 := hM1.below hb2; replace HA := HA.below hb2; replace HB := HB.below hb2; replace hbw := bt hbw hb2; clear ho2)
    | (go_at_call 6; refine (EN1.out _).mono ?_; rintro e x1 ⟨v1, rfl, ho1, hb1⟩; obtain ⟨g1, c1, rfl, hc1, hg1, hM1⟩ := ow_mde ho1 31 hl1 (by decide); replace HA := HA.below hb1; replace HB := HB.below hb1; replace hbw := bt hbw hb1; clear ho1)
    | (go_at_call 7; refine (TW.out _ g1 c1 _ (hM1.rd hl1) hl1).mono ?_; rintro e x5 ⟨v5, rfl, ho5, hb5⟩)
    | (at_builtin; refine wpList_apa rfl _ _ rfl x4.heap.size v5 one.fm rfl (ho5.below ((Below.refl _ _).alloc (Nat.le_refl _) _)) _ _ _ k8 rfl (rd_k8 _) rfl (by rw [hl1]; decide) (Nat.le_trans hb5.size (by simp)) ?_; intro v6 x6 ho6 hg6 hk6; have hb6 := Ow.below_append (ho5.below ((Below.refl _ _).alloc (Nat.le_refl _) _)) (balloc hb5 _) (Nat.le_trans hb5.size (by simp)) hg6 (Nat.le_refl _); obtain ⟨gr, cr, rfl, hcr, hgr, hMr⟩ := ow_mde ho6 39 (by rw [List.length_append, hl1]; rfl) (by decide); have hL4 := hM4.lt; replace hM1 := hM1.below hb6; replace hM2 := hM2.below hb6; replace hM3 := hM3.below hb6; replace hM4 := hM4.below hb6; replace HA := HA.below hb6; replace HB := HB.below hb6; replace hbw := bt hbw hb6; have hRt := (hMr.rd (by rw [List.length_append, hl1]; rfl)).take 31; rw [List.take_left' hl1] at hRt; have i31 : (31 : Int) ≤ (cr : Int) := by omega)
    | (go_at_call 8; refine (LP1.out _ gr cr hRt (by omega)).mono ?_; rintro e x7 ⟨rfl, hb7⟩; replace hM1 := hM1.below hb7; replace hM2 := hM2.below hb7; replace hM3 := hM3.below hb7; replace hM4 := hM4.below hb7; replace HA := HA.below hb7; replace HB := HB.below hb7; replace hbw := bt hbw hb7; have hLr := hMr.lt; replace hMr := hMr.below hb7; clear hRt)
    | (refine wpList_alLb rfl rfl ?_; intro x8 ZM hbM hs; clear hs)
    | (refine wpList_storeLb rfl _ _ rfl rfl x7.heap.size rfl rfl ZM ?_; intro x9 Z9 hT9; have hb9 := hT9.2.1 _ _ hbM (Nat.le_refl _); replace hM1 := hM1.below hb9; replace hM2 := hM2.below hb9; replace hM3 := hM3.below hb9; replace hM4 := hM4.below hb9; replace HA := HA.below hb9; replace HB := HB.below hb9; replace hbw := bt hbw hb9; replace hMr := hMr.below hb9; clear ZM))
  obtain ⟨wd, hwd⟩ : ∃ wq, wq = x9.drew := ⟨_, rfl⟩
  have bd : Below x9.heap.size x9 wd := by rw [hwd]; exact (Below.refl _ _).drew
  replace hM1 := hM1.below bd
  replace hM2 := hM2.below bd
  replace hM3 := hM3.below bd
  replace hM4 := hM4.below bd
  replace HA := HA.below bd
  replace HB := HB.below bd
  replace hMr := hMr.below bd
  replace Z9 := Z9.below bd
  replace hbw := bt hbw bd
  have hlr : (one.fm ++ k8).length = 39 := by rw [List.length_append, hl1]; rfl
  have hRr := hMr.rd hlr
  have hRR : ∀ W, Mde 5 W gr cr 39 (bvk (one.fm ++ k8)) → Rd W (some ⟨gr, 0, none⟩) one.fm := fun W h => by
    have e := (h.rd hlr).take 31
    rwa [List.take_left' hl1] at e
  have N1 := fun W => neq_lbl one one W
  rw [(lq_iff one one).2 rfl] at N1
  have SR : ((bstr (one.fm ++ k8)).toList == (bstr (one.fm ++ k8)).toList) = true := by simp
  have HBc := (show Hid (Below wd.heap.size wd wd) from Below.refl _ _)
  refine wp_region_held_drew (S := fun X => LbAt X x7.heap.size one ∧ LbAt X w.heap.size one ∧ Rd X (some ⟨gr, 0, none⟩) (one.fm ++ k8)) (by kernel_rfl) (by rw [← hwd]; exact ⟨Z9, HA, hRr⟩) (fun hHeld => ?_)
  rw [← hwd] at hHeld ⊢
  clear bd hwd CV1 CV3 CV4 KN FT FU EN1 EN2 SQ
  refine takeHr (i := 0) (d := some 98) (v := ?v1) rfl rfl (by kernel_rfl) (by kernel_rfl) (by kernel_rfl) (fun _ _ _ h => h) (Or.inl ⟨by rfl, ?hy1⟩) hHeld ?rest1
  case hy1 => intro X hSw; go_simp <;> with_reducible rfl
  try simp only [Act.put, List.setIfInBounds_toArray, List.set_cons_zero, List.set_cons_succ]
  refine takeHr (i := 1) (d := some 99) (v := .bool false) rfl rfl (by kernel_rfl) (by kernel_rfl) (by kernel_rfl) (fun _ _ _ h => h) (Or.inl ⟨by rfl, ?hy2⟩) hHeld ?rest2
  case hy2 => intro X hSw; go_simp <;> with_reducible rfl
  try simp only [Act.put, List.setIfInBounds_toArray, List.set_cons_zero, List.set_cons_succ]
  refine takeHr (i := 2) (d := some 100) (v := .bool false) rfl rfl (by kernel_rfl) (by kernel_rfl) (by kernel_rfl) (fun _ _ _ h => h) (Or.inl ⟨by rfl, ?hy3⟩) hHeld ?rest3
  case hy3 => intro X hSw; go_simp <;> with_reducible rfl
  try simp only [Act.put, List.setIfInBounds_toArray, List.set_cons_zero, List.set_cons_succ]
  refine takeHr (i := 3) (d := some 101) (v := .agg one.cs) rfl rfl (by kernel_rfl) (by kernel_rfl) (by kernel_rfl) (fun _ _ _ h => h) (Or.inl ⟨by rfl, ?hy4⟩) hHeld ?rest4
  case hy4 => intro X hSw; exact ex_ldLb _ rfl x7.heap.size rfl hSw.1
  try simp only [Act.put, List.setIfInBounds_toArray, List.set_cons_zero, List.set_cons_succ]
  refine takeHr (i := 4) (d := some 102) (v := .agg one.cs) rfl rfl (by kernel_rfl) (by kernel_rfl) (by kernel_rfl) (fun _ _ _ h => h) (Or.inl ⟨by rfl, ?hy5⟩) hHeld ?rest5
  case hy5 => intro X hSw; exact ex_ldLb _ rfl w.heap.size rfl hSw.2.1
  try simp only [Act.put, List.setIfInBounds_toArray, List.set_cons_zero, List.set_cons_succ]
  refine takeHr (i := 5) (d := some 103) (v := .bool false) rfl rfl (by kernel_rfl) (by kernel_rfl) (by kernel_rfl) (fun _ _ _ h => h) (Or.inl ⟨by rfl, ?hy6⟩) hHeld ?rest6
  case hy6 => intro X hSw; have NX := N1 X; go_simp <;> with_reducible rfl
  try simp only [Act.put, List.setIfInBounds_toArray, List.set_cons_zero, List.set_cons_succ]
  refine takeHr (i := 6) (d := some 104) (v := .bool false) rfl rfl (by kernel_rfl) (by kernel_rfl) (by kernel_rfl) (fun _ _ _ h => h) (Or.inl ⟨by rfl, ?hy7⟩) hHeld ?rest7
  case hy7 => intro X hSw; go_simp <;> with_reducible rfl
  try simp only [Act.put, List.setIfInBounds_toArray, List.set_cons_zero, List.set_cons_succ]
  refine takeHr (i := 7) (d := some 105) (v := .bool false) rfl rfl (by kernel_rfl) (by kernel_rfl) (by kernel_rfl) (fun _ _ _ h => h) (Or.inl ⟨by rfl, ?hy8⟩) hHeld ?rest8
  case hy8 => intro X hSw; go_simp <;> with_reducible rfl
  try simp only [Act.put, List.setIfInBounds_toArray, List.set_cons_zero, List.set_cons_succ]
  refine takeHr (i := 8) (d := some 106) (v := ?v9) rfl rfl (by kernel_rfl) (by kernel_rfl) (by kernel_rfl) (fun _ _ _ h => h) (Or.inl ⟨by rfl, ?hy9⟩) hHeld ?rest9
  case hy9 => intro X hSw; go_simp <;> with_reducible rfl
  try simp only [Act.put, List.setIfInBounds_toArray, List.set_cons_zero, List.set_cons_succ]
  refine takeHr (i := 9) (d := some 107) (v := .string (bstr (one.fm ++ k8))) rfl rfl (by kernel_rfl) (by kernel_rfl) (by kernel_rfl) (fun _ _ _ h => h) (Or.inl ⟨by rfl, ?hy10⟩) hHeld ?rest10
  case hy10 => intro X hSw; have CX := conv_rd hSw.2.2 39 cr hlr; go_simp <;> with_reducible rfl
  try simp only [Act.put, List.setIfInBounds_toArray, List.set_cons_zero, List.set_cons_succ]
  refine takeHr (i := 10) (d := some 108) (v := ?v11) rfl rfl (by kernel_rfl) (by kernel_rfl) (by kernel_rfl) (fun _ _ _ h => h) (Or.inl ⟨by rfl, ?hy11⟩) hHeld ?rest11
  case hy11 => intro X hSw; go_simp <;> with_reducible rfl
  try simp only [Act.put, List.setIfInBounds_toArray, List.set_cons_zero, List.set_cons_succ]
  refine wpAnyH_ready (rs := [11, 12]) (by kernel_rfl) (by simp) ?_
  refine AllReadyH.cons (o := { dst := some 109, op := Op.call { callee := Callee.value (Operand.func 7), args := #[Operand.tmp 108], argTypes := #[29] }, type := 29, pos := "outright.go:244", after := #[{ on := 10, ground := Ground.data }, { on := 7, ground := Ground.chain }, { on := 7, ground := Ground.guard }], guard := some (7, false) }) rfl (fun Kq hKq => ?_) (AllReadyH.cons (o := { dst := some 110, op := Op.buildSlice 29 8 #[(0, Operand.const (Value.int IntKind.u8 1)), (1, Operand.const (Value.int IntKind.u8 2)), (2, Operand.const (Value.int IntKind.u8 3)), (3, Operand.const (Value.int IntKind.u8 4)), (4, Operand.const (Value.int IntKind.u8 5)), (5, Operand.const (Value.int IntKind.u8 6)), (6, Operand.const (Value.int IntKind.u8 7)), (7, Operand.const (Value.int IntKind.u8 8))], type := 29, pos := "outright.go:244", after := #[{ on := 7, ground := Ground.guard }], guard := some (7, false) }) rfl (fun Kq hKq => ?_) AllReadyH.nil)
  · go_simp
    refine (TW.out _ g1 c1 _ ((hM1.below HBc.out).rd hl1) hl1).mono ?_
    rintro e y12 ⟨v12, rfl, hot, hbt⟩
    have HOt : Hid (Ow y12 wd.heap.size v12 one.fm) := Ow.mono hot HBc.out.size
    replace HBc := (show Hid _ from bt HBc.out hbt)
    try replace HR8 : Hid (Rd y12 _ k8) := Rd.below HR8.out hbt
    clear hot hbt
    refine hKq.out _ _ ⟨Z9.below HBc.out, HA.below HBc.out, hRr.below HBc.out⟩ (fun hHeld => ?_)
    clear hKq Kq
    try simp only [Act.put, List.setIfInBounds_toArray, List.set_cons_zero, List.set_cons_succ]
    refine wpAnyH_ready (rs := [12]) (by kernel_rfl) (by simp) ?_
    refine AllReadyH.cons (o := { dst := some 110, op := Op.buildSlice 29 8 #[(0, Operand.const (Value.int IntKind.u8 1)), (1, Operand.const (Value.int IntKind.u8 2)), (2, Operand.const (Value.int IntKind.u8 3)), (3, Operand.const (Value.int IntKind.u8 4)), (4, Operand.const (Value.int IntKind.u8 5)), (5, Operand.const (Value.int IntKind.u8 6)), (6, Operand.const (Value.int IntKind.u8 7)), (7, Operand.const (Value.int IntKind.u8 8))], type := 29, pos := "outright.go:244", after := #[{ on := 7, ground := Ground.guard }], guard := some (7, false) }) rfl (fun Kq hKq => ?_) AllReadyH.nil
    · go_simp
      obtain ⟨y13, hy13⟩ : ∃ z, z = y12.alloc (.cells #[.int .u8 1, .int .u8 2, .int .u8 3, .int .u8 4, .int .u8 5, .int .u8 6, .int .u8 7, .int .u8 8] 5) := ⟨_, rfl⟩
      have hbt : Below y12.heap.size y12 y13 := by rw [hy13]; exact (Below.refl _ _).alloc (Nat.le_refl _) _
      have HR8 : Hid (Rd y13 (some ⟨y12.heap.size, 0, none⟩) k8) := by rw [hy13]; exact rd_k8 _
      rw [← hy13]
      try replace HOt : Hid (Ow y13 wd.heap.size _ one.fm) := Ow.below HOt.out hbt
      replace HBc := (show Hid _ from bt HBc.out hbt)
      clear hbt hy13
      refine hKq.out _ _ ⟨Z9.below HBc.out, HA.below HBc.out, hRr.below HBc.out⟩ (fun hHeld => ?_)
      clear hKq Kq
      try simp only [Act.put, List.setIfInBounds_toArray, List.set_cons_zero, List.set_cons_succ]
      refine wpAnyH_ready (rs := [13]) (by kernel_rfl) (by simp) ?_
      refine AllReadyH.cons (o := { dst := some 111, op := Op.call { callee := Callee.builtin Builtin.append, args := #[Operand.tmp 109, Operand.tmp 110], argTypes := #[29, 29] }, type := 29, pos := "outright.go:244", after := #[{ on := 11, ground := Ground.data }, { on := 12, ground := Ground.data }, { on := 11, ground := Ground.chain }, { on := 7, ground := Ground.guard }], guard := some (7, false) }) rfl (fun Kq hKq => ?_) AllReadyH.nil
      · skip
        refine stepg_ap (by rfl) _ _ rfl wd.heap.size _ one.fm rfl (show Ow _ _ _ _ from HOt.out) _ _ _ k8 rfl HR8.out rfl (by rw [hl1]; decide) HBc.out.size ?_
        intro v14 y14 ho6 hg6
        have hg7 := Ow.below_append (show Ow _ _ _ _ from HOt.out) HBc.out HBc.out.size hg6 (Nat.le_refl _)
        replace HBc := (show Hid _ from hg7)
        obtain ⟨q6, d6, hv6, hd6, hr6⟩ := ho6.rd
        rw [hlr] at hv6
        subst hv6
        have CW := conv_rd hr6 39 d6 hlr
        clear HOt HR8 ho6 hg6 hg7
        refine hKq.out _ _ ⟨Z9.below HBc.out, HA.below HBc.out, hRr.below HBc.out⟩ (fun hHeld => ?_)
        clear hKq Kq
        try simp only [Act.put, List.setIfInBounds_toArray, List.set_cons_zero, List.set_cons_succ]
        refine wpAnyH_ready (rs := [14]) (by kernel_rfl) (by simp) ?_
        refine AllReadyH.cons (o := { dst := some 112, op := Op.convert 29 9 (Operand.tmp 111), type := 9, pos := "outright.go:244", after := #[{ on := 13, ground := Ground.data }, { on := 7, ground := Ground.guard }], guard := some (7, false) }) rfl (fun Kq hKq => ?_) AllReadyH.nil
        · go_simp
          refine hKq.out _ _ ⟨Z9.below HBc.out, HA.below HBc.out, hRr.below HBc.out⟩ (fun hHeld => ?_)
          clear hKq Kq
          try simp only [Act.put, List.setIfInBounds_toArray, List.set_cons_zero, List.set_cons_succ]
          refine takeHr (i := 15) (d := some 113) (v := .bool false) rfl rfl (by kernel_rfl) (by kernel_rfl) (by kernel_rfl) (fun _ _ _ h => h) (Or.inl ⟨by rfl, ?hy16⟩) hHeld ?rest16
          case hy16 => intro X hSw; go_simp <;> with_reducible rfl
          try simp only [Act.put, List.setIfInBounds_toArray, List.set_cons_zero, List.set_cons_succ]
          refine takeHr (i := 16) (d := some 114) (v := .bool false) rfl rfl (by kernel_rfl) (by kernel_rfl) (by kernel_rfl) (fun _ _ _ h => h) (Or.inl ⟨by rfl, ?hy17⟩) hHeld ?rest17
          case hy17 => intro X hSw; go_simp <;> with_reducible rfl
          try simp only [Act.put, List.setIfInBounds_toArray, List.set_cons_zero, List.set_cons_succ]
          refine wpAnyH_done (by kernel_rfl) ?_ _
          clear hHeld CW hr6
          replace hbw := bt hbw HBc.out
          replace hM1 := hM1.below HBc.out
          replace hM2 := hM2.below HBc.out
          replace hM3 := hM3.below HBc.out
          replace hM4 := hM4.below HBc.out
          replace HA := HA.below HBc.out
          replace HB := HB.below HBc.out
          replace hMr := hMr.below HBc.out
          replace Z9 := Z9.below HBc.out
          clear HBc hRr
          generalize y14 = y0 at *
          have hz9 := Z9.lt
          have oo1 : g1 < g2 := by omega
          have oo2 : g2 < g3 := by omega
          have oo3 : g3 < g4 := by omega
          have oo4 : g4 < gr := by omega
          have oo5 : gr < x7.heap.size := Nat.lt_of_lt_of_le hLr hb7.size
          have oo0 : w.heap.size + 1 < g1 := Nat.lt_of_lt_of_le hgw.out hg1
          clear hg1 hg2 hg3 hg4 hgr hL1 hL2 hL3 hL4 hLr hb1 hb2 hb3 hb4 hb5 hb6 hb7 hb9 hgw hk6 hg6 ho6 ho5 hT9 hbM
          go_wp2_with (first
            | (go_at_call 7; refine (TW.out _ g2 c2 _ (hM2.rd hl2) hl2).mono ?_; rintro e z1 ⟨vo, rfl, hoo, hbo⟩; obtain ⟨gv, cv, rfl, hcv, hgv, hMo⟩ := ow_mde hoo 31 hl2 (by decide); replace hM1 := hM1.below hbo; replace hM2 := hM2.below hbo; replace hM3 := hM3.below hbo; replace hM4 := hM4.below hbo; replace HA := HA.below hbo; replace HB := HB.below hbo; replace hMr := hMr.below hbo; replace Z9 := Z9.below hbo; replace hbw := bt hbw hbo; clear hoo)
            | (go_at_call 9; refine (apart4 hM1 hM2 hM3 hM4 oo1 oo2 oo3 _).mono ?_; rintro e z2 ⟨rfl, hK⟩; have ba := (Below.refl _ z1).alloc (Nat.le_refl _) (.cells #[.slice (some ⟨g1, 0, none⟩) 31 c1, .slice (some ⟨g2, 0, none⟩) 31 c2, .slice (some ⟨g3, 0, none⟩) 31 c3, .slice (some ⟨g4, 0, none⟩) 31 c4] 29); replace HA := HA.below ba; replace HB := HB.below ba; replace hMr := hMr.below ba; replace Z9 := Z9.below ba; replace hMo := hMo.below ba; replace hbw := bt hbw ba; have ll1 := HA.lt; have ll2 := HB.lt; have ll3 := hMr.lt; have ll4 := Z9.lt; have ll5 := hMo.lt; replace HA := HA.keep (hK.at4 ll1 (by omega) (by omega) (by omega) (by omega)); replace HB := HB.keep (hK.at4 ll2 (by omega) (by omega) (by omega) (by omega)); replace hMr := hMr.keep (hK.at4 ll3 (by omega) (by omega) (by omega) (by omega)); replace Z9 := Z9.keep (hK.at4 ll4 (by omega) (by omega) (by omega) (by omega)); replace hMo := hMo.keep (hK.at4 ll5 (by omega) (by omega) (by omega) (by omega)); replace hbw := hbw.trans (hK.toBelow hbw.size (q4_all (P := fun _ g => w.heap.size ≤ g) (by omega) (by omega) (by omega) (by omega))); have hRt := hRR _ hMr; clear hM1 hM2 hM3 hM4 hK ba ll1 ll2 ll3 ll4 ll5)
            | (go_at_call 8; refine (LP1.out _ gr cr hRt (by omega)).mono ?_; rintro e z3 ⟨rfl, hb3⟩; replace HA := HA.below hb3; replace HB := HB.below hb3; replace hMr := hMr.below hb3; replace Z9 := Z9.below hb3; replace hMo := hMo.below hb3; replace hbw := bt hbw hb3; clear hRt))
          have og1 : gr ≠ gv := by omega
          have og2 : gr ≠ w.heap.size := by omega
          have og3 : gr ≠ w.heap.size + 1 := by omega
          have og4 : gr ≠ x7.heap.size := by omega
          have og5 : w.heap.size ≤ gr := by omega
          have ic39 : (cr : Int) ≥ 39 := by omega
          go_loopw [17] (fun s17 wr => ∃ k : Nat, k ≤ 31 ∧ s17 = .int .i64 k ∧ Hid (Mde 5 wr gr cr 39 (ovr two.fm (one.fm ++ k8) k) ∧ Mde 5 wr gv cv 31 (bvk two.fm) ∧ LbAt wr w.heap.size one ∧ LbAt wr (w.heap.size + 1) two ∧ LbAt wr x7.heap.size one ∧ Below w.heap.size w wr)) (fun s17 _ => 31 - (intOf s17).toNat)
          case atStart => exact ⟨0, Nat.zero_le _, rfl, hMr.congr (fun i _ => by unfold ovr; rw [if_neg (by omega)]), hMo, HA, HB, Z9, hbw⟩
          case round =>
            clear hMr hMo HA HB Z9 hbw
            obtain ⟨k, hk31, rfl, HX⟩ := hrel
            by_cases hlt : k < 31
            · have hki : (k : Int) < 31 := by omega
              have hk39 : (k : Int) < 39 := by omega
              have cc1 := HX.out.2.1.cell hlt
              unfold bvk at cc1
              have cc2 := HX.out.1.cell (i := k) (by omega)
              have cc3 := HX.out.1.frozen k
              go_wp2
              go_roundw
              case rel =>
                obtain ⟨y1, y2, y3, y4, y5, y6⟩ := HX.out
                exact ⟨k + 1, by omega, by go_num, ovr_set y1 rfl, y2.keep (Below.heap_setCell _ _ _ _ (Ne.symm og1)), y3.keep (Below.heap_setCell _ _ _ _ (Ne.symm og2)), y4.keep (Below.heap_setCell _ _ _ _ (Ne.symm og3)), y5.keep (Below.heap_setCell _ _ _ _ (Ne.symm og4)), y6.setCell og5 _⟩
              case measure => simp [intOf]; omega
            · obtain rfl : k = 31 := by omega
              obtain ⟨hMr, hMo, HA, HB, Z9, hbw⟩ := HX.out
              clear HX
              have hRt := ((hMr.short (m := 31) (by decide)).congr (y := bvk two.fm) (fun i hi => by unfold ovr; rw [if_pos hi])).rd hl2
              have Q1 := fun W => eql_lbl one one W
              rw [(lq_iff one one).2 rfl] at Q1
              have Q2 := fun W => eql_lbl two two W
              rw [(lq_iff two two).2 rfl] at Q2
              go_wp2_with (first
                | (go_at_call 8; refine (LP2.out _ gr cr hRt (by omega)).mono ?_; rintro e z4 ⟨rfl, hb4⟩; replace HA := HA.below hb4; replace HB := HB.below hb4; replace Z9 := Z9.below hb4; replace hbw := bt hbw hb4; clear hRt)
                | (refine wpList_alLb rfl rfl ?_; intro z5 ZM hbM hs; clear hs)
                | (refine wpList_storeLb rfl _ _ rfl rfl z4.heap.size rfl rfl ZM ?_; intro z6 Z6 hT6; have hb6 := hT6.2.1 _ _ hbM (Nat.le_refl _); replace HA := HA.below hb6; replace HB := HB.below hb6; replace Z9 := Z9.below hb6; replace hbw := bt hbw hb6; clear ZM)
                | (refine wpList_ldLg (by rfl) _ rfl z4.heap.size rfl Z6 ?_)
                | (refine wpList_ldLg (by rfl) _ rfl (w.heap.size + 1) rfl HB ?_)
                | (refine wpList_ldLg (by rfl) _ rfl x7.heap.size rfl Z9 ?_)
                | (refine wpList_ldLg (by rfl) _ rfl w.heap.size rfl HA ?_))
              go_ret
              exact ⟨rfl, hbw⟩
  · go_simp
    obtain ⟨y18, hy18⟩ : ∃ z, z = wd.alloc (.cells #[.int .u8 1, .int .u8 2, .int .u8 3, .int .u8 4, .int .u8 5, .int .u8 6, .int .u8 7, .int .u8 8] 5) := ⟨_, rfl⟩
    have hbt : Below wd.heap.size wd y18 := by rw [hy18]; exact (Below.refl _ _).alloc (Nat.le_refl _) _
    have HR8 : Hid (Rd y18 (some ⟨wd.heap.size, 0, none⟩) k8) := by rw [hy18]; exact rd_k8 _
    rw [← hy18]
    try replace HOt : Hid (Ow y18 wd.heap.size _ one.fm) := Ow.below HOt.out hbt
    replace HBc := (show Hid _ from bt HBc.out hbt)
    clear hbt hy18
    refine hKq.out _ _ ⟨Z9.below HBc.out, HA.below HBc.out, hRr.below HBc.out⟩ (fun hHeld => ?_)
    clear hKq Kq
    try simp only [Act.put, List.setIfInBounds_toArray, List.set_cons_zero, List.set_cons_succ]
    refine wpAnyH_ready (rs := [11]) (by kernel_rfl) (by simp) ?_
    refine AllReadyH.cons (o := { dst := some 109, op := Op.call { callee := Callee.value (Operand.func 7), args := #[Operand.tmp 108], argTypes := #[29] }, type := 29, pos := "outright.go:244", after := #[{ on := 10, ground := Ground.data }, { on := 7, ground := Ground.chain }, { on := 7, ground := Ground.guard }], guard := some (7, false) }) rfl (fun Kq hKq => ?_) AllReadyH.nil
    · go_simp
      refine (TW.out _ g1 c1 _ ((hM1.below HBc.out).rd hl1) hl1).mono ?_
      rintro e y19 ⟨v19, rfl, hot, hbt⟩
      have HOt : Hid (Ow y19 wd.heap.size v19 one.fm) := Ow.mono hot HBc.out.size
      replace HBc := (show Hid _ from bt HBc.out hbt)
      try replace HR8 : Hid (Rd y19 _ k8) := Rd.below HR8.out hbt
      clear hot hbt
      refine hKq.out _ _ ⟨Z9.below HBc.out, HA.below HBc.out, hRr.below HBc.out⟩ (fun hHeld => ?_)
      clear hKq Kq
      try simp only [Act.put, List.setIfInBounds_toArray, List.set_cons_zero, List.set_cons_succ]
      refine wpAnyH_ready (rs := [13]) (by kernel_rfl) (by simp) ?_
      refine AllReadyH.cons (o := { dst := some 111, op := Op.call { callee := Callee.builtin Builtin.append, args := #[Operand.tmp 109, Operand.tmp 110], argTypes := #[29, 29] }, type := 29, pos := "outright.go:244", after := #[{ on := 11, ground := Ground.data }, { on := 12, ground := Ground.data }, { on := 11, ground := Ground.chain }, { on := 7, ground := Ground.guard }], guard := some (7, false) }) rfl (fun Kq hKq => ?_) AllReadyH.nil
      · skip
        refine stepg_ap (by rfl) _ _ rfl wd.heap.size _ one.fm rfl (show Ow _ _ _ _ from HOt.out) _ _ _ k8 rfl HR8.out rfl (by rw [hl1]; decide) HBc.out.size ?_
        intro v20 y20 ho6 hg6
        have hg7 := Ow.below_append (show Ow _ _ _ _ from HOt.out) HBc.out HBc.out.size hg6 (Nat.le_refl _)
        replace HBc := (show Hid _ from hg7)
        obtain ⟨q6, d6, hv6, hd6, hr6⟩ := ho6.rd
        rw [hlr] at hv6
        subst hv6
        have CW := conv_rd hr6 39 d6 hlr
        clear HOt HR8 ho6 hg6 hg7
        refine hKq.out _ _ ⟨Z9.below HBc.out, HA.below HBc.out, hRr.below HBc.out⟩ (fun hHeld => ?_)
        clear hKq Kq
        try simp only [Act.put, List.setIfInBounds_toArray, List.set_cons_zero, List.set_cons_succ]
        refine wpAnyH_ready (rs := [14]) (by kernel_rfl) (by simp) ?_
        refine AllReadyH.cons (o := { dst := some 112, op := Op.convert 29 9 (Operand.tmp 111), type := 9, pos := "outright.go:244", after := #[{ on := 13, ground := Ground.data }, { on := 7, ground := Ground.guard }], guard := some (7, false) }) rfl (fun Kq hKq => ?_) AllReadyH.nil
        · go_simp
          refine hKq.out _ _ ⟨Z9.below HBc.out, HA.below HBc.out, hRr.below HBc.out⟩ (fun hHeld => ?_)
          clear hKq Kq
          try simp only [Act.put, List.setIfInBounds_toArray, List.set_cons_zero, List.set_cons_succ]
          refine takeHr (i := 15) (d := some 113) (v := .bool false) rfl rfl (by kernel_rfl) (by kernel_rfl) (by kernel_rfl) (fun _ _ _ h => h) (Or.inl ⟨by rfl, ?hy22⟩) hHeld ?rest22
          case hy22 => intro X hSw; go_simp <;> with_reducible rfl
          try simp only [Act.put, List.setIfInBounds_toArray, List.set_cons_zero, List.set_cons_succ]
          refine takeHr (i := 16) (d := some 114) (v := .bool false) rfl rfl (by kernel_rfl) (by kernel_rfl) (by kernel_rfl) (fun _ _ _ h => h) (Or.inl ⟨by rfl, ?hy23⟩) hHeld ?rest23
          case hy23 => intro X hSw; go_simp <;> with_reducible rfl
          try simp only [Act.put, List.setIfInBounds_toArray, List.set_cons_zero, List.set_cons_succ]
          refine wpAnyH_done (by kernel_rfl) ?_ _
          clear hHeld CW hr6
          replace hbw := bt hbw HBc.out
          replace hM1 := hM1.below HBc.out
          replace hM2 := hM2.below HBc.out
          replace hM3 := hM3.below HBc.out
          replace hM4 := hM4.below HBc.out
          replace HA := HA.below HBc.out
          replace HB := HB.below HBc.out
          replace hMr := hMr.below HBc.out
          replace Z9 := Z9.below HBc.out
          clear HBc hRr
          generalize y20 = y0 at *
          have hz9 := Z9.lt
          have oo1 : g1 < g2 := by omega
          have oo2 : g2 < g3 := by omega
          have oo3 : g3 < g4 := by omega
          have oo4 : g4 < gr := by omega
          have oo5 : gr < x7.heap.size := Nat.lt_of_lt_of_le hLr hb7.size
          have oo0 : w.heap.size + 1 < g1 := Nat.lt_of_lt_of_le hgw.out hg1
          clear hg1 hg2 hg3 hg4 hgr hL1 hL2 hL3 hL4 hLr hb1 hb2 hb3 hb4 hb5 hb6 hb7 hb9 hgw hk6 hg6 ho6 ho5 hT9 hbM
          go_wp2_with (first
            | (go_at_call 7; refine (TW.out _ g2 c2 _ (hM2.rd hl2) hl2).mono ?_; rintro e z1 ⟨vo, rfl, hoo, hbo⟩; obtain ⟨gv, cv, rfl, hcv, hgv, hMo⟩ := ow_mde hoo 31 hl2 (by decide); replace hM1 := hM1.below hbo; replace hM2 := hM2.below hbo; replace hM3 := hM3.below hbo; replace hM4 := hM4.below hbo; replace HA := HA.below hbo; replace HB := HB.below hbo; replace hMr := hMr.below hbo; replace Z9 := Z9.below hbo; replace hbw := bt hbw hbo; clear hoo)
            | (go_at_call 9; refine (apart4 hM1 hM2 hM3 hM4 oo1 oo2 oo3 _).mono ?_; rintro e z2 ⟨rfl, hK⟩; have ba := (Below.refl _ z1).alloc (Nat.le_refl _) (.cells #[.slice (some ⟨g1, 0, none⟩) 31 c1, .slice (some ⟨g2, 0, none⟩) 31 c2, .slice (some ⟨g3, 0, none⟩) 31 c3, .slice (some ⟨g4, 0, none⟩) 31 c4] 29); replace HA := HA.below ba; replace HB := HB.below ba; replace hMr := hMr.below ba; replace Z9 := Z9.below ba; replace hMo := hMo.below ba; replace hbw := bt hbw ba; have ll1 := HA.lt; have ll2 := HB.lt; have ll3 := hMr.lt; have ll4 := Z9.lt; have ll5 := hMo.lt; replace HA := HA.keep (hK.at4 ll1 (by omega) (by omega) (by omega) (by omega)); replace HB := HB.keep (hK.at4 ll2 (by omega) (by omega) (by omega) (by omega)); replace hMr := hMr.keep (hK.at4 ll3 (by omega) (by omega) (by omega) (by omega)); replace Z9 := Z9.keep (hK.at4 ll4 (by omega) (by omega) (by omega) (by omega)); replace hMo := hMo.keep (hK.at4 ll5 (by omega) (by omega) (by omega) (by omega)); replace hbw := hbw.trans (hK.toBelow hbw.size (q4_all (P := fun _ g => w.heap.size ≤ g) (by omega) (by omega) (by omega) (by omega))); have hRt := hRR _ hMr; clear hM1 hM2 hM3 hM4 hK ba ll1 ll2 ll3 ll4 ll5)
            | (go_at_call 8; refine (LP1.out _ gr cr hRt (by omega)).mono ?_; rintro e z3 ⟨rfl, hb3⟩; replace HA := HA.below hb3; replace HB := HB.below hb3; replace hMr := hMr.below hb3; replace Z9 := Z9.below hb3; replace hMo := hMo.below hb3; replace hbw := bt hbw hb3; clear hRt))
          have og1 : gr ≠ gv := by omega
          have og2 : gr ≠ w.heap.size := by omega
          have og3 : gr ≠ w.heap.size + 1 := by omega
          have og4 : gr ≠ x7.heap.size := by omega
          have og5 : w.heap.size ≤ gr := by omega
          have ic39 : (cr : Int) ≥ 39 := by omega
          go_loopw [17] (fun s17 wr => ∃ k : Nat, k ≤ 31 ∧ s17 = .int .i64 k ∧ Hid (Mde 5 wr gr cr 39 (ovr two.fm (one.fm ++ k8) k) ∧ Mde 5 wr gv cv 31 (bvk two.fm) ∧ LbAt wr w.heap.size one ∧ LbAt wr (w.heap.size + 1) two ∧ LbAt wr x7.heap.size one ∧ Below w.heap.size w wr)) (fun s17 _ => 31 - (intOf s17).toNat)
          case atStart => exact ⟨0, Nat.zero_le _, rfl, hMr.congr (fun i _ => by unfold ovr; rw [if_neg (by omega)]), hMo, HA, HB, Z9, hbw⟩
          case round =>
            clear hMr hMo HA HB Z9 hbw
            obtain ⟨k, hk31, rfl, HX⟩ := hrel
            by_cases hlt : k < 31
            · have hki : (k : Int) < 31 := by omega
              have hk39 : (k : Int) < 39 := by omega
              have cc1 := HX.out.2.1.cell hlt
              unfold bvk at cc1
              have cc2 := HX.out.1.cell (i := k) (by omega)
              have cc3 := HX.out.1.frozen k
              go_wp2
              go_roundw
              case rel =>
                obtain ⟨y1, y2, y3, y4, y5, y6⟩ := HX.out
                exact ⟨k + 1, by omega, by go_num, ovr_set y1 rfl, y2.keep (Below.heap_setCell _ _ _ _ (Ne.symm og1)), y3.keep (Below.heap_setCell _ _ _ _ (Ne.symm og2)), y4.keep (Below.heap_setCell _ _ _ _ (Ne.symm og3)), y5.keep (Below.heap_setCell _ _ _ _ (Ne.symm og4)), y6.setCell og5 _⟩
              case measure => simp [intOf]; omega
            · obtain rfl : k = 31 := by omega
              obtain ⟨hMr, hMo, HA, HB, Z9, hbw⟩ := HX.out
              clear HX
              have hRt := ((hMr.short (m := 31) (by decide)).congr (y := bvk two.fm) (fun i hi => by unfold ovr; rw [if_pos hi])).rd hl2
              have Q1 := fun W => eql_lbl one one W
              rw [(lq_iff one one).2 rfl] at Q1
              have Q2 := fun W => eql_lbl two two W
              rw [(lq_iff two two).2 rfl] at Q2
              go_wp2_with (first
                | (go_at_call 8; refine (LP2.out _ gr cr hRt (by omega)).mono ?_; rintro e z4 ⟨rfl, hb4⟩; replace HA := HA.below hb4; replace HB := HB.below hb4; replace Z9 := Z9.below hb4; replace hbw := bt hbw hb4; clear hRt)
                | (refine wpList_alLb rfl rfl ?_; intro z5 ZM hbM hs; clear hs)
                | (refine wpList_storeLb rfl _ _ rfl rfl z4.heap.size rfl rfl ZM ?_; intro z6 Z6 hT6; have hb6 := hT6.2.1 _ _ hbM (Nat.le_refl _); replace HA := HA.below hb6; replace HB := HB.below hb6; replace Z9 := Z9.below hb6; replace hbw := bt hbw hb6; clear ZM)
                | (refine wpList_ldLg (by rfl) _ rfl z4.heap.size rfl Z6 ?_)
                | (refine wpList_ldLg (by rfl) _ rfl (w.heap.size + 1) rfl HB ?_)
                | (refine wpList_ldLg (by rfl) _ rfl x7.heap.size rfl Z9 ?_)
                | (refine wpList_ldLg (by rfl) _ rfl w.heap.size rfl HA ?_))
              go_ret
              exact ⟨rfl, hbw⟩
theorem labelOwn_walk (one two : Lbl) (h1 : one.In) (h2 : two.In) (w : World) : Calls Try.prog 3 #[.agg one.cs, .agg two.cs] w fun e w' => e = .returned (.bool true) ∧ Below w.heap.size w w' := by
  by_cases k1 : one.ck = 0
  · by_cases k2 : two.ck = 0
    · exact labelOwn_ok one two h1 h2 k1 k2 w
    · exact labelOwn_no2 one two h1 h2 (by unfold fitb; exact decide_eq_true k1) (by unfold fitb; exact decide_eq_false k2) w
  · exact labelOwn_no1 one two h1 (by unfold fitb; exact decide_eq_false k1) w
end
end Go.Proofs.Ytpmcdkijlpcmeaa
