/-
  AuditOrder: the walk.
-/
import Derived.Test.YtnnepmofhedkpaaFp25
import Derived.BigQuiet
import Derived.Deep.CutRange
import Derived.Deep.DeepCutAuto
namespace Go.Proofs.Ytnnepmofhedkpaa
open Go.RowKit
/-- Turned round as far as t. -/
def Rvs (f : Nat → Fi) (n t : Nat) (es : List Fi) : Prop := es.length = n - t ∧ ∀ k, k < n - t → es.getD k fi0 = f (n - 1 - k)
theorem Rvs.nil (f : Nat → Fi) (n : Nat) : Rvs f n n [] := ⟨by simp, fun k hk => by omega⟩
theorem Rvs.add {f : Nat → Fi} {n s : Nat} {es : List Fi} (h : Rvs f n (s + 1) es) (hs : s < n) : Rvs f n s (es ++ rgl 1 fun _ => f s) := by
  refine ⟨by rw [List.length_append, rgl_len, h.1]; omega, fun k hk => ?_⟩
  by_cases hlt : k < n - (s + 1)
  · have := h.2 k hlt
    rw [← this]
    simp [List.getD, List.getElem?_append_left (show k < es.length by rw [h.1]; exact hlt)]
  · have e : k = es.length := by rw [h.1]; omega
    have e2 : n - 1 - k = s := by rw [e, h.1]; omega
    rw [e2, e]
    simp [List.getD, rgl]
/-- The worst of a list is one of it, and none is worse. -/
theorem wst_is (f : Nat → Fi) {n : Nat} (h : 0 < n) : ∃ i, i < n ∧ f i = wst f n := by
  cases n with
  | zero => omega
  | succ m => exact ⟨bi f m, by have := bi_le f m; omega, rfl⟩
theorem wst_best (f : Nat → Fi) {n j : Nat} (h : j < n) : worse (f j) (wst f n) = false := by
  cases n with
  | zero => omega
  | succ m => exact bi_best f m j (by omega)
theorem wst_turn {f : Nat → Fi} {n : Nat} {es : List Fi} (h0 : 0 < n) (h : Rvs f n 0 es) : (wst (fun i => es.getD i fi0) n).ks = (wst f n).ks ∧ (wst (fun i => es.getD i fi0) n).wh = (wst f n).wh ∧ (wst (fun i => es.getD i fi0) n).sm = (wst f n).sm := by
  obtain ⟨i, hi, ei⟩ := wst_is f h0
  obtain ⟨j, hj, ej⟩ := wst_is (fun i => es.getD i fi0) h0
  refine worse_eq ?_ ?_
  · rw [← ej]
    show worse (es.getD j fi0) _ = false
    rw [h.2 j (by omega)]
    exact wst_best f (by omega)
  · have := wst_best (fun i => es.getD i fi0) (n := n) (j := n - 1 - i) (by omega)
    rw [h.2 (n - 1 - i) (by omega), show n - 1 - (n - 1 - i) = i by omega, ei] at this
    exact this
theorem wst_one (V : Fi) : wst (fun _ => V) 1 = V := rfl
theorem wst_two {V U : Fi} (h : worse U V = false) : wst (fun i => if i = 0 then V else U) 2 = V := by
  show (if bi _ 1 = 0 then V else U) = V
  have e : bi (fun i => if i = 0 then V else U) 1 = 0 := by
    unfold bi
    simp [bi, h]
  rw [e]; rfl
theorem dbt_2 {k : Int} (h : ¬ dbt 2 > dbt k) : k = 2 := by
  unfold dbt at h
  by_cases h1 : k = 2
  · exact h1
  · by_cases h2 : k = 1
    · subst h2; simp at h
    · simp [h1, h2] at h
theorem uns_ok {V U : Fi} (h : worse U V = false) (hk : U.kd = 2) : V.kd = 2 := by
  refine dbt_2 fun h2 => ?_
  unfold worse at h
  rw [hk] at h
  by_cases e : dbt 2 = dbt V.kd
  · omega
  · rw [if_neg e] at h
    have := of_decide_eq_false h
    omega
theorem whole_ok {V U : Fi} (h : worse U V = false) (hk : U.kd = V.kd) : ¬ U.wh < V.wh := by
  intro h2
  unfold worse at h
  rw [if_pos (by rw [hk]), if_neg (by omega)] at h
  have := of_decide_eq_false h
  omega
theorem step_alB {t : TypeId} {cs : Array Value} {ops : Array Oper} {o : Oper} {a : Act} {w : World} {K : Act → World → Prop} {Q : Exit → Act → World → Prop} {E : Prop} (hgd : o.guard = none) (ho : o.op = .alloc t) (hz : ∀ w : World, (zeroValue t).run Try.prog w = .ok (.agg cs) w)
    (h : ∀ g w', GB w' g t cs → Below w.heap.size w w' → Hid (w.heap.size ≤ g) → K (a.put o.dst (.pointer (some ⟨g, 0, none⟩))) w') : if Region.wanted o (yielded ops a.tmps) = true then Oper.wp Try.prog o a w K Q else E := by
  have hw : Region.wanted o (yielded ops a.tmps) = true := by simp [Region.wanted, hgd]
  rw [if_pos hw]
  have h2 := h w.heap.size (w.alloc (.cells cs t)) (GB.new w _ _) ((Below.refl _ _).alloc (Nat.le_refl _) _) (Nat.le_refl _)
  unfold Oper.wp execOp
  simp only [ho, Sem.run_bind, Instr.alloc, newVar, newRow, hz, run_newObj_alloc, Sem.run_pure, Result.andThen_ok, Value.cells]
  exact h2
theorem step_stB {t : TypeId} {cs cs0 : Array Value} {ops : Array Oper} {o : Oper} {a : Act} {w : World} {K : Act → World → Prop} {Q : Exit → Act → World → Prop} {E : Prop} (hgd : o.guard = none) (x y : Operand) (ho : o.op = .store t x y) (hd : o.dst = none) (g : Nat) (hx : a.eval x = .pointer (some ⟨g, 0, none⟩)) (hy : a.eval y = .agg cs) (H : GB w g t cs0) (hs : (Try.prog.info? t).map (·.size) = some cs.size) (he : cs.size = cs0.size) (h1 : (cs.all fun x => x.oneCell') = true)
    (h : ∀ w', GB w' g t cs → w.grownBy w' (some g) → K a w') : if Region.wanted o (yielded ops a.tmps) = true then Oper.wp Try.prog o a w K Q else E := by
  have hw : Region.wanted o (yielded ops a.tmps) = true := by simp [Region.wanted, hgd]
  rw [if_pos hw]
  have hr := run_storeVar_row (P := Try.prog) w g t t cs0 cs H hs (by rw [he]) h1
  unfold Oper.wp execOp
  simp only [ho, hx, hy, Instr.storeAt, Instr.sureAddr, Sem.run_bind, Sem.run_pure, Result.andThen_ok, hr]
  have e : a.put o.dst undef = a := by rw [hd]; rfl
  show K (a.put o.dst undef) _
  rw [e]
  refine h _ ?_ ⟨rfl, rfl, rfl, by simp, fun k _ hk => setRow_other w g k _ (fun e => hk (by rw [e]))⟩
  unfold GB at H ⊢
  exact setRow_heap w g _ _ _ _ H
theorem step_bsH {w : World} {ops : Array Oper} {o : Oper} {a : Act} {K : Act → World → Prop} {Q : Exit → Act → World → Prop} {E : Prop} (hgd : o.guard = none) {t te : TypeId} {len : Nat} {parts : Array (Nat × Operand)} {ps : Array (Nat × Value)} {cs : Array Value} (ho : o.op = .buildSlice t len parts) (hp : (parts.map fun (i, x) => (i, a.eval x)) = ps)
    (hr : (Instr.buildSlice t len ps).run Try.prog w = .ok (.slice (some ⟨w.heap.size, 0, none⟩) len len) (w.alloc (.cells cs te)))
    (h : ∀ g w', GB w' g te cs → Below w.heap.size w w' → Hid (w.heap.size ≤ g) → K (a.put o.dst (.slice (some ⟨g, 0, none⟩) len len)) w') : if Region.wanted o (yielded ops a.tmps) = true then Oper.wp Try.prog o a w K Q else E := by
  have hw : Region.wanted o (yielded ops a.tmps) = true := by simp [Region.wanted, hgd]
  rw [if_pos hw]
  have h2 := h w.heap.size (w.alloc (.cells cs te)) (GB.new w te cs) ((Below.refl _ _).alloc (Nat.le_refl _) _) (Nat.le_refl _)
  unfold Oper.wp execOp
  simp only [ho, hp, Sem.run_bind, hr, Sem.run_pure, Result.andThen_ok]
  exact h2
theorem step_bsF2 {w : World} {ops : Array Oper} {o : Oper} {a : Act} {K : Act → World → Prop} {Q : Exit → Act → World → Prop} {E : Prop} (hgd : o.guard = none) (x y : Operand) (ho : o.op = .buildSlice 22 2 #[(0, x), (1, y)]) (f g : Fi) (hx : a.eval x = .agg f.cs) (hy : a.eval y = .agg g.cs)
    (h : ∀ g' w', GB w' g' 26 (f.cs ++ g.cs) → Below w.heap.size w w' → Hid (w.heap.size ≤ g') → K (a.put o.dst (.slice (some ⟨g', 0, none⟩) 2 2)) w') : if Region.wanted o (yielded ops a.tmps) = true then Oper.wp Try.prog o a w K Q else E :=
  step_bsH hgd (ps := #[(0, .agg f.cs), (1, .agg g.cs)]) ho (by simp [hx, hy]) (bsF2 w f g) h
theorem one_call {X : World} {g : Nat} {V : Fi} (h : GB X g 26 V.cs) : Calls Try.prog 6 #[.slice (some ⟨g, 0, none⟩) 1 1] X fun e w' => e = .returned (.tuple #[.agg V.cs, .bool true]) ∧ Below X.heap.size X w' :=
  worst_any (c := 1) (gb_fl1 h) (by decide)
theorem two_call {X : World} {g : Nat} {V U : Fi} (h : GB X g 26 (V.cs ++ U.cs)) (hw : worse U V = false) : Calls Try.prog 6 #[.slice (some ⟨g, 0, none⟩) 2 2] X fun e w' => e = .returned (.tuple #[.agg V.cs, .bool true]) ∧ Below X.heap.size X w' := by
  have := worst_any (c := 2) (gb_fl2 h) (by decide)
  rw [wst_two hw] at this
  exact this
theorem fcs1 (f : Fi) : f.cs.toList[1]? = some (.int .i64 f.kd) := rfl
theorem fcs4 (f : Fi) : f.cs.toList[4]? = some (.int .i64 f.wh) := rfl
section
attribute [local irreducible] Calls Fi.cs GB wfi worse bi wst Of feq
set_option maxHeartbeats 16000000 in
set_option maxRecDepth 1000000 in
theorem auditOrder_none {w : World} {p : Option Addr} {c : Nat} {f : Nat → Fi} : 
    Calls Try.prog 4 #[.slice p 0 c] w fun e w' => e = .returned (.bool true) ∧ Below w.heap.size w w' := by
  have HS : FL w p 0 f := .inl rfl
  have CW := (show Hid _ from worst_any (c := c) HS (Nat.zero_le _))
  have ef : wst f 0 = fi0 := by unfold wst; rfl
  rw [ef] at CW
  have ee := (show Hid _ from fun X => eql_fi fi0 fi0 X)
  have hq : feq fi0 fi0 = true := (feq_iff _ _).2 rfl
  rw [hq] at ee
  unfold Fi.cs fi0 at ee
  go_enter Try.func4, Try.ntmps4
  go_wp2_with (first
    | (go_at_call 6; refine CW.out.mono ?_; rintro e w1 ⟨rfl, hb1⟩)
    | (refine wpList_alB rfl rfl zero_Fi ?_; intro w2 hG2 hb2 hs2)
    | (refine wpList_stB (cs := fi0.cs) rfl _ _ rfl rfl w1.heap.size rfl rfl hG2 (size_FiS _) (fcs_same _ _) (fcs_one _) ?_; intro w3 hG3 hg3 hs3; have HB3 := (show Hid (Below w.heap.size w w3) from grown_below (bt hb1 hb2) hg3 (Nat.le_trans hb1.size hb2.size) hb1.size); obtain ⟨c0, c1, c2, c3, c4, c5, c6, c7⟩ := hG3.fd; unfold fi0 at c0 c1 c2 c3 c4 c5 c6 c7; simp only at c0 c1 c2 c3 c4 c5 c6 c7; have e4 := ee.out))
  go_ret
  exact ⟨rfl, HB3.out⟩
theorem le72 {n k : Nat} (h : n * 72 ≤ 140737488355328) (hk : k ≤ n) : k * 72 ≤ 140737488355328 := by omega
set_option maxHeartbeats 16000000 in
set_option maxRecDepth 1000000 in
theorem auditOrder_some {w : World} {p : Option Addr} {n c : Nat} {f : Nat → Fi} (HS : FL w p n f) (hn : n * 72 ≤ 140737488355328) (h0 : 0 < n) :
    Calls Try.prog 4 #[.slice p n c] w fun e w' => e = .returned (.bool true) ∧ Below w.heap.size w w' := by
  obtain ⟨b, o, rfl, HA⟩ := HS.at h0
  have CW := (show Hid _ from worst_any (c := c) HS (by omega))
  have hd : decide (0 < n) = true := decide_eq_true h0
  rw [hd] at CW
  have HL := (show Hid (∀ j, j < n → FiAt w b (o + j * 8) (f j)) from HA)
  have HN := (show Hid (n * 72 ≤ 140737488355328 ∧ 0 < n) from ⟨hn, h0⟩)
  obtain ⟨V, hV⟩ : ∃ V, wst f n = V := ⟨_, rfl⟩
  have HV := (show Hid (wst f n = V) from hV)
  obtain ⟨iv, hiv, fiv⟩ := wst_is f h0
  have HI := (show Hid (iv < n ∧ f iv = V) from ⟨hiv, fiv.trans hV⟩)
  have HBest := (show Hid (∀ j, j < n → worse (f j) V = false) from fun j hj => by rw [← hV]; exact wst_best f hj)
  rw [hV] at CW
  have h1 : ((n : Int) == 0) = false := by rw [beq_eq_false_iff_ne]; omega
  obtain ⟨z0, hz0⟩ : ∃ z0 : Int, wrap64 ((n : Int) - 1) = z0 := ⟨_, rfl⟩
  have HZ0 := (show Hid (z0 = (n : Int) - 1) from by rw [← hz0]; show _ = _; unfold wrap64; omega)
  clear HS HA hn h0 hd hV hiv fiv
  go_enter Try.func4, Try.ntmps4
  go_wp2_with (first
    | (go_at_call 6; refine CW.out.mono ?_; rintro e w1 ⟨rfl, hb1⟩)
    | (refine wpList_alB rfl rfl zero_Fi ?_; intro w2 hG2 hb2 hs2)
    | (refine wpList_stB (cs := V.cs) rfl _ _ rfl rfl w1.heap.size rfl rfl hG2 (size_FiS _) (fcs_same _ _) (fcs_one _) ?_; intro w3 hG3 hg3 hs3; have HB3 := (show Hid (Below w.heap.size w w3) from grown_below (bt hb1 hb2) hg3 (Nat.le_trans hb1.size hb2.size) hb1.size)))
  obtain ⟨gv, hgv⟩ : ∃ gv, w1.heap.size = gv := ⟨_, rfl⟩
  rw [hgv] at hG3 ⊢
  have HG3 := (show Hid (GB w3 gv 26 V.cs) from hG3)
  have HX := (show Hid (gv < w3.heap.size) from hG3.lt)
  rw [hz0]
  clear hz0 hgv hG2 hG3 hb1 hb2 hs2 hg3 hs3 CW h1
  go_loopw [5, 6, 7, 8] (fun v x y i wr => ∃ (t : Nat) (z : Int) (es : List Fi) (fnd uns : Bool), t ≤ n ∧ i = .int .i64 z ∧ x = .bool fnd ∧ y = .bool uns ∧ Hid (z = (t : Int) - 1) ∧ Hid (Of wr w3.heap.size v es) ∧ Hid (Rvs f n t es) ∧ Hid (t ≤ iv → fnd = true) ∧ Hid (uns = true → V.kd = 2) ∧ Hid (Below w3.heap.size w3 wr)) (fun _ _ _ i _ => (intOf i + 1).toNat)
  case atStart => exact ⟨n, z0, [], false, false, Nat.le_refl _, rfl, rfl, rfl, HZ0.out, of_nil _ _, Rvs.nil f n, by show n ≤ iv → false = true; intro h; exact absurd HI.out.1 (by omega), (by show false = true → V.kd = 2; intro h; cases h), Below.refl _ _⟩
  case round =>
    obtain ⟨t, z, es, fnd, uns, ht, rfl, rfl, rfl, hz, HO, HR, HF, HU, HB⟩ := hrel
    cases t with
    | zero =>
      obtain rfl : z = -1 := by have := hz.out; omega
      have hfn : fnd = true := HF.out (Nat.zero_le _)
      subst hfn
      obtain ⟨p2, c2, rfl, hc2, HF2⟩ := HO.out.fl (n := n) (by have := HR.out.1; omega)
      have hturn := wst_turn HN.out.2 HR.out
      have CW2 := (show Hid _ from worst_any (c := c2) HF2 (by have := HN.out.1; omega))
      rw [decide_eq_true HN.out.2] at CW2
      generalize wst (fun i => es.getD i fi0) n = A at *
      rw [HV.out] at hturn
      have HT := (show Hid (A.ks = V.ks ∧ A.wh = V.wh ∧ A.sm = V.sm) from hturn)
      have HBw := (show Hid (Below w.heap.size w wr) from bt HB3.out HB.out)
      have HGv := (show Hid (GB wr gv 26 V.cs) from HG3.out.below HB.out)
      have t0 : FiAt wr b o (f 0) := by have := (HL.out 0 HN.out.2).below HBw.out; simpa using this
      have HU0 := (show Hid (FiAt wr b o (f 0)) from t0)
      clear t0
      have HB0 := (show Hid (worse (f 0) V = false) from HBest.out 0 HN.out.2)
      have u1 : Hid (0 = 0) := rfl
      clear hturn hz HO HR HF2 HF HB ht hc2 HG3 HBest
      go_wp2_with (first
        | (revert u1; intro u1; go_at_call 6; refine CW2.out.mono ?_; rintro e x1 ⟨rfl, hb1⟩; clear u1; have u2 : Hid (0 = 0) := rfl)
        | (revert u2; intro u2; refine wpList_alB rfl rfl zero_Fi ?_; intro x2 hG2 hb2 hs2)
        | (revert u2; intro u2; refine wpList_stB (cs := A.cs) rfl _ _ rfl rfl x1.heap.size rfl rfl hG2 (size_FiS _) (fcs_same _ _) (fcs_one _) ?_; intro x3 hGa hg3 hs3; have HBx3 := (show Hid (Below wr.heap.size wr x3) from grown_below (bt hb1 hb2) hg3 (Nat.le_trans hb1.size hb2.size) hb1.size); obtain ⟨ga, hga⟩ : ∃ ga, x1.heap.size = ga := ⟨_, rfl⟩; rw [hga] at hGa ⊢; have HGa := (show Hid (GB x3 ga 26 A.cs) from hGa); have HGv3 := (show Hid (GB x3 gv 26 V.cs) from HGv.out.below HBx3.out); clear u2 hGa hG2 hb1 hb2 hs2 hg3 hs3 hga; have u3 : Hid (0 = 0) := rfl)
        | (revert u3; intro u3; refine wpList_ldB rfl _ rfl gv rfl HGv3.out Try.underlying26 (size_FiS _) ?_)
        | (revert u3; intro u3; refine wpList_bsF1 rfl _ rfl V rfl ?_; intro x4 hG4 hb4 hs4; clear u3; have u4 : Hid (0 = 0) := rfl)
        | (revert u4; intro u4; go_at_call 6; refine (one_call hG4).mono ?_; rintro e x5 ⟨rfl, hb5⟩; have HB5x := (show Hid (Below x3.heap.size x3 x5) from bt hb4 hb5); clear u4 hG4 hb4 hb5 hs4; have u5 : Hid (0 = 0) := rfl)
        | (revert u5; intro u5; refine wpList_alB rfl rfl zero_Fi ?_; intro x6 hG6 hb6 hs6)
        | (revert u5; intro u5; refine wpList_stB (cs := V.cs) rfl _ _ rfl rfl x5.heap.size rfl rfl hG6 (size_FiS _) (fcs_same _ _) (fcs_one _) ?_; intro x7 hGb hg7 hs7; have HB7 := (show Hid (Below x3.heap.size x3 x7) from grown_below (bt HB5x.out hb6) hg7 (Nat.le_trans HB5x.out.size hb6.size) HB5x.out.size); obtain ⟨gb, hgb⟩ : ∃ gb, x5.heap.size = gb := ⟨_, rfl⟩; rw [hgb] at hGb ⊢; have HGb := (show Hid (GB x7 gb 26 V.cs) from hGb); clear u5 hGb hG6 hb6 hs6 hg7 hs7 hgb))
      have hd7 : Below x7.heap.size x7 x7.drew := (Below.refl _ _).drew
      have HBz := (show Hid (Below wr.heap.size wr x7.drew) from (bt HBx3.out HB7.out).drew)
      have HX0 := (show Hid (Below w.heap.size w x7.drew) from bt HBw.out HBz.out)
      have HGV := (show Hid (GB x7.drew gv 26 V.cs) from HGv.out.below HBz.out)
      have HGA := (show Hid (GB x7.drew ga 26 A.cs) from (HGa.out.below HB7.out).below hd7)
      have HGB := (show Hid (GB x7.drew gb 26 V.cs) from HGb.out.below hd7)
      replace HU0 := (show Hid (FiAt x7.drew b o (f 0)) from HU0.out.below HBz.out)
      have h0n : 0 < n := HN.out.2
      clear HBz HGb HGa HGv HGv3 HB7 HBx3 HB5x hd7
      go_cut [13, 14] from 94 to 102 (fun v y wx => ∃ gc : Nat, v = .pointer (some ⟨gc, 0, none⟩) ∧ y = .bool true ∧ Hid (GB wx gc 26 V.cs) ∧ Hid (x7.drew.heap.size ≤ gc) ∧ Hid (Below x7.drew.heap.size x7.drew wx))
      case first =>
        have S1 : (loadVar 26 ⟨gv, 0, none⟩).run Try.prog x7.drew = .ok (.agg V.cs) x7.drew ∧ (loadVar 26 ⟨b, o, none⟩).run Try.prog x7.drew = .ok (.agg (f 0).cs) x7.drew := ⟨HGV.out.fiRun, by have := HU0.out.run; simpa using this⟩
        refine wp_region_held_drew (S := fun X => (loadVar 26 ⟨gv, 0, none⟩).run Try.prog X = .ok (.agg V.cs) X ∧ (loadVar 26 ⟨b, o, none⟩).run Try.prog X = .ok (.agg (f 0).cs) X) (by kernel_rfl) S1 (fun hHeld => ?_)
        clear S1
        generalize x7.drew = X0 at *
        have HBc := (show Hid (Below X0.heap.size X0 X0) from Below.refl _ _)
        refine takeHr (i := 0) (d := some 95) (v := .agg V.cs) rfl rfl (by kernel_rfl) (by kernel_rfl) (by kernel_rfl) (fun _ _ _ h => h) (Or.inl ⟨by rfl, ?hy1⟩) hHeld ?rest1
        case hy1 => intro X hSw; exact ex_ldR rfl rfl hSw.1
        try simp only [Act.put, List.setIfInBounds_toArray, List.set_cons_zero, List.set_cons_succ]
        refine takeHr (i := 1) (d := some 96) (v := ?v2) rfl rfl (by kernel_rfl) (by kernel_rfl) (by kernel_rfl) (fun _ _ _ h => h) (Or.inl ⟨by rfl, ?hy2⟩) hHeld ?rest2
        case hy2 => intro X hSw; obtain ⟨g1, g2⟩ := hSw; go_simp <;> with_reducible rfl
        try simp only [Act.put, List.setIfInBounds_toArray, List.set_cons_zero, List.set_cons_succ]
        refine takeHr (i := 2) (d := some 97) (v := ?v3) rfl rfl (by kernel_rfl) (by kernel_rfl) (by kernel_rfl) (fun _ _ _ h => h) (Or.inl ⟨by rfl, ?hy3⟩) hHeld ?rest3
        case hy3 => intro X hSw; obtain ⟨g1, g2⟩ := hSw; go_simp <;> with_reducible rfl
        try simp only [Act.put, List.setIfInBounds_toArray, List.set_cons_zero, List.set_cons_succ]
        refine takeHr (i := 3) (d := some 98) (v := .agg (f 0).cs) rfl rfl (by kernel_rfl) (by kernel_rfl) (by kernel_rfl) (fun _ _ _ h => h) (Or.inl ⟨by rfl, ?hy4⟩) hHeld ?rest4
        case hy4 => intro X hSw; exact ex_ldR rfl rfl hSw.2
        try simp only [Act.put, List.setIfInBounds_toArray, List.set_cons_zero, List.set_cons_succ]
        refine wpAnyH_ready (rs := [4, 9]) (by kernel_rfl) (by simp) ?_
        refine AllReadyH.cons (o := { dst := some 99, op := Op.buildSlice 22 2 #[(0, Operand.tmp 95), (1, Operand.tmp 98)], type := 22, pos := "law.go:316", after := #[{ on := 0, ground := Ground.data }, { on := 3, ground := Ground.data }], guard := none }) rfl (fun Kq hKq => ?_) (AllReadyH.cons (o := { dst := some 13, op := Op.alloc 26, type := 0, pos := "law.go:316", after := #[], guard := none }) rfl (fun Kq hKq => ?_) AllReadyH.nil)
        · skip
          refine step_bsF2 rfl (.tmp 95) (.tmp 98) rfl V (f 0) rfl rfl ?_
          intro g4 y5 hG4 hb5 hg4
          replace HBc := (show Hid (Below X0.heap.size X0 y5) from bt HBc.out hb5)
          try replace HGc := (show Hid (GB y5 gc 26 fi0.cs) from HGc.out.below hb5)
          have HG4 := (show Hid (GB y5 g4 26 (V.cs ++ (f 0).cs)) from hG4)
          clear hG4 hg4 hb5
          refine hKq.out _ _ ⟨(HGV.out.below HBc.out).fiRun, by have := (HU0.out.below HBc.out).run; simpa using this⟩ (fun hHeld => ?_)
          clear hKq Kq
          try simp only [Act.put, List.setIfInBounds_toArray, List.set_cons_zero, List.set_cons_succ]
          refine wpAnyH_ready (rs := [5, 9]) (by kernel_rfl) (by simp) ?_
          refine AllReadyH.cons (o := { dst := some 100, op := Op.call { callee := Callee.value (Operand.func 6), args := #[Operand.tmp 99], argTypes := #[22] }, type := 27, pos := "law.go:316", after := #[{ on := 4, ground := Ground.data }], guard := none }) rfl (fun Kq hKq => ?_) (AllReadyH.cons (o := { dst := some 13, op := Op.alloc 26, type := 0, pos := "law.go:316", after := #[], guard := none }) rfl (fun Kq hKq => ?_) AllReadyH.nil)
          · go_simp
            refine (two_call HG4.out HB0.out).mono ?_
            rintro e y6 ⟨rfl, hb6⟩
            replace HBc := (show Hid (Below X0.heap.size X0 y6) from bt HBc.out hb6)
            try replace HGc := (show Hid (GB y6 gc 26 fi0.cs) from HGc.out.below hb6)
            clear hb6
            refine hKq.out _ _ ⟨(HGV.out.below HBc.out).fiRun, by have := (HU0.out.below HBc.out).run; simpa using this⟩ (fun hHeld => ?_)
            clear hKq Kq
            try simp only [Act.put, List.setIfInBounds_toArray, List.set_cons_zero, List.set_cons_succ]
            refine takeHr (i := 6) (d := some 94) (v := ?v7) rfl rfl (by kernel_rfl) (by kernel_rfl) (by kernel_rfl) (fun _ _ _ h => h) (Or.inl ⟨by rfl, ?hy7⟩) hHeld ?rest7
            case hy7 => intro X hSw; obtain ⟨g1, g2⟩ := hSw; go_simp <;> with_reducible rfl
            try simp only [Act.put, List.setIfInBounds_toArray, List.set_cons_zero, List.set_cons_succ]
            refine takeHr (i := 7) (d := some 101) (v := ?v8) rfl rfl (by kernel_rfl) (by kernel_rfl) (by kernel_rfl) (fun _ _ _ h => h) (Or.inl ⟨by rfl, ?hy8⟩) hHeld ?rest8
            case hy8 => intro X hSw; obtain ⟨g1, g2⟩ := hSw; go_simp <;> with_reducible rfl
            try simp only [Act.put, List.setIfInBounds_toArray, List.set_cons_zero, List.set_cons_succ]
            refine takeHr (i := 8) (d := some 102) (v := ?v9) rfl rfl (by kernel_rfl) (by kernel_rfl) (by kernel_rfl) (fun _ _ _ h => h) (Or.inl ⟨by rfl, ?hy9⟩) hHeld ?rest9
            case hy9 => intro X hSw; obtain ⟨g1, g2⟩ := hSw; go_simp <;> with_reducible rfl
            try simp only [Act.put, List.setIfInBounds_toArray, List.set_cons_zero, List.set_cons_succ]
            refine wpAnyH_ready (rs := [9]) (by kernel_rfl) (by simp) ?_
            refine AllReadyH.cons (o := { dst := some 13, op := Op.alloc 26, type := 0, pos := "law.go:316", after := #[], guard := none }) rfl (fun Kq hKq => ?_) AllReadyH.nil
            · skip
              refine step_alB rfl rfl zero_Fi ?_
              intro gc y10 hGc hb10 hgc
              have HCc := (show Hid (X0.heap.size ≤ gc) from Nat.le_trans HBc.out.size hgc.out)
              replace HBc := (show Hid (Below X0.heap.size X0 y10) from bt HBc.out hb10)
              try replace HG4 := (show Hid (GB y10 g4 26 (V.cs ++ (f 0).cs)) from HG4.out.below hb10)
              have HGc := (show Hid (GB y10 gc 26 fi0.cs) from hGc)
              clear hGc hgc hb10
              refine hKq.out _ _ ⟨(HGV.out.below HBc.out).fiRun, by have := (HU0.out.below HBc.out).run; simpa using this⟩ (fun hHeld => ?_)
              clear hKq Kq
              try simp only [Act.put, List.setIfInBounds_toArray, List.set_cons_zero, List.set_cons_succ]
              refine wpAnyH_ready (rs := [10]) (by kernel_rfl) (by simp) ?_
              refine AllReadyH.cons (o := { dst := none, op := Op.store 26 (Operand.tmp 13) (Operand.tmp 101), type := 0, pos := "law.go:316", after := #[{ on := 9, ground := Ground.data }, { on := 7, ground := Ground.data }, { on := 5, ground := Ground.chain }, { on := 0, ground := Ground.phase }, { on := 1, ground := Ground.phase }, { on := 2, ground := Ground.phase }, { on := 3, ground := Ground.phase }, { on := 4, ground := Ground.phase }, { on := 5, ground := Ground.phase }, { on := 6, ground := Ground.phase }, { on := 7, ground := Ground.phase }, { on := 8, ground := Ground.textOnly Departure.lateStores }, { on := 9, ground := Ground.phase }], guard := none }) rfl (fun Kq hKq => ?_) AllReadyH.nil
              · skip
                refine step_stB (cs := V.cs) rfl (.tmp 13) (.tmp 101) rfl rfl gc rfl rfl HGc.out (size_FiS _) (fcs_same _ _) (fcs_one _) ?_
                intro y11 hGs hgs
                replace HBc := (show Hid (Below X0.heap.size X0 y11) from grown_below HBc.out hgs HBc.out.size HCc.out)
                have HGs := (show Hid (GB y11 gc 26 V.cs) from hGs)
                clear hGs hgs HGc
                refine hKq.out _ _ ⟨(HGV.out.below HBc.out).fiRun, by have := (HU0.out.below HBc.out).run; simpa using this⟩ (fun hHeld => ?_)
                clear hKq Kq
                try simp only [Act.put, List.setIfInBounds_toArray, List.set_cons_zero, List.set_cons_succ]
                refine takeHr (i := 11) (d := some 14) (v := ?v12) rfl rfl (by kernel_rfl) (by kernel_rfl) (by kernel_rfl) (fun _ _ _ h => h) (Or.inl ⟨by rfl, ?hy12⟩) hHeld ?rest12
                case hy12 => intro X hSw; obtain ⟨g1, g2⟩ := hSw; go_simp <;> with_reducible rfl
                try simp only [Act.put, List.setIfInBounds_toArray, List.set_cons_zero, List.set_cons_succ]
                refine wpAnyH_done (by kernel_rfl) ?_ _
                clear hHeld
                go_wp2_with (fail)
                go_meet
                case rel => exact ⟨gc, rfl, rfl, HGs.out, HCc.out, HBc.out⟩
          · skip
            refine step_alB rfl rfl zero_Fi ?_
            intro gc y13 hGc hb13 hgc
            have HCc := (show Hid (X0.heap.size ≤ gc) from Nat.le_trans HBc.out.size hgc.out)
            replace HBc := (show Hid (Below X0.heap.size X0 y13) from bt HBc.out hb13)
            try replace HG4 := (show Hid (GB y13 g4 26 (V.cs ++ (f 0).cs)) from HG4.out.below hb13)
            have HGc := (show Hid (GB y13 gc 26 fi0.cs) from hGc)
            clear hGc hgc hb13
            refine hKq.out _ _ ⟨(HGV.out.below HBc.out).fiRun, by have := (HU0.out.below HBc.out).run; simpa using this⟩ (fun hHeld => ?_)
            clear hKq Kq
            try simp only [Act.put, List.setIfInBounds_toArray, List.set_cons_zero, List.set_cons_succ]
            refine wpAnyH_ready (rs := [5]) (by kernel_rfl) (by simp) ?_
            refine AllReadyH.cons (o := { dst := some 100, op := Op.call { callee := Callee.value (Operand.func 6), args := #[Operand.tmp 99], argTypes := #[22] }, type := 27, pos := "law.go:316", after := #[{ on := 4, ground := Ground.data }], guard := none }) rfl (fun Kq hKq => ?_) AllReadyH.nil
            · go_simp
              refine (two_call HG4.out HB0.out).mono ?_
              rintro e y14 ⟨rfl, hb14⟩
              replace HBc := (show Hid (Below X0.heap.size X0 y14) from bt HBc.out hb14)
              try replace HGc := (show Hid (GB y14 gc 26 fi0.cs) from HGc.out.below hb14)
              clear hb14
              refine hKq.out _ _ ⟨(HGV.out.below HBc.out).fiRun, by have := (HU0.out.below HBc.out).run; simpa using this⟩ (fun hHeld => ?_)
              clear hKq Kq
              try simp only [Act.put, List.setIfInBounds_toArray, List.set_cons_zero, List.set_cons_succ]
              refine takeHr (i := 6) (d := some 94) (v := ?v15) rfl rfl (by kernel_rfl) (by kernel_rfl) (by kernel_rfl) (fun _ _ _ h => h) (Or.inl ⟨by rfl, ?hy15⟩) hHeld ?rest15
              case hy15 => intro X hSw; obtain ⟨g1, g2⟩ := hSw; go_simp <;> with_reducible rfl
              try simp only [Act.put, List.setIfInBounds_toArray, List.set_cons_zero, List.set_cons_succ]
              refine takeHr (i := 7) (d := some 101) (v := ?v16) rfl rfl (by kernel_rfl) (by kernel_rfl) (by kernel_rfl) (fun _ _ _ h => h) (Or.inl ⟨by rfl, ?hy16⟩) hHeld ?rest16
              case hy16 => intro X hSw; obtain ⟨g1, g2⟩ := hSw; go_simp <;> with_reducible rfl
              try simp only [Act.put, List.setIfInBounds_toArray, List.set_cons_zero, List.set_cons_succ]
              refine takeHr (i := 8) (d := some 102) (v := ?v17) rfl rfl (by kernel_rfl) (by kernel_rfl) (by kernel_rfl) (fun _ _ _ h => h) (Or.inl ⟨by rfl, ?hy17⟩) hHeld ?rest17
              case hy17 => intro X hSw; obtain ⟨g1, g2⟩ := hSw; go_simp <;> with_reducible rfl
              try simp only [Act.put, List.setIfInBounds_toArray, List.set_cons_zero, List.set_cons_succ]
              refine wpAnyH_ready (rs := [10]) (by kernel_rfl) (by simp) ?_
              refine AllReadyH.cons (o := { dst := none, op := Op.store 26 (Operand.tmp 13) (Operand.tmp 101), type := 0, pos := "law.go:316", after := #[{ on := 9, ground := Ground.data }, { on := 7, ground := Ground.data }, { on := 5, ground := Ground.chain }, { on := 0, ground := Ground.phase }, { on := 1, ground := Ground.phase }, { on := 2, ground := Ground.phase }, { on := 3, ground := Ground.phase }, { on := 4, ground := Ground.phase }, { on := 5, ground := Ground.phase }, { on := 6, ground := Ground.phase }, { on := 7, ground := Ground.phase }, { on := 8, ground := Ground.textOnly Departure.lateStores }, { on := 9, ground := Ground.phase }], guard := none }) rfl (fun Kq hKq => ?_) AllReadyH.nil
              · skip
                refine step_stB (cs := V.cs) rfl (.tmp 13) (.tmp 101) rfl rfl gc rfl rfl HGc.out (size_FiS _) (fcs_same _ _) (fcs_one _) ?_
                intro y18 hGs hgs
                replace HBc := (show Hid (Below X0.heap.size X0 y18) from grown_below HBc.out hgs HBc.out.size HCc.out)
                have HGs := (show Hid (GB y18 gc 26 V.cs) from hGs)
                clear hGs hgs HGc
                refine hKq.out _ _ ⟨(HGV.out.below HBc.out).fiRun, by have := (HU0.out.below HBc.out).run; simpa using this⟩ (fun hHeld => ?_)
                clear hKq Kq
                try simp only [Act.put, List.setIfInBounds_toArray, List.set_cons_zero, List.set_cons_succ]
                refine takeHr (i := 11) (d := some 14) (v := ?v19) rfl rfl (by kernel_rfl) (by kernel_rfl) (by kernel_rfl) (fun _ _ _ h => h) (Or.inl ⟨by rfl, ?hy19⟩) hHeld ?rest19
                case hy19 => intro X hSw; obtain ⟨g1, g2⟩ := hSw; go_simp <;> with_reducible rfl
                try simp only [Act.put, List.setIfInBounds_toArray, List.set_cons_zero, List.set_cons_succ]
                refine wpAnyH_done (by kernel_rfl) ?_ _
                clear hHeld
                go_wp2_with (fail)
                go_meet
                case rel => exact ⟨gc, rfl, rfl, HGs.out, HCc.out, HBc.out⟩
        · skip
          refine step_alB rfl rfl zero_Fi ?_
          intro gc y20 hGc hb20 hgc
          have HCc := (show Hid (X0.heap.size ≤ gc) from Nat.le_trans HBc.out.size hgc.out)
          replace HBc := (show Hid (Below X0.heap.size X0 y20) from bt HBc.out hb20)
          try replace HG4 := (show Hid (GB y20 g4 26 (V.cs ++ (f 0).cs)) from HG4.out.below hb20)
          have HGc := (show Hid (GB y20 gc 26 fi0.cs) from hGc)
          clear hGc hgc hb20
          refine hKq.out _ _ ⟨(HGV.out.below HBc.out).fiRun, by have := (HU0.out.below HBc.out).run; simpa using this⟩ (fun hHeld => ?_)
          clear hKq Kq
          try simp only [Act.put, List.setIfInBounds_toArray, List.set_cons_zero, List.set_cons_succ]
          refine wpAnyH_ready (rs := [4]) (by kernel_rfl) (by simp) ?_
          refine AllReadyH.cons (o := { dst := some 99, op := Op.buildSlice 22 2 #[(0, Operand.tmp 95), (1, Operand.tmp 98)], type := 22, pos := "law.go:316", after := #[{ on := 0, ground := Ground.data }, { on := 3, ground := Ground.data }], guard := none }) rfl (fun Kq hKq => ?_) AllReadyH.nil
          · skip
            refine step_bsF2 rfl (.tmp 95) (.tmp 98) rfl V (f 0) rfl rfl ?_
            intro g4 y21 hG4 hb21 hg4
            replace HBc := (show Hid (Below X0.heap.size X0 y21) from bt HBc.out hb21)
            try replace HGc := (show Hid (GB y21 gc 26 fi0.cs) from HGc.out.below hb21)
            have HG4 := (show Hid (GB y21 g4 26 (V.cs ++ (f 0).cs)) from hG4)
            clear hG4 hg4 hb21
            refine hKq.out _ _ ⟨(HGV.out.below HBc.out).fiRun, by have := (HU0.out.below HBc.out).run; simpa using this⟩ (fun hHeld => ?_)
            clear hKq Kq
            try simp only [Act.put, List.setIfInBounds_toArray, List.set_cons_zero, List.set_cons_succ]
            refine wpAnyH_ready (rs := [5]) (by kernel_rfl) (by simp) ?_
            refine AllReadyH.cons (o := { dst := some 100, op := Op.call { callee := Callee.value (Operand.func 6), args := #[Operand.tmp 99], argTypes := #[22] }, type := 27, pos := "law.go:316", after := #[{ on := 4, ground := Ground.data }], guard := none }) rfl (fun Kq hKq => ?_) AllReadyH.nil
            · go_simp
              refine (two_call HG4.out HB0.out).mono ?_
              rintro e y22 ⟨rfl, hb22⟩
              replace HBc := (show Hid (Below X0.heap.size X0 y22) from bt HBc.out hb22)
              try replace HGc := (show Hid (GB y22 gc 26 fi0.cs) from HGc.out.below hb22)
              clear hb22
              refine hKq.out _ _ ⟨(HGV.out.below HBc.out).fiRun, by have := (HU0.out.below HBc.out).run; simpa using this⟩ (fun hHeld => ?_)
              clear hKq Kq
              try simp only [Act.put, List.setIfInBounds_toArray, List.set_cons_zero, List.set_cons_succ]
              refine takeHr (i := 6) (d := some 94) (v := ?v23) rfl rfl (by kernel_rfl) (by kernel_rfl) (by kernel_rfl) (fun _ _ _ h => h) (Or.inl ⟨by rfl, ?hy23⟩) hHeld ?rest23
              case hy23 => intro X hSw; obtain ⟨g1, g2⟩ := hSw; go_simp <;> with_reducible rfl
              try simp only [Act.put, List.setIfInBounds_toArray, List.set_cons_zero, List.set_cons_succ]
              refine takeHr (i := 7) (d := some 101) (v := ?v24) rfl rfl (by kernel_rfl) (by kernel_rfl) (by kernel_rfl) (fun _ _ _ h => h) (Or.inl ⟨by rfl, ?hy24⟩) hHeld ?rest24
              case hy24 => intro X hSw; obtain ⟨g1, g2⟩ := hSw; go_simp <;> with_reducible rfl
              try simp only [Act.put, List.setIfInBounds_toArray, List.set_cons_zero, List.set_cons_succ]
              refine takeHr (i := 8) (d := some 102) (v := ?v25) rfl rfl (by kernel_rfl) (by kernel_rfl) (by kernel_rfl) (fun _ _ _ h => h) (Or.inl ⟨by rfl, ?hy25⟩) hHeld ?rest25
              case hy25 => intro X hSw; obtain ⟨g1, g2⟩ := hSw; go_simp <;> with_reducible rfl
              try simp only [Act.put, List.setIfInBounds_toArray, List.set_cons_zero, List.set_cons_succ]
              refine wpAnyH_ready (rs := [10]) (by kernel_rfl) (by simp) ?_
              refine AllReadyH.cons (o := { dst := none, op := Op.store 26 (Operand.tmp 13) (Operand.tmp 101), type := 0, pos := "law.go:316", after := #[{ on := 9, ground := Ground.data }, { on := 7, ground := Ground.data }, { on := 5, ground := Ground.chain }, { on := 0, ground := Ground.phase }, { on := 1, ground := Ground.phase }, { on := 2, ground := Ground.phase }, { on := 3, ground := Ground.phase }, { on := 4, ground := Ground.phase }, { on := 5, ground := Ground.phase }, { on := 6, ground := Ground.phase }, { on := 7, ground := Ground.phase }, { on := 8, ground := Ground.textOnly Departure.lateStores }, { on := 9, ground := Ground.phase }], guard := none }) rfl (fun Kq hKq => ?_) AllReadyH.nil
              · skip
                refine step_stB (cs := V.cs) rfl (.tmp 13) (.tmp 101) rfl rfl gc rfl rfl HGc.out (size_FiS _) (fcs_same _ _) (fcs_one _) ?_
                intro y26 hGs hgs
                replace HBc := (show Hid (Below X0.heap.size X0 y26) from grown_below HBc.out hgs HBc.out.size HCc.out)
                have HGs := (show Hid (GB y26 gc 26 V.cs) from hGs)
                clear hGs hgs HGc
                refine hKq.out _ _ ⟨(HGV.out.below HBc.out).fiRun, by have := (HU0.out.below HBc.out).run; simpa using this⟩ (fun hHeld => ?_)
                clear hKq Kq
                try simp only [Act.put, List.setIfInBounds_toArray, List.set_cons_zero, List.set_cons_succ]
                refine takeHr (i := 11) (d := some 14) (v := ?v27) rfl rfl (by kernel_rfl) (by kernel_rfl) (by kernel_rfl) (fun _ _ _ h => h) (Or.inl ⟨by rfl, ?hy27⟩) hHeld ?rest27
                case hy27 => intro X hSw; obtain ⟨g1, g2⟩ := hSw; go_simp <;> with_reducible rfl
                try simp only [Act.put, List.setIfInBounds_toArray, List.set_cons_zero, List.set_cons_succ]
                refine wpAnyH_done (by kernel_rfl) ?_ _
                clear hHeld
                go_wp2_with (fail)
                go_meet
                case rel => exact ⟨gc, rfl, rfl, HGs.out, HCc.out, HBc.out⟩
      case rest =>
        obtain ⟨gc, rfl, rfl, HGc, HCc, HBc⟩ := hcut
        have HGVc := (show Hid (GB wc gv 26 V.cs) from HGV.out.below HBc.out)
        have HGAc := (show Hid (GB wc ga 26 A.cs) from HGA.out.below HBc.out)
        have HGBc := (show Hid (GB wc gb 26 V.cs) from HGB.out.below HBc.out)
        have HBe := (show Hid (Below w.heap.size w wc) from bt HX0.out HBc.out)
        have hq : feq V V = true := (feq_iff _ _).2 rfl
        have NE := fun X => neq_fi V V X
        rw [hq] at NE
        obtain ⟨y0, y1, _, _, y4, y5, y6, y7⟩ := HGVc.out.fd
        obtain ⟨a0, _, _, _, a4, a5, a6, a7⟩ := HGAc.out.fd
        have e0 : (A.ks.toList == V.ks.toList) = true := by rw [HT.out.1]; simp
        have e4 : (A.wh == V.wh) = true := by rw [HT.out.2.1]; simp
        have e5 : (wrap64 (wrap64 (A.st + A.sp) + A.si) == wrap64 (wrap64 (V.st + V.sp) + V.si)) = true := by
          have := HT.out.2.2
          unfold Fi.sm at this
          rw [this]; simp
        clear hq HGB HGA HGV HX0 HBc HU0 h0n
        cases uns with
        | true =>
          have hk : V.kd = 2 := HU.out rfl
          have e1 : (V.kd != 2) = false := by simp [hk]
          clear hk HU
          go_wp2_with (first
            | (refine wpList_ldBg rfl _ rfl gv rfl HGVc.out ?_)
            | (refine wpList_ldBg rfl _ rfl gb rfl HGBc.out ?_)
            | (refine wpList_ldBg rfl _ rfl gc rfl HGc.out ?_))
          go_ret
          exact ⟨rfl, HBe.out⟩
        | false =>
          clear HU
          go_wp2_with (first
            | (refine wpList_ldBg rfl _ rfl gv rfl HGVc.out ?_)
            | (refine wpList_ldBg rfl _ rfl gb rfl HGBc.out ?_)
            | (refine wpList_ldBg rfl _ rfl gc rfl HGc.out ?_))
          go_ret
          exact ⟨rfl, HBe.out⟩
    | succ s =>
      obtain rfl : z = (s : Int) := by have := hz.out; omega
      have hge : (0 : Int) ≤ (s : Int) := by omega
      have hi : (s : Int) < (n : Int) := by omega
      have HS := (show Hid (s < n) from by show s < n; omega)
      have WS := (show Hid (∃ z', wrap64 ((s : Int) - 1) = z' ∧ z' = (s : Int) - 1) from ⟨_, rfl, by have := HN.out; unfold wrap64; omega⟩)
      obtain ⟨z', hz', HZ'⟩ := WS.out
      have HZ2 := (show Hid (z' = (s : Int) - 1) from HZ')
      have HZW := (show Hid (wrap64 ((s : Int) - 1) = z') from hz')
      have HW3 := (show Hid (w3.heap.size ≤ wr.heap.size) from HB.out.size)
      have HLn := (show Hid ((es.length + 1) * 72 ≤ 140737488355328) from by
        have h2 := HR.out.1
        exact le72 HN.out.1 (by omega))
      have AE := (show Hid (FiAt wr b (o + s * 8) (f s)) from (HL.out s (by omega)).below (bt HB3.out HB.out))
      have AR := AE.out.run
      have hmeas : (intOf (.int .i64 z') + 1).toNat < (intOf (.int .i64 (s : Int)) + 1).toNat := by
        simp only [intOf]; omega
      have HM := (show Hid _ from hmeas)
      clear hz hz' HZ' WS ht hmeas
      obtain ⟨W0, hW0⟩ : ∃ W0, W0 = wr := ⟨_, rfl⟩
      subst hW0
      go_wp2_with (first
        | (refine wpList_ldAt rfl _ _ rfl b (o + s * 8) rfl _ AR ?_)
        | (refine wpList_bsF1 rfl _ rfl (f s) rfl ?_; intro w4 hG4 hb4 hs4; have HO4 := (show Hid _ from HO.out.below hb4); have HB4 := (show Hid (Below w3.heap.size w3 w4) from HB.out.trans (hb4.mono HW3.out)))
        | (refine wpList_apF rfl _ _ rfl w3.heap.size _ es rfl HO4.out _ 1 1 (fun _ => f s) rfl (gb_fl1 hG4) HLn.out HB4.out.size ?_; intro v5 w5 HO5 hg5; have HO5' := (show Hid (Of w5 w3.heap.size v5 (es ++ rgl 1 fun _ => f s)) from HO5); have HB5 := (show Hid (Below w3.heap.size w3 w5) from HO4.out.grown HB4.out HB4.out.size hg5 (Nat.le_refl _)); clear hG4 hb4 hs4 hg5 HO5 HO4 HB4 AR))
      have HG5 := (show Hid (GB w5 gv 26 V.cs) from HG3.out.below HB5.out)
      have AE5 := (show Hid (FiAt w5 b (o + s * 8) (f s)) from (HL.out s HS.out).below (bt HB3.out HB5.out))
      have HR5 := (show Hid (Rvs f n s (es ++ rgl 1 fun _ => f s)) from HR.out.add HS.out)
      have hbd : Below w5.heap.size w5 w5.drew := (Below.refl _ _).drew
      have hbe := (HBest.out s HS.out)
      have HBe := (show Hid (worse (f s) V = false) from hbe)
      clear AE HO HB HR HLn HW3 hbe
      have S1 : (loadVar 26 ⟨b, o + s * 8, none⟩).run Try.prog w5.drew = .ok (.agg (f s).cs) w5.drew ∧ (loadVar 26 ⟨gv, 0, none⟩).run Try.prog w5.drew = .ok (.agg V.cs) w5.drew := ⟨(AE5.out.below hbd).run, (HG5.out.below hbd).fiRun⟩
      have HO6 := (show Hid (Of w5.drew w3.heap.size v5 (es ++ rgl 1 fun _ => f s)) from HO5'.out.below hbd)
      have HB6 := (show Hid (Below w3.heap.size w3 w5.drew) from HB5.out.drew)
      have k1 : w5.drew.cell? ⟨b, o + s * 8 + 1, none⟩ = some (.int .i64 (f s).kd) := AE5.out.below hbd 1 _ (fcs1 _)
      have k4 : w5.drew.cell? ⟨b, o + s * 8 + 4, none⟩ = some (.int .i64 (f s).wh) := AE5.out.below hbd 4 _ (fcs4 _)
      have v1 : w5.drew.cell? ⟨gv, 1, none⟩ = some (.int .i64 V.kd) := ((HG5.out.below hbd).fd).2.1
      have v4 : w5.drew.cell? ⟨gv, 4, none⟩ = some (.int .i64 V.wh) := ((HG5.out.below hbd).fd).2.2.2.2.1
      clear HO5' HB5 AE5 HG5 hbd
      refine wp_region_held_drew (S := fun X => (loadVar 26 ⟨b, o + s * 8, none⟩).run Try.prog X = .ok (.agg (f s).cs) X ∧ (loadVar 26 ⟨gv, 0, none⟩).run Try.prog X = .ok (.agg V.cs) X) (by kernel_rfl) S1 (fun hHeld => ?_)
      cases fnd with
      | true =>
        refine takeHr (i := 0) (d := some 44) (v := ?v28) rfl rfl (by kernel_rfl) (by kernel_rfl) (by kernel_rfl) (fun _ _ _ h => h) (Or.inl ⟨by rfl, ?hy28⟩) hHeld ?rest28
        case hy28 => intro X hSw; obtain ⟨g1, g2⟩ := hSw; go_simp <;> with_reducible rfl
        try simp only [Act.put, List.setIfInBounds_toArray, List.set_cons_zero, List.set_cons_succ]
        refine takeHr (i := 1) (d := some 45) (v := ?v29) rfl rfl (by kernel_rfl) (by kernel_rfl) (by kernel_rfl) (fun _ _ _ h => h) (Or.inl ⟨by rfl, ?hy29⟩) hHeld ?rest29
        case hy29 => intro X hSw; obtain ⟨g1, g2⟩ := hSw; go_simp <;> with_reducible rfl
        try simp only [Act.put, List.setIfInBounds_toArray, List.set_cons_zero, List.set_cons_succ]
        refine takeHr (i := 2) (d := some 46) (v := undef) rfl rfl (by kernel_rfl) (by kernel_rfl) (by kernel_rfl) (fun _ _ _ h => h) (Or.inr ⟨by rfl, rfl⟩) hHeld ?_
        try simp only [Act.put, List.setIfInBounds_toArray, List.set_cons_zero, List.set_cons_succ]
        refine takeHr (i := 3) (d := some 47) (v := undef) rfl rfl (by kernel_rfl) (by kernel_rfl) (by kernel_rfl) (fun _ _ _ h => h) (Or.inr ⟨by rfl, rfl⟩) hHeld ?_
        try simp only [Act.put, List.setIfInBounds_toArray, List.set_cons_zero, List.set_cons_succ]
        refine takeHr (i := 4) (d := some 48) (v := undef) rfl rfl (by kernel_rfl) (by kernel_rfl) (by kernel_rfl) (fun _ _ _ h => h) (Or.inr ⟨by rfl, rfl⟩) hHeld ?_
        try simp only [Act.put, List.setIfInBounds_toArray, List.set_cons_zero, List.set_cons_succ]
        refine takeHr (i := 5) (d := some 49) (v := undef) rfl rfl (by kernel_rfl) (by kernel_rfl) (by kernel_rfl) (fun _ _ _ h => h) (Or.inr ⟨by rfl, rfl⟩) hHeld ?_
        try simp only [Act.put, List.setIfInBounds_toArray, List.set_cons_zero, List.set_cons_succ]
        refine takeHr (i := 6) (d := some 50) (v := undef) rfl rfl (by kernel_rfl) (by kernel_rfl) (by kernel_rfl) (fun _ _ _ h => h) (Or.inr ⟨by rfl, rfl⟩) hHeld ?_
        try simp only [Act.put, List.setIfInBounds_toArray, List.set_cons_zero, List.set_cons_succ]
        refine takeHr (i := 7) (d := some 51) (v := undef) rfl rfl (by kernel_rfl) (by kernel_rfl) (by kernel_rfl) (fun _ _ _ h => h) (Or.inr ⟨by rfl, rfl⟩) hHeld ?_
        try simp only [Act.put, List.setIfInBounds_toArray, List.set_cons_zero, List.set_cons_succ]
        refine takeHr (i := 8) (d := some 52) (v := ?v36) rfl rfl (by kernel_rfl) (by kernel_rfl) (by kernel_rfl) (fun _ _ _ h => h) (Or.inl ⟨by rfl, ?hy36⟩) hHeld ?rest36
        case hy36 => intro X hSw; obtain ⟨g1, g2⟩ := hSw; go_simp <;> with_reducible rfl
        try simp only [Act.put, List.setIfInBounds_toArray, List.set_cons_zero, List.set_cons_succ]
        refine takeHr (i := 9) (d := some 6) (v := ?v37) rfl rfl (by kernel_rfl) (by kernel_rfl) (by kernel_rfl) (fun _ _ _ h => h) (Or.inl ⟨by rfl, ?hy37⟩) hHeld ?rest37
        case hy37 => intro X hSw; obtain ⟨g1, g2⟩ := hSw; go_simp <;> with_reducible rfl
        try simp only [Act.put, List.setIfInBounds_toArray, List.set_cons_zero, List.set_cons_succ]
        refine wpAnyH_done (by kernel_rfl) ?_ _
        clear hHeld S1 HF
        generalize w5.drew = w6 at *
        cases uns with
        | true =>
          by_cases hk : (f s).kd = V.kd
          · have d1 : ((f s).kd == V.kd) = true := by simp [hk]
            have d2 := whole_ok HBe.out hk
            have d3 : decide ((f s).wh < V.wh) = false := decide_eq_false d2
            clear hk
            go_wp2_with (fail)
            go_quiet (fail)
            go_wp2_with (fail)
            rw [HZW.out]
            exact ⟨⟨s, z', es ++ rgl 1 (fun _ => f s), true, true, Nat.le_of_lt HS.out, rfl, rfl, rfl, HZ2.out, (show Of _ _ _ _ from HO6.out.below (below_drN (Below.refl _ _) _)), HR5.out, (by show s ≤ iv → true = true; exact fun _ => rfl), (by show true = true → V.kd = 2; exact fun _ => HU.out trivial), below_drN HB6.out _⟩, HM.out⟩
          · have d1 : ((f s).kd == V.kd) = false := by simp [hk]
            clear hk
            go_wp2_with (fail)
            go_quiet (fail)
            go_wp2_with (fail)
            rw [HZW.out]
            exact ⟨⟨s, z', es ++ rgl 1 (fun _ => f s), true, true, Nat.le_of_lt HS.out, rfl, rfl, rfl, HZ2.out, (show Of _ _ _ _ from HO6.out.below (below_drN (Below.refl _ _) _)), HR5.out, (by show s ≤ iv → true = true; exact fun _ => rfl), (by show true = true → V.kd = 2; exact fun _ => HU.out trivial), below_drN HB6.out _⟩, HM.out⟩
        | false =>
          by_cases hk : (f s).kd = V.kd
          · have d1 : ((f s).kd == V.kd) = true := by simp [hk]
            have d2 := whole_ok HBe.out hk
            have d3 : decide ((f s).wh < V.wh) = false := decide_eq_false d2
            clear hk
            go_wp2_with (fail)
            go_quiet (fail)
            go_wp2_with (fail)
            rw [HZW.out]
            exact ⟨⟨s, z', es ++ rgl 1 (fun _ => f s), true, ((f s).kd == 2), Nat.le_of_lt HS.out, rfl, rfl, rfl, HZ2.out, (show Of _ _ _ _ from HO6.out.below (below_drN (Below.refl _ _) _)), HR5.out, (by show s ≤ iv → true = true; exact fun _ => rfl), (by show ((f s).kd == 2) = true → V.kd = 2; intro h; exact uns_ok HBe.out (by simpa using h)), below_drN HB6.out _⟩, HM.out⟩
          · have d1 : ((f s).kd == V.kd) = false := by simp [hk]
            clear hk
            go_wp2_with (fail)
            go_quiet (fail)
            go_wp2_with (fail)
            rw [HZW.out]
            exact ⟨⟨s, z', es ++ rgl 1 (fun _ => f s), true, ((f s).kd == 2), Nat.le_of_lt HS.out, rfl, rfl, rfl, HZ2.out, (show Of _ _ _ _ from HO6.out.below (below_drN (Below.refl _ _) _)), HR5.out, (by show s ≤ iv → true = true; exact fun _ => rfl), (by show ((f s).kd == 2) = true → V.kd = 2; intro h; exact uns_ok HBe.out (by simpa using h)), below_drN HB6.out _⟩, HM.out⟩
      | false =>
        refine takeHr (i := 0) (d := some 44) (v := ?v38) rfl rfl (by kernel_rfl) (by kernel_rfl) (by kernel_rfl) (fun _ _ _ h => h) (Or.inl ⟨by rfl, ?hy38⟩) hHeld ?rest38
        case hy38 => intro X hSw; obtain ⟨g1, g2⟩ := hSw; go_simp <;> with_reducible rfl
        try simp only [Act.put, List.setIfInBounds_toArray, List.set_cons_zero, List.set_cons_succ]
        refine takeHr (i := 1) (d := some 45) (v := ?v39) rfl rfl (by kernel_rfl) (by kernel_rfl) (by kernel_rfl) (fun _ _ _ h => h) (Or.inl ⟨by rfl, ?hy39⟩) hHeld ?rest39
        case hy39 => intro X hSw; obtain ⟨g1, g2⟩ := hSw; go_simp <;> with_reducible rfl
        try simp only [Act.put, List.setIfInBounds_toArray, List.set_cons_zero, List.set_cons_succ]
        refine takeHr (i := 2) (d := some 46) (v := ?v40) rfl rfl (by kernel_rfl) (by kernel_rfl) (by kernel_rfl) (fun _ _ _ h => h) (Or.inl ⟨by rfl, ?hy40⟩) hHeld ?rest40
        case hy40 => intro X hSw; obtain ⟨g1, g2⟩ := hSw; go_simp <;> with_reducible rfl
        try simp only [Act.put, List.setIfInBounds_toArray, List.set_cons_zero, List.set_cons_succ]
        refine takeHr (i := 3) (d := some 47) (v := ?v41) rfl rfl (by kernel_rfl) (by kernel_rfl) (by kernel_rfl) (fun _ _ _ h => h) (Or.inl ⟨by rfl, ?hy41⟩) hHeld ?rest41
        case hy41 => intro X hSw; obtain ⟨g1, g2⟩ := hSw; go_simp <;> with_reducible rfl
        try simp only [Act.put, List.setIfInBounds_toArray, List.set_cons_zero, List.set_cons_succ]
        refine takeHr (i := 4) (d := some 48) (v := ?v42) rfl rfl (by kernel_rfl) (by kernel_rfl) (by kernel_rfl) (fun _ _ _ h => h) (Or.inl ⟨by rfl, ?hy42⟩) hHeld ?rest42
        case hy42 => intro X hSw; obtain ⟨g1, g2⟩ := hSw; go_simp <;> with_reducible rfl
        try simp only [Act.put, List.setIfInBounds_toArray, List.set_cons_zero, List.set_cons_succ]
        refine takeHr (i := 5) (d := some 49) (v := .agg (f s).cs) rfl rfl (by kernel_rfl) (by kernel_rfl) (by kernel_rfl) (fun _ _ _ h => h) (Or.inl ⟨by rfl, ?hy43⟩) hHeld ?rest43
        case hy43 => intro X hSw; exact ex_ldR rfl rfl hSw.1
        try simp only [Act.put, List.setIfInBounds_toArray, List.set_cons_zero, List.set_cons_succ]
        refine takeHr (i := 6) (d := some 50) (v := .agg V.cs) rfl rfl (by kernel_rfl) (by kernel_rfl) (by kernel_rfl) (fun _ _ _ h => h) (Or.inl ⟨by rfl, ?hy44⟩) hHeld ?rest44
        case hy44 => intro X hSw; exact ex_ldR rfl rfl hSw.2
        try simp only [Act.put, List.setIfInBounds_toArray, List.set_cons_zero, List.set_cons_succ]
        refine takeHr (i := 7) (d := some 51) (v := .bool (feq (f s) V)) rfl rfl (by kernel_rfl) (by kernel_rfl) (by kernel_rfl) (fun _ _ _ h => h) (Or.inl ⟨by rfl, ?hy45⟩) hHeld ?rest45
        case hy45 => intro X hSw; exact ex_bin rfl rfl rfl (by kernel_rfl) (eql_fi _ _ _)
        try simp only [Act.put, List.setIfInBounds_toArray, List.set_cons_zero, List.set_cons_succ]
        refine takeHr (i := 8) (d := some 52) (v := ?v46) rfl rfl (by kernel_rfl) (by kernel_rfl) (by kernel_rfl) (fun _ _ _ h => h) (Or.inl ⟨by rfl, ?hy46⟩) hHeld ?rest46
        case hy46 => intro X hSw; obtain ⟨g1, g2⟩ := hSw; go_simp <;> with_reducible rfl
        try simp only [Act.put, List.setIfInBounds_toArray, List.set_cons_zero, List.set_cons_succ]
        refine takeHr (i := 9) (d := some 6) (v := ?v47) rfl rfl (by kernel_rfl) (by kernel_rfl) (by kernel_rfl) (fun _ _ _ h => h) (Or.inl ⟨by rfl, ?hy47⟩) hHeld ?rest47
        case hy47 => intro X hSw; obtain ⟨g1, g2⟩ := hSw; go_simp <;> with_reducible rfl
        try simp only [Act.put, List.setIfInBounds_toArray, List.set_cons_zero, List.set_cons_succ]
        refine wpAnyH_done (by kernel_rfl) ?_ _
        have HFQ := (show Hid (s ≤ iv → feq (f s) V = true) from by
          show s ≤ iv → feq (f s) V = true
          intro h
          by_cases e : s = iv
          · exact (feq_iff _ _).2 (by rw [e]; exact HI.out.2)
          · exact absurd (HF.out (by omega)) (by decide))
        clear hHeld S1 HF
        generalize w5.drew = w6 at *
        cases uns with
        | true =>
          by_cases hk : (f s).kd = V.kd
          · have d1 : ((f s).kd == V.kd) = true := by simp [hk]
            have d2 := whole_ok HBe.out hk
            have d3 : decide ((f s).wh < V.wh) = false := decide_eq_false d2
            clear hk
            go_wp2_with (fail)
            go_quiet (fail)
            go_wp2_with (fail)
            rw [HZW.out]
            exact ⟨⟨s, z', es ++ rgl 1 (fun _ => f s), feq (f s) V, true, Nat.le_of_lt HS.out, rfl, rfl, rfl, HZ2.out, (show Of _ _ _ _ from HO6.out.below (below_drN (Below.refl _ _) _)), HR5.out, HFQ.out, (by show true = true → V.kd = 2; exact fun _ => HU.out trivial), below_drN HB6.out _⟩, HM.out⟩
          · have d1 : ((f s).kd == V.kd) = false := by simp [hk]
            clear hk
            go_wp2_with (fail)
            go_quiet (fail)
            go_wp2_with (fail)
            rw [HZW.out]
            exact ⟨⟨s, z', es ++ rgl 1 (fun _ => f s), feq (f s) V, true, Nat.le_of_lt HS.out, rfl, rfl, rfl, HZ2.out, (show Of _ _ _ _ from HO6.out.below (below_drN (Below.refl _ _) _)), HR5.out, HFQ.out, (by show true = true → V.kd = 2; exact fun _ => HU.out trivial), below_drN HB6.out _⟩, HM.out⟩
        | false =>
          by_cases hk : (f s).kd = V.kd
          · have d1 : ((f s).kd == V.kd) = true := by simp [hk]
            have d2 := whole_ok HBe.out hk
            have d3 : decide ((f s).wh < V.wh) = false := decide_eq_false d2
            clear hk
            go_wp2_with (fail)
            go_quiet (fail)
            go_wp2_with (fail)
            rw [HZW.out]
            exact ⟨⟨s, z', es ++ rgl 1 (fun _ => f s), feq (f s) V, ((f s).kd == 2), Nat.le_of_lt HS.out, rfl, rfl, rfl, HZ2.out, (show Of _ _ _ _ from HO6.out.below (below_drN (Below.refl _ _) _)), HR5.out, HFQ.out, (by show ((f s).kd == 2) = true → V.kd = 2; intro h; exact uns_ok HBe.out (by simpa using h)), below_drN HB6.out _⟩, HM.out⟩
          · have d1 : ((f s).kd == V.kd) = false := by simp [hk]
            clear hk
            go_wp2_with (fail)
            go_quiet (fail)
            go_wp2_with (fail)
            rw [HZW.out]
            exact ⟨⟨s, z', es ++ rgl 1 (fun _ => f s), feq (f s) V, ((f s).kd == 2), Nat.le_of_lt HS.out, rfl, rfl, rfl, HZ2.out, (show Of _ _ _ _ from HO6.out.below (below_drN (Below.refl _ _) _)), HR5.out, HFQ.out, (by show ((f s).kd == 2) = true → V.kd = 2; intro h; exact uns_ok HBe.out (by simpa using h)), below_drN HB6.out _⟩, HM.out⟩
theorem auditOrder_walk {w : World} {p : Option Addr} {n c : Nat} {f : Nat → Fi} (HS : FL w p n f) (hn : n * 72 ≤ 140737488355328) :
    Calls Try.prog 4 #[.slice p n c] w fun e w' => e = .returned (.bool true) ∧ Below w.heap.size w w' := by
  cases n with
  | zero => exact auditOrder_none (f := f)
  | succ m => exact auditOrder_some HS hn (Nat.succ_pos m)
end
end Go.Proofs.Ytnnepmofhedkpaa
