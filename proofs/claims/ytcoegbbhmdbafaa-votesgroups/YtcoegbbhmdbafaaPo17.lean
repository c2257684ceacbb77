/-
  The document's own functions of layer 17: Possible.
-/
import Derived.Test.YtcoegbbhmdbafaaVz17
import Derived.Test.YtcoegbbhmdbafaaPm17
namespace Go.Proofs.Ytcoegbbhmdbafaa
open Go.RowKit
theorem step_alV {ops : Array Oper} {o : Oper} {a : Act} {w : World} {K : Act → World → Prop} {Q : Exit → Act → World → Prop} {E : Prop} (hgd : o.guard = none) (ho : o.op = .alloc 41)
    (h : ∀ g w', GB w' g 41 (vdC 0 (0, 0, 0) (.slice none 0 0)) → Below w.heap.size w w' → Hid (w.heap.size ≤ g) → K (a.put o.dst (.pointer (some ⟨g, 0, none⟩))) w') : if Region.wanted o (yielded ops a.tmps) = true then Oper.wp Try.prog o a w K Q else E := by
  have hw : Region.wanted o (yielded ops a.tmps) = true := by simp [Region.wanted, hgd]
  rw [if_pos hw]
  have h2 := h w.heap.size (w.alloc (.cells (vdC 0 (0, 0, 0) (.slice none 0 0)) 41)) (GB.new w _ _) ((Below.refl _ _).alloc (Nat.le_refl _) _) (Nat.le_refl _)
  unfold Oper.wp execOp
  simp only [ho, Sem.run_bind, Instr.alloc, newVar, newRow, vd0, run_newObj_alloc, Sem.run_pure, Result.andThen_ok, Value.cells]
  exact h2
theorem wpList_apX {w : World} {ops : Array Oper} {rest : List Oper} {o : Oper} {a : Act} {Q : Exit → Act → World → Prop} (hgd : o.guard = none) (s x : Operand) (ho : o.op = .call { callee := .builtin .append, args := #[s, x], argTypes := #[25, 25] })
    (base : Nat) (v : Value) (es : List (Wg × Sl3)) (e : Wg × Sl3) (hs : a.eval s = v) (hown : Ox w base v es) (g c : Nat) (hx : a.eval x = .slice (some ⟨g, 0, none⟩) 1 c) (hr : GB w g 68 (grE e).toArray) (hm : es.length + 1 ≤ 2932031007402) (hbase : base ≤ w.heap.size)
    (h : ∀ v' w', Ox w' base v' (es ++ [e]) → w.grownBy w' v.ownBlock → wpList Try.prog ops Q rest (a.put o.dst v') w') : wpList Try.prog ops Q (o :: rest) a w := by
  obtain ⟨i0, hi, hz0, hz1, hz2⟩ := info_parts infoX
  have S : ∀ j t, (grE e)[j]? = some t → w.cell? (Addr.add ⟨g, 0, none⟩ j) = some t := by
    intro j t ht
    rw [add_pl, Nat.zero_add, hr.cell]
    simpa using ht
  refine wpList_append_own _ hgd _ _ 25 ho base 68 i0 (.agg #[.int .i64 0, .int .i64 0, .int .i64 0, .slice none 0 0]) 4 48 Try.underlying25 hi hz0 hz1 hz2 rfl (by decide) v es.length _ hs hown ⟨g, 0, none⟩ 1 c (grE e) hx rfl S (by intro t ht; simp [grE] at ht; rcases ht with rfl | rfl | rfl | rfl <;> rfl) (by unfold maxLen; omega) (by omega) hbase ?_
  intro v' w' ho' hg _
  refine h v' w' ?_ hg
  unfold Ox
  simpa using ho'
theorem wpList_bsX {w : World} {ops : Array Oper} {rest : List Oper} {o : Oper} {a : Act} {Q : Exit → Act → World → Prop} (hgd : o.guard = none) (x : Operand) (ho : o.op = .buildSlice 25 1 #[(0, x)]) (e : Wg × Sl3) (hx : a.eval x = .agg (grE e).toArray)
    (h : ∀ w', GB w' w.heap.size 68 (grE e).toArray → Below w.heap.size w w' → Hid (w'.heap.size = w.heap.size + 1) → wpList Try.prog ops Q rest (a.put o.dst (.slice (some ⟨w.heap.size, 0, none⟩) 1 1)) w') : wpList Try.prog ops Q (o :: rest) a w := by
  refine wpList_plain hgd fun K hK => ?_
  have h2 := hK _ _ (h _ (GB.new w _ _) ((Below.refl _ _).alloc (Nat.le_refl _) _) (by show _ = _; simp))
  have h3 := step_bsX (ops := ops) (Q := Q) (E := True) hgd x ho e hx h2
  have hw : Region.wanted o (yielded ops a.tmps) = true := by simp [Region.wanted, hgd]
  rw [if_pos hw] at h3
  exact h3
theorem Al.youngX {w w' : World} {B : Nat} {v : Value} {es es' : List (Wg × Sl3)} {L : List Grp} (h : Al w B es L) (hv : Ox w B v es') (hg : w.grownBy w' v.ownBlock) : Al w' B es L :=
  ⟨h.1, fun i hi => ⟨(h.2 i hi).1, (h.2 i hi).2.1, (h.2 i hi).2.2.kept hg (fun e => by have h1 := (World.ownsRow.lt hv _ e).1; have h2 := (h.2 i hi).2.1; omega)⟩⟩
theorem rgl_oxA {w : World} {B B' : Nat} {v : Value} {es : List (Wg × Sl3)} {L : List Grp} (h : Ox w B v es) (hA : Al w B' es L) : Rgl w v L := by
  obtain ⟨p, cap, e, hc, hr⟩ := h.sm
  have hl := hA.1
  refine ⟨p, cap, B', es, by rw [e, hl], by omega, hA, ?_⟩
  rcases hr with h1 | ⟨g, e1, h1⟩
  · subst h1
    exact .inl (List.length_eq_zero_iff.1 (by rw [← hl]; rfl))
  · exact .inr ⟨g, 0, e1, fun i hi j u hu => by rw [Nat.zero_add]; exact h1 i (by omega) j u hu⟩
theorem size_Gx0 : (Try.prog.info? 68).map (·.size) = some 4 := by kernel_rfl
theorem size_Gx (x : Wg × Sl3) : (Try.prog.info? 68).map (·.size) = some (grE x).toArray.size := size_Gx0
theorem ox_run {w : World} {B g m cap : Nat} {es : List (Wg × Sl3)} (h : Ox w B (.slice (some ⟨g, 0, none⟩) m cap) es) {i : Nat} (hi : i < es.length) : (loadVar 68 ⟨g, i * 4, none⟩).run Try.prog w = .ok (.agg (grE (es.getD i ((0, 0, 0), (0, 0, 0)))).toArray) w := by
  obtain ⟨p, c, e, _, hr⟩ := h.sm
  obtain ⟨e1, _, _⟩ := Value.slice.inj e
  rcases hr with h1 | ⟨g', e2, h1⟩
  · subst h1; exact absurd hi (Nat.not_lt_zero i)
  · obtain rfl : g = g' := congrArg Addr.block (Option.some.inj (e1.trans e2))
    exact run_loadVar_at w g (i * 4) 68 _ _ (fun j v hj => h1 i hi j v (by simpa using hj)) Try.underlying68 rfl (size_Gx _)
theorem Ox.lt {w : World} {B g n c : Nat} {es : List (Wg × Sl3)} (h : Ox w B (.slice (some ⟨g, 0, none⟩) n c) es) : g < w.heap.size := (World.ownsRow.lt h g rfl).2
theorem Fd.below {w w' : World} {v : Value} {n : Nat} {ss : Nat → Sn} {s : Sn} (h : Fd w v n ss s) (hb : Below w.heap.size w w') : Fd w' v n ss s := by
  obtain ⟨p, c, ss', e, hS, he⟩ := h
  exact ⟨p, c, ss', e, hS.below hb, he⟩
theorem rjudge_fd (k m b : Int) {w : World} {v : Value} {n : Nat} {ss : Nat → Sn} {s : Sn} (h : Fd w v n ss s) (hn : n ≤ 1172812402943) :
    Calls Try.prog 16 #[.agg (shC k m b), v] w fun e w' => ∃ pv, e = .returned (.agg (vdC (jdg k m b (flS (shs ss) (s.kd, s.wg)) n).kd (jdg k m b (flS (shs ss) (s.kd, s.wg)) n).wg pv)) ∧ Rn w' pv (jdg k m b (flS (shs ss) (s.kd, s.wg)) n).pl ∧ Below w.heap.size w w' := by
  obtain ⟨p', c', ss', rfl, hS, he⟩ := h
  have h := rjudge_any k m b (c := c') hS hn
  rw [jdg_like (s := shs ss') (s' := flS (shs ss) (s.kd, s.wg)) (fun i hi => by
    show ((ss' i).kd, (ss' i).wg) = (if hdn (shs ss) i = true then (s.kd, s.wg) else shs ss i)
    rw [he i hi]
    unfold fl
    split <;> rfl) k m b] at h
  exact h
theorem ex_bdN {o : Oper} {a : Act} {X : World} (ho : o.op = .build 58 #[(0, .const (.int .i64 1))]) : (execOp a.eval o).run Try.prog X = .ok (.value (.agg snN.cs)) X := by
  have e : (Instr.build 58 #[(0, Value.int .i64 1)]).run Try.prog X = .ok (.agg snN.cs) X := by kernel_rfl
  unfold execOp
  simp only [ho, List.map_toArray, List.map_cons, List.map_nil, Act.eval, Sem.run_bind, e, Sem.run_pure, Result.andThen_ok]
theorem gb_vd {w : World} {g : Nat} {kd : Int} {k : Wg} {v : Value} (H : GB w g 41 (vdC kd k v)) : w.cell? ⟨g, 0, none⟩ = some (.int .i64 kd) ∧ w.cell? ⟨g, 1, none⟩ = some (.int .i64 k.1) ∧ w.cell? ⟨g, 2, none⟩ = some (.int .i64 k.2.1) ∧ w.cell? ⟨g, 3, none⟩ = some (.int .i64 k.2.2) := ⟨H.cell 0, H.cell 1, H.cell 2, H.cell 3⟩
section
attribute [local irreducible] Calls GB On Ox Ax Al slv grE grps shC Fd Sn.cs isV pss vdC Rn Rgl
set_option maxHeartbeats 32000000 in
set_option maxRecDepth 1000000 in
theorem rpossible_any (k m b : Int) {w : World} {p : Option Addr} {n c : Nat} {ss : Nat → Sn} (HS : SnL w p n ss) (hn : n ≤ 1172812402943) (hv : ∀ i, i < n → (ss i).bv.oneCell' = true) :
    Calls Try.prog 10 #[.agg (shC k m b), .slice p n c] w fun e w' => ∃ v, e = .returned (.tuple #[v, .bool (if fitB k m b n = true then (pss k (hid (shs ss) n) (grps (shs ss) n)).2 else false)]) ∧ Rgl w' v (if fitB k m b n = true then (pss k (hid (shs ss) n) (grps (shs ss) n)).1 else []) ∧ Below w.heap.size w w' := by
  have HL := (show Hid (SnL w p n ss) from HS)
  have HN := (show Hid (n ≤ 1172812402943) from hn)
  have HV := (show Hid (∀ i, i < n → (ss i).bv.oneCell' = true) from hv)
  have FT := (show Hid (∀ W : World, _) from fun W => rfits_any k m b W)
  have RN := (show Hid (∀ W : World, Rgl W (.slice none 0 0) []) from fun W => rgl_oxA (Ox.nil W 0) (Al.nil W 0))
  clear HS hn hv
  cases hs : shB k m b with
  | false =>
    rw [hs] at FT
    rw [fitB_no hs]
    simp only [Bool.false_eq_true, if_false]
    clear hs
    go_enter Try.func10, Try.ntmps10
    go_wp2_with (first
      | (refine wpList_bxB rfl _ rfl rfl ?_; intro w1 hG1 hb1 hs1)
      | (refine wpList_ldB rfl _ rfl w.heap.size rfl hG1 Try.underlying23 (size_Sp' _ _ _) ?_)
      | (go_at_call 23; refine (FT.out _).mono ?_; rintro e w3 ⟨rfl, hb3⟩))
    go_ret2
    exact ⟨_, rfl, RN.out _, bt hb1 hb3⟩
  | true =>
    rw [hs] at FT
    have hfy := fitB_yes (n := n) hs
    have hsh := (shB_iff k m b).1 hs
    unfold shp at hsh
    have wkm := add_kk (k := k) (m := m) (by omega) (by omega) (by omega)
    clear hs hsh
    by_cases hnk : (n : Int) = k + m
    · have d1 : ((n : Int) != k + m) = false := by simp [hnk]
      rw [decide_eq_true hnk] at hfy
      have HPV := (show Hid _ from pss_isV (s := shs ss) hfy)
      have HPN := (show Hid _ from pss_none (s := shs ss) hfy (0, 0, 0))
      rw [hfy, if_pos rfl, if_pos rfl]
      clear hnk hfy
      go_enter Try.func10, Try.ntmps10
      go_wp2_with (first
        | (refine wpList_bxB rfl _ rfl rfl ?_; intro w1 hG1 hb1 hs1)
        | (refine wpList_ldB rfl _ rfl w.heap.size rfl hG1 Try.underlying23 (size_Sp' _ _ _) ?_)
        | (go_at_call 23; refine (FT.out _).mono ?_; rintro e w3 ⟨rfl, hb3⟩; have HB3 := (show Hid (Below w.heap.size w w3) from bt hb1 hb3); obtain ⟨k0, k1⟩ := gb_sh (hG1.below hb3))
        | (go_at_call 9; refine (rgroups_any (HL.out.below HB3.out) HN.out).mono ?_; rintro e w5 ⟨v5, es, rfl, hO5, hA5, hb5⟩))
      have HL5 := (show Hid ((grps (shs ss) n).length ≤ 1172812402943) from by have := (isG_grps (shs ss) n).lenG; have := HN.out; show _ ≤ _; omega)
      have HB5 := (show Hid (Below w.heap.size w w5) from bt HB3.out hb5)
      have HG1 := (show Hid (GB w5 w.heap.size 23 (shC k m b)) from (hG1.below hb3).below hb5)
      have HWL := (show Hid (w.heap.size < w5.heap.size) from HG1.out.lt)
      obtain ⟨p6, cap6, e6, hc6, hrow6⟩ := hO5.sm
      subst e6
      have HO5 := (show Hid (Ox w5 w3.heap.size (.slice p6 es.length cap6) es) from hO5)
      have HA5 := (show Hid (Ax w5 w3.heap.size es (grps (shs ss) n)) from hA5)
      have HEL := (show Hid (es.length = (grps (shs ss) n).length) from hA5.len)
      have HR6 := (show Hid (_ ∨ _) from hrow6)
      rw [hA5.len]
      rw [hA5.len] at HO5
      clear hO5 hA5 hG1 FT k0 k1 hrow6 hc6
      generalize hgl : (grps (shs ss) n) = l at *
      have HEQ := (show Hid (grps (shs ss) n = l) from hgl)
      clear hgl
      obtain ⟨V, hV⟩ : ∃ V, V = (fun q : Grp => isV k m b (shs ss) n q.1) := ⟨_, rfl⟩
      have HVV := (show Hid (V = (fun q : Grp => isV k m b (shs ss) n q.1)) from hV)
      rw [← hV] at HPV
      clear hV
      go_loopw [7, 9] (fun v i wr => ∃ (t : Nat) (es2 : List (Wg × Sl3)), t ≤ l.length ∧ i = .int .i64 (t : Int) ∧ Hid (Ox wr w5.heap.size v es2) ∧ Hid (Al wr w5.heap.size es2 ((l.take t).filter V)) ∧ Hid (Below w5.heap.size w5 wr)) (fun _ i _ => l.length - (intOf i).toNat)
      case atStart => exact ⟨0, [], Nat.zero_le _, rfl, Ox.nil _ _, by show Al _ _ _ _; rw [List.take_zero]; exact Al.nil _ _, Below.refl _ _⟩
      case round =>
        obtain ⟨t, es2, ht, rfl, HO2, HA2, hB⟩ := hrel
        obtain ⟨W0, hW0⟩ : ∃ W0, W0 = wr := ⟨_, rfl⟩
        subst hW0
        have bd : Below W0.heap.size W0 W0.drew := (Below.refl _ _).drew
        have HGS := (show Hid (GB W0.drew w.heap.size 23 (shC k m b)) from HG1.out.below (bt hB.out bd))
        by_cases hlt : t < l.length
        · have hi : (t : Int) < (l.length : Int) := by omega
          obtain ⟨g, epv, hrow⟩ : ∃ g, p6 = some ⟨g, 0, none⟩ ∧ ∀ i, i < es.length → ∀ j u, (grE (es.getD i ((0, 0, 0), (0, 0, 0))))[j]? = some u → w5.cell? ⟨g, i * 4 + j, none⟩ = some u := by
            rcases HR6.out with h | h
            · have := HEL.out; rw [h] at this; simp at this; omega
            · exact h
          subst epv
          have HTE := (show Hid (t < es.length) from by show _ < _; rw [HEL.out]; exact hlt)
          have hk := HA5.out.key hlt
          have hpl := HA5.out.at hlt
          have y0 := hrow t HTE.out 0
          have y1 := hrow t HTE.out 1
          have y2 := hrow t HTE.out 2
          have HW0 := (show Hid (w.heap.size < W0.heap.size ∧ g < W0.heap.size) from ⟨by have := HWL.out; have := hB.out.size; omega, by have := HO5.out.lt; have := hB.out.size; omega⟩)
          have WT := (show Hid (wrap64 ((t : Int) + 1) = ((t + 1 : Nat) : Int)) from by have := HL5.out; show _ = _; unfold wrap64; omega)
          have HT := (show Hid (t < l.length) from hlt)
          have TS := (show Hid _ from take_snoc hlt V)
          have HES := (show Hid (es2.length + 1 ≤ 2932031007402) from by
            have h0 := HA2.out
            unfold Al at h0
            have h1 := h0.1
            have h2 := List.length_filter_le V (l.take t)
            rw [List.length_take] at h2
            have h3 := HL5.out
            show _ ≤ _
            omega)
          obtain ⟨x, hxx⟩ : ∃ x, es.getD t ((0, 0, 0), (0, 0, 0)) = x := ⟨_, rfl⟩
          have HXX := (show Hid (es.getD t ((0, 0, 0), (0, 0, 0)) = x) from hxx)
          rw [hxx] at hk hpl y0 y1 y2
          generalize l.getD t ((0, 0, 0), []) = qq at *
          obtain ⟨q, qL⟩ := qq
          have HXK := (show Hid (x.1 = q) from hk)
          have HXB := (show Hid (x.2.1 < w5.heap.size) from (hpl.blk (slv_blk _)).2)
          have HRn := (show Hid (Rn W0 (slv x.2) qL) from hpl.rn.below hB.out)
          have hV := congrFun HVV.out (q, qL)
          unfold isV at hV
          unfold grE at y0 y1 y2
          replace y0 := cell_below (y0 _ rfl) hB.out
          replace y1 := cell_below (y1 _ rfl) hB.out
          replace y2 := cell_below (y2 _ rfl) hB.out
          rw [Nat.add_zero] at y0
          rw [hk] at y0 y1 y2
          simp only at y0 y1 y2 hV
          obtain ⟨sX, hsX⟩ : ∃ sX, sX = snW q := ⟨_, rfl⟩
          obtain ⟨J, hJ⟩ : ∃ J, jdg k m b (flS (shs ss) (2, q)) n = J := ⟨_, rfl⟩
          rw [hJ] at hV
          have SH := (show Hid (∀ W : World, Calls Try.prog 28 #[.agg #[.int .i64 q.1, .int .i64 q.2.1], .int .i64 q.2.2] W fun e w' => e = .returned (.agg sX.cs) ∧ Below W.heap.size W w') from fun W => hsX ▸ rshown_any q W)
          have FI := (show Hid (∀ W : World, Below W0.heap.size W0 W → Calls Try.prog 30 #[.slice p n c, .agg sX.cs] W fun e w' => ∃ v, e = .returned v ∧ Fd w' v n ss sX ∧ Below W.heap.size W w') from fun W hW => rfilled_any (((HL.out.below HB5.out).below hB.out).below hW) HN.out HV.out sX (by rw [hsX]; rfl))
          have JU := (show Hid (∀ (W : World) (v : Value), Fd W v n ss sX → Calls Try.prog 16 #[.agg (shC k m b), v] W fun e w' => ∃ pv, e = .returned (.agg (vdC J.kd J.wg pv)) ∧ Rn w' pv J.pl ∧ Below W.heap.size W w') from fun W v hF => by
            have h := rjudge_fd k m b hF HN.out
            rw [hsX, show ((snW q).kd, (snW q).wg) = ((2 : Int), q) from rfl, hJ] at h
            exact h)
          have HVt' := (show Hid (V (q, qL) = (decide (J.kd = 1) && decide (J.wg = q))) from hV)
          have z0 := cell_below y0 bd
          have z1 := cell_below y1 bd
          have z2 := cell_below y2 bd
          have Y0 := (show Hid _ from y0)
          have Y1 := (show Hid _ from y1)
          have Y2 := (show Hid _ from y2)
          clear hrow hk hpl hxx hV hJ hsX hlt ht y0 y1 y2
          go_wp2_with (fail)
          go_cut [10] (fun v wx => ∃ (gv : Nat) (pv : Value), v = .pointer (some ⟨gv, 0, none⟩) ∧ Hid (GB wx gv 41 (vdC J.kd J.wg pv)) ∧ Hid (Below W0.heap.size W0 wx))
          case first =>
            have HBc := (show Hid (Below W0.heap.size W0 W0.drew) from bd)
            refine wp_region_held_drew (S := fun X => GB X w.heap.size 23 (shC k m b) ∧ X.cell? ⟨g, t * 4, none⟩ = some (.int .i64 q.1) ∧ X.cell? ⟨g, t * 4 + 1, none⟩ = some (.int .i64 q.2.1) ∧ X.cell? ⟨g, t * 4 + 2, none⟩ = some (.int .i64 q.2.2)) (by kernel_rfl) ⟨HGS.out, z0, z1, z2⟩ (fun hHeld => ?_)
            clear z0 z1 z2
            refine takeHr (i := 0) (d := some 34) (v := .agg (shC k m b)) rfl rfl (by kernel_rfl) (by kernel_rfl) (by kernel_rfl) (fun _ _ _ h => h) (Or.inl ⟨by rfl, ?hy1⟩) hHeld ?rest1
            case hy1 => intro X hSw; exact ex_ldB _ rfl w.heap.size rfl hSw.1 Try.underlying23 (size_Sp' _ _ _)
            try simp only [Act.put, List.setIfInBounds_toArray, List.set_cons_zero, List.set_cons_succ]
            refine takeHr (i := 1) (d := some 35) (v := ?v2) rfl rfl (by kernel_rfl) (by kernel_rfl) (by kernel_rfl) (fun _ _ _ h => h) (Or.inl ⟨by rfl, ?hy2⟩) hHeld ?rest2
            case hy2 => intro X hSw; obtain ⟨_, g0, g1, g2⟩ := hSw; go_simp <;> with_reducible rfl
            try simp only [Act.put, List.setIfInBounds_toArray, List.set_cons_zero, List.set_cons_succ]
            refine takeHr (i := 2) (d := some 36) (v := ?v3) rfl rfl (by kernel_rfl) (by kernel_rfl) (by kernel_rfl) (fun _ _ _ h => h) (Or.inl ⟨by rfl, ?hy3⟩) hHeld ?rest3
            case hy3 => intro X hSw; obtain ⟨_, g0, g1, g2⟩ := hSw; go_simp <;> with_reducible rfl
            try simp only [Act.put, List.setIfInBounds_toArray, List.set_cons_zero, List.set_cons_succ]
            refine takeHr (i := 3) (d := some 37) (v := ?v4) rfl rfl (by kernel_rfl) (by kernel_rfl) (by kernel_rfl) (fun _ _ _ h => h) (Or.inl ⟨by rfl, ?hy4⟩) hHeld ?rest4
            case hy4 => intro X hSw; obtain ⟨_, g0, g1, g2⟩ := hSw; go_simp <;> with_reducible rfl
            try simp only [Act.put, List.setIfInBounds_toArray, List.set_cons_zero, List.set_cons_succ]
            refine takeHr (i := 4) (d := some 38) (v := .pointer (some ⟨g, t * 4, none⟩)) rfl rfl (by kernel_rfl) (by kernel_rfl) (by kernel_rfl) (fun _ _ _ h => h) (Or.inl ⟨by rfl, ?hy5⟩) hHeld ?rest5
            case hy5 => intro X hSw; obtain ⟨_, g0, g1, g2⟩ := hSw; go_simp <;> with_reducible rfl
            try simp only [Act.put, List.setIfInBounds_toArray, List.set_cons_zero, List.set_cons_succ]
            refine takeHr (i := 5) (d := some 39) (v := ?v6) rfl rfl (by kernel_rfl) (by kernel_rfl) (by kernel_rfl) (fun _ _ _ h => h) (Or.inl ⟨by rfl, ?hy6⟩) hHeld ?rest6
            case hy6 => intro X hSw; obtain ⟨_, g0, g1, g2⟩ := hSw; go_simp <;> with_reducible rfl
            try simp only [Act.put, List.setIfInBounds_toArray, List.set_cons_zero, List.set_cons_succ]
            refine takeHr (i := 6) (d := some 40) (v := ?v7) rfl rfl (by kernel_rfl) (by kernel_rfl) (by kernel_rfl) (fun _ _ _ h => h) (Or.inl ⟨by rfl, ?hy7⟩) hHeld ?rest7
            case hy7 => intro X hSw; obtain ⟨_, g0, g1, g2⟩ := hSw; go_simp <;> with_reducible rfl
            try simp only [Act.put, List.setIfInBounds_toArray, List.set_cons_zero, List.set_cons_succ]
            refine takeHr (i := 7) (d := some 41) (v := ?v8) rfl rfl (by kernel_rfl) (by kernel_rfl) (by kernel_rfl) (fun _ _ _ h => h) (Or.inl ⟨by rfl, ?hy8⟩) hHeld ?rest8
            case hy8 => intro X hSw; obtain ⟨_, g0, g1, g2⟩ := hSw; go_simp <;> with_reducible rfl
            try simp only [Act.put, List.setIfInBounds_toArray, List.set_cons_zero, List.set_cons_succ]
            refine takeHr (i := 8) (d := some 42) (v := ?v9) rfl rfl (by kernel_rfl) (by kernel_rfl) (by kernel_rfl) (fun _ _ _ h => h) (Or.inl ⟨by rfl, ?hy9⟩) hHeld ?rest9
            case hy9 => intro X hSw; obtain ⟨_, g0, g1, g2⟩ := hSw; go_simp <;> with_reducible rfl
            try simp only [Act.put, List.setIfInBounds_toArray, List.set_cons_zero, List.set_cons_succ]
            refine takeHr (i := 9) (d := some 43) (v := .pointer (some ⟨g, t * 4, none⟩)) rfl rfl (by kernel_rfl) (by kernel_rfl) (by kernel_rfl) (fun _ _ _ h => h) (Or.inl ⟨by rfl, ?hy10⟩) hHeld ?rest10
            case hy10 => intro X hSw; obtain ⟨_, g0, g1, g2⟩ := hSw; go_simp <;> with_reducible rfl
            try simp only [Act.put, List.setIfInBounds_toArray, List.set_cons_zero, List.set_cons_succ]
            refine takeHr (i := 10) (d := some 44) (v := ?v11) rfl rfl (by kernel_rfl) (by kernel_rfl) (by kernel_rfl) (fun _ _ _ h => h) (Or.inl ⟨by rfl, ?hy11⟩) hHeld ?rest11
            case hy11 => intro X hSw; obtain ⟨_, g0, g1, g2⟩ := hSw; go_simp <;> with_reducible rfl
            try simp only [Act.put, List.setIfInBounds_toArray, List.set_cons_zero, List.set_cons_succ]
            refine takeHr (i := 11) (d := some 45) (v := ?v12) rfl rfl (by kernel_rfl) (by kernel_rfl) (by kernel_rfl) (fun _ _ _ h => h) (Or.inl ⟨by rfl, ?hy12⟩) hHeld ?rest12
            case hy12 => intro X hSw; obtain ⟨_, g0, g1, g2⟩ := hSw; go_simp <;> with_reducible rfl
            try simp only [Act.put, List.setIfInBounds_toArray, List.set_cons_zero, List.set_cons_succ]
            refine wpAnyH_ready (rs := [12, 15]) (by kernel_rfl) (by simp) ?_
            refine AllReadyH.cons (o := { dst := some 46, op := Op.call { callee := Callee.value (Operand.func 28), args := #[Operand.tmp 40, Operand.tmp 45], argTypes := #[38, 3] }, type := 58, pos := "votes.go:146", after := #[{ on := 6, ground := Ground.data }, { on := 11, ground := Ground.data }], guard := none }) rfl (fun Kq hKq => ?_) (AllReadyH.cons (o := { dst := some 10, op := Op.alloc 41, type := 0, pos := "votes.go:146", after := #[], guard := none }) rfl (fun Kq hKq => ?_) AllReadyH.nil)
            · go_simp
              refine (SH.out _).mono ?_
              rintro e w13x ⟨rfl, hb13⟩
              replace HBc := (show Hid _ from bt HBc.out hb13)
              try replace HGV := (show Hid _ from HGV.out.below hb13)
              try replace HFD := (show Hid _ from Fd.below HFD.out hb13)
              refine hKq.out _ _ ⟨hHeld.1.below hb13, cell_below hHeld.2.1 hb13, cell_below hHeld.2.2.1 hb13, cell_below hHeld.2.2.2 hb13⟩ (fun hHeld => ?_)
              clear hKq Kq
              try simp only [Act.put, List.setIfInBounds_toArray, List.set_cons_zero, List.set_cons_succ]
              refine wpAnyH_ready (rs := [13, 15]) (by kernel_rfl) (by simp) ?_
              refine AllReadyH.cons (o := { dst := some 47, op := Op.call { callee := Callee.value (Operand.func 30), args := #[Operand.tmp 35, Operand.tmp 46], argTypes := #[24, 58] }, type := 24, pos := "votes.go:146", after := #[{ on := 1, ground := Ground.data }, { on := 12, ground := Ground.data }, { on := 12, ground := Ground.chain }], guard := none }) rfl (fun Kq hKq => ?_) (AllReadyH.cons (o := { dst := some 10, op := Op.alloc 41, type := 0, pos := "votes.go:146", after := #[], guard := none }) rfl (fun Kq hKq => ?_) AllReadyH.nil)
              · go_simp
                refine (FI.out _ HBc.out).mono ?_
                rintro e w14x ⟨v13, rfl, hF, hb14⟩
                replace HBc := (show Hid _ from bt HBc.out hb14)
                try replace HGV := (show Hid _ from HGV.out.below hb14)
                try replace HFD := (show Hid _ from Fd.below HFD.out hb14)
                have HFD := (show Hid (Fd _ v13 n ss sX) from hF)
                clear hF
                refine hKq.out _ _ ⟨hHeld.1.below hb14, cell_below hHeld.2.1 hb14, cell_below hHeld.2.2.1 hb14, cell_below hHeld.2.2.2 hb14⟩ (fun hHeld => ?_)
                clear hKq Kq
                try simp only [Act.put, List.setIfInBounds_toArray, List.set_cons_zero, List.set_cons_succ]
                refine wpAnyH_ready (rs := [14, 15]) (by kernel_rfl) (by simp) ?_
                refine AllReadyH.cons (o := { dst := some 48, op := Op.call { callee := Callee.value (Operand.func 16), args := #[Operand.tmp 34, Operand.tmp 47], argTypes := #[23, 24] }, type := 41, pos := "votes.go:146", after := #[{ on := 0, ground := Ground.data }, { on := 13, ground := Ground.data }, { on := 13, ground := Ground.chain }], guard := none }) rfl (fun Kq hKq => ?_) (AllReadyH.cons (o := { dst := some 10, op := Op.alloc 41, type := 0, pos := "votes.go:146", after := #[], guard := none }) rfl (fun Kq hKq => ?_) AllReadyH.nil)
                · go_simp
                  refine (JU.out _ _ HFD.out).mono ?_
                  rintro e w15x ⟨pv14, rfl, hR14, hb15⟩
                  have H1C := (show Hid (pv14.oneCell' = true) from by have h := hR14; unfold Rn at h; obtain ⟨_, _, h, _⟩ := h; rw [h]; rfl)
                  clear hR14
                  replace HBc := (show Hid _ from bt HBc.out hb15)
                  try replace HGV := (show Hid _ from HGV.out.below hb15)
                  try replace HFD := (show Hid _ from Fd.below HFD.out hb15)
                  refine hKq.out _ _ ⟨hHeld.1.below hb15, cell_below hHeld.2.1 hb15, cell_below hHeld.2.2.1 hb15, cell_below hHeld.2.2.2 hb15⟩ (fun hHeld => ?_)
                  clear hKq Kq
                  try simp only [Act.put, List.setIfInBounds_toArray, List.set_cons_zero, List.set_cons_succ]
                  refine wpAnyH_ready (rs := [15]) (by kernel_rfl) (by simp) ?_
                  refine AllReadyH.cons (o := { dst := some 10, op := Op.alloc 41, type := 0, pos := "votes.go:146", after := #[], guard := none }) rfl (fun Kq hKq => ?_) AllReadyH.nil
                  · skip
                    refine step_alV rfl rfl ?_
                    intro gV w16x hGV hb16 hgV
                    have HGg := (show Hid (W0.heap.size ≤ gV) from Nat.le_trans HBc.out.size hgV.out)
                    replace HBc := (show Hid _ from bt HBc.out hb16)
                    try replace HGV := (show Hid _ from HGV.out.below hb16)
                    try replace HFD := (show Hid _ from Fd.below HFD.out hb16)
                    have HGV := (show Hid (GB _ gV 41 (vdC 0 (0, 0, 0) (.slice none 0 0))) from hGV)
                    clear hGV hgV
                    refine hKq.out _ _ ⟨hHeld.1.below hb16, cell_below hHeld.2.1 hb16, cell_below hHeld.2.2.1 hb16, cell_below hHeld.2.2.2 hb16⟩ (fun hHeld => ?_)
                    clear hKq Kq
                    try simp only [Act.put, List.setIfInBounds_toArray, List.set_cons_zero, List.set_cons_succ]
                    refine wpAnyH_ready (rs := [16]) (by kernel_rfl) (by simp) ?_
                    refine AllReadyH.cons (o := { dst := none, op := Op.store 41 (Operand.tmp 10) (Operand.tmp 48), type := 0, pos := "votes.go:146", after := #[{ on := 15, ground := Ground.data }, { on := 14, ground := Ground.data }, { on := 14, ground := Ground.chain }, { on := 0, ground := Ground.phase }, { on := 1, ground := Ground.phase }, { on := 2, ground := Ground.phase }, { on := 3, ground := Ground.phase }, { on := 4, ground := Ground.phase }, { on := 5, ground := Ground.phase }, { on := 6, ground := Ground.phase }, { on := 7, ground := Ground.phase }, { on := 8, ground := Ground.phase }, { on := 9, ground := Ground.phase }, { on := 10, ground := Ground.phase }, { on := 11, ground := Ground.phase }, { on := 12, ground := Ground.phase }, { on := 13, ground := Ground.phase }, { on := 14, ground := Ground.phase }, { on := 15, ground := Ground.phase }], guard := none }) rfl (fun Kq hKq => ?_) AllReadyH.nil
                    · skip
                      refine step_stV J.kd J.wg pv14 H1C.out rfl (.tmp 10) (.tmp 48) rfl rfl gV rfl rfl HGV.out ?_
                      intro w17x hG16 hg16
                      have HB16 := (show Hid _ from grown_below HBc.out hg16 HBc.out.size HGg.out)
                      refine hKq.out _ _ ⟨hHeld.1.kept hg16 (fun e => by have e2 : gV = w.heap.size := Option.some.inj e; have h1 := HGg.out; have h2 := HW0.out.1; omega), cell_grown hHeld.2.1 hg16 (fun e => by have e2 : gV = g := Option.some.inj e; have h1 := HGg.out; have h2 := HW0.out.2; omega), cell_grown hHeld.2.2.1 hg16 (fun e => by have e2 : gV = g := Option.some.inj e; have h1 := HGg.out; have h2 := HW0.out.2; omega), cell_grown hHeld.2.2.2 hg16 (fun e => by have e2 : gV = g := Option.some.inj e; have h1 := HGg.out; have h2 := HW0.out.2; omega)⟩ (fun hHeld => ?_)
                      clear hKq Kq
                      try simp only [Act.put, List.setIfInBounds_toArray, List.set_cons_zero, List.set_cons_succ]
                      refine wpAnyH_done (by kernel_rfl) ?_ _
                      go_wp2_with (fail)
                      go_meet
                      case rel => exact ⟨gV, pv14, rfl, hG16, HB16⟩
                · skip
                  refine step_alV rfl rfl ?_
                  intro gV w18x hGV hb18 hgV
                  have HGg := (show Hid (W0.heap.size ≤ gV) from Nat.le_trans HBc.out.size hgV.out)
                  replace HBc := (show Hid _ from bt HBc.out hb18)
                  try replace HGV := (show Hid _ from HGV.out.below hb18)
                  try replace HFD := (show Hid _ from Fd.below HFD.out hb18)
                  have HGV := (show Hid (GB _ gV 41 (vdC 0 (0, 0, 0) (.slice none 0 0))) from hGV)
                  clear hGV hgV
                  refine hKq.out _ _ ⟨hHeld.1.below hb18, cell_below hHeld.2.1 hb18, cell_below hHeld.2.2.1 hb18, cell_below hHeld.2.2.2 hb18⟩ (fun hHeld => ?_)
                  clear hKq Kq
                  try simp only [Act.put, List.setIfInBounds_toArray, List.set_cons_zero, List.set_cons_succ]
                  refine wpAnyH_ready (rs := [14]) (by kernel_rfl) (by simp) ?_
                  refine AllReadyH.cons (o := { dst := some 48, op := Op.call { callee := Callee.value (Operand.func 16), args := #[Operand.tmp 34, Operand.tmp 47], argTypes := #[23, 24] }, type := 41, pos := "votes.go:146", after := #[{ on := 0, ground := Ground.data }, { on := 13, ground := Ground.data }, { on := 13, ground := Ground.chain }], guard := none }) rfl (fun Kq hKq => ?_) AllReadyH.nil
                  · go_simp
                    refine (JU.out _ _ HFD.out).mono ?_
                    rintro e w19x ⟨pv14, rfl, hR14, hb19⟩
                    have H1C := (show Hid (pv14.oneCell' = true) from by have h := hR14; unfold Rn at h; obtain ⟨_, _, h, _⟩ := h; rw [h]; rfl)
                    clear hR14
                    replace HBc := (show Hid _ from bt HBc.out hb19)
                    try replace HGV := (show Hid _ from HGV.out.below hb19)
                    try replace HFD := (show Hid _ from Fd.below HFD.out hb19)
                    refine hKq.out _ _ ⟨hHeld.1.below hb19, cell_below hHeld.2.1 hb19, cell_below hHeld.2.2.1 hb19, cell_below hHeld.2.2.2 hb19⟩ (fun hHeld => ?_)
                    clear hKq Kq
                    try simp only [Act.put, List.setIfInBounds_toArray, List.set_cons_zero, List.set_cons_succ]
                    refine wpAnyH_ready (rs := [16]) (by kernel_rfl) (by simp) ?_
                    refine AllReadyH.cons (o := { dst := none, op := Op.store 41 (Operand.tmp 10) (Operand.tmp 48), type := 0, pos := "votes.go:146", after := #[{ on := 15, ground := Ground.data }, { on := 14, ground := Ground.data }, { on := 14, ground := Ground.chain }, { on := 0, ground := Ground.phase }, { on := 1, ground := Ground.phase }, { on := 2, ground := Ground.phase }, { on := 3, ground := Ground.phase }, { on := 4, ground := Ground.phase }, { on := 5, ground := Ground.phase }, { on := 6, ground := Ground.phase }, { on := 7, ground := Ground.phase }, { on := 8, ground := Ground.phase }, { on := 9, ground := Ground.phase }, { on := 10, ground := Ground.phase }, { on := 11, ground := Ground.phase }, { on := 12, ground := Ground.phase }, { on := 13, ground := Ground.phase }, { on := 14, ground := Ground.phase }, { on := 15, ground := Ground.phase }], guard := none }) rfl (fun Kq hKq => ?_) AllReadyH.nil
                    · skip
                      refine step_stV J.kd J.wg pv14 H1C.out rfl (.tmp 10) (.tmp 48) rfl rfl gV rfl rfl HGV.out ?_
                      intro w20x hG16 hg16
                      have HB16 := (show Hid _ from grown_below HBc.out hg16 HBc.out.size HGg.out)
                      refine hKq.out _ _ ⟨hHeld.1.kept hg16 (fun e => by have e2 : gV = w.heap.size := Option.some.inj e; have h1 := HGg.out; have h2 := HW0.out.1; omega), cell_grown hHeld.2.1 hg16 (fun e => by have e2 : gV = g := Option.some.inj e; have h1 := HGg.out; have h2 := HW0.out.2; omega), cell_grown hHeld.2.2.1 hg16 (fun e => by have e2 : gV = g := Option.some.inj e; have h1 := HGg.out; have h2 := HW0.out.2; omega), cell_grown hHeld.2.2.2 hg16 (fun e => by have e2 : gV = g := Option.some.inj e; have h1 := HGg.out; have h2 := HW0.out.2; omega)⟩ (fun hHeld => ?_)
                      clear hKq Kq
                      try simp only [Act.put, List.setIfInBounds_toArray, List.set_cons_zero, List.set_cons_succ]
                      refine wpAnyH_done (by kernel_rfl) ?_ _
                      go_wp2_with (fail)
                      go_meet
                      case rel => exact ⟨gV, pv14, rfl, hG16, HB16⟩
              · skip
                refine step_alV rfl rfl ?_
                intro gV w21x hGV hb21 hgV
                have HGg := (show Hid (W0.heap.size ≤ gV) from Nat.le_trans HBc.out.size hgV.out)
                replace HBc := (show Hid _ from bt HBc.out hb21)
                try replace HGV := (show Hid _ from HGV.out.below hb21)
                try replace HFD := (show Hid _ from Fd.below HFD.out hb21)
                have HGV := (show Hid (GB _ gV 41 (vdC 0 (0, 0, 0) (.slice none 0 0))) from hGV)
                clear hGV hgV
                refine hKq.out _ _ ⟨hHeld.1.below hb21, cell_below hHeld.2.1 hb21, cell_below hHeld.2.2.1 hb21, cell_below hHeld.2.2.2 hb21⟩ (fun hHeld => ?_)
                clear hKq Kq
                try simp only [Act.put, List.setIfInBounds_toArray, List.set_cons_zero, List.set_cons_succ]
                refine wpAnyH_ready (rs := [13]) (by kernel_rfl) (by simp) ?_
                refine AllReadyH.cons (o := { dst := some 47, op := Op.call { callee := Callee.value (Operand.func 30), args := #[Operand.tmp 35, Operand.tmp 46], argTypes := #[24, 58] }, type := 24, pos := "votes.go:146", after := #[{ on := 1, ground := Ground.data }, { on := 12, ground := Ground.data }, { on := 12, ground := Ground.chain }], guard := none }) rfl (fun Kq hKq => ?_) AllReadyH.nil
                · go_simp
                  refine (FI.out _ HBc.out).mono ?_
                  rintro e w22x ⟨v13, rfl, hF, hb22⟩
                  replace HBc := (show Hid _ from bt HBc.out hb22)
                  try replace HGV := (show Hid _ from HGV.out.below hb22)
                  try replace HFD := (show Hid _ from Fd.below HFD.out hb22)
                  have HFD := (show Hid (Fd _ v13 n ss sX) from hF)
                  clear hF
                  refine hKq.out _ _ ⟨hHeld.1.below hb22, cell_below hHeld.2.1 hb22, cell_below hHeld.2.2.1 hb22, cell_below hHeld.2.2.2 hb22⟩ (fun hHeld => ?_)
                  clear hKq Kq
                  try simp only [Act.put, List.setIfInBounds_toArray, List.set_cons_zero, List.set_cons_succ]
                  refine wpAnyH_ready (rs := [14]) (by kernel_rfl) (by simp) ?_
                  refine AllReadyH.cons (o := { dst := some 48, op := Op.call { callee := Callee.value (Operand.func 16), args := #[Operand.tmp 34, Operand.tmp 47], argTypes := #[23, 24] }, type := 41, pos := "votes.go:146", after := #[{ on := 0, ground := Ground.data }, { on := 13, ground := Ground.data }, { on := 13, ground := Ground.chain }], guard := none }) rfl (fun Kq hKq => ?_) AllReadyH.nil
                  · go_simp
                    refine (JU.out _ _ HFD.out).mono ?_
                    rintro e w23x ⟨pv14, rfl, hR14, hb23⟩
                    have H1C := (show Hid (pv14.oneCell' = true) from by have h := hR14; unfold Rn at h; obtain ⟨_, _, h, _⟩ := h; rw [h]; rfl)
                    clear hR14
                    replace HBc := (show Hid _ from bt HBc.out hb23)
                    try replace HGV := (show Hid _ from HGV.out.below hb23)
                    try replace HFD := (show Hid _ from Fd.below HFD.out hb23)
                    refine hKq.out _ _ ⟨hHeld.1.below hb23, cell_below hHeld.2.1 hb23, cell_below hHeld.2.2.1 hb23, cell_below hHeld.2.2.2 hb23⟩ (fun hHeld => ?_)
                    clear hKq Kq
                    try simp only [Act.put, List.setIfInBounds_toArray, List.set_cons_zero, List.set_cons_succ]
                    refine wpAnyH_ready (rs := [16]) (by kernel_rfl) (by simp) ?_
                    refine AllReadyH.cons (o := { dst := none, op := Op.store 41 (Operand.tmp 10) (Operand.tmp 48), type := 0, pos := "votes.go:146", after := #[{ on := 15, ground := Ground.data }, { on := 14, ground := Ground.data }, { on := 14, ground := Ground.chain }, { on := 0, ground := Ground.phase }, { on := 1, ground := Ground.phase }, { on := 2, ground := Ground.phase }, { on := 3, ground := Ground.phase }, { on := 4, ground := Ground.phase }, { on := 5, ground := Ground.phase }, { on := 6, ground := Ground.phase }, { on := 7, ground := Ground.phase }, { on := 8, ground := Ground.phase }, { on := 9, ground := Ground.phase }, { on := 10, ground := Ground.phase }, { on := 11, ground := Ground.phase }, { on := 12, ground := Ground.phase }, { on := 13, ground := Ground.phase }, { on := 14, ground := Ground.phase }, { on := 15, ground := Ground.phase }], guard := none }) rfl (fun Kq hKq => ?_) AllReadyH.nil
                    · skip
                      refine step_stV J.kd J.wg pv14 H1C.out rfl (.tmp 10) (.tmp 48) rfl rfl gV rfl rfl HGV.out ?_
                      intro w24x hG16 hg16
                      have HB16 := (show Hid _ from grown_below HBc.out hg16 HBc.out.size HGg.out)
                      refine hKq.out _ _ ⟨hHeld.1.kept hg16 (fun e => by have e2 : gV = w.heap.size := Option.some.inj e; have h1 := HGg.out; have h2 := HW0.out.1; omega), cell_grown hHeld.2.1 hg16 (fun e => by have e2 : gV = g := Option.some.inj e; have h1 := HGg.out; have h2 := HW0.out.2; omega), cell_grown hHeld.2.2.1 hg16 (fun e => by have e2 : gV = g := Option.some.inj e; have h1 := HGg.out; have h2 := HW0.out.2; omega), cell_grown hHeld.2.2.2 hg16 (fun e => by have e2 : gV = g := Option.some.inj e; have h1 := HGg.out; have h2 := HW0.out.2; omega)⟩ (fun hHeld => ?_)
                      clear hKq Kq
                      try simp only [Act.put, List.setIfInBounds_toArray, List.set_cons_zero, List.set_cons_succ]
                      refine wpAnyH_done (by kernel_rfl) ?_ _
                      go_wp2_with (fail)
                      go_meet
                      case rel => exact ⟨gV, pv14, rfl, hG16, HB16⟩
            · skip
              refine step_alV rfl rfl ?_
              intro gV w25x hGV hb25 hgV
              have HGg := (show Hid (W0.heap.size ≤ gV) from Nat.le_trans HBc.out.size hgV.out)
              replace HBc := (show Hid _ from bt HBc.out hb25)
              try replace HGV := (show Hid _ from HGV.out.below hb25)
              try replace HFD := (show Hid _ from Fd.below HFD.out hb25)
              have HGV := (show Hid (GB _ gV 41 (vdC 0 (0, 0, 0) (.slice none 0 0))) from hGV)
              clear hGV hgV
              refine hKq.out _ _ ⟨hHeld.1.below hb25, cell_below hHeld.2.1 hb25, cell_below hHeld.2.2.1 hb25, cell_below hHeld.2.2.2 hb25⟩ (fun hHeld => ?_)
              clear hKq Kq
              try simp only [Act.put, List.setIfInBounds_toArray, List.set_cons_zero, List.set_cons_succ]
              refine wpAnyH_ready (rs := [12]) (by kernel_rfl) (by simp) ?_
              refine AllReadyH.cons (o := { dst := some 46, op := Op.call { callee := Callee.value (Operand.func 28), args := #[Operand.tmp 40, Operand.tmp 45], argTypes := #[38, 3] }, type := 58, pos := "votes.go:146", after := #[{ on := 6, ground := Ground.data }, { on := 11, ground := Ground.data }], guard := none }) rfl (fun Kq hKq => ?_) AllReadyH.nil
              · go_simp
                refine (SH.out _).mono ?_
                rintro e w26x ⟨rfl, hb26⟩
                replace HBc := (show Hid _ from bt HBc.out hb26)
                try replace HGV := (show Hid _ from HGV.out.below hb26)
                try replace HFD := (show Hid _ from Fd.below HFD.out hb26)
                refine hKq.out _ _ ⟨hHeld.1.below hb26, cell_below hHeld.2.1 hb26, cell_below hHeld.2.2.1 hb26, cell_below hHeld.2.2.2 hb26⟩ (fun hHeld => ?_)
                clear hKq Kq
                try simp only [Act.put, List.setIfInBounds_toArray, List.set_cons_zero, List.set_cons_succ]
                refine wpAnyH_ready (rs := [13]) (by kernel_rfl) (by simp) ?_
                refine AllReadyH.cons (o := { dst := some 47, op := Op.call { callee := Callee.value (Operand.func 30), args := #[Operand.tmp 35, Operand.tmp 46], argTypes := #[24, 58] }, type := 24, pos := "votes.go:146", after := #[{ on := 1, ground := Ground.data }, { on := 12, ground := Ground.data }, { on := 12, ground := Ground.chain }], guard := none }) rfl (fun Kq hKq => ?_) AllReadyH.nil
                · go_simp
                  refine (FI.out _ HBc.out).mono ?_
                  rintro e w27x ⟨v13, rfl, hF, hb27⟩
                  replace HBc := (show Hid _ from bt HBc.out hb27)
                  try replace HGV := (show Hid _ from HGV.out.below hb27)
                  try replace HFD := (show Hid _ from Fd.below HFD.out hb27)
                  have HFD := (show Hid (Fd _ v13 n ss sX) from hF)
                  clear hF
                  refine hKq.out _ _ ⟨hHeld.1.below hb27, cell_below hHeld.2.1 hb27, cell_below hHeld.2.2.1 hb27, cell_below hHeld.2.2.2 hb27⟩ (fun hHeld => ?_)
                  clear hKq Kq
                  try simp only [Act.put, List.setIfInBounds_toArray, List.set_cons_zero, List.set_cons_succ]
                  refine wpAnyH_ready (rs := [14]) (by kernel_rfl) (by simp) ?_
                  refine AllReadyH.cons (o := { dst := some 48, op := Op.call { callee := Callee.value (Operand.func 16), args := #[Operand.tmp 34, Operand.tmp 47], argTypes := #[23, 24] }, type := 41, pos := "votes.go:146", after := #[{ on := 0, ground := Ground.data }, { on := 13, ground := Ground.data }, { on := 13, ground := Ground.chain }], guard := none }) rfl (fun Kq hKq => ?_) AllReadyH.nil
                  · go_simp
                    refine (JU.out _ _ HFD.out).mono ?_
                    rintro e w28x ⟨pv14, rfl, hR14, hb28⟩
                    have H1C := (show Hid (pv14.oneCell' = true) from by have h := hR14; unfold Rn at h; obtain ⟨_, _, h, _⟩ := h; rw [h]; rfl)
                    clear hR14
                    replace HBc := (show Hid _ from bt HBc.out hb28)
                    try replace HGV := (show Hid _ from HGV.out.below hb28)
                    try replace HFD := (show Hid _ from Fd.below HFD.out hb28)
                    refine hKq.out _ _ ⟨hHeld.1.below hb28, cell_below hHeld.2.1 hb28, cell_below hHeld.2.2.1 hb28, cell_below hHeld.2.2.2 hb28⟩ (fun hHeld => ?_)
                    clear hKq Kq
                    try simp only [Act.put, List.setIfInBounds_toArray, List.set_cons_zero, List.set_cons_succ]
                    refine wpAnyH_ready (rs := [16]) (by kernel_rfl) (by simp) ?_
                    refine AllReadyH.cons (o := { dst := none, op := Op.store 41 (Operand.tmp 10) (Operand.tmp 48), type := 0, pos := "votes.go:146", after := #[{ on := 15, ground := Ground.data }, { on := 14, ground := Ground.data }, { on := 14, ground := Ground.chain }, { on := 0, ground := Ground.phase }, { on := 1, ground := Ground.phase }, { on := 2, ground := Ground.phase }, { on := 3, ground := Ground.phase }, { on := 4, ground := Ground.phase }, { on := 5, ground := Ground.phase }, { on := 6, ground := Ground.phase }, { on := 7, ground := Ground.phase }, { on := 8, ground := Ground.phase }, { on := 9, ground := Ground.phase }, { on := 10, ground := Ground.phase }, { on := 11, ground := Ground.phase }, { on := 12, ground := Ground.phase }, { on := 13, ground := Ground.phase }, { on := 14, ground := Ground.phase }, { on := 15, ground := Ground.phase }], guard := none }) rfl (fun Kq hKq => ?_) AllReadyH.nil
                    · skip
                      refine step_stV J.kd J.wg pv14 H1C.out rfl (.tmp 10) (.tmp 48) rfl rfl gV rfl rfl HGV.out ?_
                      intro w29x hG16 hg16
                      have HB16 := (show Hid _ from grown_below HBc.out hg16 HBc.out.size HGg.out)
                      refine hKq.out _ _ ⟨hHeld.1.kept hg16 (fun e => by have e2 : gV = w.heap.size := Option.some.inj e; have h1 := HGg.out; have h2 := HW0.out.1; omega), cell_grown hHeld.2.1 hg16 (fun e => by have e2 : gV = g := Option.some.inj e; have h1 := HGg.out; have h2 := HW0.out.2; omega), cell_grown hHeld.2.2.1 hg16 (fun e => by have e2 : gV = g := Option.some.inj e; have h1 := HGg.out; have h2 := HW0.out.2; omega), cell_grown hHeld.2.2.2 hg16 (fun e => by have e2 : gV = g := Option.some.inj e; have h1 := HGg.out; have h2 := HW0.out.2; omega)⟩ (fun hHeld => ?_)
                      clear hKq Kq
                      try simp only [Act.put, List.setIfInBounds_toArray, List.set_cons_zero, List.set_cons_succ]
                      refine wpAnyH_done (by kernel_rfl) ?_ _
                      go_wp2_with (fail)
                      go_meet
                      case rel => exact ⟨gV, pv14, rfl, hG16, HB16⟩
          case rest =>
            obtain ⟨gv, pv, rfl, hGv, hbc⟩ := hcut
            clear z0 z1 z2
            have y0 := cell_below Y0.out hbc.out
            have y1 := cell_below Y1.out hbc.out
            have y2 := cell_below Y2.out hbc.out
            obtain ⟨v0, v1, v2, v3⟩ := gb_vd hGv.out
            by_cases h1 : J.kd = 1
            · rw [h1] at v0
              by_cases he : J.wg.1 = q.1
              · by_cases hc : J.wg.2.1 = q.2.1
                · by_cases hz : J.wg.2.2 = q.2.2
                  · have HVt := (show Hid (V (q, qL) = true) from by
                      show _ = _
                      rw [HVt'.out, h1, show J.wg = q from Prod.ext he (Prod.ext hc hz)]
                      simp)
                    rw [he] at v1
                    rw [hc] at v2
                    rw [hz] at v3
                    have e1 : (q.1 == q.1) = true := by simp
                    have e2 : (q.2.1 == q.2.1) = true := by simp
                    have e3 : (q.2.2 == q.2.2) = true := by simp
                    clear h1 he hc hz
                    go_wp2_with (fail)
                    go_quiet (fail)
                    have HBq := (show Hid (Below wc.heap.size wc (wc.drewN nq)) from below_drewN (Below.refl _ _) nq)
                    generalize wc.drewN nq = W9 at *
                    have B09 := bt hbc.out HBq.out
                    have hrun := ox_run (HO5.out.below (bt hB.out B09)) HTE.out
                    have HO9 := (show Hid (Ox W9 w5.heap.size u7 es2) from HO2.out.below B09)
                    have HA9 := (show Hid (Al W9 w5.heap.size es2 ((l.take t).filter V)) from HA2.out.below B09)
                    have HR9 := (show Hid (Rn W9 (slv x.2) qL) from HRn.out.below B09)
                    have HB9 := (show Hid (Below w5.heap.size w5 W9) from bt hB.out B09)
                    rw [HXX.out] at hrun
                    clear B09
                    go_wp2_with (first
                      | (refine wpList_ldAt rfl _ _ rfl g (t * 4) rfl _ hrun ?_)
                      | (refine wpList_bsX rfl _ rfl x rfl ?_; intro w8 hG8 hb8 hs8; have HO8 := (show Hid (Ox w8 w5.heap.size u7 es2) from HO9.out.below hb8))
                      | (at_builtin; refine wpList_apX rfl (.tmp 72) (.tmp 77) rfl w5.heap.size u7 es2 x rfl HO8.out _ 1 rfl hG8 HES.out (Nat.le_trans HB9.out.size hb8.size) ?_; intro v10 w10 hO10 hg10))
                    go_roundw
                    case rel => exact ⟨t + 1, _, HT.out, by first | rw [WT.out] | go_num, hO10, (show Hid _ from by show Al _ _ _ _; rw [TS.out, HVt.out, if_pos rfl]; exact Al.youngX ((HA9.out.below hb8).add HXK.out HXB.out (HR9.out.below hb8)) HO8.out hg10), HO8.out.grown (bt HB9.out hb8) (Nat.le_trans HB9.out.size hb8.size) hg10 (Nat.le_refl _)⟩
                    case measure => first | (rw [WT.out]; exact meas_v17 HT.out) | exact meas_v17 HT.out
                  · have HVt := (show Hid (V (q, qL) = false) from by
                      show _ = _
                      rw [HVt'.out, decide_eq_false (fun e : J.wg = q => hz (by rw [e]))]
                      simp)
                    have d3 : (J.wg.2.2 == q.2.2) = false := by simp [hz]
                    have e1 : (q.1 == q.1) = true := by simp
                    have e2 : (q.2.1 == q.2.1) = true := by simp
                    rw [he] at v1
                    rw [hc] at v2
                    clear h1 he hc hz
                    go_wp2_with (fail)
                    go_quiet (fail)
                    have HBq := (show Hid (Below W0.heap.size W0 (wc.drewN nq)) from below_drewN hbc.out nq)
                    go_wp2_with (fail)
                    go_roundw
                    case rel => exact ⟨t + 1, es2, HT.out, by first | rw [WT.out] | go_num, HO2.out.below HBq.out, (show Hid _ from by show Al _ _ _ _; rw [TS.out, HVt.out]; simp only [Bool.false_eq_true, if_false, List.append_nil]; exact HA2.out.below HBq.out), bt hB.out HBq.out⟩
                    case measure => first | (rw [WT.out]; exact meas_v17 HT.out) | exact meas_v17 HT.out
                · have HVt := (show Hid (V (q, qL) = false) from by
                    show _ = _
                    rw [HVt'.out, decide_eq_false (fun e : J.wg = q => hc (by rw [e]))]
                    simp)
                  have d2 : (J.wg.2.1 == q.2.1) = false := by simp [hc]
                  have e1 : (q.1 == q.1) = true := by simp
                  rw [he] at v1
                  clear h1 he hc
                  go_wp2_with (fail)
                  go_quiet (fail)
                  have HBq := (show Hid (Below W0.heap.size W0 (wc.drewN nq)) from below_drewN hbc.out nq)
                  go_wp2_with (fail)
                  go_roundw
                  case rel => exact ⟨t + 1, es2, HT.out, by first | rw [WT.out] | go_num, HO2.out.below HBq.out, (show Hid _ from by show Al _ _ _ _; rw [TS.out, HVt.out]; simp only [Bool.false_eq_true, if_false, List.append_nil]; exact HA2.out.below HBq.out), bt hB.out HBq.out⟩
                  case measure => first | (rw [WT.out]; exact meas_v17 HT.out) | exact meas_v17 HT.out
              · have HVt := (show Hid (V (q, qL) = false) from by
                  show _ = _
                  rw [HVt'.out, decide_eq_false (fun e : J.wg = q => he (by rw [e]))]
                  simp)
                have d1' : (J.wg.1 == q.1) = false := by simp [he]
                clear h1 he
                go_wp2_with (fail)
                go_quiet (fail)
                have HBq := (show Hid (Below W0.heap.size W0 (wc.drewN nq)) from below_drewN hbc.out nq)
                go_wp2_with (fail)
                go_roundw
                case rel => exact ⟨t + 1, es2, HT.out, by first | rw [WT.out] | go_num, HO2.out.below HBq.out, (show Hid _ from by show Al _ _ _ _; rw [TS.out, HVt.out]; simp only [Bool.false_eq_true, if_false, List.append_nil]; exact HA2.out.below HBq.out), bt hB.out HBq.out⟩
                case measure => first | (rw [WT.out]; exact meas_v17 HT.out) | exact meas_v17 HT.out
            · have HVt := (show Hid (V (q, qL) = false) from by
                show _ = _
                rw [HVt'.out, decide_eq_false h1]
                simp)
              have d0 : (J.kd == 1) = false := by simp [h1]
              clear h1
              go_wp2_with (fail)
              go_quiet (fail)
              have HBq := (show Hid (Below W0.heap.size W0 (wc.drewN nq)) from below_drewN hbc.out nq)
              go_wp2_with (fail)
              go_roundw
              case rel => exact ⟨t + 1, es2, HT.out, by first | rw [WT.out] | go_num, HO2.out.below HBq.out, (show Hid _ from by show Al _ _ _ _; rw [TS.out, HVt.out]; simp only [Bool.false_eq_true, if_false, List.append_nil]; exact HA2.out.below HBq.out), bt hB.out HBq.out⟩
              case measure => first | (rw [WT.out]; exact meas_v17 HT.out) | exact meas_v17 HT.out
        · obtain rfl : t = l.length := by omega
          have hnn : ¬ ((l.length : Int) < (l.length : Int)) := by omega
          have HA' := HA2.out
          rw [List.take_length, HPV.out] at HA'
          have HAF := (show Hid _ from HA')
          have HW0 := (show Hid (w.heap.size < W0.heap.size) from by have := HWL.out; have := hB.out.size; show _ < _; omega)
          obtain ⟨sX, hsX⟩ : ∃ sX, sX = snN := ⟨_, rfl⟩
          obtain ⟨J, hJ⟩ : ∃ J, jdg k m b (flS (shs ss) (1, (0, 0, 0))) n = J := ⟨_, rfl⟩
          rw [hJ] at HPN
          have FI := (show Hid (∀ W : World, Below W0.heap.size W0 W → Calls Try.prog 30 #[.slice p n c, .agg snN.cs] W fun e w' => ∃ v, e = .returned v ∧ Fd w' v n ss sX ∧ Below W.heap.size W w') from fun W hW => by rw [hsX]; exact rfilled_any (((HL.out.below HB5.out).below hB.out).below hW) HN.out HV.out snN rfl)
          have JU := (show Hid (∀ (W : World) (v : Value), Fd W v n ss sX → Calls Try.prog 16 #[.agg (shC k m b), v] W fun e w' => ∃ pv, e = .returned (.agg (vdC J.kd J.wg pv)) ∧ Rn w' pv J.pl ∧ Below W.heap.size W w') from fun W v hF => by
            have h := rjudge_fd k m b hF HN.out
            rw [hsX, show (snN.kd, snN.wg) = ((1 : Int), ((0 : Int), (0 : Int), (0 : Int))) from rfl, hJ] at h
            exact h)
          clear hsX hJ HA' hlt ht
          go_wp2_with (fail)
          go_cut [11] (fun v wx => ∃ (gv : Nat) (pv : Value), v = .pointer (some ⟨gv, 0, none⟩) ∧ Hid (GB wx gv 41 (vdC J.kd J.wg pv)) ∧ Hid (Below W0.heap.size W0 wx))
          case first =>
            have HBc := (show Hid (Below W0.heap.size W0 W0.drew) from bd)
            refine wp_region_held_drew (S := fun X => GB X w.heap.size 23 (shC k m b)) (by kernel_rfl) HGS.out (fun hHeld => ?_)
            refine takeHr (i := 0) (d := some 79) (v := .agg (shC k m b)) rfl rfl (by kernel_rfl) (by kernel_rfl) (by kernel_rfl) (fun _ _ _ h => h) (Or.inl ⟨by rfl, ?hy30⟩) hHeld ?rest30
            case hy30 => intro X hSw; exact ex_ldB _ rfl w.heap.size rfl hSw Try.underlying23 (size_Sp' _ _ _)
            try simp only [Act.put, List.setIfInBounds_toArray, List.set_cons_zero, List.set_cons_succ]
            refine takeHr (i := 1) (d := some 80) (v := ?v31) rfl rfl (by kernel_rfl) (by kernel_rfl) (by kernel_rfl) (fun _ _ _ h => h) (Or.inl ⟨by rfl, ?hy31⟩) hHeld ?rest31
            case hy31 => intro X hSw; go_simp <;> with_reducible rfl
            try simp only [Act.put, List.setIfInBounds_toArray, List.set_cons_zero, List.set_cons_succ]
            refine takeHr (i := 2) (d := some 81) (v := .agg snN.cs) rfl rfl (by kernel_rfl) (by kernel_rfl) (by kernel_rfl) (fun _ _ _ h => h) (Or.inl ⟨by rfl, ?hy32⟩) hHeld ?rest32
            case hy32 => intro X hSw; exact ex_bdN rfl
            try simp only [Act.put, List.setIfInBounds_toArray, List.set_cons_zero, List.set_cons_succ]
            refine wpAnyH_ready (rs := [3, 5]) (by kernel_rfl) (by simp) ?_
            refine AllReadyH.cons (o := { dst := some 82, op := Op.call { callee := Callee.value (Operand.func 30), args := #[Operand.tmp 80, Operand.tmp 81], argTypes := #[24, 58] }, type := 24, pos := "votes.go:151", after := #[{ on := 1, ground := Ground.data }, { on := 2, ground := Ground.data }], guard := none }) rfl (fun Kq hKq => ?_) (AllReadyH.cons (o := { dst := some 11, op := Op.alloc 41, type := 0, pos := "votes.go:151", after := #[], guard := none }) rfl (fun Kq hKq => ?_) AllReadyH.nil)
            · go_simp
              refine (FI.out _ HBc.out).mono ?_
              rintro e w33x ⟨v13, rfl, hF, hb33⟩
              replace HBc := (show Hid _ from bt HBc.out hb33)
              try replace HGV := (show Hid _ from HGV.out.below hb33)
              try replace HFD := (show Hid _ from Fd.below HFD.out hb33)
              have HFD := (show Hid (Fd _ v13 n ss sX) from hF)
              clear hF
              refine hKq.out _ _ (hHeld.below hb33) (fun hHeld => ?_)
              clear hKq Kq
              try simp only [Act.put, List.setIfInBounds_toArray, List.set_cons_zero, List.set_cons_succ]
              refine wpAnyH_ready (rs := [4, 5]) (by kernel_rfl) (by simp) ?_
              refine AllReadyH.cons (o := { dst := some 83, op := Op.call { callee := Callee.value (Operand.func 16), args := #[Operand.tmp 79, Operand.tmp 82], argTypes := #[23, 24] }, type := 41, pos := "votes.go:151", after := #[{ on := 0, ground := Ground.data }, { on := 3, ground := Ground.data }, { on := 3, ground := Ground.chain }], guard := none }) rfl (fun Kq hKq => ?_) (AllReadyH.cons (o := { dst := some 11, op := Op.alloc 41, type := 0, pos := "votes.go:151", after := #[], guard := none }) rfl (fun Kq hKq => ?_) AllReadyH.nil)
              · go_simp
                refine (JU.out _ _ HFD.out).mono ?_
                rintro e w34x ⟨pv14, rfl, hR14, hb34⟩
                have H1C := (show Hid (pv14.oneCell' = true) from by have h := hR14; unfold Rn at h; obtain ⟨_, _, h, _⟩ := h; rw [h]; rfl)
                clear hR14
                replace HBc := (show Hid _ from bt HBc.out hb34)
                try replace HGV := (show Hid _ from HGV.out.below hb34)
                try replace HFD := (show Hid _ from Fd.below HFD.out hb34)
                refine hKq.out _ _ (hHeld.below hb34) (fun hHeld => ?_)
                clear hKq Kq
                try simp only [Act.put, List.setIfInBounds_toArray, List.set_cons_zero, List.set_cons_succ]
                refine wpAnyH_ready (rs := [5]) (by kernel_rfl) (by simp) ?_
                refine AllReadyH.cons (o := { dst := some 11, op := Op.alloc 41, type := 0, pos := "votes.go:151", after := #[], guard := none }) rfl (fun Kq hKq => ?_) AllReadyH.nil
                · skip
                  refine step_alV rfl rfl ?_
                  intro gV w35x hGV hb35 hgV
                  have HGg := (show Hid (W0.heap.size ≤ gV) from Nat.le_trans HBc.out.size hgV.out)
                  replace HBc := (show Hid _ from bt HBc.out hb35)
                  try replace HGV := (show Hid _ from HGV.out.below hb35)
                  try replace HFD := (show Hid _ from Fd.below HFD.out hb35)
                  have HGV := (show Hid (GB _ gV 41 (vdC 0 (0, 0, 0) (.slice none 0 0))) from hGV)
                  clear hGV hgV
                  refine hKq.out _ _ (hHeld.below hb35) (fun hHeld => ?_)
                  clear hKq Kq
                  try simp only [Act.put, List.setIfInBounds_toArray, List.set_cons_zero, List.set_cons_succ]
                  refine wpAnyH_ready (rs := [6]) (by kernel_rfl) (by simp) ?_
                  refine AllReadyH.cons (o := { dst := none, op := Op.store 41 (Operand.tmp 11) (Operand.tmp 83), type := 0, pos := "votes.go:151", after := #[{ on := 5, ground := Ground.data }, { on := 4, ground := Ground.data }, { on := 4, ground := Ground.chain }, { on := 0, ground := Ground.phase }, { on := 1, ground := Ground.phase }, { on := 2, ground := Ground.phase }, { on := 3, ground := Ground.phase }, { on := 4, ground := Ground.phase }, { on := 5, ground := Ground.phase }], guard := none }) rfl (fun Kq hKq => ?_) AllReadyH.nil
                  · skip
                    refine step_stV J.kd J.wg pv14 H1C.out rfl (.tmp 11) (.tmp 83) rfl rfl gV rfl rfl HGV.out ?_
                    intro w36x hG16 hg16
                    have HB16 := (show Hid _ from grown_below HBc.out hg16 HBc.out.size HGg.out)
                    refine hKq.out _ _ (hHeld.kept hg16 (fun e => by have e2 : gV = w.heap.size := Option.some.inj e; have h1 := HGg.out; have h2 := HW0.out; omega)) (fun hHeld => ?_)
                    clear hKq Kq
                    try simp only [Act.put, List.setIfInBounds_toArray, List.set_cons_zero, List.set_cons_succ]
                    refine wpAnyH_done (by kernel_rfl) ?_ _
                    go_wp2_with (fail)
                    go_meet
                    case rel => exact ⟨gV, pv14, rfl, hG16, HB16⟩
              · skip
                refine step_alV rfl rfl ?_
                intro gV w37x hGV hb37 hgV
                have HGg := (show Hid (W0.heap.size ≤ gV) from Nat.le_trans HBc.out.size hgV.out)
                replace HBc := (show Hid _ from bt HBc.out hb37)
                try replace HGV := (show Hid _ from HGV.out.below hb37)
                try replace HFD := (show Hid _ from Fd.below HFD.out hb37)
                have HGV := (show Hid (GB _ gV 41 (vdC 0 (0, 0, 0) (.slice none 0 0))) from hGV)
                clear hGV hgV
                refine hKq.out _ _ (hHeld.below hb37) (fun hHeld => ?_)
                clear hKq Kq
                try simp only [Act.put, List.setIfInBounds_toArray, List.set_cons_zero, List.set_cons_succ]
                refine wpAnyH_ready (rs := [4]) (by kernel_rfl) (by simp) ?_
                refine AllReadyH.cons (o := { dst := some 83, op := Op.call { callee := Callee.value (Operand.func 16), args := #[Operand.tmp 79, Operand.tmp 82], argTypes := #[23, 24] }, type := 41, pos := "votes.go:151", after := #[{ on := 0, ground := Ground.data }, { on := 3, ground := Ground.data }, { on := 3, ground := Ground.chain }], guard := none }) rfl (fun Kq hKq => ?_) AllReadyH.nil
                · go_simp
                  refine (JU.out _ _ HFD.out).mono ?_
                  rintro e w38x ⟨pv14, rfl, hR14, hb38⟩
                  have H1C := (show Hid (pv14.oneCell' = true) from by have h := hR14; unfold Rn at h; obtain ⟨_, _, h, _⟩ := h; rw [h]; rfl)
                  clear hR14
                  replace HBc := (show Hid _ from bt HBc.out hb38)
                  try replace HGV := (show Hid _ from HGV.out.below hb38)
                  try replace HFD := (show Hid _ from Fd.below HFD.out hb38)
                  refine hKq.out _ _ (hHeld.below hb38) (fun hHeld => ?_)
                  clear hKq Kq
                  try simp only [Act.put, List.setIfInBounds_toArray, List.set_cons_zero, List.set_cons_succ]
                  refine wpAnyH_ready (rs := [6]) (by kernel_rfl) (by simp) ?_
                  refine AllReadyH.cons (o := { dst := none, op := Op.store 41 (Operand.tmp 11) (Operand.tmp 83), type := 0, pos := "votes.go:151", after := #[{ on := 5, ground := Ground.data }, { on := 4, ground := Ground.data }, { on := 4, ground := Ground.chain }, { on := 0, ground := Ground.phase }, { on := 1, ground := Ground.phase }, { on := 2, ground := Ground.phase }, { on := 3, ground := Ground.phase }, { on := 4, ground := Ground.phase }, { on := 5, ground := Ground.phase }], guard := none }) rfl (fun Kq hKq => ?_) AllReadyH.nil
                  · skip
                    refine step_stV J.kd J.wg pv14 H1C.out rfl (.tmp 11) (.tmp 83) rfl rfl gV rfl rfl HGV.out ?_
                    intro w39x hG16 hg16
                    have HB16 := (show Hid _ from grown_below HBc.out hg16 HBc.out.size HGg.out)
                    refine hKq.out _ _ (hHeld.kept hg16 (fun e => by have e2 : gV = w.heap.size := Option.some.inj e; have h1 := HGg.out; have h2 := HW0.out; omega)) (fun hHeld => ?_)
                    clear hKq Kq
                    try simp only [Act.put, List.setIfInBounds_toArray, List.set_cons_zero, List.set_cons_succ]
                    refine wpAnyH_done (by kernel_rfl) ?_ _
                    go_wp2_with (fail)
                    go_meet
                    case rel => exact ⟨gV, pv14, rfl, hG16, HB16⟩
            · skip
              refine step_alV rfl rfl ?_
              intro gV w40x hGV hb40 hgV
              have HGg := (show Hid (W0.heap.size ≤ gV) from Nat.le_trans HBc.out.size hgV.out)
              replace HBc := (show Hid _ from bt HBc.out hb40)
              try replace HGV := (show Hid _ from HGV.out.below hb40)
              try replace HFD := (show Hid _ from Fd.below HFD.out hb40)
              have HGV := (show Hid (GB _ gV 41 (vdC 0 (0, 0, 0) (.slice none 0 0))) from hGV)
              clear hGV hgV
              refine hKq.out _ _ (hHeld.below hb40) (fun hHeld => ?_)
              clear hKq Kq
              try simp only [Act.put, List.setIfInBounds_toArray, List.set_cons_zero, List.set_cons_succ]
              refine wpAnyH_ready (rs := [3]) (by kernel_rfl) (by simp) ?_
              refine AllReadyH.cons (o := { dst := some 82, op := Op.call { callee := Callee.value (Operand.func 30), args := #[Operand.tmp 80, Operand.tmp 81], argTypes := #[24, 58] }, type := 24, pos := "votes.go:151", after := #[{ on := 1, ground := Ground.data }, { on := 2, ground := Ground.data }], guard := none }) rfl (fun Kq hKq => ?_) AllReadyH.nil
              · go_simp
                refine (FI.out _ HBc.out).mono ?_
                rintro e w41x ⟨v13, rfl, hF, hb41⟩
                replace HBc := (show Hid _ from bt HBc.out hb41)
                try replace HGV := (show Hid _ from HGV.out.below hb41)
                try replace HFD := (show Hid _ from Fd.below HFD.out hb41)
                have HFD := (show Hid (Fd _ v13 n ss sX) from hF)
                clear hF
                refine hKq.out _ _ (hHeld.below hb41) (fun hHeld => ?_)
                clear hKq Kq
                try simp only [Act.put, List.setIfInBounds_toArray, List.set_cons_zero, List.set_cons_succ]
                refine wpAnyH_ready (rs := [4]) (by kernel_rfl) (by simp) ?_
                refine AllReadyH.cons (o := { dst := some 83, op := Op.call { callee := Callee.value (Operand.func 16), args := #[Operand.tmp 79, Operand.tmp 82], argTypes := #[23, 24] }, type := 41, pos := "votes.go:151", after := #[{ on := 0, ground := Ground.data }, { on := 3, ground := Ground.data }, { on := 3, ground := Ground.chain }], guard := none }) rfl (fun Kq hKq => ?_) AllReadyH.nil
                · go_simp
                  refine (JU.out _ _ HFD.out).mono ?_
                  rintro e w42x ⟨pv14, rfl, hR14, hb42⟩
                  have H1C := (show Hid (pv14.oneCell' = true) from by have h := hR14; unfold Rn at h; obtain ⟨_, _, h, _⟩ := h; rw [h]; rfl)
                  clear hR14
                  replace HBc := (show Hid _ from bt HBc.out hb42)
                  try replace HGV := (show Hid _ from HGV.out.below hb42)
                  try replace HFD := (show Hid _ from Fd.below HFD.out hb42)
                  refine hKq.out _ _ (hHeld.below hb42) (fun hHeld => ?_)
                  clear hKq Kq
                  try simp only [Act.put, List.setIfInBounds_toArray, List.set_cons_zero, List.set_cons_succ]
                  refine wpAnyH_ready (rs := [6]) (by kernel_rfl) (by simp) ?_
                  refine AllReadyH.cons (o := { dst := none, op := Op.store 41 (Operand.tmp 11) (Operand.tmp 83), type := 0, pos := "votes.go:151", after := #[{ on := 5, ground := Ground.data }, { on := 4, ground := Ground.data }, { on := 4, ground := Ground.chain }, { on := 0, ground := Ground.phase }, { on := 1, ground := Ground.phase }, { on := 2, ground := Ground.phase }, { on := 3, ground := Ground.phase }, { on := 4, ground := Ground.phase }, { on := 5, ground := Ground.phase }], guard := none }) rfl (fun Kq hKq => ?_) AllReadyH.nil
                  · skip
                    refine step_stV J.kd J.wg pv14 H1C.out rfl (.tmp 11) (.tmp 83) rfl rfl gV rfl rfl HGV.out ?_
                    intro w43x hG16 hg16
                    have HB16 := (show Hid _ from grown_below HBc.out hg16 HBc.out.size HGg.out)
                    refine hKq.out _ _ (hHeld.kept hg16 (fun e => by have e2 : gV = w.heap.size := Option.some.inj e; have h1 := HGg.out; have h2 := HW0.out; omega)) (fun hHeld => ?_)
                    clear hKq Kq
                    try simp only [Act.put, List.setIfInBounds_toArray, List.set_cons_zero, List.set_cons_succ]
                    refine wpAnyH_done (by kernel_rfl) ?_ _
                    go_wp2_with (fail)
                    go_meet
                    case rel => exact ⟨gV, pv14, rfl, hG16, HB16⟩
          case rest =>
            obtain ⟨gv, pv, rfl, hGv, hbc⟩ := hcut
            obtain ⟨v0, v1, v2, v3⟩ := gb_vd hGv.out
            clear v1 v2 v3
            by_cases h1 : J.kd = 2
            · have HP2 := (show Hid (_ = true) from (HPN.out.symm.trans (decide_eq_true h1)))
              rw [h1] at v0
              clear h1
              go_wp2_with (fail)
              go_quiet (fail)
              go_wp2_with (fail)
              go_ret2
              rw [HEQ.out, HP2.out]
              exact ⟨_, rfl, rgl_oxA (HO2.out.below (below_drewN hbc.out _)) (HAF.out.below (below_drewN hbc.out _)), below_drewN (bt HB5.out (bt hB.out hbc.out)) _⟩
            · have HP2 := (show Hid (_ = false) from (HPN.out.symm.trans (decide_eq_false h1)))
              have d0 : (J.kd == 2) = false := by simp [h1]
              clear h1
              go_wp2_with (fail)
              go_quiet (fail)
              go_wp2_with (fail)
              go_ret2
              rw [HEQ.out, HP2.out]
              exact ⟨_, rfl, rgl_oxA (HO2.out.below (below_drewN hbc.out _)) (HAF.out.below (below_drewN hbc.out _)), below_drewN (bt HB5.out (bt hB.out hbc.out)) _⟩
    · have d1 : ((n : Int) != k + m) = true := by simp [hnk]
      rw [decide_eq_false hnk] at hfy
      rw [hfy]
      simp only [Bool.false_eq_true, if_false]
      clear hnk hfy
      go_enter Try.func10, Try.ntmps10
      go_wp2_with (first
        | (refine wpList_bxB rfl _ rfl rfl ?_; intro w1 hG1 hb1 hs1)
        | (refine wpList_ldB rfl _ rfl w.heap.size rfl hG1 Try.underlying23 (size_Sp' _ _ _) ?_)
        | (go_at_call 23; refine (FT.out _).mono ?_; rintro e w3 ⟨rfl, hb3⟩; obtain ⟨k0, k1⟩ := gb_sh (hG1.below hb3)))
      go_ret2
      exact ⟨_, rfl, RN.out _, bt hb1 hb3⟩
end
end Go.Proofs.Ytcoegbbhmdbafaa
