/-
  The document's own functions of layer 17: Judge, SameVerdict.
-/
import Derived.Test.YtcoegbbhmdbafaaVw17
import Derived.Test.YtcoegbbhmdbafaaVr17
namespace Go.Proofs.Ytcoegbbhmdbafaa
open Go.RowKit
theorem step_stV {ops : Array Oper} {o : Oper} {a : Act} {w : World} {K : Act → World → Prop} {Q : Exit → Act → World → Prop} {E : Prop} (kv : Int) (k : Wg) (v : Value) (hv : v.oneCell' = true) (hgd : o.guard = none) (x y : Operand) (ho : o.op = .store 41 x y) (hd : o.dst = none) (g : Nat) (hx : a.eval x = .pointer (some ⟨g, 0, none⟩)) (hy : a.eval y = .agg (vdC kv k v)) (H : GB w g 41 (vdC 0 (0, 0, 0) (.slice none 0 0)))
    (h : ∀ w', GB w' g 41 (vdC kv k v) → w.grownBy w' (some g) → K a w') : if Region.wanted o (yielded ops a.tmps) = true then Oper.wp Try.prog o a w K Q else E := by
  have hw : Region.wanted o (yielded ops a.tmps) = true := by simp [Region.wanted, hgd]
  rw [if_pos hw]
  have hr := run_storeVar_row (P := Try.prog) w g 41 41 (vdC 0 (0, 0, 0) (.slice none 0 0)) (vdC kv k v) H size_Vd rfl (vdC_one _ _ _ hv)
  unfold Oper.wp execOp
  simp only [ho, hx, hy, Instr.storeAt, Instr.sureAddr, Sem.run_bind, Sem.run_pure, Result.andThen_ok, hr]
  have e : a.put o.dst undef = a := by rw [hd]; rfl
  show K (a.put o.dst undef) _
  rw [e]
  refine h _ ?_ ⟨rfl, rfl, rfl, by simp, fun k _ hk => setRow_other w g k _ (fun e => hk (by rw [e]))⟩
  unfold GB at H ⊢
  exact setRow_heap w g _ _ _ _ H
theorem gb_sh {w : World} {g : Nat} {k m b : Int} (H : GB w g 23 (shC k m b)) : w.cell? ⟨g, 0, none⟩ = some (.int .i64 k) ∧ w.cell? ⟨g, 1, none⟩ = some (.int .i64 m) := ⟨H.cell 0, H.cell 1⟩
theorem Ax.at {w : World} {B : Nat} {es : List (Wg × Sl3)} {L : List Grp} (h : Ax w B es L) {i : Nat} (hi : i < L.length) : On w B (slv (es.getD i ((0, 0, 0), (0, 0, 0))).2) (L.getD i ((0, 0, 0), [])).2 := (h.2 i hi).2
theorem Ox.blk {w : World} {B g n c : Nat} {es : List (Wg × Sl3)} (h : Ox w B (.slice (some ⟨g, 0, none⟩) n c) es) : B ≤ g := (World.ownsRow.lt h g rfl).1
theorem fitB_no {k m b : Int} {n : Nat} (h : shB k m b = false) : fitB k m b n = false := by unfold fitB; rw [h]; rfl
theorem fitB_yes {k m b : Int} {n : Nat} (h : shB k m b = true) : fitB k m b n = decide ((n : Int) = k + m) := by unfold fitB; rw [h]; rfl
section
attribute [local irreducible] Calls GB On Ox Ax slv grE grps shC
set_option maxHeartbeats 16000000 in
set_option maxRecDepth 1000000 in
theorem rjudge_any (k m b : Int) {w : World} {p : Option Addr} {n c : Nat} {ss : Nat → Sn} (HS : SnL w p n ss) (hn : n ≤ 1172812402943) :
    Calls Try.prog 16 #[.agg (shC k m b), .slice p n c] w fun e w' => ∃ pv, e = .returned (.agg (vdC (jdg k m b (shs ss) n).kd (jdg k m b (shs ss) n).wg pv)) ∧ Rn w' pv (jdg k m b (shs ss) n).pl ∧ Below w.heap.size w w' := by
  have HL := (show Hid (SnL w p n ss) from HS)
  have HN := (show Hid (n ≤ 1172812402943) from hn)
  have FT := (show Hid (∀ W : World, _) from fun W => rfits_any k m b W)
  clear HS hn
  unfold jdg
  cases hs : shB k m b with
  | false =>
    rw [hs] at FT
    rw [fitB_no hs]
    simp only [Bool.false_eq_true, if_false]
    clear hs
    go_enter Try.func16, Try.ntmps16
    go_wp2_with (first
      | (refine wpList_bxB rfl _ rfl rfl ?_; intro w1 hG1 hb1 hs1)
      | (refine wpList_alB rfl rfl vd0 ?_; intro w2 hG2 hb2 hs2; have hG1' := hG1.below hb2)
      | (refine wpList_ldB rfl _ rfl w.heap.size rfl hG1' Try.underlying23 (size_Sp' _ _ _) ?_)
      | (go_at_call 23; refine (FT.out _).mono ?_; rintro e w3 ⟨rfl, hb3⟩; have hG3 := hG2.below hb3)
      | (refine wpList_stB (cs := vdC 3 (0, 0, 0) (.slice none 0 0)) rfl _ _ rfl rfl w1.heap.size rfl rfl hG3 size_Vd rfl (vdC_one _ _ _ rfl) ?_; intro w4 hG4 hg4 hs4))
    refine bodyPost_ret (res_B rfl _ _ w1.heap.size rfl hG4 Try.underlying41 size_Vd) rfl ?_
    have B3 := bt (bt hb1 hb2) hb3
    exact ⟨_, rfl, (On.nil _ 0).rn, grown_below B3 hg4 B3.size hb1.size⟩
  | true =>
    rw [hs] at FT
    rw [fitB_yes hs]
    have hsh := (shB_iff k m b).1 hs
    unfold shp at hsh
    have wkm := add_kk (k := k) (m := m) (by omega) (by omega) (by omega)
    clear hs hsh
    by_cases hnk : (n : Int) = k + m
    · have d1 : ((n : Int) != k + m) = false := by simp [hnk]
      rw [decide_eq_true hnk, if_pos rfl]
      clear hnk
      go_enter Try.func16, Try.ntmps16
      go_wp2_with (first
        | (refine wpList_bxB rfl _ rfl rfl ?_; intro w1 hG1 hb1 hs1)
        | (refine wpList_alB rfl rfl vd0 ?_; intro w2 hG2 hb2 hs2; have hG1' := hG1.below hb2)
        | (refine wpList_ldB rfl _ rfl w.heap.size rfl hG1' Try.underlying23 (size_Sp' _ _ _) ?_)
        | (go_at_call 23; refine (FT.out _).mono ?_; rintro e w3 ⟨rfl, hb3⟩; have HB3 := (show Hid (Below w.heap.size w w3) from bt (bt hb1 hb2) hb3); obtain ⟨k0, k1⟩ := gb_sh (hG1'.below hb3))
        | (go_at_call 9; refine (rgroups_any (HL.out.below HB3.out) HN.out).mono ?_; rintro e w5 ⟨v5, es, rfl, hO5, hA5, hb5⟩))
      have HI5 := (show Hid (IsG (shs ss) n (grps (shs ss) n)) from isG_grps _ _)
      have HL5 := (show Hid ((grps (shs ss) n).length ≤ 1172812402943) from by have := HI5.out.lenG; have := HN.out; show _ ≤ _; omega)
      have HO5 := (show Hid (Ox w5 w3.heap.size v5 es) from hO5)
      have HA5 := (show Hid (Ax w5 w3.heap.size es (grps (shs ss) n)) from hA5)
      have HW3 := (show Hid (w1.heap.size < w3.heap.size) from by have h1 := hs2.out; have h2 := hb3.size; show _ < _; omega)
      have HB5 := (show Hid (Below w.heap.size w w5) from bt HB3.out hb5)
      have HG1 := (show Hid (GB w5 w.heap.size 23 (shC k m b)) from (hG1'.below hb3).below hb5)
      have HG2 := (show Hid (GB w5 w1.heap.size 41 (vdC 0 (0, 0, 0) (.slice none 0 0))) from (hG2.below hb3).below hb5)
      have HW1 := (show Hid (w.heap.size ≤ w1.heap.size) from hb1.size)
      obtain ⟨p6, cap6, e6, hc6, hrow6⟩ := hO5.sm
      subst e6
      rw [hA5.len] at hc6
      have HEL := (show Hid (es.length = (grps (shs ss) n).length) from hA5.len)
      have HR6 := (show Hid (_ ∨ _) from hrow6)
      rw [hA5.len]
      rw [hA5.len] at HO5
      clear hO5 hA5 hG1 hG1' hG2 FT k0 k1 hrow6
      generalize hgl : (grps (shs ss) n) = l at *
      have HEQ := (show Hid (grps (shs ss) n = l) from hgl)
      clear hgl
      go_loopw [7] (fun i wr => ∃ t : Nat, t ≤ l.length ∧ i = .int .i64 (t : Int) ∧ Hid (∀ j, j < t → cnts k (l.getD j ((0, 0, 0), [])) = false) ∧ Hid (Below w5.heap.size w5 wr)) (fun i _ => l.length - (intOf i).toNat)
      case atStart => exact ⟨0, Nat.zero_le _, rfl, fun j hj => by omega, Below.refl _ _⟩
      case round =>
        obtain ⟨t, ht, rfl, hN, hB⟩ := hrel
        obtain ⟨W0, hW0⟩ : ∃ W0, W0 = wr := ⟨_, rfl⟩
        subst hW0
        by_cases hlt : t < l.length
        · have hi : (t : Int) < (l.length : Int) := by omega
          obtain ⟨g, epv, hrow⟩ : ∃ g, p6 = some ⟨g, 0, none⟩ ∧ ∀ i, i < es.length → ∀ j u, (grE (es.getD i ((0, 0, 0), (0, 0, 0))))[j]? = some u → w5.cell? ⟨g, i * 4 + j, none⟩ = some u := by
            rcases HR6.out with h | h
            · have := HEL.out; rw [h] at this; simp at this; omega
            · exact h
          subst epv
          have hk := HA5.out.key hlt
          have hpl := (HA5.out.at hlt).below hB.out
          have y0 := hrow t (by rw [HEL.out]; exact hlt) 0
          have y1 := hrow t (by rw [HEL.out]; exact hlt) 1
          have y2 := hrow t (by rw [HEL.out]; exact hlt) 2
          have y3 := hrow t (by rw [HEL.out]; exact hlt) 3
          have HGN := (show Hid (some w1.heap.size ≠ some g) from by have h1 := HO5.out.blk; have h2 := HW3.out; intro e; injection e with e; omega)
          have WT := (show Hid (wrap64 ((t : Int) + 1) = ((t + 1 : Nat) : Int)) from by have := HL5.out; show _ = _; unfold wrap64; omega)
          have HT := (show Hid (t < l.length) from hlt)
          have HF := (show Hid (cnts k (l.getD t ((0, 0, 0), [])) = true → l.find? (cnts k) = some (l.getD t ((0, 0, 0), []))) from fun h => find_first hlt hN.out h)
          have HNX := (show Hid (cnts k (l.getD t ((0, 0, 0), [])) = false → ∀ j, j < t + 1 → cnts k (l.getD j ((0, 0, 0), [])) = false) from fun h j hj => by
            by_cases e : j = t
            · rw [e]; exact h
            · exact hN.out j (by omega))
          have ck : W0.cell? ⟨w.heap.size, 0, none⟩ = some (.int .i64 k) := (gb_sh (HG1.out.below hB.out)).1
          generalize l.getD t ((0, 0, 0), []) = q at *
          obtain ⟨qk, qL⟩ := q
          generalize es.getD t ((0, 0, 0), (0, 0, 0)) = x at *
          obtain ⟨xk, b0⟩ := x
          replace hk : xk = qk := hk
          subst hk
          have hsl := on_slen hpl
          have HP := (show Hid (On W0 w3.heap.size (.slice (some ⟨b0.1, 0, none⟩) qL.length b0.2.2) qL) from on_shape hpl)
          unfold grE at y0 y1 y2 y3
          replace y0 := cell_below (y0 _ rfl) hB.out
          replace y1 := cell_below (y1 _ rfl) hB.out
          replace y2 := cell_below (y2 _ rfl) hB.out
          replace y3 := cell_below (y3 _ rfl) hB.out
          rw [Nat.add_zero] at y0
          simp only at y0 y1 y2 y3 hsl
          rw [hsl] at y3
          clear hpl hlt ht hrow hsl
          cases hc : cnts k (xk, qL) with
          | true =>
            have hcd : ((qL.length : Int) ≥ k) := by have := hc; unfold cnts at this; simpa using this
            have HE := (show Hid _ from HF.out hc)
            go_wp2_with (fail)
            go_quiet (fail)
            have HBq := (show Hid (Below W0.heap.size W0 (W0.drewN nq)) from below_drewN (Below.refl _ _) nq)
            generalize W0.drewN nq = W9 at *
            have bd9 : Below W9.heap.size W9 W9.drew := (Below.refl _ _).drew
            have B9 := bt HBq.out bd9
            have HX9 := (show Hid (GB W9.drew w1.heap.size 41 (vdC 0 (0, 0, 0) (.slice none 0 0))) from (HG2.out.below hB.out).below B9)
            have HP9 := (show Hid (On W9.drew w3.heap.size (.slice (some ⟨b0.1, 0, none⟩) qL.length b0.2.2) qL) from HP.out.below B9)
            have HPN := (show Hid ((Value.slice (some ⟨b0.1, 0, none⟩) qL.length b0.2.2).ownBlock = none ∨ (Value.slice (some ⟨b0.1, 0, none⟩) qL.length b0.2.2).ownBlock ≠ some w1.heap.size) from .inr (by intro e; have := (HP.out.blk e).1; have := HW3.out; omega))
            have HB9 := (show Hid (Below w.heap.size w W9.drew) from bt HB5.out (bt hB.out B9))
            have z0 := cell_below y0 B9
            have z1 := cell_below y1 B9
            have z2 := cell_below y2 B9
            have z3 := cell_below y3 B9
            obtain ⟨qk, hqk⟩ : ∃ qk, qk = xk := ⟨_, rfl⟩
            subst hqk
            clear y0 y1 y2 y3 hc HF HNX B9
            go_wp2_with (fail)
            refine wp_region_held_drew (S := fun X => X.cell? ⟨g, t * 4, none⟩ = some (.int .i64 qk.1) ∧ X.cell? ⟨g, t * 4 + 1, none⟩ = some (.int .i64 qk.2.1) ∧ X.cell? ⟨g, t * 4 + 2, none⟩ = some (.int .i64 qk.2.2) ∧ X.cell? ⟨g, t * 4 + 3, none⟩ = some (.slice (some ⟨b0.1, 0, none⟩) qL.length b0.2.2)) (by kernel_rfl) ⟨z0, z1, z2, z3⟩ (fun hHeld => ?_)
            clear z0 z1 z2 z3
            refine takeHr (i := 0) (d := some 40) (v := ?v1) rfl rfl (by kernel_rfl) (by kernel_rfl) (by kernel_rfl) (fun _ _ _ h => h) (Or.inl ⟨by rfl, ?hy1⟩) hHeld ?rest1
            case hy1 => intro X hSw; obtain ⟨g0, g1, g2, g3⟩ := hSw; go_simp <;> with_reducible rfl
            try simp only [Act.put, List.setIfInBounds_toArray, List.set_cons_zero, List.set_cons_succ]
            refine takeHr (i := 1) (d := some 41) (v := ?v2) rfl rfl (by kernel_rfl) (by kernel_rfl) (by kernel_rfl) (fun _ _ _ h => h) (Or.inl ⟨by rfl, ?hy2⟩) hHeld ?rest2
            case hy2 => intro X hSw; obtain ⟨g0, g1, g2, g3⟩ := hSw; go_simp <;> with_reducible rfl
            try simp only [Act.put, List.setIfInBounds_toArray, List.set_cons_zero, List.set_cons_succ]
            refine takeHr (i := 2) (d := some 42) (v := .pointer (some ⟨g, t * 4, none⟩)) rfl rfl (by kernel_rfl) (by kernel_rfl) (by kernel_rfl) (fun _ _ _ h => h) (Or.inl ⟨by rfl, ?hy3⟩) hHeld ?rest3
            case hy3 => intro X hSw; obtain ⟨g0, g1, g2, g3⟩ := hSw; go_simp <;> with_reducible rfl
            try simp only [Act.put, List.setIfInBounds_toArray, List.set_cons_zero, List.set_cons_succ]
            refine takeHr (i := 3) (d := some 43) (v := ?v4) rfl rfl (by kernel_rfl) (by kernel_rfl) (by kernel_rfl) (fun _ _ _ h => h) (Or.inl ⟨by rfl, ?hy4⟩) hHeld ?rest4
            case hy4 => intro X hSw; obtain ⟨g0, g1, g2, g3⟩ := hSw; go_simp <;> with_reducible rfl
            try simp only [Act.put, List.setIfInBounds_toArray, List.set_cons_zero, List.set_cons_succ]
            refine takeHr (i := 4) (d := some 44) (v := ?v5) rfl rfl (by kernel_rfl) (by kernel_rfl) (by kernel_rfl) (fun _ _ _ h => h) (Or.inl ⟨by rfl, ?hy5⟩) hHeld ?rest5
            case hy5 => intro X hSw; obtain ⟨g0, g1, g2, g3⟩ := hSw; go_simp <;> with_reducible rfl
            try simp only [Act.put, List.setIfInBounds_toArray, List.set_cons_zero, List.set_cons_succ]
            refine takeHr (i := 5) (d := some 45) (v := ?v6) rfl rfl (by kernel_rfl) (by kernel_rfl) (by kernel_rfl) (fun _ _ _ h => h) (Or.inl ⟨by rfl, ?hy6⟩) hHeld ?rest6
            case hy6 => intro X hSw; obtain ⟨g0, g1, g2, g3⟩ := hSw; go_simp <;> with_reducible rfl
            try simp only [Act.put, List.setIfInBounds_toArray, List.set_cons_zero, List.set_cons_succ]
            refine takeHr (i := 6) (d := some 46) (v := ?v7) rfl rfl (by kernel_rfl) (by kernel_rfl) (by kernel_rfl) (fun _ _ _ h => h) (Or.inl ⟨by rfl, ?hy7⟩) hHeld ?rest7
            case hy7 => intro X hSw; obtain ⟨g0, g1, g2, g3⟩ := hSw; go_simp <;> with_reducible rfl
            try simp only [Act.put, List.setIfInBounds_toArray, List.set_cons_zero, List.set_cons_succ]
            refine takeHr (i := 7) (d := some 47) (v := .pointer (some ⟨g, t * 4, none⟩)) rfl rfl (by kernel_rfl) (by kernel_rfl) (by kernel_rfl) (fun _ _ _ h => h) (Or.inl ⟨by rfl, ?hy8⟩) hHeld ?rest8
            case hy8 => intro X hSw; obtain ⟨g0, g1, g2, g3⟩ := hSw; go_simp <;> with_reducible rfl
            try simp only [Act.put, List.setIfInBounds_toArray, List.set_cons_zero, List.set_cons_succ]
            refine takeHr (i := 8) (d := some 48) (v := ?v9) rfl rfl (by kernel_rfl) (by kernel_rfl) (by kernel_rfl) (fun _ _ _ h => h) (Or.inl ⟨by rfl, ?hy9⟩) hHeld ?rest9
            case hy9 => intro X hSw; obtain ⟨g0, g1, g2, g3⟩ := hSw; go_simp <;> with_reducible rfl
            try simp only [Act.put, List.setIfInBounds_toArray, List.set_cons_zero, List.set_cons_succ]
            refine takeHr (i := 9) (d := some 49) (v := ?v10) rfl rfl (by kernel_rfl) (by kernel_rfl) (by kernel_rfl) (fun _ _ _ h => h) (Or.inl ⟨by rfl, ?hy10⟩) hHeld ?rest10
            case hy10 => intro X hSw; obtain ⟨g0, g1, g2, g3⟩ := hSw; go_simp <;> with_reducible rfl
            try simp only [Act.put, List.setIfInBounds_toArray, List.set_cons_zero, List.set_cons_succ]
            refine takeHr (i := 10) (d := some 50) (v := ?v11) rfl rfl (by kernel_rfl) (by kernel_rfl) (by kernel_rfl) (fun _ _ _ h => h) (Or.inl ⟨by rfl, ?hy11⟩) hHeld ?rest11
            case hy11 => intro X hSw; obtain ⟨g0, g1, g2, g3⟩ := hSw; go_simp <;> with_reducible rfl
            try simp only [Act.put, List.setIfInBounds_toArray, List.set_cons_zero, List.set_cons_succ]
            refine takeHr (i := 11) (d := some 51) (v := ?v12) rfl rfl (by kernel_rfl) (by kernel_rfl) (by kernel_rfl) (fun _ _ _ h => h) (Or.inl ⟨by rfl, ?hy12⟩) hHeld ?rest12
            case hy12 => intro X hSw; obtain ⟨g0, g1, g2, g3⟩ := hSw; go_simp <;> with_reducible rfl
            try simp only [Act.put, List.setIfInBounds_toArray, List.set_cons_zero, List.set_cons_succ]
            refine takeHr (i := 12) (d := some 52) (v := .pointer (some ⟨g, t * 4, none⟩)) rfl rfl (by kernel_rfl) (by kernel_rfl) (by kernel_rfl) (fun _ _ _ h => h) (Or.inl ⟨by rfl, ?hy13⟩) hHeld ?rest13
            case hy13 => intro X hSw; obtain ⟨g0, g1, g2, g3⟩ := hSw; go_simp <;> with_reducible rfl
            try simp only [Act.put, List.setIfInBounds_toArray, List.set_cons_zero, List.set_cons_succ]
            refine takeHr (i := 13) (d := some 53) (v := ?v14) rfl rfl (by kernel_rfl) (by kernel_rfl) (by kernel_rfl) (fun _ _ _ h => h) (Or.inl ⟨by rfl, ?hy14⟩) hHeld ?rest14
            case hy14 => intro X hSw; obtain ⟨g0, g1, g2, g3⟩ := hSw; go_simp <;> with_reducible rfl
            try simp only [Act.put, List.setIfInBounds_toArray, List.set_cons_zero, List.set_cons_succ]
            refine takeHr (i := 14) (d := some 54) (v := .slice (some ⟨b0.1, 0, none⟩) qL.length b0.2.2) rfl rfl (by kernel_rfl) (by kernel_rfl) (by kernel_rfl) (fun _ _ _ h => h) (Or.inl ⟨by rfl, ?hy15⟩) hHeld ?rest15
            case hy15 => intro X hSw; obtain ⟨g0, g1, g2, g3⟩ := hSw; go_simp <;> with_reducible rfl
            try simp only [Act.put, List.setIfInBounds_toArray, List.set_cons_zero, List.set_cons_succ]
            refine takeHr (i := 15) (d := some 55) (v := .agg (vdC 1 qk (.slice (some ⟨b0.1, 0, none⟩) qL.length b0.2.2))) rfl rfl (by kernel_rfl) (by kernel_rfl) (by kernel_rfl) (fun _ _ _ h => h) (Or.inl ⟨by rfl, ?hy16⟩) hHeld ?rest16
            case hy16 => intro X hSw; exact ex_bdV 1 qk _ _ _ _ _ _ _ rfl rfl
            try simp only [Act.put, List.setIfInBounds_toArray, List.set_cons_zero, List.set_cons_succ]
            refine wpAnyH_ready (rs := [16]) (by kernel_rfl) (by simp) ?_
            refine AllReadyH.cons (o := { dst := none, op := Op.store 41 (Operand.tmp 4) (Operand.tmp 55), type := 0, pos := "votes.go:94", after := #[{ on := 15, ground := Ground.data }, { on := 0, ground := Ground.phase }, { on := 1, ground := Ground.phase }, { on := 2, ground := Ground.phase }, { on := 3, ground := Ground.phase }, { on := 4, ground := Ground.phase }, { on := 5, ground := Ground.phase }, { on := 6, ground := Ground.phase }, { on := 7, ground := Ground.phase }, { on := 8, ground := Ground.phase }, { on := 9, ground := Ground.phase }, { on := 10, ground := Ground.phase }, { on := 11, ground := Ground.phase }, { on := 12, ground := Ground.phase }, { on := 13, ground := Ground.phase }, { on := 14, ground := Ground.phase }, { on := 15, ground := Ground.phase }], guard := none }) rfl (fun Kq hKq => ?_) AllReadyH.nil
            · skip
              refine step_stV 1 qk (.slice (some ⟨b0.1, 0, none⟩) qL.length b0.2.2) rfl rfl (.tmp 4) (.tmp 55) rfl rfl w1.heap.size rfl rfl HX9.out ?_
              intro w8 hG8 hg8
              refine hKq.out _ _ ⟨cell_grown hHeld.1 hg8 HGN.out, cell_grown hHeld.2.1 hg8 HGN.out, cell_grown hHeld.2.2.1 hg8 HGN.out, cell_grown hHeld.2.2.2 hg8 HGN.out⟩ (fun hHeld => ?_)
              clear hKq Kq
              try simp only [Act.put, List.setIfInBounds_toArray, List.set_cons_zero, List.set_cons_succ]
              refine wpAnyH_done (by kernel_rfl) ?_ _
              go_wp2_with (fail)
              refine bodyPost_ret (res_B rfl _ _ w1.heap.size rfl hG8 Try.underlying41 size_Vd) rfl ?_
              unfold vjd
              rw [HEQ.out, HE.out]
              exact ⟨_, rfl, (HP9.out.kept hg8 HPN.out).rn, grown_below HB9.out hg8 HB9.out.size HW1.out⟩
          | false =>
            have hcd : ¬ ((qL.length : Int) ≥ k) := by have := hc; unfold cnts at this; simpa using this
            have HE := (show Hid _ from HNX.out hc)
            go_wp2_with (fail)
            go_quiet (fail)
            go_wp2_with (fail)
            go_roundw
            case rel => exact ⟨t + 1, HT.out, by first | rw [WT.out] | go_num, HE, below_drewN hB.out _⟩
            case measure => first | (rw [WT.out]; exact meas_v17 HT.out) | exact meas_v17 HT.out
        · obtain rfl : t = l.length := by omega
          have hnn : ¬ ((l.length : Int) < (l.length : Int)) := by omega
          have HE := (show Hid _ from find_none hN.out)
          have HD := (show Hid (∀ W : World, Below W0.heap.size W0 W → _) from fun W hW => rhidden_any (c := c) (((HL.out.below HB5.out).below hB.out).below hW) HN.out)
          have M0 : W0.cell? ⟨w.heap.size, 1, none⟩ = some (.int .i64 m) := (gb_sh (HG1.out.below hB.out)).2
          have bd : Below W0.heap.size W0 W0.drew := (Below.refl _ _).drew
          have HX := (show Hid (GB W0 w1.heap.size 41 (vdC 0 (0, 0, 0) (.slice none 0 0))) from HG2.out.below hB.out)
          have HB9 := (show Hid (Below w.heap.size w W0) from bt HB5.out hB.out)
          generalize hh9 : hid (shs ss) n = h9 at *
          have HH := (show Hid (hid (shs ss) n = h9) from hh9)
          clear hh9
          clear ht hlt hN hB
          by_cases hmh : (h9 : Int) ≤ m
          · go_wp2_with (fail)
            go_region_with (go_at_call 39; refine (HD.out _ bd).mono ?_; rintro e w6 ⟨rfl, hb6⟩; have M6 := cell_below (w := W0.drew) M0 hb6; have HB6 := (show Hid (Below W0.heap.size W0 w6) from bt bd hb6))
            all_goals
              go_wp2_with (first
                | (refine wpList_stB (cs := vdC 2 (0, 0, 0) (.slice none 0 0)) rfl _ _ rfl rfl w1.heap.size rfl rfl (HX.out.below HB6.out) size_Vd rfl (vdC_one _ _ _ rfl) ?_; intro w8 hG8 hg8 hs8))
              refine bodyPost_ret (res_B rfl _ _ w1.heap.size rfl hG8 Try.underlying41 size_Vd) rfl ?_
              have B7 := bt HB9.out HB6.out
              unfold vjd
              rw [HEQ.out, HE.out, HH.out]
              simp only [if_neg (Int.not_lt.2 hmh)]
              exact ⟨_, rfl, (On.nil _ 0).rn, grown_below B7 hg8 B7.size HW1.out⟩
          · go_wp2_with (fail)
            go_region_with (go_at_call 39; refine (HD.out _ bd).mono ?_; rintro e w6 ⟨rfl, hb6⟩; have M6 := cell_below (w := W0.drew) M0 hb6; have HB6 := (show Hid (Below W0.heap.size W0 w6) from bt bd hb6))
            all_goals
              go_wp2_with (first
                | (refine wpList_stB (cs := vdC 3 (0, 0, 0) (.slice none 0 0)) rfl _ _ rfl rfl w1.heap.size rfl rfl (HX.out.below HB6.out) size_Vd rfl (vdC_one _ _ _ rfl) ?_; intro w8 hG8 hg8 hs8))
              refine bodyPost_ret (res_B rfl _ _ w1.heap.size rfl hG8 Try.underlying41 size_Vd) rfl ?_
              have B7 := bt HB9.out HB6.out
              unfold vjd
              rw [HEQ.out, HE.out, HH.out]
              simp only [if_pos hmh]
              exact ⟨_, rfl, (On.nil _ 0).rn, grown_below B7 hg8 B7.size HW1.out⟩
    · have d1 : ((n : Int) != k + m) = true := by simp [hnk]
      rw [decide_eq_false hnk]
      simp only [Bool.false_eq_true, if_false]
      clear hnk
      go_enter Try.func16, Try.ntmps16
      go_wp2_with (first
        | (refine wpList_bxB rfl _ rfl rfl ?_; intro w1 hG1 hb1 hs1)
        | (refine wpList_alB rfl rfl vd0 ?_; intro w2 hG2 hb2 hs2; have hG1' := hG1.below hb2)
        | (refine wpList_ldB rfl _ rfl w.heap.size rfl hG1' Try.underlying23 (size_Sp' _ _ _) ?_)
        | (go_at_call 23; refine (FT.out _).mono ?_; rintro e w3 ⟨rfl, hb3⟩; obtain ⟨k0, k1⟩ := gb_sh (hG1'.below hb3); have hG3 := hG2.below hb3)
        | (refine wpList_stB (cs := vdC 3 (0, 0, 0) (.slice none 0 0)) rfl _ _ rfl rfl w1.heap.size rfl rfl hG3 size_Vd rfl (vdC_one _ _ _ rfl) ?_; intro w4 hG4 hg4 hs4))
      refine bodyPost_ret (res_B rfl _ _ w1.heap.size rfl hG4 Try.underlying41 size_Vd) rfl ?_
      have B3 := bt (bt hb1 hb2) hb3
      exact ⟨_, rfl, (On.nil _ 0).rn, grown_below B3 hg4 B3.size hb1.size⟩
set_option maxHeartbeats 8000000 in
set_option maxRecDepth 1000000 in
theorem sameVerdict_any {w : World} (kd : Int) (k : Wg) {u v : Value} {L : List Nat} (h1 : Rn w u L) (h2 : Rn w v L) (hL : L.length ≤ 17592186044416) :
    Calls Try.prog 18 #[.agg (vdC kd k u), .agg (vdC kd k v)] w fun e w' => e = .returned (.bool true) ∧ Below w.heap.size w w' := by
  have H1 := (show Hid (Rn w u L) from h1)
  have H2 := (show Hid (Rn w v L) from h2)
  have HL := (show Hid (L.length ≤ 17592186044416) from hL)
  obtain ⟨p1, c1, rfl, _, _⟩ := id h1
  obtain ⟨p2, c2, rfl, _, _⟩ := id h2
  clear h1 h2 hL
  unfold vdC
  have e0 : (kd == kd) = true := by simp
  have e1 : (k.1 == k.1) = true := by simp
  have e2 : (k.2.1 == k.2.1) = true := by simp
  have e3 : (k.2.2 == k.2.2) = true := by simp
  have SI := (show Hid (∀ W : World, Below w.heap.size w W → _) from fun W hW => sameInts_any (H1.out.below hW) (H2.out.below hW) HL.out)
  go_enter Try.func18, Try.ntmps18
  go_wp2_with (first
    | (go_at_call 21; refine (SI.out _ (balloc (balloc (Below.refl _ _) _) _)).mono ?_; rintro e w3 ⟨rfl, hb3⟩))
  go_ret
  exact ⟨rfl, bt (balloc (balloc (Below.refl _ _) _) _) hb3⟩
end
end Go.Proofs.Ytcoegbbhmdbafaa
