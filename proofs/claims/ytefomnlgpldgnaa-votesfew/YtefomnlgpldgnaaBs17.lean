/-
  Layer 17's laws: 'shows', 'bare'.
-/
import Derived.Test.YtefomnlgpldgnaaAw17
import Derived.BigQuiet
namespace Go.Proofs.Ytefomnlgpldgnaa
open Go.RowKit
theorem cn_zero (s : Shs) (k : Wg) : cn s 0 k = 0 := rfl
section
attribute [local irreducible] Calls GB cn
set_option maxHeartbeats 8000000 in
set_option maxRecDepth 1000000 in
theorem shows_any {w : World} {p : Option Addr} {n c : Nat} {ss : Nat → Sn} (HS : SnL w p n ss) (hn : n ≤ 1172812402943) (k : Wg) :
    Calls Try.prog 9 #[.slice p n c, .agg #[.int .i64 k.1, .int .i64 k.2.1], .int .i64 k.2.2] w fun e w' => e = .returned (.int .i64 (cn (shs ss) n k : Int)) ∧ Below w.heap.size w w' := by
  have HL := (show Hid (SnL w p n ss) from HS)
  have HN := (show Hid (n ≤ 1172812402943) from hn)
  clear HS hn
  go_enter Try.func9, Try.ntmps9
  go_wp2_with (first
    | (refine wpList_bxB rfl _ rfl rfl ?_; intro w1 hG1 hb1 hs1))
  have HG1 := (show Hid (GB w1 w.heap.size 31 #[.int .i64 k.1, .int .i64 k.2.1]) from hG1)
  clear hG1
  go_loopw [7, 8] (fun v i wr => ∃ t : Nat, t ≤ n ∧ i = .int .i64 (t : Int) ∧ v = .int .i64 (cn (shs ss) t k : Int) ∧ Hid (Below w1.heap.size w1 wr)) (fun _ i _ => n - (intOf i).toNat)
  case atStart => exact ⟨0, Nat.zero_le _, rfl, by rw [cn_zero]; rfl, Below.refl _ _⟩
  case round =>
    obtain ⟨t, ht, rfl, rfl, hB⟩ := hrel
    have hG := HG1.out.below hB.out
    have v0 := hG.cell 0
    have v1 := hG.cell 1
    simp only [List.getElem?_toArray, List.getElem?_cons_zero, List.getElem?_cons_succ] at v0 v1
    by_cases hlt : t < n
    · have hi : (t : Int) < (n : Int) := by omega
      obtain ⟨b, o, rfl, hAt⟩ := (HL.out.below (bt hb1 hB.out)).at hlt
      have hc := hAt.cells
      have c0 := hc.kd
      have c1 := hc.sz
      have c2 := hc.ep
      have c3 := hc.ct
      have WT := (show Hid (wrap64 ((t : Int) + 1) = ((t + 1 : Nat) : Int)) from by have := HN.out; show _ = _; unfold wrap64; omega)
      have WC := (show Hid (wrap64 ((cn (shs ss) t k : Int) + 1) = ((cn (shs ss) t k + 1 : Nat) : Int)) from by have := cn_le_n (shs ss) t k; have := HN.out; show _ = _; unfold wrap64; omega)
      have HX := (show Hid _ from cn_succ (shs ss) t k)
      have HT := (show Hid (t < n) from hlt)
      obtain ⟨W0, hW0⟩ : ∃ W0, W0 = wr := ⟨_, rfl⟩
      subst hW0
      generalize cn (shs ss) t k = L0 at *
      clear hc hAt hG hlt ht
      by_cases h2 : (ss t).kd = 2
      · rw [h2] at c0
        by_cases he : (ss t).hd.ep = k.1
        · by_cases hc : (ss t).hd.ct = k.2.1
          · by_cases hs : (ss t).hd.sz = k.2.2
            · have HST := (show Hid (sh (shs ss) k t = true) from (sh_iff _ _ _).2 ⟨h2, by show Sn.wg _ = _; unfold Sn.wg; rw [he, hc, hs]⟩)
              rw [he] at c2
              rw [hc] at c3
              rw [hs] at c1
              clear h2 he hc hs
              go_wp2_with (fail)
              go_quiet (fail)
              go_wp2_with (fail)
              go_roundw
              case rel => exact ⟨t + 1, HT.out, by first | rw [WT.out] | go_num, by rw [HX.out, HST.out, if_pos rfl]; first | rw [WC.out] | go_num, below_drewN hB.out _⟩
              case measure => first | (rw [WT.out]; exact meas_v17 HT.out) | exact meas_v17 HT.out
            · have HST := (show Hid (sh (shs ss) k t = false) from shs_no (fun e => hs (by rw [← e]; rfl)))
              have d1 : ((ss t).hd.sz == k.2.2) = false := by simp [hs]
              rw [he] at c2
              rw [hc] at c3
              clear h2 he hc hs
              go_wp2_with (fail)
              go_quiet (fail)
              go_wp2_with (fail)
              go_roundw
              case rel => exact ⟨t + 1, HT.out, by first | rw [WT.out] | go_num, by rw [HX.out, HST.out]; rfl, below_drewN hB.out _⟩
              case measure => first | (rw [WT.out]; exact meas_v17 HT.out) | exact meas_v17 HT.out
          · have HST := (show Hid (sh (shs ss) k t = false) from shs_no (fun e => hc (by rw [← e]; rfl)))
            have d1 : ((ss t).hd.ct == k.2.1) = false := by simp [hc]
            rw [he] at c2
            clear h2 he hc
            go_wp2_with (fail)
            go_quiet (fail)
            go_wp2_with (fail)
            go_roundw
            case rel => exact ⟨t + 1, HT.out, by first | rw [WT.out] | go_num, by rw [HX.out, HST.out]; rfl, below_drewN hB.out _⟩
            case measure => first | (rw [WT.out]; exact meas_v17 HT.out) | exact meas_v17 HT.out
        · have HST := (show Hid (sh (shs ss) k t = false) from shs_no (fun e => he (by rw [← e]; rfl)))
          have d1 : ((ss t).hd.ep == k.1) = false := by simp [he]
          clear h2 he
          go_wp2_with (fail)
          go_quiet (fail)
          go_wp2_with (fail)
          go_roundw
          case rel => exact ⟨t + 1, HT.out, by first | rw [WT.out] | go_num, by rw [HX.out, HST.out]; rfl, below_drewN hB.out _⟩
          case measure => first | (rw [WT.out]; exact meas_v17 HT.out) | exact meas_v17 HT.out
      · have HST := (show Hid (sh (shs ss) k t = false) from shs_no2 h2)
        have d1 : ((ss t).kd == 2) = false := by simp [h2]
        clear h2
        go_wp2_with (fail)
        go_quiet (fail)
        go_wp2_with (fail)
        go_roundw
        case rel => exact ⟨t + 1, HT.out, by first | rw [WT.out] | go_num, by rw [HX.out, HST.out]; rfl, below_drewN hB.out _⟩
        case measure => first | (rw [WT.out]; exact meas_v17 HT.out) | exact meas_v17 HT.out
    · obtain rfl : t = n := by omega
      have hnn : ¬ ((t : Int) < (t : Int)) := by omega
      go_wp2_with (fail)
      go_ret
      exact ⟨rfl, bt hb1 hB.out⟩
end
/-- A struct is written, in a drawn region. -/
theorem step_stSn {ops : Array Oper} {o : Oper} {a : Act} {w : World} {K : Act → World → Prop} {Q : Exit → Act → World → Prop} {E : Prop} {s0 : Sn} (s : Sn) (hv : s.bv.oneCell' = true) (hgd : o.guard = none) (x y : Operand) (ho : o.op = .store 39 x y) (hd : o.dst = none) (g : Nat) (hx : a.eval x = .pointer (some ⟨g, 0, none⟩)) (hy : a.eval y = .agg s.cs) (H : GB w g 39 s0.cs)
    (h : ∀ w', GB w' g 39 s.cs → w.grownBy w' (some g) → K a w') : if Region.wanted o (yielded ops a.tmps) = true then Oper.wp Try.prog o a w K Q else E := by
  have hw : Region.wanted o (yielded ops a.tmps) = true := by simp [Region.wanted, hgd]
  rw [if_pos hw]
  have hr := run_storeVar_row (P := Try.prog) w g 39 39 s0.cs s.cs H size_Sn rfl (snC_one _ hv)
  unfold Oper.wp execOp
  simp only [ho, hx, hy, Instr.storeAt, Instr.sureAddr, Sem.run_bind, Sem.run_pure, Result.andThen_ok, hr]
  have e : a.put o.dst undef = a := by rw [hd]; rfl
  show K (a.put o.dst undef) _
  rw [e]
  refine h _ ?_ ⟨rfl, rfl, rfl, by simp, fun k _ hk => setRow_other w g k _ (fun e => hk (by rw [e]))⟩
  unfold GB at H ⊢
  exact setRow_heap w g _ _ _ _ H
/-- What a place shows, if what is hidden shows nothing. -/
def brS (ss : Nat → Sn) (n i : Nat) : Sn := if i < n ∧ (ss i).kd = 2 then snW (ss i).wg else snD 1
/-- Places that are bare. -/
def Brd (w : World) (B : Nat) (v : Value) (N n : Nat) (ss : Nat → Sn) : Prop := ∃ es, Os w B v es ∧ es.length = N ∧ ∀ i, i < N → es.getD i sn0 = brS ss n i
theorem br_add {es : List Sn} {ss : Nat → Sn} {n t : Nat} {e : Sn} (h : es.length = t ∧ ∀ i, i < t → es.getD i sn0 = brS ss n i) (he : brS ss n t = e) : (es ++ [e]).length = t + 1 ∧ ∀ i, i < t + 1 → (es ++ [e]).getD i sn0 = brS ss n i := by
  refine ⟨by rw [List.length_append, h.1]; rfl, fun i hi => ?_⟩
  by_cases hlt : i < t
  · rw [← h.2 i hlt]
    simp [List.getD, List.getElem?_append_left (show i < es.length by omega)]
  · have e1 : i = es.length := by omega
    rw [e1, ← he, h.1]
    simp [List.getD, ← h.1]
section
attribute [local irreducible] Calls GB Sn.cs Os shC
set_option maxHeartbeats 16000000 in
set_option maxRecDepth 1000000 in
theorem bare_any {k m b : Int} {N : Nat} (hs : shB k m b = true) (hN : (N : Int) = k + m) {w : World} {p : Option Addr} {n c : Nat} {ss : Nat → Sn} (HS : SnL w p n ss) :
    Calls Try.prog 8 #[.agg (shC k m b), .slice p n c] w fun e w' => ∃ v, e = .returned v ∧ Brd w' w.heap.size v N n ss ∧ Below w.heap.size w w' := by
  have hsh := (shB_iff k m b).1 hs
  unfold shp at hsh
  have HL := (show Hid (SnL w p n ss) from HS)
  have HN := (show Hid (N ≤ 255) from by show _ ≤ _; omega)
  have wkm : wrap64 (k + m) = (N : Int) := by rw [hN]; exact add_kk (by omega) (by omega) (by omega)
  clear HS hs hsh hN
  go_enter Try.func8, Try.ntmps8
  go_wp2_with (first
    | (refine wpList_bxB rfl _ rfl rfl ?_; intro w1 hG1 hb1 hs1))
  have HG1 := (show Hid (GB w1 w.heap.size 23 (shC k m b)) from hG1)
  clear hG1
  go_loopw [5, 6] (fun v i wr => ∃ (t : Nat) (es : List Sn), t ≤ N ∧ i = .int .i64 (t : Int) ∧ Hid (Os wr w1.heap.size v es) ∧ Hid (es.length = t ∧ ∀ i, i < t → es.getD i sn0 = brS ss n i) ∧ Hid (Below w1.heap.size w1 wr)) (fun _ i _ => N - (intOf i).toNat)
  case atStart => exact ⟨0, [], Nat.zero_le _, rfl, by show Os _ _ _ _; unfold Os; exact World.ownsRow_nil _ _ _ _, ⟨rfl, fun i hi => absurd hi (Nat.not_lt_zero i)⟩, Below.refl _ _⟩
  case round =>
    obtain ⟨t, es, ht, rfl, hO, hE, hB⟩ := hrel
    obtain ⟨W0, hW0⟩ : ∃ W0, W0 = wr := ⟨_, rfl⟩
    subst hW0
    obtain ⟨s0, s1⟩ := gb_sh (HG1.out.below hB.out)
    by_cases hlt : t < N
    · have hi : (t : Int) < (N : Int) := by omega
      have WT := (show Hid (wrap64 ((t : Int) + 1) = ((t + 1 : Nat) : Int)) from by have := HN.out; show _ = _; unfold wrap64; omega)
      have HT := (show Hid (t < N) from hlt)
      have HES := (show Hid (es.length + 1 ≤ 1172812402961) from by have := hE.out.1; have := HN.out; show _ ≤ _; omega)
      clear hlt ht
      by_cases hn : t < n
      · have hin : (t : Int) < (n : Int) := by omega
        obtain ⟨b0, o, rfl, hAt⟩ := (HL.out.below (bt hb1 hB.out)).at hn
        have HAt := (show Hid (SnAt W0 b0 (o + t * 19) (ss t)) from hAt)
        have HNE := (show Hid ((some W0.heap.size : Option Nat) ≠ some b0) from fun e => by
          have h1 := block_lt_of_cell hAt.cells.kd
          have h2 := Option.some.inj e
          simp only at h1
          omega)
        by_cases h2 : (ss t).kd = 2
        · have HBR := (show Hid (brS ss n t = snW (ss t).wg) from if_pos ⟨hn, h2⟩)
          have HK2 := (show Hid ((ss t).kd = 2) from h2)
          clear hn hAt h2
          go_wp2_with (first
            | (refine wpList_alB rfl rfl zero_Sn ?_; intro w2 hG2 hb2 hs2)
            | (refine wpList_stB (cs := (snD 1).cs) rfl _ _ rfl rfl W0.heap.size rfl (snD_cs _) hG2 (size_SnS _) (snC_same _ _) (snC_one _ rfl) ?_; intro w3 hG3 hg3 hs3; have HB3 := (show Hid (Below W0.heap.size W0 w3) from grown_below hb2 hg3 hb2.size (Nat.le_refl _)); have c0 := (HAt.out.below HB3.out).cells.kd; rw [HK2.out] at c0; have HG3 := (show Hid (GB w3 W0.heap.size 39 (snD 1).cs) from hG3); clear hG3 hg3 hs3 hb2 hG2))
          have hcc := (HAt.out.below HB3.out).cells
          have bd3 : Below w3.heap.size w3 w3.drew := (Below.refl _ _).drew
          have HBc := (show Hid (Below W0.heap.size W0 w3.drew) from bt HB3.out bd3)
          refine wp_region_held_drew (S := fun X => X.cell? ⟨b0, o + t * 19 + 13, none⟩ = some (.int .i64 (ss t).hd.sz) ∧ X.cell? ⟨b0, o + t * 19 + 15, none⟩ = some (.int .i64 (ss t).hd.ep) ∧ X.cell? ⟨b0, o + t * 19 + 16, none⟩ = some (.int .i64 (ss t).hd.ct) ∧ ∃ s0 : Sn, GB X W0.heap.size 39 s0.cs) (by kernel_rfl) ⟨cell_below hcc.sz bd3, cell_below hcc.ep bd3, cell_below hcc.ct bd3, ⟨_, HG3.out.below bd3⟩⟩ (fun hHeld => ?_)
          clear hcc c0 bd3 HG3
          refine takeHr (i := 0) (d := some 30) (v := ?v1) rfl rfl (by kernel_rfl) (by kernel_rfl) (by kernel_rfl) (fun _ _ _ h => h) (Or.inl ⟨by rfl, ?hy1⟩) hHeld ?rest1
          case hy1 => intro X hSw; obtain ⟨g1, g2, g3, _⟩ := hSw; go_simp <;> with_reducible rfl
          try simp only [Act.put, List.setIfInBounds_toArray, List.set_cons_zero, List.set_cons_succ]
          refine takeHr (i := 1) (d := some 31) (v := ?v2) rfl rfl (by kernel_rfl) (by kernel_rfl) (by kernel_rfl) (fun _ _ _ h => h) (Or.inl ⟨by rfl, ?hy2⟩) hHeld ?rest2
          case hy2 => intro X hSw; obtain ⟨g1, g2, g3, _⟩ := hSw; go_simp <;> with_reducible rfl
          try simp only [Act.put, List.setIfInBounds_toArray, List.set_cons_zero, List.set_cons_succ]
          refine takeHr (i := 2) (d := some 32) (v := .pointer (some ⟨b0, o + t * 19, none⟩)) rfl rfl (by kernel_rfl) (by kernel_rfl) (by kernel_rfl) (fun _ _ _ h => h) (Or.inl ⟨by rfl, ?hy3⟩) hHeld ?rest3
          case hy3 => intro X hSw; obtain ⟨g1, g2, g3, _⟩ := hSw; go_simp <;> with_reducible rfl
          try simp only [Act.put, List.setIfInBounds_toArray, List.set_cons_zero, List.set_cons_succ]
          refine takeHr (i := 3) (d := some 33) (v := ?v4) rfl rfl (by kernel_rfl) (by kernel_rfl) (by kernel_rfl) (fun _ _ _ h => h) (Or.inl ⟨by rfl, ?hy4⟩) hHeld ?rest4
          case hy4 => intro X hSw; obtain ⟨g1, g2, g3, _⟩ := hSw; go_simp <;> with_reducible rfl
          try simp only [Act.put, List.setIfInBounds_toArray, List.set_cons_zero, List.set_cons_succ]
          refine takeHr (i := 4) (d := some 34) (v := ?v5) rfl rfl (by kernel_rfl) (by kernel_rfl) (by kernel_rfl) (fun _ _ _ h => h) (Or.inl ⟨by rfl, ?hy5⟩) hHeld ?rest5
          case hy5 => intro X hSw; obtain ⟨g1, g2, g3, _⟩ := hSw; go_simp <;> with_reducible rfl
          try simp only [Act.put, List.setIfInBounds_toArray, List.set_cons_zero, List.set_cons_succ]
          refine takeHr (i := 5) (d := some 35) (v := ?v6) rfl rfl (by kernel_rfl) (by kernel_rfl) (by kernel_rfl) (fun _ _ _ h => h) (Or.inl ⟨by rfl, ?hy6⟩) hHeld ?rest6
          case hy6 => intro X hSw; obtain ⟨g1, g2, g3, _⟩ := hSw; go_simp <;> with_reducible rfl
          try simp only [Act.put, List.setIfInBounds_toArray, List.set_cons_zero, List.set_cons_succ]
          refine takeHr (i := 6) (d := some 36) (v := ?v7) rfl rfl (by kernel_rfl) (by kernel_rfl) (by kernel_rfl) (fun _ _ _ h => h) (Or.inl ⟨by rfl, ?hy7⟩) hHeld ?rest7
          case hy7 => intro X hSw; obtain ⟨g1, g2, g3, _⟩ := hSw; go_simp <;> with_reducible rfl
          try simp only [Act.put, List.setIfInBounds_toArray, List.set_cons_zero, List.set_cons_succ]
          refine takeHr (i := 7) (d := some 37) (v := ?v8) rfl rfl (by kernel_rfl) (by kernel_rfl) (by kernel_rfl) (fun _ _ _ h => h) (Or.inl ⟨by rfl, ?hy8⟩) hHeld ?rest8
          case hy8 => intro X hSw; obtain ⟨g1, g2, g3, _⟩ := hSw; go_simp <;> with_reducible rfl
          try simp only [Act.put, List.setIfInBounds_toArray, List.set_cons_zero, List.set_cons_succ]
          refine takeHr (i := 8) (d := some 38) (v := ?v9) rfl rfl (by kernel_rfl) (by kernel_rfl) (by kernel_rfl) (fun _ _ _ h => h) (Or.inl ⟨by rfl, ?hy9⟩) hHeld ?rest9
          case hy9 => intro X hSw; obtain ⟨g1, g2, g3, _⟩ := hSw; go_simp <;> with_reducible rfl
          try simp only [Act.put, List.setIfInBounds_toArray, List.set_cons_zero, List.set_cons_succ]
          refine takeHr (i := 9) (d := some 39) (v := .pointer (some ⟨b0, o + t * 19, none⟩)) rfl rfl (by kernel_rfl) (by kernel_rfl) (by kernel_rfl) (fun _ _ _ h => h) (Or.inl ⟨by rfl, ?hy10⟩) hHeld ?rest10
          case hy10 => intro X hSw; obtain ⟨g1, g2, g3, _⟩ := hSw; go_simp <;> with_reducible rfl
          try simp only [Act.put, List.setIfInBounds_toArray, List.set_cons_zero, List.set_cons_succ]
          refine takeHr (i := 10) (d := some 40) (v := ?v11) rfl rfl (by kernel_rfl) (by kernel_rfl) (by kernel_rfl) (fun _ _ _ h => h) (Or.inl ⟨by rfl, ?hy11⟩) hHeld ?rest11
          case hy11 => intro X hSw; obtain ⟨g1, g2, g3, _⟩ := hSw; go_simp <;> with_reducible rfl
          try simp only [Act.put, List.setIfInBounds_toArray, List.set_cons_zero, List.set_cons_succ]
          refine takeHr (i := 11) (d := some 41) (v := ?v12) rfl rfl (by kernel_rfl) (by kernel_rfl) (by kernel_rfl) (fun _ _ _ h => h) (Or.inl ⟨by rfl, ?hy12⟩) hHeld ?rest12
          case hy12 => intro X hSw; obtain ⟨g1, g2, g3, _⟩ := hSw; go_simp <;> with_reducible rfl
          try simp only [Act.put, List.setIfInBounds_toArray, List.set_cons_zero, List.set_cons_succ]
          refine takeHr (i := 12) (d := some 42) (v := ?v13) rfl rfl (by kernel_rfl) (by kernel_rfl) (by kernel_rfl) (fun _ _ _ h => h) (Or.inl ⟨by rfl, ?hy13⟩) hHeld ?rest13
          case hy13 => intro X hSw; obtain ⟨g1, g2, g3, _⟩ := hSw; go_simp <;> with_reducible rfl
          try simp only [Act.put, List.setIfInBounds_toArray, List.set_cons_zero, List.set_cons_succ]
          refine takeHr (i := 13) (d := some 43) (v := ?v14) rfl rfl (by kernel_rfl) (by kernel_rfl) (by kernel_rfl) (fun _ _ _ h => h) (Or.inl ⟨by rfl, ?hy14⟩) hHeld ?rest14
          case hy14 => intro X hSw; obtain ⟨g1, g2, g3, _⟩ := hSw; go_simp <;> with_reducible rfl
          try simp only [Act.put, List.setIfInBounds_toArray, List.set_cons_zero, List.set_cons_succ]
          refine wpAnyH_ready (rs := [14]) (by kernel_rfl) (by simp) ?_
          refine AllReadyH.cons (o := { dst := some 44, op := Op.call { callee := Callee.value (Operand.func 16), args := #[Operand.tmp 36, Operand.tmp 43], argTypes := #[31, 3] }, type := 39, pos := "outright.go:35", after := #[{ on := 6, ground := Ground.data }, { on := 13, ground := Ground.data }], guard := none }) rfl (fun Kq hKq => ?_) AllReadyH.nil
          · go_simp
            refine (rshown_any (ss t).wg _).mono ?_
            rintro e w15x ⟨rfl, hb15⟩
            replace HBc := (show Hid _ from bt HBc.out hb15)
            refine hKq.out _ _ ⟨cell_below hHeld.1 hb15, cell_below hHeld.2.1 hb15, cell_below hHeld.2.2.1 hb15, hHeld.2.2.2.imp fun _ h => h.below hb15⟩ (fun hHeld => ?_)
            clear hKq Kq
            try simp only [Act.put, List.setIfInBounds_toArray, List.set_cons_zero, List.set_cons_succ]
            refine wpAnyH_ready (rs := [15]) (by kernel_rfl) (by simp) ?_
            refine AllReadyH.cons (o := { dst := none, op := Op.store 39 (Operand.tmp 7) (Operand.tmp 44), type := 0, pos := "outright.go:35", after := #[{ on := 14, ground := Ground.data }, { on := 14, ground := Ground.chain }, { on := 0, ground := Ground.phase }, { on := 1, ground := Ground.phase }, { on := 2, ground := Ground.phase }, { on := 3, ground := Ground.phase }, { on := 4, ground := Ground.phase }, { on := 5, ground := Ground.phase }, { on := 6, ground := Ground.phase }, { on := 7, ground := Ground.phase }, { on := 8, ground := Ground.phase }, { on := 9, ground := Ground.phase }, { on := 10, ground := Ground.phase }, { on := 11, ground := Ground.phase }, { on := 12, ground := Ground.phase }, { on := 13, ground := Ground.phase }, { on := 14, ground := Ground.phase }], guard := none }) rfl (fun Kq hKq => ?_) AllReadyH.nil
            · skip
              obtain ⟨s0q, hGs0⟩ := hHeld.2.2.2
              refine step_stSn (snW (ss t).wg) rfl rfl (.tmp 7) (.tmp 44) rfl rfl W0.heap.size rfl rfl hGs0 ?_
              intro w16x hGq hgq
              have HBq := (show Hid (Below W0.heap.size W0 w16x) from grown_below HBc.out hgq HBc.out.size (Nat.le_refl _))
              refine hKq.out _ _ ⟨cell_grown hHeld.1 hgq HNE.out, cell_grown hHeld.2.1 hgq HNE.out, cell_grown hHeld.2.2.1 hgq HNE.out, ⟨_, hGq⟩⟩ (fun hHeld => ?_)
              clear hKq Kq
              try simp only [Act.put, List.setIfInBounds_toArray, List.set_cons_zero, List.set_cons_succ]
              refine wpAnyH_done (by kernel_rfl) ?_ _
              clear hHeld
              go_wp2_with (first
                | (refine wpList_ldB rfl _ rfl W0.heap.size rfl hGq Try.underlying39 (size_SnS _) ?_)
                | (refine wpList_bsS rfl _ rfl (snW (ss t).wg) rfl ?_; intro w9 hG9 hb9 hs9; have HB9 := (show Hid (Below W0.heap.size W0 w9) from bt HBq.out hb9); have HO9 := (show Hid (Os w9 w1.heap.size u5 es) from hO.out.below HB9.out))
                | (at_builtin; refine wpList_apS rfl (.tmp 45) (.tmp 47) rfl w1.heap.size u5 es (snW (ss t).wg) rfl rfl HO9.out _ 1 rfl hG9 HES.out (Nat.le_trans hB.out.size HB9.out.size) ?_; intro v10 w10 ho10 hg10))
              go_roundw
              case rel => exact ⟨t + 1, _, HT.out, by first | rw [WT.out] | go_num, ho10, br_add hE.out HBR.out, HO9.out.grown (bt hB.out HB9.out) (Nat.le_trans hB.out.size HB9.out.size) hg10 (Nat.le_refl _)⟩
              case measure => first | (rw [WT.out]; exact meas_v17 HT.out) | exact meas_v17 HT.out
        · have HBR := (show Hid (brS ss n t = snD 1) from if_neg (fun h => h2 h.2))
          have d2 : ((ss t).kd == 2) = false := by simp [h2]
          clear hn hAt h2
          go_wp2_with (first
            | (refine wpList_ldB rfl _ rfl W0.heap.size rfl HG3.out Try.underlying39 (size_SnS _) ?_)
            | (refine wpList_bsS rfl _ rfl (snD 1) rfl ?_; intro w9 hG9 hb9 hs9; have HB9 := (show Hid (Below W0.heap.size W0 w9) from bt HB3.out hb9); have HO9 := (show Hid (Os w9 w1.heap.size u5 es) from hO.out.below HB9.out))
            | (at_builtin; refine wpList_apS rfl (.tmp 45) (.tmp 47) rfl w1.heap.size u5 es (snD 1) rfl rfl HO9.out _ 1 rfl hG9 HES.out (Nat.le_trans hB.out.size HB9.out.size) ?_; intro v10 w10 ho10 hg10)
            | (refine wpList_alB rfl rfl zero_Sn ?_; intro w2 hG2 hb2 hs2)
            | (refine wpList_stB (cs := (snD 1).cs) rfl _ _ rfl rfl W0.heap.size rfl (snD_cs _) hG2 (size_SnS _) (snC_same _ _) (snC_one _ rfl) ?_; intro w3 hG3 hg3 hs3; have HB3 := (show Hid (Below W0.heap.size W0 w3) from grown_below hb2 hg3 hb2.size (Nat.le_refl _)); have c0 := (HAt.out.below HB3.out).cells.kd; have HG3 := (show Hid (GB w3 W0.heap.size 39 (snD 1).cs) from hG3); clear hG3 hg3 hs3 hb2 hG2))
          go_roundw
          case rel => exact ⟨t + 1, _, HT.out, by first | rw [WT.out] | go_num, ho10, br_add hE.out HBR.out, HO9.out.grown (bt hB.out HB9.out) (Nat.le_trans hB.out.size HB9.out.size) hg10 (Nat.le_refl _)⟩
          case measure => first | (rw [WT.out]; exact meas_v17 HT.out) | exact meas_v17 HT.out
      · have hin : ¬ ((t : Int) < (n : Int)) := by omega
        have HBR := (show Hid (brS ss n t = snD 1) from if_neg (fun h => hn h.1))
        clear hn
        go_wp2_with (first
          | (refine wpList_ldB rfl _ rfl W0.heap.size rfl HG3.out Try.underlying39 (size_SnS _) ?_)
          | (refine wpList_bsS rfl _ rfl (snD 1) rfl ?_; intro w9 hG9 hb9 hs9; have HB9 := (show Hid (Below W0.heap.size W0 w9) from bt HB3.out hb9); have HO9 := (show Hid (Os w9 w1.heap.size u5 es) from hO.out.below HB9.out))
          | (at_builtin; refine wpList_apS rfl (.tmp 45) (.tmp 47) rfl w1.heap.size u5 es (snD 1) rfl rfl HO9.out _ 1 rfl hG9 HES.out (Nat.le_trans hB.out.size HB9.out.size) ?_; intro v10 w10 ho10 hg10)
          | (refine wpList_alB rfl rfl zero_Sn ?_; intro w2 hG2 hb2 hs2)
          | (refine wpList_stB (cs := (snD 1).cs) rfl _ _ rfl rfl W0.heap.size rfl (snD_cs _) hG2 (size_SnS _) (snC_same _ _) (snC_one _ rfl) ?_; intro w3 hG3 hg3 hs3; have HB3 := (show Hid (Below W0.heap.size W0 w3) from grown_below hb2 hg3 hb2.size (Nat.le_refl _)); have HG3 := (show Hid (GB w3 W0.heap.size 39 (snD 1).cs) from hG3); clear hG3 hg3 hs3 hb2 hG2))
        go_roundw
        case rel => exact ⟨t + 1, _, HT.out, by first | rw [WT.out] | go_num, ho10, br_add hE.out HBR.out, HO9.out.grown (bt hB.out HB9.out) (Nat.le_trans hB.out.size HB9.out.size) hg10 (Nat.le_refl _)⟩
        case measure => first | (rw [WT.out]; exact meas_v17 HT.out) | exact meas_v17 HT.out
    · obtain rfl : t = N := by omega
      have hnn : ¬ ((t : Int) < (t : Int)) := by omega
      go_wp2_with (fail)
      go_ret
      refine ⟨_, rfl, ⟨es, ?_, hE.out.1, hE.out.2⟩, bt hb1 hB.out⟩
      have h9 := hO.out
      unfold Os at h9 ⊢
      exact or_mono h9 hb1.size
end
end Go.Proofs.Ytefomnlgpldgnaa
