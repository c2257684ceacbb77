/-
  A proof of Rows.CodeLinearSaid: the frame for one struct by value, after the guide's shell writer; the walk by hand.
-/
import Derived.Test.YtnlmjajdfaambaaRows
import Derived.Test.YtnlmjajdfaambaaLiX
import Derived.SizedLaws
import Derived.Deep.Matrix
import Derived.WalkKit
import Derived.ProofKit
import Derived.OpenShut
import Derived.ShutString
import Derived.ChangeOld
import Derived.Below
namespace Go.Proofs.Ytnlmjajdfaambaa.codeLinear
open Go.ChangeShapes Go.WideShapes Go.ChangeAt Go.RowKit
set_option linter.unusedVariables false

theorem own : ownKnob Try.prog.godebug = none := by kernel_rfl
theorem laidOut : laidOutB Try.prog = true := by kernel_rfl
theorem array4 {α : Type} {cs : Array α} (h : cs.size = 4) : ∃ c0 c1 c2 c3, cs = #[c0, c1, c2, c3] := by
  obtain ⟨l⟩ := cs
  match l, h with
  | [c0, c1, c2, c3], _ => exact ⟨c0, c1, c2, c3, rfl⟩
/-- A struct of four fields of one cell each, by value, opened. -/
theorem open4f {H : Type} {enc : TypeId × Value → H} {P : Program} {w : World} {bs : Nat} {spare : Nat → Bool} {held : Bool} {r : Reach} {b0 : Nat} {t : TypeId} {f0 f1 f2 f3 : Field} {v : Value} {d : DataW H} {p : List MemPlace}
    (hs : P.underlying t = some (.struct #[f0, f1, f2, f3])) (o0 : f0.offset = 0 ∧ P.cellsOf f0.type = 1) (o1 : f1.offset = 1 ∧ P.cellsOf f1.type = 1) (o2 : f2.offset = 2 ∧ P.cellsOf f2.type = 1) (o3 : f3.offset = 3 ∧ P.cellsOf f3.type = 1) (hC : P.cellsOf t = 4)
    (hv : Value.okWide P w r b0 t v) (h : DataW.Trod enc P w bs spare held t v d p) :
    ∃ (v0 v1 v2 v3 : Value) (y0 y1 y2 y3 : DataW H × List MemPlace) (n : Nat), v = .agg #[v0, v1, v2, v3] ∧ d = .agg [y0.1, y1.1, y2.1, y3.1] ∧
      DataW.trod enc P w bs spare held n f0.type [v0] = some y0 ∧ DataW.trod enc P w bs spare held n f1.type [v1] = some y1 ∧ DataW.trod enc P w bs spare held n f2.type [v2] = some y2 ∧ DataW.trod enc P w bs spare held n f3.type [v3] = some y3 := by
  obtain ⟨cs, rfl, hsz⟩ := okWide_struct hs hv
  obtain ⟨c0, c1, c2, c3, rfl⟩ := array4 (hsz.trans hC)
  obtain ⟨fuel, hf⟩ := h
  obtain ⟨xs, n, _, hx, hl, hlen, hf⟩ := DataW.trod_struct hs hf
  simp only [Prod.mk.injEq] at hx
  match xs, hlen with
  | [y0, y1, y2, y3], _ =>
    have h0 := hf 0 f0 rfl
    have h1 := hf 1 f1 rfl
    have h2 := hf 2 f2 rfl
    have h3 := hf 3 f3 rfl
    refine ⟨c0, c1, c2, c3, y0, y1, y2, y3, n, rfl, by rw [hx.1]; rfl, ?_, ?_, ?_, ?_⟩
    · simpa [Value.cells, o0.1, o0.2] using h0
    · simpa [Value.cells, o1.1, o1.2] using h1
    · simpa [Value.cells, o2.1, o2.2] using h2
    · simpa [Value.cells, o3.1, o3.2] using h3

theorem each_agg {H : Type} {P : Program} {t : TypeId} {fs : Array Field} {ts : List TypeId} {parts ds : List (DataW H)} (hu : P.underlying t = some (.struct fs)) (h : (DataW.weightsEach P (t :: ts) (.agg parts :: ds)).all (· ≤ reachBytes) = true) : (DataW.weightsEach P (fs.toList.map (·.type)) parts).all (· ≤ reachBytes) = true := by
  rw [List.all_eq_true] at h ⊢
  intro n hn
  refine h n ?_
  simp only [DataW.weightsEach, DataW.weights, hu, List.mem_append]
  exact Or.inl hn
theorem spot_none {w : World} {a : Addr} {v : Value} (h : w.cell? (a.add 0) = some v) : ∃ b o, a = ⟨b, o, none⟩ := by
  obtain ⟨b, off, spot⟩ := a
  have hs : spot = none := by simpa [Addr.add] using World.cell?_spot h
  subst hs
  exact ⟨b, off, rfl⟩
theorem jr_of {w : World} {a : Addr} {len cap : Nat} {f : Nat → Int} (hl : len ≤ cap) (hc : ∀ i, i < cap → w.cell? (a.add i) = some (.int .i64 (f i))) : Jr w (.slice (some a) len cap) len f := by
  refine ⟨_, cap, rfl, ?_⟩
  by_cases h0 : len = 0
  · exact .inl h0
  · obtain ⟨b, o, rfl⟩ := spot_none (hc 0 (by omega))
    exact .inr ⟨b, o, rfl, fun i hi => by rw [← add_pl]; exact hc i (by omega)⟩
theorem nr_of {w : World} {a : Addr} {len cap : Nat} {zs : List Int} (hl : len ≤ cap) (hc : ∀ i, i < cap → w.cell? (a.add i) = some (.int .u8 (zs.getD i 0))) (hw : ∀ n ∈ zs, (Lit.int .u8 n).wf = true) : NrE w (.slice (some a) len cap) len (fun i => BitVec.ofNat 8 (zs.getD i 0).toNat) := by
  refine ⟨_, cap, rfl, ?_⟩
  by_cases h0 : len = 0
  · exact .inl h0
  · obtain ⟨b, o, rfl⟩ := spot_none (hc 0 (by omega))
    refine .inr ⟨b, o, rfl, fun i hi => ?_⟩
    rw [← add_pl, hc i (by omega)]
    have hb : 0 ≤ zs.getD i 0 ∧ zs.getD i 0 < 256 := by
      rw [List.getD_eq_getElem?_getD]
      cases e : zs[i]? with
      | none => simp
      | some z =>
        have h1 := bounds_u8 (hw z (List.mem_of_getElem? e))
        exact ⟨h1.1, by have := h1.2; simp only [Option.getD_some]; omega⟩
    obtain ⟨z, hz⟩ : ∃ z, z = zs.getD i 0 := ⟨_, rfl⟩
    rw [← hz] at hb ⊢
    unfold clE el
    rw [BitVec.toNat_ofNat]
    congr 2
    omega
set_option maxRecDepth 100000 in
theorem lifted (os : Os) (started : os.Started) (H : Type) (enc : TypeId × Value → H) :
    ReturnsInHanded {} Try.checked os 6 .any (Rows.codeLinearSpec.pre6 enc Try.prog Try.f6 Rows.codeLinearRow.domain false) (Rows.codeLinearSpec.post enc Try.prog Try.f6 false true false false) := by
  refine returnsInHanded_of_change_sized (C := Try.checked) own started (by kernel_rfl) Try.func6
    (ChangeSpec.witness6 (enc := enc) (C := Try.checked) false ⟨#[], #[.agg #[.int .i64 0, .int .i64 0, .slice none 0 0, .slice none 0 0], .slice none 0 0, .int .u8 0], []⟩ 8 (by kernel_rfl) (by kernel_rfl) (by kernel_rfl) (by kernel_rfl)) ?_
  intro W base args ds gs before hval0 hW hcnd hsz0 _
  have hsz : (DataW.weightsEach Try.prog (Try.f6.params.toList ++ Rows.codeLinearSpec.plain.varTypes Try.prog) (ds ++ gs)).all (· ≤ reachBytes) = true := hsz0
  clear hsz0
  have hval : ∀ (j : Nat) t v, Try.f6.params[j]? = some t → args[j]? = some v → Value.okWide Try.prog W .any base t v := hval0
  have hW' := hW
  obtain ⟨p, q, hA0, hV, rfl, hfz, hnd⟩ := hW
  have hA : DataW.TrodAll enc Try.prog W 0 (fun _ => true) true Try.f6.params.toList args.toList ds p := hA0
  rw [Try.params6] at hA hval hsz
  obtain ⟨v0, vs0, d0, ds0, p0, q0, hargs, rfl, rfl, h0, r0⟩ := trodAll_cons hA
  obtain ⟨v1, vs1, d1, ds1, p1, q1, rfl, rfl, rfl, h1, r1⟩ := trodAll_cons r0
  obtain ⟨v2, vs2, d2, ds2, p2, q2, rfl, rfl, rfl, h2, r2⟩ := trodAll_cons r1
  obtain ⟨rfl, rfl, rfl⟩ := trodAll_nil r2
  obtain rfl : args = #[v0, v1, v2] := by cases args; simp_all
  obtain ⟨rfl, rfl⟩ := trodVars_none hV
  have k0 := h0
  have lt0 : ∀ x ∈ p0, x.block < W.heap.size := by obtain ⟨m, hm⟩ := k0; exact DataW.trod_lt m _ _ _ hm
  have k1 := h1
  have lt1 : ∀ x ∈ p1, x.block < W.heap.size := by obtain ⟨m, hm⟩ := k1; exact DataW.trod_lt m _ _ _ hm
  have k2 := h2
  have lt2 : ∀ x ∈ p2, x.block < W.heap.size := by obtain ⟨m, hm⟩ := k2; exact DataW.trod_lt m _ _ _ hm
  obtain ⟨u0, u1, u2, u3, y0, y1, y2, y3, n, e, ed, t0, t1, t2, t3⟩ := open4f Try.underlying47 ⟨rfl, by kernel_rfl⟩ ⟨rfl, by kernel_rfl⟩ ⟨rfl, by kernel_rfl⟩ ⟨rfl, by kernel_rfl⟩ (by kernel_rfl) (hval 0 47 v0 rfl rfl) h0
  subst e
  obtain ⟨n0, e0, _, wf0⟩ := DataW.trod_int Try.underlying3 t0
  injection e0 with e0
  subst e0
  obtain ⟨n1, e1, _, wf1⟩ := DataW.trod_int Try.underlying3 t1
  injection e1 with e1
  subst e1
  obtain ⟨ya1, yl1, yc1, e1⟩ := okWide_slice Try.underlying37 (hval 1 37 v1 rfl rfl)
  subst e1
  obtain ⟨yx1, yj1, yh1, yb1⟩ : ∃ (x : Nat → BitVec 8), NrE W (.slice ya1 yl1 yc1) yl1 x ∧ yl1 ≤ yc1 ∧ yc1 ≤ 140737488351232 := by
    obtain ⟨m1, hm1⟩ := h1
    rcases open_ints Try.underlying37 Try.underlying5 (by kernel_rfl) hm1 with ⟨hcs, _⟩ | ⟨x, l, c, zs, hcs, _, hl, hm, hz, hx, hcell, hwz⟩
    · simp [Value.cells] at hcs
      obtain ⟨rfl, rfl, rfl⟩ := hcs
      exact ⟨fun _ => 0#8, ⟨none, 0, rfl, .inl rfl⟩, by omega, by omega⟩
    · simp [Value.cells] at hcs
      obtain ⟨rfl, rfl, rfl⟩ := hcs
      simp only [if_true] at hz
      refine ⟨fun i => BitVec.ofNat 8 (zs.getD i 0).toNat, nr_of hl (fun i hi => hcell i (by rw [hz]; exact hi)) hwz, hl, ?_⟩
      have hb := sized_slice hsz (j := 1) (t := 37) (e := 5) rfl (by simp only [Prod.mk.injEq] at hx; rw [hx.1]; rfl) Try.underlying37
      rw [show Try.prog.bytesOf 5 = 1 by kernel_rfl] at hb
      simp only [lits, List.length_map, List.length_take, List.length_drop, reachBytes] at hb
      omega
  obtain ⟨m2, hm2⟩ := h2
  obtain ⟨bn2, ev2⟩ := okWide_int Try.underlying5 (hval 2 5 v2 rfl rfl)
  subst ev2
  obtain ⟨bq2, e2, _, wf2⟩ := DataW.trod_int Try.underlying5 hm2
  obtain rfl : bq2 = bn2 := by simp [Value.cells] at e2; exact e2.symm
  obtain ⟨be2, rfl⟩ := el_of bq2 (bounds_u8 wf2).1 (by have := (bounds_u8 wf2).2; omega)
  rw [ed] at hsz
  have hse := each_agg Try.underlying47 hsz
  obtain ⟨a2, len2, cap2, x2, e2, j2, hlc2, b2⟩ : ∃ (a : Option Addr) (len cap : Nat) (x : Nat → BitVec 8), u2 = .slice a len cap ∧ NrE W (.slice a len cap) len x ∧ len ≤ cap ∧ cap ≤ 140737488351232 := by
    rcases open_ints Try.underlying37 Try.underlying5 (by kernel_rfl) t2 with ⟨hcs, _⟩ | ⟨x, l, c, zs, hcs, _, hl, hm, hz, hx, hcell, hwz⟩
    · simp at hcs
      subst hcs
      exact ⟨none, 0, 0, fun _ => 0#8, rfl, ⟨none, 0, rfl, .inl rfl⟩, by omega, by omega⟩
    · simp at hcs
      subst hcs
      simp only [if_true] at hz
      refine ⟨some x, l, c, fun i => BitVec.ofNat 8 (zs.getD i 0).toNat, rfl, nr_of hl (fun i hi => hcell i (by rw [hz]; exact hi)) hwz, hl, ?_⟩
      have hb := sized_slice hse (j := 2) (t := 37) (e := 5) rfl (by rw [hx]; rfl) Try.underlying37
      rw [show Try.prog.bytesOf 5 = 1 by kernel_rfl] at hb
      simp only [lits, List.length_map, List.length_take, List.length_drop, reachBytes] at hb
      omega
  subst e2
  obtain ⟨l3, f3, j3, b3⟩ : ∃ (l : Nat) (f : Nat → Int), Jr W u3 l f ∧ l ≤ 17592186044416 := by
    rcases open_ints Try.underlying45 Try.underlying3 (by kernel_rfl) t3 with ⟨hcs, _⟩ | ⟨x, l, c, zs, hcs, _, hl, hm, hz, hx, hcell, hwz⟩
    · simp at hcs
      subst hcs
      exact ⟨0, fun _ => 0, ⟨none, 0, rfl, .inl rfl⟩, by omega⟩
    · simp at hcs
      subst hcs
      simp only [if_true] at hz
      refine ⟨l, fun i => zs.getD i 0, jr_of hl (fun i hi => hcell i (by rw [hz]; exact hi)), ?_⟩
      have hb := sized_slice hse (j := 3) (t := 45) (e := 3) rfl (by rw [hx]; rfl) Try.underlying45
      rw [show Try.prog.bytesOf 3 = 8 by kernel_rfl] at hb
      simp only [lits, List.length_map, List.length_take, List.length_drop, reachBytes] at hb
      omega
  clear hA0 hval0
  refine (codeLinear_walk n0 n1 a2 len2 cap2 x2 u3 l3 f3 ya1 yl1 yc1 yx1 be2 W (by omega) (by omega) (by omega) (by omega) j2 j3 yj1).mono fun e W' ⟨he, bel⟩ => ?_
  subst he
  exact ⟨_, rfl, _, _, _, [], _, [], hW', trodAll_mk1 (shut_bool Try.underlying4 _), (trodAll_cons_mk (Below.trod laidOut (by kernel_rfl) (of_decide_eq_true (by kernel_rfl)) k0 bel lt0) (trodAll_cons_mk (Below.trod laidOut (by kernel_rfl) (of_decide_eq_true (by kernel_rfl)) k1 bel lt1) (trodAll_cons_mk (Below.trod laidOut (by kernel_rfl) (of_decide_eq_true (by kernel_rfl)) k2 bel lt2) trodAll_mk0))), rfl, bel.frame _, fun h => by cases h⟩

theorem over : Rows.codeLinearRow.holds Try.pinned (OpenSpec.ofChange Rows.codeLinearSpec) :=
  OpenClaim.holds_of_wide 6 Try.f6 rfl rfl rfl rfl rfl rfl rfl ⟨rfl, rfl, rfl, rfl, rfl⟩ rfl rfl rfl rfl rfl (by kernel_rfl) Try.func6 (by kernel_rfl)
    (of_decide_eq_true (by kernel_rfl)) (by unfold Func.isWrapper; first | (rw [if_pos (by decide +kernel)]; kernel_rfl) | (rw [if_neg (by decide +kernel)]; exact ⟨rfl, rfl⟩))
    (fun os started H enc _ => lifted os started H enc)

end Go.Proofs.Ytnlmjajdfaambaa.codeLinear
namespace Go.Proofs.Ytnlmjajdfaambaa
/-- THE STATEMENT. -/
theorem codeLinear_said : Rows.CodeLinearSaid := codeLinear.over
#print axioms codeLinear_said
end Go.Proofs.Ytnlmjajdfaambaa
