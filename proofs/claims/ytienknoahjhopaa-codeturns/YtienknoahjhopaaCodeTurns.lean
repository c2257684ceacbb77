/-
  A proof of Rows.CodeTurnsSaid: the frame for one struct by value, after the guide's shell writer; the walk by hand.
-/
import Derived.Test.YtienknoahjhopaaRows
import Derived.Test.YtienknoahjhopaaTuW
import Derived.SizedLaws
import Derived.Deep.Matrix
import Derived.WalkKit
import Derived.ProofKit
import Derived.OpenShut
import Derived.ShutString
import Derived.ChangeOld
import Derived.Below
namespace Go.Proofs.Ytienknoahjhopaa.codeTurns
open Go.ChangeShapes Go.WideShapes Go.ChangeAt Go.RowKit
set_option linter.unusedVariables false

theorem own : ownKnob Try.prog.godebug = none := by kernel_rfl
theorem laidOut : laidOutB Try.prog = true := by kernel_rfl
theorem array5 {α : Type} {cs : Array α} (h : cs.size = 5) : ∃ c0 c1 c2 c3 c4, cs = #[c0, c1, c2, c3, c4] := by
  obtain ⟨l⟩ := cs
  match l, h with
  | [c0, c1, c2, c3, c4], _ => exact ⟨c0, c1, c2, c3, c4, rfl⟩
/-- A struct of five fields of one cell each, by value, opened. -/
theorem open5 {H : Type} {enc : TypeId × Value → H} {P : Program} {w : World} {bs : Nat} {spare : Nat → Bool} {held : Bool} {r : Reach} {b0 : Nat} {t : TypeId} {f0 f1 f2 f3 f4 : Field} {v : Value} {d : DataW H} {p : List MemPlace}
    (hs : P.underlying t = some (.struct #[f0, f1, f2, f3, f4])) (o0 : f0.offset = 0 ∧ P.cellsOf f0.type = 1) (o1 : f1.offset = 1 ∧ P.cellsOf f1.type = 1) (o2 : f2.offset = 2 ∧ P.cellsOf f2.type = 1) (o3 : f3.offset = 3 ∧ P.cellsOf f3.type = 1) (o4 : f4.offset = 4 ∧ P.cellsOf f4.type = 1) (hC : P.cellsOf t = 5)
    (hv : Value.okWide P w r b0 t v) (h : DataW.Trod enc P w bs spare held t v d p) :
    ∃ (v0 v1 v2 v3 v4 : Value) (y0 y1 y2 y3 y4 : DataW H × List MemPlace) (n : Nat), v = .agg #[v0, v1, v2, v3, v4] ∧ d = .agg [y0.1, y1.1, y2.1, y3.1, y4.1] ∧
      DataW.trod enc P w bs spare held n f0.type [v0] = some y0 ∧ DataW.trod enc P w bs spare held n f1.type [v1] = some y1 ∧ DataW.trod enc P w bs spare held n f2.type [v2] = some y2 ∧ DataW.trod enc P w bs spare held n f3.type [v3] = some y3 ∧ DataW.trod enc P w bs spare held n f4.type [v4] = some y4 := by
  obtain ⟨cs, rfl, hsz⟩ := okWide_struct hs hv
  obtain ⟨c0, c1, c2, c3, c4, rfl⟩ := array5 (hsz.trans hC)
  obtain ⟨fuel, hf⟩ := h
  obtain ⟨xs, n, _, hx, hl, hlen, hf⟩ := DataW.trod_struct hs hf
  simp only [Prod.mk.injEq] at hx
  match xs, hlen with
  | [y0, y1, y2, y3, y4], _ =>
    have h0 := hf 0 f0 rfl
    have h1 := hf 1 f1 rfl
    have h2 := hf 2 f2 rfl
    have h3 := hf 3 f3 rfl
    have h4 := hf 4 f4 rfl
    refine ⟨c0, c1, c2, c3, c4, y0, y1, y2, y3, y4, n, rfl, by rw [hx.1]; rfl, ?_, ?_, ?_, ?_, ?_⟩
    · simpa [Value.cells, o0.1, o0.2] using h0
    · simpa [Value.cells, o1.1, o1.2] using h1
    · simpa [Value.cells, o2.1, o2.2] using h2
    · simpa [Value.cells, o3.1, o3.2] using h3
    · simpa [Value.cells, o4.1, o4.2] using h4

theorem each_agg {H : Type} {P : Program} {t : TypeId} {fs : Array Field} {ts : List TypeId} {parts ds : List (DataW H)} (hu : P.underlying t = some (.struct fs)) (h : (DataW.weightsEach P (t :: ts) (.agg parts :: ds)).all (· ≤ reachBytes) = true) : (DataW.weightsEach P (fs.toList.map (·.type)) parts).all (· ≤ reachBytes) = true := by
  rw [List.all_eq_true] at h ⊢
  intro n hn
  refine h n ?_
  simp only [DataW.weightsEach, DataW.weights, hu, List.mem_append]
  exact Or.inl hn
theorem spot_none {w : World} {a : Addr} {v : Value} (h : w.cell? (a.add 0) = some v) : ∃ b o, a = ⟨b, o, none⟩ := by
  obtain ⟨b, off, spot⟩ := a
  have hs : spot = none := by simpa [Addr.add] using World.cell?_spot h
  subst hs
  exact ⟨b, off, rfl⟩
theorem nr_of {w : World} {a : Addr} {len cap : Nat} {zs : List Int} (hl : len ≤ cap) (hc : ∀ i, i < cap → w.cell? (a.add i) = some (.int .u8 (zs.getD i 0))) (hw : ∀ n ∈ zs, (Lit.int .u8 n).wf = true) : NrE w (.slice (some a) len cap) len (fun i => BitVec.ofNat 8 (zs.getD i 0).toNat) := by
  refine ⟨_, cap, rfl, ?_⟩
  by_cases h0 : len = 0
  · exact .inl h0
  · obtain ⟨b, o, rfl⟩ := spot_none (hc 0 (by omega))
    refine .inr ⟨b, o, rfl, fun i hi => ?_⟩
    rw [← add_pl, hc i (by omega)]
    have hb : 0 ≤ zs.getD i 0 ∧ zs.getD i 0 < 256 := by
      rw [List.getD_eq_getElem?_getD]
      cases e : zs[i]? with
      | none => simp
      | some z =>
        have h1 := bounds_u8 (hw z (List.mem_of_getElem? e))
        exact ⟨h1.1, by have := h1.2; simp only [Option.getD_some]; omega⟩
    obtain ⟨z, hz⟩ : ∃ z, z = zs.getD i 0 := ⟨_, rfl⟩
    rw [← hz] at hb ⊢
    unfold clE el
    rw [BitVec.toNat_ofNat]
    congr 2
    omega
theorem nm_of {w : World} {a : Addr} {len cap base : Nat} {A : Nat → Option Addr} {L C : Nat → Nat} {Z : Nat → List Int} (hl : len ≤ cap) (h : ∀ r, r < cap → w.cell? (a.add r) = some (.slice (A r) (L r) (C r)) ∧ L r ≤ C r ∧ C r ≤ maxLen ∧ (Z r).length = C r ∧ (∀ n ∈ Z r, (Lit.int .u8 n).wf = true) ∧ (A r = none → C r = 0) ∧
        ∀ a', A r = some a' → base ≤ a'.block ∧ ∀ c, c < C r → w.cell? (a'.add c) = some (.int .u8 ((Z r).getD c 0))) : NmE w (.slice (some a) len cap) len L (fun i j => BitVec.ofNat 8 ((Z i).getD j 0).toNat) := by
  refine ⟨fun r => .slice (A r) (L r) (C r), ⟨_, cap, rfl, ?_⟩, fun i hi => ?_⟩
  · by_cases h0 : len = 0
    · exact .inl h0
    · obtain ⟨b, o, rfl⟩ := spot_none (h 0 (by omega)).1
      exact .inr ⟨b, o, rfl, fun i hi => by rw [← add_pl]; exact (h i (by omega)).1⟩
  · obtain ⟨_, h2, _, _, h5, h6, h7⟩ := h i (by omega)
    cases hA : A i with
    | none => have := h6 hA; exact ⟨_, _, rfl, .inl (by omega)⟩
    | some a' =>
      show NrE w (.slice (A i) (L i) (C i)) (L i) (fun j => BitVec.ofNat 8 ((Z i).getD j 0).toNat)
      rw [hA]
      exact nr_of h2 (h7 a' hA).2 h5
theorem all_mem {H : Type} {P : Program} {e : TypeId} {d : DataW H} {n : Nat} (hn : n ∈ d.weights P e) : ∀ {l : List (DataW H)}, d ∈ l → n ∈ DataW.weightsAll P e l
  | x :: l, h => by
    simp only [DataW.weightsAll, List.mem_append]
    rcases List.mem_cons.1 h with rfl | h
    · exact Or.inl hn
    · exact Or.inr (all_mem hn h)
theorem inner_le {H : Type} {P : Program} {t e q : TypeId} {A : Option Addr} {L C : Nat} {Z : List Int} {elems spare : List (DataW H)} {ws : List Nat} (ht : P.underlying t = some (.slice e)) (he : P.underlying e = some (.slice q)) (hq : P.bytesOf q = 1) (hs : ws.all (· ≤ reachBytes) = true)
    (hmem : ∀ n ∈ (DataW.slice elems spare).weights P t, n ∈ ws) (hi : Go.Deep.intRow .u8 A L Z ∈ elems) (h0 : A = none → C = 0) (hz : Z.length = C) : C ≤ 140737488351232 := by
  cases hA : A with
  | none => have := h0 hA; omega
  | some a =>
    rw [hA] at hi
    have h1 : (C * 1) ∈ (Go.Deep.intRow (H := H) .u8 (some a) L Z).weights P e := by
      show C * 1 ∈ (DataW.slice (lits .u8 (Z.take L)) (lits .u8 (Z.drop L))).weights P e
      simp only [DataW.weights, he, hq]
      refine List.mem_cons.2 (Or.inl ?_)
      simp only [lits, List.length_map, List.length_take, List.length_drop]
      omega
    have h2 := hmem _ (by simp only [DataW.weights, ht]; exact List.mem_cons.2 (Or.inr (List.mem_append.2 (Or.inl (all_mem h1 hi)))))
    have h3 : C * 1 ≤ reachBytes := of_decide_eq_true (List.all_eq_true.1 hs _ h2)
    unfold reachBytes at h3
    omega
set_option maxRecDepth 100000 in
theorem lifted (os : Os) (started : os.Started) (H : Type) (enc : TypeId × Value → H) :
    ReturnsInHanded {} Try.checked os 5 .any (Rows.codeTurnsSpec.pre6 enc Try.prog Try.f5 Rows.codeTurnsRow.domain false) (Rows.codeTurnsSpec.post enc Try.prog Try.f5 false true false false) := by
  refine returnsInHanded_of_change_sized (C := Try.checked) own started (by kernel_rfl) Try.func5
    (ChangeSpec.witness6 (enc := enc) (C := Try.checked) false ⟨#[], #[.agg #[.int .i64 0, .int .i64 0, .slice none 0 0, .int .i64 0, .slice none 0 0]], []⟩ 8 (by kernel_rfl) (by kernel_rfl) (by kernel_rfl) (by kernel_rfl)) ?_
  intro W base args ds gs before hval0 hW hcnd hsz0 _
  have hsz : (DataW.weightsEach Try.prog (Try.f5.params.toList ++ Rows.codeTurnsSpec.plain.varTypes Try.prog) (ds ++ gs)).all (· ≤ reachBytes) = true := hsz0
  clear hsz0
  have hval : ∀ (j : Nat) t v, Try.f5.params[j]? = some t → args[j]? = some v → Value.okWide Try.prog W .any base t v := hval0
  have hW' := hW
  obtain ⟨p, q, hA0, hV, rfl, hfz, hnd⟩ := hW
  have hA : DataW.TrodAll enc Try.prog W 0 (fun _ => true) true Try.f5.params.toList args.toList ds p := hA0
  rw [Try.params5] at hA hval hsz
  obtain ⟨v0, vs0, d0, ds0, p0, q0, hargs, rfl, rfl, h0, r0⟩ := trodAll_cons hA
  obtain ⟨rfl, rfl, rfl⟩ := trodAll_nil r0
  obtain rfl : args = #[v0] := by cases args; simp_all
  obtain ⟨rfl, rfl⟩ := trodVars_none hV
  have k0 := h0
  have lt0 : ∀ x ∈ p0, x.block < W.heap.size := by obtain ⟨m, hm⟩ := k0; exact DataW.trod_lt m _ _ _ hm
  obtain ⟨u0, u1, u2, u3, u4, y0, y1, y2, y3, y4, n, e, ed, t0, t1, t2, t3, t4⟩ := open5 Try.underlying25 ⟨rfl, by kernel_rfl⟩ ⟨rfl, by kernel_rfl⟩ ⟨rfl, by kernel_rfl⟩ ⟨rfl, by kernel_rfl⟩ ⟨rfl, by kernel_rfl⟩ (by kernel_rfl) (hval 0 25 v0 rfl rfl) h0
  subst e
  obtain ⟨n0, e0, _, wf0⟩ := DataW.trod_int Try.underlying3 t0
  injection e0 with e0
  subst e0
  obtain ⟨n1, e1, _, wf1⟩ := DataW.trod_int Try.underlying3 t1
  injection e1 with e1
  subst e1
  obtain ⟨n3, e3, _, wf3⟩ := DataW.trod_int Try.underlying3 t3
  injection e3 with e3
  subst e3
  rw [ed] at hsz
  have hse := each_agg Try.underlying25 hsz
  obtain ⟨a2, r2, c2, l2, m2, e2, j2, b2, d2⟩ : ∃ (a : Option Addr) (r c : Nat) (l : Nat → Nat) (M : Nat → Nat → BitVec 8), u2 = .slice a r c ∧ NmE W (.slice a r c) r l M ∧ r ≤ 5864062014634 ∧ ∀ i, i < r → l i ≤ 140737488355200 := by
    rcases Go.Deep.open_int_rows Try.underlying22 Try.underlying23 Try.underlying5 (by kernel_rfl) (by kernel_rfl) t2 with ⟨hcs, _⟩ | ⟨a, len, cap, A, L, C, Z, hcs, _, hl, hm, hx, hrow⟩
    · simp at hcs
      subst hcs
      exact ⟨none, 0, 0, fun _ => 0, fun _ _ => 0#8, rfl, ⟨fun _ => .bool false, ⟨none, 0, rfl, .inl rfl⟩, fun i hi => by omega⟩, by omega, fun i hi => by omega⟩
    · simp at hcs
      subst hcs
      refine ⟨some a, len, cap, L, fun i j => BitVec.ofNat 8 ((Z i).getD j 0).toNat, rfl, nm_of hl hrow, ?_, fun i hi => ?_⟩
      · have hb := sized_slice hse (j := 2) (t := 22) (e := 23) rfl (by rw [hx]; rfl) Try.underlying22
        rw [show Try.prog.bytesOf 23 = 24 by kernel_rfl] at hb
        simp only [List.length_map, List.length_range, reachBytes] at hb
        omega
      · have hr := hrow i (by omega)
        have hin := inner_le Try.underlying22 Try.underlying23 (by kernel_rfl) (A := A i) (L := L i) (C := C i) (Z := Z i) hse (fun n hn => DataW.weights_mem_each (j := 2) (t := 22) rfl (by rw [hx]; rfl) n hn) (List.mem_map.2 (⟨i, List.mem_range.2 hi, rfl⟩ : ∃ r, r ∈ List.range len ∧ Go.Deep.intRow .u8 (A r) (L r) (Z r) = Go.Deep.intRow .u8 (A i) (L i) (Z i))) (fun h => hr.2.2.2.2.2.1 h) hr.2.2.2.1
        omega
  subst e2
  obtain ⟨a4, r4, c4, x4, e4, j4, h4, b4⟩ : ∃ (a : Option Addr) (len cap : Nat) (x : Nat → BitVec 8), u4 = .slice a len cap ∧ NrE W (.slice a len cap) len x ∧ len ≤ cap ∧ cap ≤ 140737488351232 := by
    rcases open_ints Try.underlying23 Try.underlying5 (by kernel_rfl) t4 with ⟨hcs, _⟩ | ⟨x, l, c, zs, hcs, _, hl, hm, hz, hx, hcell, hwz⟩
    · simp at hcs
      subst hcs
      exact ⟨none, 0, 0, fun _ => 0#8, rfl, ⟨none, 0, rfl, .inl rfl⟩, by omega, by omega⟩
    · simp at hcs
      subst hcs
      simp only [if_true] at hz
      refine ⟨some x, l, c, fun i => BitVec.ofNat 8 (zs.getD i 0).toNat, rfl, nr_of hl (fun i hi => hcell i (by rw [hz]; exact hi)) hwz, hl, ?_⟩
      have hb := sized_slice hse (j := 4) (t := 23) (e := 5) rfl (by rw [hx]; rfl) Try.underlying23
      rw [show Try.prog.bytesOf 5 = 1 by kernel_rfl] at hb
      simp only [lits, List.length_map, List.length_take, List.length_drop, reachBytes] at hb
      omega
  subst e4
  clear hA0 hval0
  refine (codeTurns_walk n0 n1 a2 r2 c2 l2 m2 n3 a4 r4 c4 x4 W b2 d2 (by omega) (fun h => w255 h (bounds_i64 wf1).2) j2 j4).mono fun e W' ⟨he, bel⟩ => ?_
  subst he
  exact ⟨_, rfl, _, _, _, [], _, [], hW', trodAll_mk1 (shut_bool Try.underlying4 _), (trodAll_cons_mk (Below.trod laidOut (by kernel_rfl) (of_decide_eq_true (by kernel_rfl)) k0 bel lt0) trodAll_mk0), rfl, bel.frame _, fun h => by cases h⟩

theorem over : Rows.codeTurnsRow.holds Try.pinned (OpenSpec.ofChange Rows.codeTurnsSpec) :=
  OpenClaim.holds_of_wide 5 Try.f5 rfl rfl rfl rfl rfl rfl rfl ⟨rfl, rfl, rfl, rfl, rfl⟩ rfl rfl rfl rfl rfl (by kernel_rfl) Try.func5 (by kernel_rfl)
    (of_decide_eq_true (by kernel_rfl)) (by unfold Func.isWrapper; first | (rw [if_pos (by decide +kernel)]; kernel_rfl) | (rw [if_neg (by decide +kernel)]; exact ⟨rfl, rfl⟩))
    (fun os started H enc _ => lifted os started H enc)

end Go.Proofs.Ytienknoahjhopaa.codeTurns
namespace Go.Proofs.Ytienknoahjhopaa
/-- THE STATEMENT. -/
theorem codeTurns_said : Rows.CodeTurnsSaid := codeTurns.over
#print axioms codeTurns_said
end Go.Proofs.Ytienknoahjhopaa
