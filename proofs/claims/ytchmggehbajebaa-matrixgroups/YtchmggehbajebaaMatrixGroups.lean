/-
  A proof of Rows.MatrixGroupsSaid: the frame for one struct by value, after the guide's shell writer; the walk by hand.
-/
import Derived.Test.YtchmggehbajebaaRows
import Derived.Test.YtchmggehbajebaaGrW
import Derived.SizedLaws
import Derived.Deep.Matrix
import Derived.WalkKit
import Derived.ProofKit
import Derived.OpenShut
import Derived.ShutString
import Derived.ChangeOld
import Derived.Below
namespace Go.Proofs.Ytchmggehbajebaa.matrixGroups
open Go.ChangeShapes Go.WideShapes Go.ChangeAt Go.RowKit
set_option linter.unusedVariables false

theorem own : ownKnob Try.prog.godebug = none := by kernel_rfl
theorem laidOut : laidOutB Try.prog = true := by kernel_rfl
theorem array4 {α : Type} {cs : Array α} (h : cs.size = 4) : ∃ c0 c1 c2 c3, cs = #[c0, c1, c2, c3] := by
  obtain ⟨l⟩ := cs
  match l, h with
  | [c0, c1, c2, c3], _ => exact ⟨c0, c1, c2, c3, rfl⟩
/-- A struct of four fields of one cell each, by value, opened. -/
theorem open4 {H : Type} {enc : TypeId × Value → H} {P : Program} {w : World} {bs : Nat} {spare : Nat → Bool} {held : Bool} {r : Reach} {b0 : Nat} {t : TypeId} {f0 f1 f2 f3 : Field} {v : Value} {d : DataW H} {p : List MemPlace}
    (hs : P.underlying t = some (.struct #[f0, f1, f2, f3])) (o0 : f0.offset = 0 ∧ P.cellsOf f0.type = 1) (o1 : f1.offset = 1 ∧ P.cellsOf f1.type = 1) (o2 : f2.offset = 2 ∧ P.cellsOf f2.type = 1) (o3 : f3.offset = 3 ∧ P.cellsOf f3.type = 1) (hC : P.cellsOf t = 4)
    (hv : Value.okWide P w r b0 t v) (h : DataW.Trod enc P w bs spare held t v d p) :
    ∃ (v0 v1 v2 v3 : Value) (y0 y1 y2 y3 : DataW H × List MemPlace) (n : Nat), v = .agg #[v0, v1, v2, v3] ∧ d = .agg [y0.1, y1.1, y2.1, y3.1] ∧
      DataW.trod enc P w bs spare held n f0.type [v0] = some y0 ∧ DataW.trod enc P w bs spare held n f1.type [v1] = some y1 ∧ DataW.trod enc P w bs spare held n f2.type [v2] = some y2 ∧ DataW.trod enc P w bs spare held n f3.type [v3] = some y3 := by
  obtain ⟨cs, rfl, hsz⟩ := okWide_struct hs hv
  obtain ⟨c0, c1, c2, c3, rfl⟩ := array4 (hsz.trans hC)
  obtain ⟨fuel, hf⟩ := h
  obtain ⟨xs, n, _, hx, hl, hlen, hf⟩ := DataW.trod_struct hs hf
  simp only [Prod.mk.injEq] at hx
  match xs, hlen with
  | [y0, y1, y2, y3], _ =>
    have h0 := hf 0 f0 rfl
    have h1 := hf 1 f1 rfl
    have h2 := hf 2 f2 rfl
    have h3 := hf 3 f3 rfl
    refine ⟨c0, c1, c2, c3, y0, y1, y2, y3, n, rfl, by rw [hx.1]; rfl, ?_, ?_, ?_, ?_⟩
    · simpa [Value.cells, o0.1, o0.2] using h0
    · simpa [Value.cells, o1.1, o1.2] using h1
    · simpa [Value.cells, o2.1, o2.2] using h2
    · simpa [Value.cells, o3.1, o3.2] using h3

theorem each_agg {H : Type} {P : Program} {t : TypeId} {fs : Array Field} {ts : List TypeId} {parts ds : List (DataW H)} (hu : P.underlying t = some (.struct fs)) (h : (DataW.weightsEach P (t :: ts) (.agg parts :: ds)).all (· ≤ reachBytes) = true) : (DataW.weightsEach P (fs.toList.map (·.type)) parts).all (· ≤ reachBytes) = true := by
  rw [List.all_eq_true] at h ⊢
  intro n hn
  refine h n ?_
  simp only [DataW.weightsEach, DataW.weights, hu, List.mem_append]
  exact Or.inl hn
theorem spot_none {w : World} {a : Addr} {v : Value} (h : w.cell? (a.add 0) = some v) : ∃ b o, a = ⟨b, o, none⟩ := by
  obtain ⟨b, off, spot⟩ := a
  have hs : spot = none := by simpa [Addr.add] using World.cell?_spot h
  subst hs
  exact ⟨b, off, rfl⟩
theorem jr_of {w : World} {a : Addr} {len cap : Nat} {f : Nat → Int} (hl : len ≤ cap) (hc : ∀ i, i < cap → w.cell? (a.add i) = some (.int .i64 (f i))) : Jr w (.slice (some a) len cap) len f := by
  refine ⟨_, cap, rfl, ?_⟩
  by_cases h0 : len = 0
  · exact .inl h0
  · obtain ⟨b, o, rfl⟩ := spot_none (hc 0 (by omega))
    exact .inr ⟨b, o, rfl, fun i hi => by rw [← add_pl]; exact hc i (by omega)⟩
theorem jm_of {w : World} {a : Addr} {len cap base : Nat} {A : Nat → Option Addr} {L C : Nat → Nat} {Z : Nat → List Int} (hl : len ≤ cap) (h : ∀ r, r < cap → w.cell? (a.add r) = some (.slice (A r) (L r) (C r)) ∧ L r ≤ C r ∧ C r ≤ maxLen ∧ (Z r).length = C r ∧ (∀ n ∈ Z r, (Lit.int .i64 n).wf = true) ∧ (A r = none → C r = 0) ∧
        ∀ a', A r = some a' → base ≤ a'.block ∧ ∀ c, c < C r → w.cell? (a'.add c) = some (.int .i64 ((Z r).getD c 0))) : Jm w (.slice (some a) len cap) len L (fun i j => (Z i).getD j 0) := by
  refine ⟨fun r => .slice (A r) (L r) (C r), ⟨_, cap, rfl, ?_⟩, fun i hi => ?_⟩
  · by_cases h0 : len = 0
    · exact .inl h0
    · obtain ⟨b, o, rfl⟩ := spot_none (h 0 (by omega)).1
      exact .inr ⟨b, o, rfl, fun i hi => by rw [← add_pl]; exact (h i (by omega)).1⟩
  · obtain ⟨_, h2, _, _, _, h6, h7⟩ := h i (by omega)
    cases hA : A i with
    | none => have := h6 hA; exact ⟨_, _, rfl, .inl (by omega)⟩
    | some a' =>
      show Jr w (.slice (A i) (L i) (C i)) (L i) (fun j => (Z i).getD j 0)
      rw [hA]
      exact jr_of h2 (h7 a' hA).2
theorem all_mem {H : Type} {P : Program} {e : TypeId} {d : DataW H} {n : Nat} (hn : n ∈ d.weights P e) : ∀ {l : List (DataW H)}, d ∈ l → n ∈ DataW.weightsAll P e l
  | x :: l, h => by
    simp only [DataW.weightsAll, List.mem_append]
    rcases List.mem_cons.1 h with rfl | h
    · exact Or.inl hn
    · exact Or.inr (all_mem hn h)
theorem inner_le {H : Type} {P : Program} {t e q : TypeId} {A : Option Addr} {L C : Nat} {Z : List Int} {elems spare : List (DataW H)} {ws : List Nat} (ht : P.underlying t = some (.slice e)) (he : P.underlying e = some (.slice q)) (hq : P.bytesOf q = 8) (hs : ws.all (· ≤ reachBytes) = true)
    (hmem : ∀ n ∈ (DataW.slice elems spare).weights P t, n ∈ ws) (hi : Go.Deep.intRow .i64 A L Z ∈ elems) (h0 : A = none → C = 0) (hz : Z.length = C) : C ≤ 17592186044416 := by
  cases hA : A with
  | none => have := h0 hA; omega
  | some a =>
    rw [hA] at hi
    have h1 : (C * 8) ∈ (Go.Deep.intRow (H := H) .i64 (some a) L Z).weights P e := by
      show C * 8 ∈ (DataW.slice (lits .i64 (Z.take L)) (lits .i64 (Z.drop L))).weights P e
      simp only [DataW.weights, he, hq]
      refine List.mem_cons.2 (Or.inl ?_)
      simp only [lits, List.length_map, List.length_take, List.length_drop]
      omega
    have h2 := hmem _ (by simp only [DataW.weights, ht]; exact List.mem_cons.2 (Or.inr (List.mem_append.2 (Or.inl (all_mem h1 hi)))))
    have h3 : C * 8 ≤ reachBytes := of_decide_eq_true (List.all_eq_true.1 hs _ h2)
    unfold reachBytes at h3
    omega
set_option maxRecDepth 100000 in
theorem lifted (os : Os) (started : os.Started) (H : Type) (enc : TypeId × Value → H) :
    ReturnsInHanded {} Try.checked os 8 .any (Rows.matrixGroupsSpec.pre6 enc Try.prog Try.f8 Rows.matrixGroupsRow.domain false) (Rows.matrixGroupsSpec.post enc Try.prog Try.f8 false true false false) := by
  refine returnsInHanded_of_change_sized (C := Try.checked) own started (by kernel_rfl) Try.func8
    (ChangeSpec.witness6 (enc := enc) (C := Try.checked) false ⟨#[], #[.agg #[.int .i64 0, .slice none 0 0, .slice none 0 0, .slice none 0 0]], []⟩ 8 (by kernel_rfl) (by kernel_rfl) (by kernel_rfl) (by kernel_rfl)) ?_
  intro W base args ds gs before hval0 hW hcnd hsz0 _
  have hsz : (DataW.weightsEach Try.prog (Try.f8.params.toList ++ Rows.matrixGroupsSpec.plain.varTypes Try.prog) (ds ++ gs)).all (· ≤ reachBytes) = true := hsz0
  clear hsz0
  have hval : ∀ (j : Nat) t v, Try.f8.params[j]? = some t → args[j]? = some v → Value.okWide Try.prog W .any base t v := hval0
  have hW' := hW
  obtain ⟨p, q, hA0, hV, rfl, hfz, hnd⟩ := hW
  have hA : DataW.TrodAll enc Try.prog W 0 (fun _ => true) true Try.f8.params.toList args.toList ds p := hA0
  rw [Try.params8] at hA hval hsz
  obtain ⟨v0, vs0, d0, ds0, p0, q0, hargs, rfl, rfl, h0, r0⟩ := trodAll_cons hA
  obtain ⟨rfl, rfl, rfl⟩ := trodAll_nil r0
  obtain rfl : args = #[v0] := by cases args; simp_all
  obtain ⟨rfl, rfl⟩ := trodVars_none hV
  have k0 := h0
  have lt0 : ∀ x ∈ p0, x.block < W.heap.size := by obtain ⟨m, hm⟩ := k0; exact DataW.trod_lt m _ _ _ hm
  obtain ⟨u0, u1, u2, u3, y0, y1, y2, y3, n, e, ed, t0, t1, t2, t3⟩ := open4 Try.underlying83 ⟨rfl, by kernel_rfl⟩ ⟨rfl, by kernel_rfl⟩ ⟨rfl, by kernel_rfl⟩ ⟨rfl, by kernel_rfl⟩ (by kernel_rfl) (hval 0 83 v0 rfl rfl) h0
  subst e
  obtain ⟨n0, e0, _, wf0⟩ := DataW.trod_int Try.underlying3 t0
  injection e0 with e0
  subst e0
  rw [ed] at hsz
  have hse := each_agg Try.underlying83 hsz
  obtain ⟨r1, l1, m1, j1, b1, c1⟩ : ∃ (r : Nat) (l : Nat → Nat) (M : Nat → Nat → Int), Jm W u1 r l M ∧ r ≤ 5864062014805 ∧ ∀ i, i < r → l i ≤ 17592186044416 := by
    rcases Go.Deep.open_int_rows Try.underlying22 Try.underlying23 Try.underlying3 (by kernel_rfl) (by kernel_rfl) t1 with ⟨hcs, _⟩ | ⟨a, len, cap, A, L, C, Z, hcs, _, hl, hm, hx, hrow⟩
    · simp at hcs
      subst hcs
      exact ⟨0, fun _ => 0, fun _ _ => 0, ⟨fun _ => .bool false, ⟨none, 0, rfl, .inl rfl⟩, fun i hi => by omega⟩, by omega, fun i hi => by omega⟩
    · simp at hcs
      subst hcs
      refine ⟨len, L, fun i j => (Z i).getD j 0, jm_of hl hrow, ?_, fun i hi => ?_⟩
      · have hb := sized_slice hse (j := 1) (t := 22) (e := 23) rfl (by rw [hx]; rfl) Try.underlying22
        rw [show Try.prog.bytesOf 23 = 24 by kernel_rfl] at hb
        simp only [List.length_map, List.length_range, reachBytes] at hb
        omega
      · have hr := hrow i (by omega)
        have hin := inner_le Try.underlying22 Try.underlying23 (by kernel_rfl) (A := A i) (L := L i) (C := C i) (Z := Z i) hse (fun n hn => DataW.weights_mem_each (j := 1) (t := 22) rfl (by rw [hx]; rfl) n hn) (List.mem_map.2 (⟨i, List.mem_range.2 hi, rfl⟩ : ∃ r, r ∈ List.range len ∧ Go.Deep.intRow .i64 (A r) (L r) (Z r) = Go.Deep.intRow .i64 (A i) (L i) (Z i))) (fun h => hr.2.2.2.2.2.1 h) hr.2.2.2.1
        omega
  obtain ⟨r2, l2, m2, j2, b2, c2⟩ : ∃ (r : Nat) (l : Nat → Nat) (M : Nat → Nat → Int), Jm W u2 r l M ∧ r ≤ 5864062014805 ∧ ∀ i, i < r → l i ≤ 17592186044416 := by
    rcases Go.Deep.open_int_rows Try.underlying22 Try.underlying23 Try.underlying3 (by kernel_rfl) (by kernel_rfl) t2 with ⟨hcs, _⟩ | ⟨a, len, cap, A, L, C, Z, hcs, _, hl, hm, hx, hrow⟩
    · simp at hcs
      subst hcs
      exact ⟨0, fun _ => 0, fun _ _ => 0, ⟨fun _ => .bool false, ⟨none, 0, rfl, .inl rfl⟩, fun i hi => by omega⟩, by omega, fun i hi => by omega⟩
    · simp at hcs
      subst hcs
      refine ⟨len, L, fun i j => (Z i).getD j 0, jm_of hl hrow, ?_, fun i hi => ?_⟩
      · have hb := sized_slice hse (j := 2) (t := 22) (e := 23) rfl (by rw [hx]; rfl) Try.underlying22
        rw [show Try.prog.bytesOf 23 = 24 by kernel_rfl] at hb
        simp only [List.length_map, List.length_range, reachBytes] at hb
        omega
      · have hr := hrow i (by omega)
        have hin := inner_le Try.underlying22 Try.underlying23 (by kernel_rfl) (A := A i) (L := L i) (C := C i) (Z := Z i) hse (fun n hn => DataW.weights_mem_each (j := 2) (t := 22) rfl (by rw [hx]; rfl) n hn) (List.mem_map.2 (⟨i, List.mem_range.2 hi, rfl⟩ : ∃ r, r ∈ List.range len ∧ Go.Deep.intRow .i64 (A r) (L r) (Z r) = Go.Deep.intRow .i64 (A i) (L i) (Z i))) (fun h => hr.2.2.2.2.2.1 h) hr.2.2.2.1
        omega
  obtain ⟨r3, l3, m3, j3, b3, c3⟩ : ∃ (r : Nat) (l : Nat → Nat) (M : Nat → Nat → Int), Jm W u3 r l M ∧ r ≤ 5864062014805 ∧ ∀ i, i < r → l i ≤ 17592186044416 := by
    rcases Go.Deep.open_int_rows Try.underlying22 Try.underlying23 Try.underlying3 (by kernel_rfl) (by kernel_rfl) t3 with ⟨hcs, _⟩ | ⟨a, len, cap, A, L, C, Z, hcs, _, hl, hm, hx, hrow⟩
    · simp at hcs
      subst hcs
      exact ⟨0, fun _ => 0, fun _ _ => 0, ⟨fun _ => .bool false, ⟨none, 0, rfl, .inl rfl⟩, fun i hi => by omega⟩, by omega, fun i hi => by omega⟩
    · simp at hcs
      subst hcs
      refine ⟨len, L, fun i j => (Z i).getD j 0, jm_of hl hrow, ?_, fun i hi => ?_⟩
      · have hb := sized_slice hse (j := 3) (t := 22) (e := 23) rfl (by rw [hx]; rfl) Try.underlying22
        rw [show Try.prog.bytesOf 23 = 24 by kernel_rfl] at hb
        simp only [List.length_map, List.length_range, reachBytes] at hb
        omega
      · have hr := hrow i (by omega)
        have hin := inner_le Try.underlying22 Try.underlying23 (by kernel_rfl) (A := A i) (L := L i) (C := C i) (Z := Z i) hse (fun n hn => DataW.weights_mem_each (j := 3) (t := 22) rfl (by rw [hx]; rfl) n hn) (List.mem_map.2 (⟨i, List.mem_range.2 hi, rfl⟩ : ∃ r, r ∈ List.range len ∧ Go.Deep.intRow .i64 (A r) (L r) (Z r) = Go.Deep.intRow .i64 (A i) (L i) (Z i))) (fun h => hr.2.2.2.2.2.1 h) hr.2.2.2.1
        omega
  clear hA0 hval0
  refine (matrixGroups_walk n0 u1 u2 u3 r1 r2 r3 l1 l2 l3 m1 m2 m3 b1 b2 b3 c1 c2 c3 W j1 j2 j3).mono fun e W' ⟨he, bel⟩ => ?_
  subst he
  exact ⟨_, rfl, _, _, _, [], _, [], hW', trodAll_mk1 (shut_bool Try.underlying4 _), (trodAll_cons_mk (Below.trod laidOut (by kernel_rfl) (of_decide_eq_true (by kernel_rfl)) k0 bel lt0) trodAll_mk0), rfl, bel.frame _, fun h => by cases h⟩

theorem over : Rows.matrixGroupsRow.holds Try.pinned (OpenSpec.ofChange Rows.matrixGroupsSpec) :=
  OpenClaim.holds_of_wide 8 Try.f8 rfl rfl rfl rfl rfl rfl rfl ⟨rfl, rfl, rfl, rfl, rfl⟩ rfl rfl rfl rfl rfl (by kernel_rfl) Try.func8 (by kernel_rfl)
    (of_decide_eq_true (by kernel_rfl)) (by unfold Func.isWrapper; first | (rw [if_pos (by decide +kernel)]; kernel_rfl) | (rw [if_neg (by decide +kernel)]; exact ⟨rfl, rfl⟩))
    (fun os started H enc _ => lifted os started H enc)

end Go.Proofs.Ytchmggehbajebaa.matrixGroups
namespace Go.Proofs.Ytchmggehbajebaa
/-- THE STATEMENT. -/
theorem matrixGroups_said : Rows.MatrixGroupsSaid := matrixGroups.over
#print axioms matrixGroups_said
end Go.Proofs.Ytchmggehbajebaa
