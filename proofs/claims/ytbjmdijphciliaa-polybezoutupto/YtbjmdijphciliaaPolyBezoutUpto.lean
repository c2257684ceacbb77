/-
  A proof of Rows.PolyBezoutUptoSaid: the frame for one struct by value, after the guide's shell writer; the walk by hand.
-/
import Derived.Test.YtbjmdijphciliaaRows
import Derived.Test.YtbjmdijphciliaaBezW
import Derived.Deep.CondSized
import Derived.JoinedCond
import Derived.SizedLaws
import Derived.WalkKit
import Derived.ProofKit
import Derived.OpenShut
import Derived.ShutString
import Derived.ChangeOld
import Derived.Below
import Derived.Lib.SmallJoins
namespace Go.Proofs.Ytbjmdijphciliaa.polyBezout
open Go.ChangeShapes Go.WideShapes Go.ChangeAt Go.RowKit
set_option linter.unusedVariables false

theorem own : ownKnob Try.prog.godebug = none := by kernel_rfl
theorem laidOut : laidOutB Try.prog = true := by kernel_rfl

theorem bulk_one {H : Type} (d : DataW H) : 1 ≤ Rows.uptoBulk d := by
  cases d with
  | lit l => cases l <;> simp [Rows.uptoBulk]
  | _ => simp [Rows.uptoBulk]
theorem bulk_len {H : Type} (l : List (DataW H)) : l.length ≤ Rows.uptoBulkAll l := by
  induction l with
  | nil => simp
  | cons d l ih => have := bulk_one d; simp only [Rows.uptoBulkAll, List.length_cons]; omega
theorem bulk_two {H : Type} (a b : List (DataW H)) (h : Rows.uptoBulkAll a + Rows.uptoBulkAll b + 1 ≤ 1048576) : a.length + b.length ≤ 1048576 := by
  have := bulk_len a
  have := bulk_len b
  omega
/-- WHAT THE WALK IS TOLD OF A SLICE OF INTEGERS THAT CAME IN: it is nil; or it leads to a row of 'cap' cells, the numbers 'zs' (the first 'len' are its elements, the rest its spare room), each fitting its kind. -/
def IsRow (k : IntKind) (w : World) (a : Option Addr) (len cap : Nat) (zs : List Int) : Prop :=
  (a = none ∧ len = 0 ∧ cap = 0 ∧ zs = []) ∨
  ∃ x, a = some x ∧ len ≤ cap ∧ cap ≤ maxLen ∧ zs.length = cap ∧ (∀ i, i < zs.length → w.cell? (x.add i) = some (.int k (zs.getD i 0))) ∧ ∀ n ∈ zs, (Lit.int k n).wf = true

theorem nil_of_row {w : World} {a : Option Addr} {len cap : Nat} {zs : List Int} (h : IsRow .u8 w a len cap zs) : a = none → cap = 0 := by
  rcases h with ⟨_, _, h3, _⟩ | ⟨x, h1, _⟩
  · exact fun _ => h3
  · intro e; rw [h1] at e; cases e
theorem rd_of_row {w : World} {a : Option Addr} {len cap : Nat} {zs : List Int} (h : IsRow .u8 w a len cap zs) : ∃ xs : List (BitVec 8), xs.length = len ∧ Rd w a xs ∧ len ≤ cap := by
  rcases h with ⟨rfl, rfl, rfl, rfl⟩ | ⟨x, rfl, hl, _, hz, hc, hw⟩
  · exact ⟨[], rfl, .inl rfl, Nat.le_refl _⟩
  · by_cases h0 : len = 0
    · subst h0; exact ⟨[], rfl, .inl rfl, hl⟩
    · obtain ⟨b, off, spot⟩ := x
      have hs : spot = none := by simpa [Addr.add] using World.cell?_spot (hc 0 (by omega))
      subst hs
      refine ⟨(zs.take len).map (fun z => BitVec.ofNat 8 z.toNat), by simp; omega, .inr ⟨b, off, rfl, fun i hi => ?_⟩, hl⟩
      have hi' : i < len := by simp at hi; omega
      have h1 := hc i (by omega)
      have hb := range_u8 hw i
      have e : (⟨b, off, none⟩ : Addr).add i = ⟨b, off + i, none⟩ := add_pl b off i
      rw [e] at h1
      rw [h1]
      congr 2
      have h2 : ((zs.take len).map (fun z => BitVec.ofNat 8 z.toNat)).getD i 0#8 = BitVec.ofNat 8 (zs.getD i 0).toNat := by
        have h3 : i < zs.length := by omega
        simp [List.getD, List.getElem?_take_of_lt hi', List.getElem?_eq_getElem h3]
      rw [h2]
      unfold el
      rw [BitVec.toNat_ofNat]
      have e2 : zs.getD i 0 = zs[i]?.getD 0 := rfl
      rw [e2]
      omega

theorem array5 {α : Type} {cs : Array α} (h : cs.size = 5) : ∃ c0 c1 c2 c3 c4, cs = #[c0, c1, c2, c3, c4] := by
  obtain ⟨l⟩ := cs
  match l, h with
  | [c0, c1, c2, c3, c4], _ => exact ⟨c0, c1, c2, c3, c4, rfl⟩
/-- A struct of five fields of one cell each, by value, opened. -/
theorem open5 {H : Type} {enc : TypeId × Value → H} {P : Program} {w : World} {bs : Nat} {spare : Nat → Bool} {held : Bool} {r : Reach} {b0 : Nat} {t : TypeId} {f0 f1 f2 f3 f4 : Field} {v : Value} {d : DataW H} {p : List MemPlace}
    (hs : P.underlying t = some (.struct #[f0, f1, f2, f3, f4])) (o0 : f0.offset = 0 ∧ P.cellsOf f0.type = 1) (o1 : f1.offset = 1 ∧ P.cellsOf f1.type = 1) (o2 : f2.offset = 2 ∧ P.cellsOf f2.type = 1) (o3 : f3.offset = 3 ∧ P.cellsOf f3.type = 1) (o4 : f4.offset = 4 ∧ P.cellsOf f4.type = 1) (hC : P.cellsOf t = 5)
    (hv : Value.okWide P w r b0 t v) (h : DataW.Trod enc P w bs spare held t v d p) :
    ∃ (v0 v1 v2 v3 v4 : Value) (y0 y1 y2 y3 y4 : DataW H × List MemPlace) (n : Nat), v = .agg #[v0, v1, v2, v3, v4] ∧ d = .agg [y0.1, y1.1, y2.1, y3.1, y4.1] ∧
      DataW.trod enc P w bs spare held n f0.type [v0] = some y0 ∧ DataW.trod enc P w bs spare held n f1.type [v1] = some y1 ∧ DataW.trod enc P w bs spare held n f2.type [v2] = some y2 ∧ DataW.trod enc P w bs spare held n f3.type [v3] = some y3 ∧ DataW.trod enc P w bs spare held n f4.type [v4] = some y4 := by
  obtain ⟨cs, rfl, hsz⟩ := okWide_struct hs hv
  obtain ⟨c0, c1, c2, c3, c4, rfl⟩ := array5 (hsz.trans hC)
  obtain ⟨fuel, hf⟩ := h
  obtain ⟨xs, n, _, hx, hl, hlen, hf⟩ := DataW.trod_struct hs hf
  simp only [Prod.mk.injEq] at hx
  match xs, hlen with
  | [y0, y1, y2, y3, y4], _ =>
    have h0 := hf 0 f0 rfl
    have h1 := hf 1 f1 rfl
    have h2 := hf 2 f2 rfl
    have h3 := hf 3 f3 rfl
    have h4 := hf 4 f4 rfl
    refine ⟨c0, c1, c2, c3, c4, y0, y1, y2, y3, y4, n, rfl, by rw [hx.1]; rfl, ?_, ?_, ?_, ?_, ?_⟩
    · simpa [Value.cells, o0.1, o0.2] using h0
    · simpa [Value.cells, o1.1, o1.2] using h1
    · simpa [Value.cells, o2.1, o2.2] using h2
    · simpa [Value.cells, o3.1, o3.2] using h3
    · simpa [Value.cells, o4.1, o4.2] using h4

set_option maxRecDepth 100000 in
theorem lifted (os : Os) (started : os.Started) (H : Type) (enc : TypeId × Value → H) (F : Stop.Interp) :
    ReturnsInHanded {} Try.checked os 4 .any ((Rows.OpenSpec.upto Rows.polyBezoutSpec).pre6 enc Try.prog Try.f4 Rows.polyBezoutUptoRow.domain false) (((Rows.OpenSpec.upto Rows.polyBezoutSpec).at F).post enc Try.prog Try.f4 false true false false) := by
  refine returnsInHanded_of_cond_sized (C := Try.checked) (s := Rows.OpenSpec.upto Rows.polyBezoutSpec) (k := Rows.uptoSmall) rfl own started (by kernel_rfl) Try.func4
    (OpenSpec.witness (enc := enc) (C := Try.checked) (s := Rows.OpenSpec.upto Rows.polyBezoutSpec) (k := Rows.uptoSmall) rfl false ⟨#[], #[.agg #[.slice none 0 0, .slice none 0 0, .slice none 0 0, .int .u8 0, .int .i64 0]], []⟩ 8 (by kernel_rfl) (by kernel_rfl) (by kernel_rfl) (x := ([.agg [.nil, .nil, .nil, .lit (.int .u8 0), .lit (.int .i64 0)]], [], [])) (by kernel_rfl) rfl (by kernel_rfl)) ?_
  intro W base args ds gs before hval0 hW hcnd hk hsz0 _
  have hbk : Rows.uptoBulkAll (ds ++ gs) ≤ 1048576 := of_decide_eq_true hk
  clear hk hsz0
  have hval : ∀ (j : Nat) t v, Try.f4.params[j]? = some t → args[j]? = some v → Value.okWide Try.prog W .any base t v := hval0
  have hW' := hW
  obtain ⟨p, q, hA0, hV, rfl, hfz, hnd⟩ := hW
  have hA : DataW.TrodAll enc Try.prog W 0 (fun _ => true) true Try.f4.params.toList args.toList ds p := hA0
  rw [Try.params4] at hA hval
  obtain ⟨v0, vs0, d0, ds0, p0, q0, hargs, rfl, rfl, h0, r0⟩ := trodAll_cons hA
  obtain ⟨rfl, rfl, rfl⟩ := trodAll_nil r0
  obtain rfl : args = #[v0] := by cases args; simp_all
  obtain ⟨rfl, rfl⟩ := trodVars_none hV
  have k0 := h0
  have lt0 : ∀ x ∈ p0, x.block < W.heap.size := by obtain ⟨m, hm⟩ := k0; exact DataW.trod_lt m _ _ _ hm
  obtain ⟨u0, u1, u2, u3, u4, y0, y1, y2, y3, y4, n, e, ed, t0, t1, t2, t3, t4⟩ := open5 Try.underlying34 ⟨rfl, by kernel_rfl⟩ ⟨rfl, by kernel_rfl⟩ ⟨rfl, by kernel_rfl⟩ ⟨rfl, by kernel_rfl⟩ ⟨rfl, by kernel_rfl⟩ (by kernel_rfl) (hval 0 34 v0 rfl rfl) h0
  subst e
  have bk : Rows.uptoBulkAll [y0.1, y1.1, y2.1, y3.1, y4.1] ≤ 1048576 := by
    rw [ed] at hbk
    simp only [List.append_nil, Rows.uptoBulkAll, Rows.uptoBulk] at hbk ⊢
    omega
  simp only [Rows.uptoBulkAll] at bk
  have bk0 : Rows.uptoBulk y0.1 ≤ 1048576 := by omega
  have bk1 : Rows.uptoBulk y1.1 ≤ 1048576 := by omega
  have bk2 : Rows.uptoBulk y2.1 ≤ 1048576 := by omega
  obtain ⟨a0, len0, cap0, e0⟩ := Joins.slice_form Try.underlying22 t0
  injection e0 with e0
  subst e0
  obtain ⟨z0, w0, b0⟩ : ∃ zs, IsRow .u8 W a0 len0 cap0 zs ∧ cap0 ≤ 1048576 := by
    rcases open_ints Try.underlying22 Try.underlying5 (by kernel_rfl) t0 with ⟨hcs, _⟩ | ⟨x, l, c, zs, hcs, _, hl, hm, hz, hx, hcell, hwz⟩
    · simp at hcs
      obtain ⟨rfl, rfl, rfl⟩ := hcs
      exact ⟨[], .inl ⟨rfl, rfl, rfl, rfl⟩, by omega⟩
    · simp at hcs
      obtain ⟨rfl, rfl, rfl⟩ := hcs
      refine ⟨zs, .inr ⟨_, rfl, hl, hm, by simpa using hz, hcell, hwz⟩, ?_⟩
      have hb : Rows.uptoBulk y0.1 ≤ 1048576 := bk0
      rw [hx] at hb
      simp only [Rows.uptoBulk] at hb
      have hq := bulk_two _ _ hb
      simp only [lits, List.length_map, List.length_take, List.length_drop] at hq
      simp only [if_true] at hz
      omega
  obtain ⟨a1, len1, cap1, e1⟩ := Joins.slice_form Try.underlying22 t1
  injection e1 with e1
  subst e1
  obtain ⟨z1, w1, b1⟩ : ∃ zs, IsRow .u8 W a1 len1 cap1 zs ∧ cap1 ≤ 1048576 := by
    rcases open_ints Try.underlying22 Try.underlying5 (by kernel_rfl) t1 with ⟨hcs, _⟩ | ⟨x, l, c, zs, hcs, _, hl, hm, hz, hx, hcell, hwz⟩
    · simp at hcs
      obtain ⟨rfl, rfl, rfl⟩ := hcs
      exact ⟨[], .inl ⟨rfl, rfl, rfl, rfl⟩, by omega⟩
    · simp at hcs
      obtain ⟨rfl, rfl, rfl⟩ := hcs
      refine ⟨zs, .inr ⟨_, rfl, hl, hm, by simpa using hz, hcell, hwz⟩, ?_⟩
      have hb : Rows.uptoBulk y1.1 ≤ 1048576 := bk1
      rw [hx] at hb
      simp only [Rows.uptoBulk] at hb
      have hq := bulk_two _ _ hb
      simp only [lits, List.length_map, List.length_take, List.length_drop] at hq
      simp only [if_true] at hz
      omega
  obtain ⟨a2, len2, cap2, e2⟩ := Joins.slice_form Try.underlying22 t2
  injection e2 with e2
  subst e2
  obtain ⟨z2, w2, b2⟩ : ∃ zs, IsRow .u8 W a2 len2 cap2 zs ∧ cap2 ≤ 1048576 := by
    rcases open_ints Try.underlying22 Try.underlying5 (by kernel_rfl) t2 with ⟨hcs, _⟩ | ⟨x, l, c, zs, hcs, _, hl, hm, hz, hx, hcell, hwz⟩
    · simp at hcs
      obtain ⟨rfl, rfl, rfl⟩ := hcs
      exact ⟨[], .inl ⟨rfl, rfl, rfl, rfl⟩, by omega⟩
    · simp at hcs
      obtain ⟨rfl, rfl, rfl⟩ := hcs
      refine ⟨zs, .inr ⟨_, rfl, hl, hm, by simpa using hz, hcell, hwz⟩, ?_⟩
      have hb : Rows.uptoBulk y2.1 ≤ 1048576 := bk2
      rw [hx] at hb
      simp only [Rows.uptoBulk] at hb
      have hq := bulk_two _ _ hb
      simp only [lits, List.length_map, List.length_take, List.length_drop] at hq
      simp only [if_true] at hz
      omega
  obtain ⟨n3, e3, _, wf3⟩ := DataW.trod_int Try.underlying5 t3
  injection e3 with e3
  subst e3
  obtain ⟨n4, e4, _, wf4⟩ := DataW.trod_int Try.underlying3 t4
  injection e4 with e4
  subst e4
  obtain ⟨x0, l0, r0, c0⟩ := rd_of_row w0
  obtain ⟨x1, l1, r1, c1⟩ := rd_of_row w1
  obtain ⟨x2, l2, r2, c2⟩ := rd_of_row w2
  subst l0 l1 l2
  obtain ⟨x, rfl⟩ := el_of n3 (bounds_u8 wf3).1 (by have := (bounds_u8 wf3).2; omega)
  clear hA0 hval0
  refine (polyBezout_walk ⟨_, cap0, rfl, r0⟩ ⟨_, cap1, rfl, r1⟩ ⟨_, cap2, rfl, r2⟩ (by omega) (by omega) (by omega) x n4).mono fun e W' ⟨he, bel⟩ => ?_
  subst he
  exact ⟨_, rfl, _, _, _, [], _, [], hW', trodAll_mk1 (shut_bool Try.underlying4 _), (trodAll_cons_mk (Below.trod laidOut (by kernel_rfl) (of_decide_eq_true (by kernel_rfl)) k0 bel lt0) trodAll_mk0), rfl, bel.frame _, fun h => by cases h⟩

theorem over : Rows.polyBezoutUptoRow.holds Try.pinned (Rows.OpenSpec.upto Rows.polyBezoutSpec) :=
  OpenClaim.holds_of_cond 4 Try.f4 rfl rfl rfl rfl rfl rfl rfl ⟨rfl, rfl, rfl, rfl, rfl⟩ rfl rfl rfl rfl rfl (by kernel_rfl) Try.func4 (by kernel_rfl)
    (of_decide_eq_true (by kernel_rfl)) (by unfold Func.isWrapper; first | (rw [if_pos (by decide +kernel)]; kernel_rfl) | (rw [if_neg (by decide +kernel)]; exact ⟨rfl, rfl⟩))
    (fun os started H enc _ F => lifted os started H enc F)

end Go.Proofs.Ytbjmdijphciliaa.polyBezout
namespace Go.Proofs.Ytbjmdijphciliaa
/-- THE STATEMENT. -/
theorem polyBezout_upto : Rows.PolyBezoutUptoSaid := polyBezout.over
#print axioms polyBezout_upto
end Go.Proofs.Ytbjmdijphciliaa
