/-
  A proof of Rows.CodecStickyUptoSaid: the frame for bytes and a list of steps, after the guide's shell writer; the walk by hand.
-/
import Derived.Test.YtmcbeikgdcgdcaaRows
import Derived.Test.YtmcbeikgdcgdcaaStW
import Derived.Deep.CondSized
import Derived.JoinedCond
import Derived.Deep.Slices
import Derived.Deep.Matrix
import Derived.SizedLaws
import Derived.WalkKit
import Derived.ProofKit
import Derived.OpenShut
import Derived.ShutString
import Derived.ChangeOld
import Derived.Below
namespace Go.Proofs.Ytmcbeikgdcgdcaa.codecSticky
open Go.ChangeShapes Go.WideShapes Go.ChangeAt Go.RowKit
set_option linter.unusedVariables false

theorem own : ownKnob Try.prog.godebug = none := by kernel_rfl
theorem laidOut : laidOutB Try.prog = true := by kernel_rfl
theorem bulk_one {H : Type} (d : DataW H) : 1 ≤ Rows.uptoBulk d := by
  cases d with
  | lit l => cases l <;> simp [Rows.uptoBulk]
  | _ => simp [Rows.uptoBulk]
theorem bulk_len {H : Type} (l : List (DataW H)) : l.length ≤ Rows.uptoBulkAll l := by
  induction l with
  | nil => simp
  | cons d l ih => have := bulk_one d; simp only [Rows.uptoBulkAll, List.length_cons]; omega
theorem bulk_app {H : Type} (a b : List (DataW H)) : Rows.uptoBulkAll (a ++ b) = Rows.uptoBulkAll a + Rows.uptoBulkAll b := by
  induction a with
  | nil => simp [Rows.uptoBulkAll]
  | cons d a ih => simp only [List.cons_append, Rows.uptoBulkAll, ih]; omega
/-- The bytes of a row that was read. -/
def rowOf (L : Nat) (Z : List Int) : List (BitVec 8) := (Z.take L).map fun z => BitVec.ofNat 8 z.toNat
theorem rowOf_len (L : Nat) (Z : List Int) (h : L ≤ Z.length) : (rowOf L Z).length = L := by simp [rowOf]; omega
theorem spot_none {w : World} {a : Addr} {v : Value} (h : w.cell? (a.add 0) = some v) : ∃ b o, a = ⟨b, o, none⟩ := by
  obtain ⟨b, off, spot⟩ := a
  have hs : spot = none := by simpa [Addr.add] using World.cell?_spot h
  subst hs
  exact ⟨b, off, rfl⟩
theorem rd_of {w : World} {p : Option Addr} {L C : Nat} {Z : List Int} (hl : L ≤ C) (hz : Z.length = C) (hw : ∀ n ∈ Z, (Lit.int .u8 n).wf = true) (hn : p = none → C = 0) (hc : ∀ a', p = some a' → ∀ c, c < C → w.cell? (a'.add c) = some (.int .u8 (Z.getD c 0))) : Rd w p (rowOf L Z) := by
  by_cases h0 : L = 0
  · left; unfold rowOf; rw [h0]; rfl
  · cases p with
    | none => have := hn rfl; omega
    | some a =>
      obtain ⟨b, o, rfl⟩ := spot_none (hc a rfl 0 (by omega))
      refine .inr ⟨b, o, rfl, fun i hi => ?_⟩
      have hi' : i < L := by rw [rowOf_len L Z (by omega)] at hi; exact hi
      have h1 := hc _ rfl i (by omega)
      rw [add_pl] at h1
      rw [h1]
      congr 2
      have h3 : i < Z.length := by omega
      have hb := bounds_u8 (hw _ (List.getElem_mem h3))
      have h2 : (rowOf L Z).getD i 0#8 = BitVec.ofNat 8 (Z[i]).toNat := by
        unfold rowOf
        simp [List.getD, List.getElem?_take_of_lt hi', List.getElem?_eq_getElem h3]
      rw [h2]
      have h4 : Z.getD i 0 = Z[i] := by simp [List.getD, List.getElem?_eq_getElem h3]
      rw [h4]
      unfold el
      rw [BitVec.toNat_ofNat]
      omega

set_option maxRecDepth 100000 in
theorem lifted (os : Os) (started : os.Started) (H : Type) (enc : TypeId × Value → H) (F : Stop.Interp) :
    ReturnsInHanded {} Try.checked os 8 .any ((Rows.OpenSpec.upto Rows.codecStickySpec).pre6 enc Try.prog Try.f8 Rows.codecStickyUptoRow.domain false) (((Rows.OpenSpec.upto Rows.codecStickySpec).at F).post enc Try.prog Try.f8 false true false false) := by
  refine returnsInHanded_of_cond_sized (C := Try.checked) (s := Rows.OpenSpec.upto Rows.codecStickySpec) (k := Rows.uptoSmall) rfl own started (by kernel_rfl) Try.func8
    (OpenSpec.witness (enc := enc) (C := Try.checked) (s := Rows.OpenSpec.upto Rows.codecStickySpec) (k := Rows.uptoSmall) rfl false ⟨#[], #[.slice none 0 0, .slice none 0 0], []⟩ 8 (by kernel_rfl) (by kernel_rfl) (by kernel_rfl) (x := ([.nil, .nil], [], [])) (by kernel_rfl) rfl (by kernel_rfl)) ?_
  intro W base args ds gs before hval0 hW hcnd hk hsz0 _
  have hbk : Rows.uptoBulkAll (ds ++ gs) ≤ 1048576 := of_decide_eq_true hk
  clear hk hsz0
  have hval : ∀ (j : Nat) t v, Try.f8.params[j]? = some t → args[j]? = some v → Value.okWide Try.prog W .any base t v := hval0
  have hW' := hW
  obtain ⟨p, q, hA0, hV, rfl, hfz, hnd⟩ := hW
  have hA : DataW.TrodAll enc Try.prog W 0 (fun _ => true) true Try.f8.params.toList args.toList ds p := hA0
  rw [Try.params8] at hA hval
  obtain ⟨v0, vs0, d0, ds0, p0, q0, hargs, rfl, rfl, h0, r0⟩ := trodAll_cons hA
  obtain ⟨v1, vs1, d1, ds1, p1, q1, rfl, rfl, rfl, h1, r1⟩ := trodAll_cons r0
  obtain ⟨rfl, rfl, rfl⟩ := trodAll_nil r1
  obtain rfl : args = #[v0, v1] := by cases args; simp_all
  obtain ⟨rfl, rfl⟩ := trodVars_none hV
  obtain ⟨a0, len0, cap0, rfl⟩ := okWide_slice Try.underlying22 (hval 0 22 v0 rfl rfl)
  have k0 := h0
  have lt0 : ∀ x ∈ p0, x.block < W.heap.size := by obtain ⟨m, hm⟩ := k0; exact DataW.trod_lt m _ _ _ hm
  obtain ⟨a1, len1, cap1, rfl⟩ := okWide_slice Try.underlying56 (hval 1 56 v1 rfl rfl)
  have k1 := h1
  have lt1 : ∀ x ∈ p1, x.block < W.heap.size := by obtain ⟨m, hm⟩ := k1; exact DataW.trod_lt m _ _ _ hm
  obtain ⟨X0, hXl0, hXr0, hXb0, hXc0, hXn0⟩ : ∃ X : List (BitVec 8), X.length = len0 ∧ Rd W a0 X ∧ len0 ≤ 1048576 ∧ len0 ≤ cap0 ∧ (a0 = none → cap0 = 0) := by
    obtain ⟨fuel, hf⟩ := h0
    have hb0 : Rows.uptoBulk d0 ≤ 1048576 := by
      simp only [List.append_nil, Rows.uptoBulkAll] at hbk
      omega
    rcases open_ints Try.underlying22 Try.underlying5 (by kernel_rfl) hf with ⟨f3, _⟩ | ⟨x, l, c, zs, f3, _, hl3, hm3, hz3, hx3, hcell3, hwz3⟩
    · simp [Value.cells] at f3
      obtain ⟨rfl, rfl, rfl⟩ := f3
      exact ⟨[], rfl, .inl rfl, by omega, Nat.le_refl _, fun _ => rfl⟩
    · simp [Value.cells] at f3
      obtain ⟨rfl, rfl, rfl⟩ := f3
      simp only [if_true] at hz3
      refine ⟨rowOf len0 zs, rowOf_len _ _ (by omega), rd_of hl3 hz3 hwz3 (fun ha => (by cases ha)) (fun a' ha z hz => ?_), ?_, hl3, fun ha => (by cases ha)⟩
      · cases ha
        exact hcell3 z (by rw [hz3]; exact hz)
      · simp only [Prod.mk.injEq] at hx3
        rw [hx3.1] at hb0
        simp only [Rows.uptoBulk] at hb0
        have h3 := bulk_len (lits .u8 (zs.take len0) : List (DataW H))
        simp only [lits, List.length_map, List.length_take] at h3
        simp only [lits] at hb0
        omega
  obtain ⟨Q, hm, H1⟩ : ∃ (Q : Nat → Int × Int × Int × Int), len1 ≤ 1048576 ∧ Scr W a1 len1 Q := by
    obtain ⟨fuel, hf⟩ := h1
    have hb0 : Rows.uptoBulk d1 ≤ 1048576 := by
      simp only [List.append_nil, Rows.uptoBulkAll] at hbk
      omega
    rcases Go.Deep.open_slice Try.underlying56 hf with ⟨hcs, _⟩ | ⟨a, len, cap, m, n, D, Pl, hcs, hba, hl, hm, hmm, hx, hrow⟩
    · simp [Value.cells] at hcs
      obtain ⟨rfl, rfl, rfl⟩ := hcs
      exact ⟨fun _ => (0, 0, 0, 0), by omega, fun i hi => by omega⟩
    · simp [Value.cells] at hcs
      obtain ⟨rfl, rfl, rfl⟩ := hcs
      simp only [if_true] at hmm
      subst hmm
      simp only [Prod.mk.injEq] at hx
      rw [hx.1] at hb0
      simp only [Rows.uptoBulk] at hb0
      have hlen := bulk_len ((List.range len1).map D)
      simp only [List.length_map, List.length_range] at hlen
      have each : ∀ i, i < len1 → ∃ q : Int × Int × Int × Int, W.cell? (a.add (i * 4)) = some (.int .i64 q.1) ∧ W.cell? (a.add (i * 4 + 1)) = some (.int .i64 q.2.1) ∧ W.cell? (a.add (i * 4 + 2)) = some (.int .i64 q.2.2.1) ∧ W.cell? (a.add (i * 4 + 3)) = some (.int .i64 q.2.2.2) ∧ q.2.2.1 ≤ 9223372036854775807 ∧ q.2.2.2 ≤ 9223372036854775807 := by
        intro i hi
        obtain ⟨cs', h1, h2⟩ := hrow i (by omega)
        rw [show Try.prog.cellsOf 65 = 4 by kernel_rfl] at h1
        obtain ⟨_, hlen', hcell⟩ := World.cells?_some h1
        obtain ⟨xs, k, hk, hxy, _, hxl, hf'⟩ := DataW.trod_struct Try.underlying65 h2
        match xs, hxl, cs', hlen' with
        | [y0, y1, y2, y3], _, [w0, w1, w2, w3], _ =>
          have g0 := hf' 0 _ rfl
          have g1 := hf' 1 _ rfl
          have g2 := hf' 2 _ rfl
          have g3 := hf' 3 _ rfl
          have c1 : Try.prog.cellsOf 3 = 1 := by kernel_rfl
          simp [c1] at g0 g1 g2 g3
          have e0 := hcell 0 (by omega)
          have e1 := hcell 1 (by omega)
          have e2 := hcell 2 (by omega)
          have e3 := hcell 3 (by omega)
          rw [Go.Deep.add_add] at e0 e1 e2 e3
          simp at e0 e1 e2 e3
          obtain ⟨n0, f0, _, _⟩ := DataW.trod_int Try.underlying3 g0
          injection f0 with f0
          obtain ⟨n1, f1, _, _⟩ := DataW.trod_int Try.underlying3 g1
          injection f1 with f1
          obtain ⟨n2, f2, _, b2⟩ := DataW.trod_int Try.underlying3 g2
          injection f2 with f2
          obtain ⟨n3, f3, _, b3⟩ := DataW.trod_int Try.underlying3 g3
          injection f3 with f3
          exact ⟨(n0, n1, n2, n3), by rw [e0, f0], by rw [e1, f1], by rw [e2, f2], by rw [e3, f3], (Go.bounds_i64 b2).2, (Go.bounds_i64 b3).2⟩
      obtain ⟨Q, hQ⟩ := Go.Deep.choose_lt each
      refine ⟨Q, by omega, fun i hi => ?_⟩
      obtain ⟨h1, h2, h3, h4, h5, h6⟩ := hQ i hi
      obtain ⟨z1, _⟩ := hQ 0 (by omega)
      obtain ⟨b, o, rfl⟩ := spot_none (by simpa using z1)
      rw [add_pl] at h1 h2 h3 h4
      exact ⟨b, o, rfl, h1, by rw [Nat.add_assoc]; exact h2, by rw [Nat.add_assoc]; exact h3, by rw [Nat.add_assoc]; exact h4, h5, h6⟩
  clear hA0 hval0
  refine (codecSticky_walk W a0 X0 hXr0 len0 cap0 hXl0 hXb0 a1 len1 cap1 Q hm H1).mono fun e W' ⟨he, bel⟩ => ?_
  subst he
  exact ⟨_, rfl, _, _, _, [], _, [], hW', trodAll_mk1 (shut_bool Try.underlying4 _), (trodAll_cons_mk (Below.trod laidOut (by kernel_rfl) (of_decide_eq_true (by kernel_rfl)) k0 bel lt0) (trodAll_cons_mk (Below.trod laidOut (by kernel_rfl) (of_decide_eq_true (by kernel_rfl)) k1 bel lt1) trodAll_mk0)), rfl, bel.frame _, fun h => by cases h⟩

theorem over : Rows.codecStickyUptoRow.holds Try.pinned (Rows.OpenSpec.upto Rows.codecStickySpec) :=
  OpenClaim.holds_of_cond 8 Try.f8 rfl rfl rfl rfl rfl rfl rfl ⟨rfl, rfl, rfl, rfl, rfl⟩ rfl rfl rfl rfl rfl (by kernel_rfl) Try.func8 (by kernel_rfl)
    (of_decide_eq_true (by kernel_rfl)) (by unfold Func.isWrapper; first | (rw [if_pos (by decide +kernel)]; kernel_rfl) | (rw [if_neg (by decide +kernel)]; exact ⟨rfl, rfl⟩))
    (fun os started H enc _ F => lifted os started H enc F)

end Go.Proofs.Ytmcbeikgdcgdcaa.codecSticky
namespace Go.Proofs.Ytmcbeikgdcgdcaa
/-- THE STATEMENT. -/
theorem codecSticky_upto : Rows.CodecStickyUptoSaid := codecSticky.over
#print axioms codecSticky_upto
end Go.Proofs.Ytmcbeikgdcgdcaa
