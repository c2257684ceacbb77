/-
  A proof of Rows.CrcStreamsUptoSaid: the frame for one list of structs, after the guide's shell writer; the walk by hand.
-/
import Derived.Test.YtmpccpcnbenpfaaRows
import Derived.Test.YtmpccpcnbenpfaaSt2
import Derived.Deep.CondSized
import Derived.JoinedCond
import Derived.Deep.Slices
import Derived.Deep.Matrix
import Derived.SizedLaws
import Derived.WalkKit
import Derived.ProofKit
import Derived.OpenShut
import Derived.ShutString
import Derived.ChangeOld
import Derived.Below
namespace Go.Proofs.Ytmpccpcnbenpfaa.crcStreams
open Go.ChangeShapes Go.WideShapes Go.ChangeAt Go.RowKit
set_option linter.unusedVariables false

theorem own : ownKnob Try.prog.godebug = none := by kernel_rfl
theorem laidOut : laidOutB Try.prog = true := by kernel_rfl
theorem bulk_one {H : Type} (d : DataW H) : 1 ≤ Rows.uptoBulk d := by
  cases d with
  | lit l => cases l <;> simp [Rows.uptoBulk]
  | _ => simp [Rows.uptoBulk]
theorem bulk_len {H : Type} (l : List (DataW H)) : l.length ≤ Rows.uptoBulkAll l := by
  induction l with
  | nil => simp
  | cons d l ih => have := bulk_one d; simp only [Rows.uptoBulkAll, List.length_cons]; omega
theorem bulk_app {H : Type} (a b : List (DataW H)) : Rows.uptoBulkAll (a ++ b) = Rows.uptoBulkAll a + Rows.uptoBulkAll b := by
  induction a with
  | nil => simp [Rows.uptoBulkAll]
  | cons d a ih => simp only [List.cons_append, Rows.uptoBulkAll, ih]; omega
/-- The bytes of a row that was read. -/
def rowOf (L : Nat) (Z : List Int) : List (BitVec 8) := (Z.take L).map fun z => BitVec.ofNat 8 z.toNat
theorem rowOf_len (L : Nat) (Z : List Int) (h : L ≤ Z.length) : (rowOf L Z).length = L := by simp [rowOf]; omega
theorem spot_none {w : World} {a : Addr} {v : Value} (h : w.cell? (a.add 0) = some v) : ∃ b o, a = ⟨b, o, none⟩ := by
  obtain ⟨b, off, spot⟩ := a
  have hs : spot = none := by simpa [Addr.add] using World.cell?_spot h
  subst hs
  exact ⟨b, off, rfl⟩
theorem rd_of {w : World} {p : Option Addr} {L C : Nat} {Z : List Int} (hl : L ≤ C) (hz : Z.length = C) (hw : ∀ n ∈ Z, (Lit.int .u8 n).wf = true) (hn : p = none → C = 0) (hc : ∀ a', p = some a' → ∀ c, c < C → w.cell? (a'.add c) = some (.int .u8 (Z.getD c 0))) : Rd w p (rowOf L Z) := by
  by_cases h0 : L = 0
  · left; unfold rowOf; rw [h0]; rfl
  · cases p with
    | none => have := hn rfl; omega
    | some a =>
      obtain ⟨b, o, rfl⟩ := spot_none (hc a rfl 0 (by omega))
      refine .inr ⟨b, o, rfl, fun i hi => ?_⟩
      have hi' : i < L := by rw [rowOf_len L Z (by omega)] at hi; exact hi
      have h1 := hc _ rfl i (by omega)
      rw [add_pl] at h1
      rw [h1]
      congr 2
      have h3 : i < Z.length := by omega
      have hb := bounds_u8 (hw _ (List.getElem_mem h3))
      have h2 : (rowOf L Z).getD i 0#8 = BitVec.ofNat 8 (Z[i]).toNat := by
        unfold rowOf
        simp [List.getD, List.getElem?_take_of_lt hi', List.getElem?_eq_getElem h3]
      rw [h2]
      have h4 : Z.getD i 0 = Z[i] := by simp [List.getD, List.getElem?_eq_getElem h3]
      rw [h4]
      unfold el
      rw [BitVec.toNat_ofNat]
      omega

def totl (X : Nat → List (BitVec 8)) : Nat → Nat
  | 0 => 0
  | i + 1 => totl X i + (X i).length
theorem totl_mono (X : Nat → List (BitVec 8)) (m i : Nat) (h : i ≤ m) : totl X i ≤ totl X m := by
  induction m with
  | zero => obtain rfl : i = 0 := by omega
            exact Nat.le_refl _
  | succ m ih =>
    by_cases e : i = m + 1
    · rw [e]; exact Nat.le_refl _
    · have := ih (by omega)
      show _ ≤ totl X m + _
      omega
theorem totl_bulk {H : Type} (X : Nat → List (BitVec 8)) (D : Nat → DataW H) (n : Nat) (h : ∀ i, i < n → (X i).length ≤ Rows.uptoBulk (D i)) : totl X n ≤ Rows.uptoBulkAll ((List.range n).map D) := by
  induction n with
  | zero => simp [totl]
  | succ n ih =>
    rw [List.range_succ, List.map_append, bulk_app]
    have h1 := ih (fun i hi => h i (by omega))
    have h2 := h n (by omega)
    have e : Rows.uptoBulkAll [D n] = Rows.uptoBulk (D n) := by simp [Rows.uptoBulkAll]
    show totl X n + _ ≤ _
    simp only [List.map_cons, List.map_nil]
    rw [e]; omega
set_option maxRecDepth 100000 in
theorem lifted (os : Os) (started : os.Started) (H : Type) (enc : TypeId × Value → H) (F : Stop.Interp) :
    ReturnsInHanded {} Try.checked os 8 .any ((Rows.OpenSpec.upto Rows.crcStreamsSpec).pre6 enc Try.prog Try.f8 Rows.crcStreamsUptoRow.domain false) (((Rows.OpenSpec.upto Rows.crcStreamsSpec).at F).post enc Try.prog Try.f8 false true false false) := by
  refine returnsInHanded_of_cond_sized (C := Try.checked) (s := Rows.OpenSpec.upto Rows.crcStreamsSpec) (k := Rows.uptoSmall) rfl own started (by kernel_rfl) Try.func8
    (OpenSpec.witness (enc := enc) (C := Try.checked) (s := Rows.OpenSpec.upto Rows.crcStreamsSpec) (k := Rows.uptoSmall) rfl false ⟨#[], #[.slice none 0 0], []⟩ 8 (by kernel_rfl) (by kernel_rfl) (by kernel_rfl) (x := ([.nil], [], [])) (by kernel_rfl) rfl (by kernel_rfl)) ?_
  intro W base args ds gs before hval0 hW hcnd hk hsz0 _
  have hbk : Rows.uptoBulkAll (ds ++ gs) ≤ 1048576 := of_decide_eq_true hk
  clear hk hsz0
  have hval : ∀ (j : Nat) t v, Try.f8.params[j]? = some t → args[j]? = some v → Value.okWide Try.prog W .any base t v := hval0
  have hW' := hW
  obtain ⟨p, q, hA0, hV, rfl, hfz, hnd⟩ := hW
  have hA : DataW.TrodAll enc Try.prog W 0 (fun _ => true) true Try.f8.params.toList args.toList ds p := hA0
  rw [Try.params8] at hA hval
  obtain ⟨v0, vs0, d0, ds0, p0, q0, hargs, rfl, rfl, h0, r0⟩ := trodAll_cons hA
  obtain ⟨rfl, rfl, rfl⟩ := trodAll_nil r0
  obtain rfl : args = #[v0] := by cases args; simp_all
  obtain ⟨rfl, rfl⟩ := trodVars_none hV
  obtain ⟨a0, len0, cap0, rfl⟩ := okWide_slice Try.underlying43 (hval 0 43 v0 rfl rfl)
  have k0 := h0
  have lt0 : ∀ x ∈ p0, x.block < W.heap.size := by obtain ⟨m, hm⟩ := k0; exact DataW.trod_lt m _ _ _ hm
  obtain ⟨Q, hm, ht, H1⟩ : ∃ (Q : Nat → Int × Int × Int × Option Addr × Nat × Nat × List Int), len0 ≤ 1048576 ∧ (∀ i, i ≤ len0 → totl (fun i => rowOf (Q i).2.2.2.2.1 (Q i).2.2.2.2.2.2) i ≤ 1048576) ∧ ∀ i, i < len0 → ∃ b o, a0 = some ⟨b, o, none⟩ ∧ W.cell? ⟨b, o + i * 4, none⟩ = some (.int .i64 (Q i).1) ∧ W.cell? ⟨b, o + i * 4 + 1, none⟩ = some (.int .i64 (Q i).2.1) ∧ W.cell? ⟨b, o + i * 4 + 2, none⟩ = some (.int .i64 (Q i).2.2.1) ∧ W.cell? ⟨b, o + i * 4 + 3, none⟩ = some (.slice (Q i).2.2.2.1 (rowOf (Q i).2.2.2.2.1 (Q i).2.2.2.2.2.2).length (Q i).2.2.2.2.2.1) ∧ Rd W (Q i).2.2.2.1 (rowOf (Q i).2.2.2.2.1 (Q i).2.2.2.2.2.2) ∧ ((Q i).2.2.2.1 = none → (Q i).2.2.2.2.2.1 = 0) := by
    obtain ⟨fuel, hf⟩ := h0
    have hb0 : Rows.uptoBulk d0 ≤ 1048576 := by
      simp only [List.append_nil, Rows.uptoBulkAll] at hbk
      omega
    rcases Go.Deep.open_slice Try.underlying43 hf with ⟨hcs, _⟩ | ⟨a, len, cap, m, n, D, Pl, hcs, hba, hl, hm, hmm, hx, hrow⟩
    · simp [Value.cells] at hcs
      obtain ⟨rfl, rfl, rfl⟩ := hcs
      refine ⟨fun _ => (0, 0, 0, none, 0, 0, []), by omega, fun i hi => ?_, fun i hi => by omega⟩
      have e : i = 0 := by omega
      subst e
      exact Nat.zero_le _
    · simp [Value.cells] at hcs
      obtain ⟨rfl, rfl, rfl⟩ := hcs
      simp only [if_true] at hmm
      subst hmm
      simp only [Prod.mk.injEq] at hx
      rw [hx.1] at hb0
      simp only [Rows.uptoBulk] at hb0
      have hlen := bulk_len ((List.range len0).map D)
      simp only [List.length_map, List.length_range] at hlen
      have each : ∀ i, i < len0 → ∃ q : Int × Int × Int × Option Addr × Nat × Nat × List Int, W.cell? (a.add (i * 4)) = some (.int .i64 q.1) ∧ W.cell? (a.add (i * 4 + 1)) = some (.int .i64 q.2.1) ∧ W.cell? (a.add (i * 4 + 2)) = some (.int .i64 q.2.2.1) ∧ W.cell? (a.add (i * 4 + 3)) = some (.slice q.2.2.2.1 q.2.2.2.2.1 q.2.2.2.2.2.1) ∧ q.2.2.2.2.1 ≤ q.2.2.2.2.2.1 ∧ q.2.2.2.2.2.2.length = q.2.2.2.2.2.1 ∧ (∀ z ∈ q.2.2.2.2.2.2, (Lit.int .u8 z).wf = true) ∧ (q.2.2.2.1 = none → q.2.2.2.2.2.1 = 0) ∧ (∀ a', q.2.2.2.1 = some a' → ∀ c, c < q.2.2.2.2.2.1 → W.cell? (a'.add c) = some (.int .u8 (q.2.2.2.2.2.2.getD c 0))) ∧ q.2.2.2.2.1 ≤ Rows.uptoBulk (D i) := by
        intro i hi
        obtain ⟨cs', h1, h2⟩ := hrow i (by omega)
        rw [show Try.prog.cellsOf 49 = 4 by kernel_rfl] at h1
        obtain ⟨_, hlen', hcell⟩ := World.cells?_some h1
        obtain ⟨xs, k, hk, hxy, _, hxl, hf'⟩ := DataW.trod_struct Try.underlying49 h2
        match xs, hxl, cs', hlen' with
        | [y0, y1, y2, y3], _, [w0, w1, w2, w3], _ =>
          have g0 := hf' 0 _ rfl
          have g1 := hf' 1 _ rfl
          have g2 := hf' 2 _ rfl
          have g3 := hf' 3 _ rfl
          have c1 : Try.prog.cellsOf 3 = 1 := by kernel_rfl
          have c3 : Try.prog.cellsOf 29 = 1 := by kernel_rfl
          simp [c1, c3] at g0 g1 g2 g3
          have e0 := hcell 0 (by omega)
          have e1 := hcell 1 (by omega)
          have e2 := hcell 2 (by omega)
          have e3 := hcell 3 (by omega)
          rw [Go.Deep.add_add] at e0 e1 e2 e3
          simp at e0 e1 e2 e3
          obtain ⟨n0, f0, _, _⟩ := DataW.trod_int Try.underlying3 g0
          injection f0 with f0
          obtain ⟨n1, f1, _, _⟩ := DataW.trod_int Try.underlying3 g1
          injection f1 with f1
          obtain ⟨n2, f2, _, _⟩ := DataW.trod_int Try.underlying3 g2
          injection f2 with f2
          simp only [Prod.mk.injEq] at hxy
          have hbD : Rows.uptoBulk y3.1 ≤ Rows.uptoBulk (D i) := by
            rw [hxy.1]
            simp only [List.map_cons, List.map_nil, Rows.uptoBulk, Rows.uptoBulkAll]
            omega
          rcases open_ints Try.underlying29 Try.underlying5 (by kernel_rfl) g3 with ⟨f3, _⟩ | ⟨x, l, c, zs, f3, _, hl3, hm3, hz3, hx3, hcell3, hwz3⟩
          · injection f3 with f3
            refine ⟨(n0, n1, n2, none, 0, 0, []), by rw [e0, f0], by rw [e1, f1], by rw [e2, f2], by rw [e3, f3], Nat.le_refl _, rfl, by simp, fun _ => rfl, fun a' ha => (by cases ha), Nat.zero_le _⟩
          · injection f3 with f3
            simp only [if_true] at hz3
            refine ⟨(n0, n1, n2, some x, l, c, zs), by rw [e0, f0], by rw [e1, f1], by rw [e2, f2], by rw [e3, f3], hl3, hz3, hwz3, fun ha => (by cases ha), fun a' ha z hz => ?_, ?_⟩
            · cases ha
              exact hcell3 z (by rw [hz3]; exact hz)
            · refine Nat.le_trans ?_ hbD
              rw [hx3]
              simp only [Rows.uptoBulk]
              have h3 := bulk_len (lits .u8 (zs.take l) : List (DataW H))
              simp only [lits, List.length_map, List.length_take] at h3
              simp only [lits]
              show l ≤ _
              omega
      obtain ⟨Q, hQ⟩ := Go.Deep.choose_lt each
      have hX : ∀ i, i < len0 → (rowOf (Q i).2.2.2.2.1 (Q i).2.2.2.2.2.2).length = (Q i).2.2.2.2.1 := fun i hi => by
        obtain ⟨_, _, _, _, h5, h6, _⟩ := hQ i hi
        exact rowOf_len _ _ (by omega)
      have hbr := totl_bulk (H := H) (fun i => rowOf (Q i).2.2.2.2.1 (Q i).2.2.2.2.2.2) D len0 (fun i hi => by
        obtain ⟨_, _, _, _, _, _, _, _, _, h10⟩ := hQ i hi
        rw [hX i hi]; exact h10)
      refine ⟨Q, by omega, fun i hi => Nat.le_trans (totl_mono _ len0 i hi) (by omega), fun i hi => ?_⟩
      obtain ⟨h1, h2, h3, h4, h5, h6, h7, h8, h9, _⟩ := hQ i hi
      obtain ⟨z1, _⟩ := hQ 0 (by omega)
      obtain ⟨b, o, rfl⟩ := spot_none (by simpa using z1)
      rw [add_pl] at h1 h2 h3 h4
      refine ⟨b, o, rfl, h1, by rw [Nat.add_assoc]; exact h2, by rw [Nat.add_assoc]; exact h3, by rw [Nat.add_assoc, hX i hi]; exact h4, rd_of h5 h6 h7 h8 h9, h8⟩
  clear hA0 hval0
  refine (crcStreams_walk W a0 len0 cap0 (fun i => (Q i).1) (fun i => (Q i).2.1) (fun i => (Q i).2.2.1) (fun i => rowOf (Q i).2.2.2.2.1 (Q i).2.2.2.2.2.2) (fun i => (Q i).2.2.2.1) (fun i => (Q i).2.2.2.2.2.1) (totl (fun i => rowOf (Q i).2.2.2.2.1 (Q i).2.2.2.2.2.2)) hm (fun i => rfl) ht H1).mono fun e W' ⟨he, bel⟩ => ?_
  subst he
  exact ⟨_, rfl, _, _, _, [], _, [], hW', trodAll_mk1 (shut_bool Try.underlying4 _), (trodAll_cons_mk (Below.trod laidOut (by kernel_rfl) (of_decide_eq_true (by kernel_rfl)) k0 bel lt0) trodAll_mk0), rfl, bel.frame _, fun h => by cases h⟩

theorem over : Rows.crcStreamsUptoRow.holds Try.pinned (Rows.OpenSpec.upto Rows.crcStreamsSpec) :=
  OpenClaim.holds_of_cond 8 Try.f8 rfl rfl rfl rfl rfl rfl rfl ⟨rfl, rfl, rfl, rfl, rfl⟩ rfl rfl rfl rfl rfl (by kernel_rfl) Try.func8 (by kernel_rfl)
    (of_decide_eq_true (by kernel_rfl)) (by unfold Func.isWrapper; first | (rw [if_pos (by decide +kernel)]; kernel_rfl) | (rw [if_neg (by decide +kernel)]; exact ⟨rfl, rfl⟩))
    (fun os started H enc _ F => lifted os started H enc F)

end Go.Proofs.Ytmpccpcnbenpfaa.crcStreams
namespace Go.Proofs.Ytmpccpcnbenpfaa
/-- THE STATEMENT. -/
theorem crcStreams_upto : Rows.CrcStreamsUptoSaid := crcStreams.over
#print axioms crcStreams_upto
end Go.Proofs.Ytmpccpcnbenpfaa
