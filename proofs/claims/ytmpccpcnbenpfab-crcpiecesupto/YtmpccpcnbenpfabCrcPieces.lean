/-
  A proof of Rows.CrcPiecesUptoSaid: the frame for one list of rows, after the guide's shell writer; the walk by hand.
-/
import Derived.Test.YtmpccpcnbenpfabRows
import Derived.Test.YtmpccpcnbenpfabPiW
import Derived.Deep.CondSized
import Derived.JoinedCond
import Derived.Deep.Matrix
import Derived.SizedLaws
import Derived.WalkKit
import Derived.ProofKit
import Derived.OpenShut
import Derived.ShutString
import Derived.ChangeOld
import Derived.Below
namespace Go.Proofs.Ytmpccpcnbenpfab.crcPieces
open Go.ChangeShapes Go.WideShapes Go.ChangeAt Go.RowKit
set_option linter.unusedVariables false

theorem own : ownKnob Try.prog.godebug = none := by kernel_rfl
theorem laidOut : laidOutB Try.prog = true := by kernel_rfl
theorem bulk_one {H : Type} (d : DataW H) : 1 ≤ Rows.uptoBulk d := by
  cases d with
  | lit l => cases l <;> simp [Rows.uptoBulk]
  | _ => simp [Rows.uptoBulk]
theorem bulk_len {H : Type} (l : List (DataW H)) : l.length ≤ Rows.uptoBulkAll l := by
  induction l with
  | nil => simp
  | cons d l ih => have := bulk_one d; simp only [Rows.uptoBulkAll, List.length_cons]; omega
theorem bulk_app {H : Type} (a b : List (DataW H)) : Rows.uptoBulkAll (a ++ b) = Rows.uptoBulkAll a + Rows.uptoBulkAll b := by
  induction a with
  | nil => simp [Rows.uptoBulkAll]
  | cons d a ih => simp only [List.cons_append, Rows.uptoBulkAll, ih]; omega
/-- The bytes of a row that was read. -/
def rowOf (L : Nat) (Z : List Int) : List (BitVec 8) := (Z.take L).map fun z => BitVec.ofNat 8 z.toNat
theorem rowOf_len (L : Nat) (Z : List Int) (h : L ≤ Z.length) : (rowOf L Z).length = L := by simp [rowOf]; omega
theorem bulk_rows {H : Type} (Ad : Nat → Option Addr) (L : Nat → Nat) (Z : Nat → List Int) (n : Nat) (hz : ∀ i, i < n → L i ≤ (Z i).length ∧ (Ad i = none → L i = 0)) : (cat (fun i => rowOf (L i) (Z i)) n).length ≤ Rows.uptoBulkAll ((List.range n).map fun r => (Go.Deep.intRow .u8 (Ad r) (L r) (Z r) : DataW H)) := by
  induction n with
  | zero => simp [cat]
  | succ n ih =>
    rw [cat_succ, List.length_append, List.range_succ, List.map_append, bulk_app]
    have h1 := ih (fun i hi => hz i (by omega))
    have h2 : (rowOf (L n) (Z n)).length ≤ Rows.uptoBulk (Go.Deep.intRow .u8 (Ad n) (L n) (Z n) : DataW H) := by
      rw [rowOf_len _ _ (hz n (by omega)).1]
      cases ha : Ad n with
      | none => have := (hz n (by omega)).2 ha; omega
      | some a =>
        show _ ≤ Rows.uptoBulk (.slice (lits .u8 ((Z n).take (L n))) (lits .u8 ((Z n).drop (L n))))
        simp only [Rows.uptoBulk]
        have h3 := bulk_len (lits .u8 ((Z n).take (L n)) : List (DataW H))
        have h4 := (hz n (by omega)).1
        simp only [lits, List.length_map, List.length_take] at h3
        simp only [lits]
        omega
    have e : Rows.uptoBulkAll [(Go.Deep.intRow .u8 (Ad n) (L n) (Z n) : DataW H)] = Rows.uptoBulk (Go.Deep.intRow .u8 (Ad n) (L n) (Z n) : DataW H) := by simp [Rows.uptoBulkAll]
    simp only [List.map_cons, List.map_nil]
    rw [e]; omega
theorem spot_none {w : World} {a : Addr} {v : Value} (h : w.cell? (a.add 0) = some v) : ∃ b o, a = ⟨b, o, none⟩ := by
  obtain ⟨b, off, spot⟩ := a
  have hs : spot = none := by simpa [Addr.add] using World.cell?_spot h
  subst hs
  exact ⟨b, off, rfl⟩
theorem rd_of {w : World} {p : Option Addr} {L C : Nat} {Z : List Int} (hl : L ≤ C) (hz : Z.length = C) (hw : ∀ n ∈ Z, (Lit.int .u8 n).wf = true) (hn : p = none → C = 0) (hc : ∀ a', p = some a' → ∀ c, c < C → w.cell? (a'.add c) = some (.int .u8 (Z.getD c 0))) : Rd w p (rowOf L Z) := by
  by_cases h0 : L = 0
  · left; unfold rowOf; rw [h0]; rfl
  · cases p with
    | none => have := hn rfl; omega
    | some a =>
      obtain ⟨b, o, rfl⟩ := spot_none (hc a rfl 0 (by omega))
      refine .inr ⟨b, o, rfl, fun i hi => ?_⟩
      have hi' : i < L := by rw [rowOf_len L Z (by omega)] at hi; exact hi
      have h1 := hc _ rfl i (by omega)
      rw [add_pl] at h1
      rw [h1]
      congr 2
      have h3 : i < Z.length := by omega
      have hb := bounds_u8 (hw _ (List.getElem_mem h3))
      have h2 : (rowOf L Z).getD i 0#8 = BitVec.ofNat 8 (Z[i]).toNat := by
        unfold rowOf
        simp [List.getD, List.getElem?_take_of_lt hi', List.getElem?_eq_getElem h3]
      rw [h2]
      have h4 : Z.getD i 0 = Z[i] := by simp [List.getD, List.getElem?_eq_getElem h3]
      rw [h4]
      unfold el
      rw [BitVec.toNat_ofNat]
      omega
set_option maxRecDepth 100000 in
theorem lifted (os : Os) (started : os.Started) (H : Type) (enc : TypeId × Value → H) (F : Stop.Interp) :
    ReturnsInHanded {} Try.checked os 3 .any ((Rows.OpenSpec.upto Rows.crcPiecesSpec).pre6 enc Try.prog Try.f3 Rows.crcPiecesUptoRow.domain false) (((Rows.OpenSpec.upto Rows.crcPiecesSpec).at F).post enc Try.prog Try.f3 false true false false) := by
  refine returnsInHanded_of_cond_sized (C := Try.checked) (s := Rows.OpenSpec.upto Rows.crcPiecesSpec) (k := Rows.uptoSmall) rfl own started (by kernel_rfl) Try.func3
    (OpenSpec.witness (enc := enc) (C := Try.checked) (s := Rows.OpenSpec.upto Rows.crcPiecesSpec) (k := Rows.uptoSmall) rfl false ⟨#[], #[.slice none 0 0], []⟩ 8 (by kernel_rfl) (by kernel_rfl) (by kernel_rfl) (x := ([.nil], [], [])) (by kernel_rfl) rfl (by kernel_rfl)) ?_
  intro W base args ds gs before hval0 hW hcnd hk hsz0 _
  have hbk : Rows.uptoBulkAll (ds ++ gs) ≤ 1048576 := of_decide_eq_true hk
  clear hk hsz0
  have hval : ∀ (j : Nat) t v, Try.f3.params[j]? = some t → args[j]? = some v → Value.okWide Try.prog W .any base t v := hval0
  have hW' := hW
  obtain ⟨p, q, hA0, hV, rfl, hfz, hnd⟩ := hW
  have hA : DataW.TrodAll enc Try.prog W 0 (fun _ => true) true Try.f3.params.toList args.toList ds p := hA0
  rw [Try.params3] at hA hval
  obtain ⟨v0, vs0, d0, ds0, p0, q0, hargs, rfl, rfl, h0, r0⟩ := trodAll_cons hA
  obtain ⟨rfl, rfl, rfl⟩ := trodAll_nil r0
  obtain rfl : args = #[v0] := by cases args; simp_all
  obtain ⟨rfl, rfl⟩ := trodVars_none hV
  obtain ⟨a0, len0, cap0, rfl⟩ := okWide_slice Try.underlying22 (hval 0 22 v0 rfl rfl)
  have k0 := h0
  have lt0 : ∀ x ∈ p0, x.block < W.heap.size := by obtain ⟨m, hm⟩ := k0; exact DataW.trod_lt m _ _ _ hm
  obtain ⟨X, Pp, Cc, hm, ht, H1⟩ : ∃ (X : Nat → List (BitVec 8)) (Pp : Nat → Option Addr) (Cc : Nat → Nat), len0 ≤ 1048576 ∧ (cat X len0).length ≤ 1048576 ∧ ∀ i, i < len0 → ∃ b o, a0 = some ⟨b, o, none⟩ ∧ W.cell? ⟨b, o + i, none⟩ = some (.slice (Pp i) (X i).length (Cc i)) ∧ Rd W (Pp i) (X i) ∧ (Pp i = none → Cc i = 0) := by
    obtain ⟨fuel, hf⟩ := h0
    have hb0 : Rows.uptoBulk d0 ≤ 1048576 := by
      simp only [List.append_nil, Rows.uptoBulkAll] at hbk
      omega
    rcases Go.Deep.open_int_rows Try.underlying22 Try.underlying23 Try.underlying5 (by kernel_rfl) (by kernel_rfl) hf with ⟨hcs, _⟩ | ⟨a, len, cap, Ad, L, C, Z, hcs, _, hl, hm, hx, hrow⟩
    · simp [Value.cells] at hcs
      obtain ⟨rfl, rfl, rfl⟩ := hcs
      exact ⟨fun _ => [], fun _ => none, fun _ => 0, by omega, by simp [cat], fun i hi => by omega⟩
    · simp [Value.cells] at hcs
      obtain ⟨rfl, rfl, rfl⟩ := hcs
      simp only [Prod.mk.injEq] at hx
      rw [hx.1] at hb0
      simp only [Rows.uptoBulk] at hb0
      have hlen := bulk_len ((List.range len0).map fun r => (Go.Deep.intRow .u8 (Ad r) (L r) (Z r) : DataW H))
      simp only [List.length_map, List.length_range] at hlen
      have hbr := bulk_rows (H := H) Ad L Z len0 (fun i hi => by
        obtain ⟨_, h1, h2, h3, _, h5, _⟩ := hrow i (by omega)
        exact ⟨by omega, fun e => by have := h5 e; omega⟩)
      refine ⟨fun i => rowOf (L i) (Z i), Ad, C, by omega, by omega, fun i hi => ?_⟩
      obtain ⟨hc, h1, h2, h3, h4, h5, h6⟩ := hrow i (by omega)
      obtain ⟨hc0, _⟩ := hrow 0 (by omega)
      obtain ⟨b, o, rfl⟩ := spot_none hc0
      refine ⟨b, o, rfl, ?_, rd_of h1 h3 h4 h5 (fun a' ha => (h6 a' ha).2), h5⟩
      rw [add_pl] at hc
      rw [hc, rowOf_len _ _ (by omega)]
  clear hA0 hval0
  refine (crcPieces_walk W a0 len0 cap0 X Pp Cc hm ht H1).mono fun e W' ⟨he, bel⟩ => ?_
  subst he
  exact ⟨_, rfl, _, _, _, [], _, [], hW', trodAll_mk1 (shut_bool Try.underlying4 _), (trodAll_cons_mk (Below.trod laidOut (by kernel_rfl) (of_decide_eq_true (by kernel_rfl)) k0 bel lt0) trodAll_mk0), rfl, bel.frame _, fun h => by cases h⟩

theorem over : Rows.crcPiecesUptoRow.holds Try.pinned (Rows.OpenSpec.upto Rows.crcPiecesSpec) :=
  OpenClaim.holds_of_cond 3 Try.f3 rfl rfl rfl rfl rfl rfl rfl ⟨rfl, rfl, rfl, rfl, rfl⟩ rfl rfl rfl rfl rfl (by kernel_rfl) Try.func3 (by kernel_rfl)
    (of_decide_eq_true (by kernel_rfl)) (by unfold Func.isWrapper; first | (rw [if_pos (by decide +kernel)]; kernel_rfl) | (rw [if_neg (by decide +kernel)]; exact ⟨rfl, rfl⟩))
    (fun os started H enc _ F => lifted os started H enc F)

end Go.Proofs.Ytmpccpcnbenpfab.crcPieces
namespace Go.Proofs.Ytmpccpcnbenpfab
/-- THE STATEMENT. -/
theorem crcPieces_upto : Rows.CrcPiecesUptoSaid := crcPieces.over
#print axioms crcPieces_upto
end Go.Proofs.Ytmpccpcnbenpfab
