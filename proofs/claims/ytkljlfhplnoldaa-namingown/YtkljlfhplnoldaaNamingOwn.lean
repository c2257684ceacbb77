/-
  A proof of Rows.NamingOwnSaid: the frame; the walk by hand.
-/
import Derived.Test.YtkljlfhplnoldaaRows
import Derived.Test.YtkljlfhplnoldaaNo09
import Derived.SizedLaws
import Derived.WalkKit
import Derived.ProofKit
import Derived.OpenShut
import Derived.ShutString
import Derived.ChangeOld
import Derived.Below
import Derived.SliceStrings
namespace Go.Proofs.Ytkljlfhplnoldaa.namingOwn
open Go.ChangeShapes Go.WideShapes Go.ChangeAt Go.RowKit
open Go.ChangeMaps (open_string shut_string)
set_option linter.unusedVariables false

theorem own : ownKnob Try.prog.godebug = none := by kernel_rfl
theorem laidOut : laidOutB Try.prog = true := by kernel_rfl
/-- Strings that came in, as texts. -/
theorem texts_of {w : World} {x : Addr} {L : Nat} {ss : List ByteArray} (hl : L ≤ ss.length) (hc : ∀ i, i < ss.length → w.cell? (x.add i) = some (.string (ss.getD i ByteArray.empty))) : Rs w (some x) ((ss.take L).map fun s => s.data.toList) ∧ ((ss.take L).map fun s => s.data.toList).length = L := by
  have hlen : ((ss.take L).map fun s => s.data.toList).length = L := by simp; omega
  refine ⟨?_, hlen⟩
  by_cases h0 : L = 0
  · subst h0; exact .inl rfl
  · obtain ⟨b, off, spot⟩ := x
    have hs : spot = none := by simpa [Addr.add] using World.cell?_spot (hc 0 (by omega))
    subst hs
    refine .inr ⟨b, off, rfl, fun i hi => ?_⟩
    rw [hlen] at hi
    have h1 := hc i (by omega)
    rw [add_pl] at h1
    rw [h1, enc_back]
    have h3 : i < ss.length := by omega
    congr 2
    simp [List.getD, List.getElem?_take_of_lt hi, List.getElem?_eq_getElem h3]
theorem walk (a0 : Option Addr) (len0 cap0 : Nat) (x0 : List Tx) (a1 : Option Addr) (len1 cap1 : Nat) (x1 : List Tx) (a2 : ByteArray) (w : World) (r0 : Rs w a0 x0) (l0 : x0.length = len0) (c0 : len0 ≤ cap0) (b0 : cap0 ≤ 8796093021952) (r1 : Rs w a1 x1) (l1 : x1.length = len1) (c1 : len1 ≤ cap1) (b1 : cap1 ≤ 8796093021952) :
    Calls Try.prog 3 #[.slice a0 len0 cap0, .slice a1 len1 cap1, .string a2] w fun e w' => e = .returned (.bool true) ∧ Below w.heap.size w w' := by
  rw [enc_back a2]
  exact namingOwn_walk r0 r1 l0 l1 c0 c1 b0 b1 _
set_option maxRecDepth 100000 in
theorem lifted (os : Os) (started : os.Started) (H : Type) (enc : TypeId × Value → H) :
    ReturnsInHanded {} Try.checked os 3 .any (Rows.namingOwnSpec.pre6 enc Try.prog Try.f3 Rows.namingOwnRow.domain false) (Rows.namingOwnSpec.post enc Try.prog Try.f3 false true false false) := by
  refine returnsInHanded_of_change_sized (C := Try.checked) own started (by kernel_rfl) Try.func3
    (ChangeSpec.witness6 (enc := enc) (C := Try.checked) false ⟨#[], #[.slice none 0 0, .slice none 0 0, .string ByteArray.empty], []⟩ 8 (by kernel_rfl) (by kernel_rfl) (by kernel_rfl) (by kernel_rfl)) ?_
  intro W base args ds gs before hval0 hW hcnd hsz0 _
  have hsz : (DataW.weightsEach Try.prog (Try.f3.params.toList ++ Rows.namingOwnSpec.plain.varTypes Try.prog) (ds ++ gs)).all (· ≤ reachBytes) = true := hsz0
  clear hsz0
  have hval : ∀ (j : Nat) t v, Try.f3.params[j]? = some t → args[j]? = some v → Value.okWide Try.prog W .any base t v := hval0
  have hW' := hW
  obtain ⟨p, q, hA0, hV, rfl, hfz, hnd⟩ := hW
  have hA : DataW.TrodAll enc Try.prog W 0 (fun _ => true) true Try.f3.params.toList args.toList ds p := hA0
  rw [Try.params3] at hA hval hsz
  obtain ⟨v0, vs0, d0, ds0, p0, q0, hargs, rfl, rfl, h0, r0⟩ := trodAll_cons hA
  obtain ⟨v1, vs1, d1, ds1, p1, q1, rfl, rfl, rfl, h1, r1⟩ := trodAll_cons r0
  obtain ⟨v2, vs2, d2, ds2, p2, q2, rfl, rfl, rfl, h2, r2⟩ := trodAll_cons r1
  obtain ⟨rfl, rfl, rfl⟩ := trodAll_nil r2
  obtain rfl : args = #[v0, v1, v2] := by cases args; simp_all
  obtain ⟨rfl, rfl⟩ := trodVars_none hV
  obtain ⟨a0, len0, cap0, rfl⟩ := okWide_slice Try.underlying22 (hval 0 22 v0 rfl rfl)
  have k0 := h0
  have lt0 : ∀ x ∈ p0, x.block < W.heap.size := by obtain ⟨m, hm⟩ := k0; exact DataW.trod_lt m _ _ _ hm
  obtain ⟨x0, t0, l0, c0, b0⟩ : ∃ xs : List Tx, Rs W a0 xs ∧ xs.length = len0 ∧ len0 ≤ cap0 ∧ cap0 ≤ 8796093021952 := by
    obtain ⟨fuel, hf⟩ := h0
    rcases open_strings Try.underlying22 Try.underlying9 (by kernel_rfl) hf with ⟨hcs, _⟩ | ⟨x, l, c, ss, hcs, _, hl, hm, hz, hx, hcell, hwz⟩
    · simp [Value.cells] at hcs
      obtain ⟨rfl, rfl, rfl⟩ := hcs
      exact ⟨[], .inl rfl, rfl, Nat.le_refl _, by omega⟩
    · simp [Value.cells] at hcs
      obtain ⟨rfl, rfl, rfl⟩ := hcs
      simp only [if_true] at hz
      obtain ⟨q1, q2⟩ := texts_of (w := W) (x := x) (L := len0) (ss := ss) (by omega) hcell
      refine ⟨_, q1, q2, hl, ?_⟩
      simp only [Prod.mk.injEq] at hx
      have hb := sized_slice hsz (j := 0) (t := 22) (e := 9) rfl (by rw [hx.1]; rfl) Try.underlying22
      rw [show Try.prog.bytesOf 9 = 16 by kernel_rfl] at hb
      simp only [strs, List.length_map, List.length_take, List.length_drop, reachBytes] at hb
      omega
  obtain ⟨a1, len1, cap1, rfl⟩ := okWide_slice Try.underlying22 (hval 1 22 v1 rfl rfl)
  have k1 := h1
  have lt1 : ∀ x ∈ p1, x.block < W.heap.size := by obtain ⟨m, hm⟩ := k1; exact DataW.trod_lt m _ _ _ hm
  obtain ⟨x1, t1, l1, c1, b1⟩ : ∃ xs : List Tx, Rs W a1 xs ∧ xs.length = len1 ∧ len1 ≤ cap1 ∧ cap1 ≤ 8796093021952 := by
    obtain ⟨fuel, hf⟩ := h1
    rcases open_strings Try.underlying22 Try.underlying9 (by kernel_rfl) hf with ⟨hcs, _⟩ | ⟨x, l, c, ss, hcs, _, hl, hm, hz, hx, hcell, hwz⟩
    · simp [Value.cells] at hcs
      obtain ⟨rfl, rfl, rfl⟩ := hcs
      exact ⟨[], .inl rfl, rfl, Nat.le_refl _, by omega⟩
    · simp [Value.cells] at hcs
      obtain ⟨rfl, rfl, rfl⟩ := hcs
      simp only [if_true] at hz
      obtain ⟨q1, q2⟩ := texts_of (w := W) (x := x) (L := len1) (ss := ss) (by omega) hcell
      refine ⟨_, q1, q2, hl, ?_⟩
      simp only [Prod.mk.injEq] at hx
      have hb := sized_slice hsz (j := 1) (t := 22) (e := 9) rfl (by rw [hx.1]; rfl) Try.underlying22
      rw [show Try.prog.bytesOf 9 = 16 by kernel_rfl] at hb
      simp only [strs, List.length_map, List.length_take, List.length_drop, reachBytes] at hb
      omega
  obtain ⟨a2, rfl, rfl, rfl, w2⟩ := open_string Try.underlying9 (hval 2 9 v2 rfl rfl) h2
  clear hA0 hval0
  refine (walk a0 len0 cap0 x0 a1 len1 cap1 x1 a2 W t0 l0 c0 b0 t1 l1 c1 b1).mono fun e W' ⟨he, bel⟩ => ?_
  subst he
  exact ⟨_, rfl, _, _, _, [], _, [], hW', trodAll_mk1 (shut_bool Try.underlying4 _), (trodAll_cons_mk (Below.trod laidOut (by kernel_rfl) (of_decide_eq_true (by kernel_rfl)) k0 bel lt0) (trodAll_cons_mk (Below.trod laidOut (by kernel_rfl) (of_decide_eq_true (by kernel_rfl)) k1 bel lt1) (trodAll_cons_mk (shut_string Try.underlying9 w2) trodAll_mk0))), rfl, bel.frame _, fun h => by cases h⟩

theorem over : Rows.namingOwnRow.holds Try.pinned (OpenSpec.ofChange Rows.namingOwnSpec) :=
  OpenClaim.holds_of_wide 3 Try.f3 rfl rfl rfl rfl rfl rfl rfl ⟨rfl, rfl, rfl, rfl, rfl⟩ rfl rfl rfl rfl rfl (by kernel_rfl) Try.func3 (by kernel_rfl)
    (of_decide_eq_true (by kernel_rfl)) (by unfold Func.isWrapper; first | (rw [if_pos (by decide +kernel)]; kernel_rfl) | (rw [if_neg (by decide +kernel)]; exact ⟨rfl, rfl⟩))
    (fun os started H enc _ => lifted os started H enc)

end Go.Proofs.Ytkljlfhplnoldaa.namingOwn
namespace Go.Proofs.Ytkljlfhplnoldaa
/-- THE STATEMENT. -/
theorem namingOwn_said : Rows.NamingOwnSaid := namingOwn.over
#print axioms namingOwn_said
end Go.Proofs.Ytkljlfhplnoldaa
