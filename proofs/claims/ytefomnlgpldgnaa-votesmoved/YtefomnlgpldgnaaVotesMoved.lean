/-
  A proof of Rows.VotesMovedSaid: the frame after the guide's shell writer; the walk by hand.
-/
import Derived.Test.YtefomnlgpldgnaaRows
import Derived.Test.YtefomnlgpldgnaaVo17
import Derived.Test.YtefomnlgpldgnaaMq17
import Derived.SizedLaws
import Derived.WalkKit
import Derived.ProofKit
import Derived.OpenShut
import Derived.ShutString
import Derived.ChangeOld
import Derived.Below
namespace Go.Proofs.Ytefomnlgpldgnaa.votesMoved
open Go.ChangeShapes Go.WideShapes Go.ChangeAt Go.RowKit
set_option linter.unusedVariables false

theorem own : ownKnob Try.prog.godebug = none := by kernel_rfl
theorem laidOut : laidOutB Try.prog = true := by kernel_rfl
set_option maxRecDepth 100000 in
theorem lifted (os : Go.Os) (started : os.Started) (H : Type) (enc : TypeId × Value → H) :
    ReturnsInHanded {} Try.checked os 5 .any (Rows.votesMovedSpec.pre6 enc Try.prog Try.f5 Rows.votesMovedRow.domain false) (Rows.votesMovedSpec.post enc Try.prog Try.f5 false true false false) := by
  refine returnsInHanded_of_change_sized (C := Try.checked) own started (by kernel_rfl) Try.func5
    (ChangeSpec.witness6 (enc := enc) (C := Try.checked) false ⟨#[], #[.agg #[.int .i64 0, .int .i64 0, .int .i64 0, .slice none 0 0, .int .i64 0, .int .i64 0]], []⟩ 8 (by kernel_rfl) (by kernel_rfl) (by kernel_rfl) (by kernel_rfl)) ?_
  intro W base args ds gs before hval0 hW hcnd hsz0 _
  have hsz : (DataW.weightsEach Try.prog (Try.f5.params.toList ++ Rows.votesMovedSpec.plain.varTypes Try.prog) (ds ++ gs)).all (· ≤ reachBytes) = true := hsz0
  clear hsz0
  have hval : ∀ (j : Nat) t v, Try.f5.params[j]? = some t → args[j]? = some v → Value.okWide Try.prog W .any base t v := hval0
  have hW' := hW
  obtain ⟨p, q, hA0, hV, rfl, hfz, hnd⟩ := hW
  have hA : DataW.TrodAll enc Try.prog W 0 (fun _ => true) true Try.f5.params.toList args.toList ds p := hA0
  rw [Try.params5] at hA hval hsz
  obtain ⟨v0, vs0, d0, ds0, q0, r0, hargs, rfl, rfl, t0, s0⟩ := trodAll_cons hA
  obtain ⟨rfl, rfl, rfl⟩ := trodAll_nil s0
  obtain rfl : args = #[v0] := by cases args; simp_all
  obtain ⟨rfl, rfl⟩ := trodVars_none hV
  have k'0 := t0
  have lt0 : ∀ x ∈ q0, x.block < W.heap.size := by obtain ⟨m, hm⟩ := k'0; exact DataW.trod_lt m _ _ _ hm
  have hwt0 : ∀ g ∈ d0.weights Try.prog 55, g ≤ reachBytes := fun g hg => of_decide_eq_true (List.all_eq_true.1 hsz g (DataW.weights_mem_each (j := 0) rfl rfl g hg))
  obtain ⟨cs0, rfl, _⟩ := okWide_struct Try.underlying55 (hval 0 55 v0 rfl rfl)
  obtain ⟨k0, m0, b0, p0, n0, c0, ss0, bl0, i0, j0, hcs0, hm0, hS0, hB0, hn0, hI0⟩ : ∃ (k m b : Int) (p : Option Addr) (n c : Nat) (ss : Nat → Sn) (bl : Nat → List (List (BitVec 8))) (i j : Int), cs0 = mvC k m b (.slice p n c) i j ∧ In64 m ∧ SnL W p n ss ∧ Bls W n ss bl ∧ n ≤ 1172812402926 ∧ ∀ i, i < n → (ss i).hd.In := by
    obtain ⟨fuel, hf⟩ := t0
    obtain ⟨k, m, b, p, n, c, ss, bl, i, j, g1, g2⟩ := mv_ofW hf hwt0
    exact ⟨k, m, b, p, n, c, ss, bl, i, j, by simpa [Value.cells, Array.toList_inj] using g1, g2⟩
  subst hcs0
  clear hA0 hval0
  refine (votesMoved_walk k0 m0 b0 hm0 hS0 hn0 hB0 (fun i hi => ⟨(hI0 i hi).ep, (hI0 i hi).ct, (hI0 i hi).sz⟩) i0 j0).mono fun e W' ⟨he, bel⟩ => ?_
  subst he
  exact ⟨_, rfl, _, _, _, [], _, [], hW', trodAll_mk1 (shut_bool Try.underlying4 _), (trodAll_cons_mk (Below.trod laidOut (by kernel_rfl) (of_decide_eq_true (by kernel_rfl)) k'0 bel lt0) trodAll_mk0), rfl, bel.frame _, fun h => by cases h⟩

theorem over : Rows.votesMovedRow.holds Try.pinned (OpenSpec.ofChange Rows.votesMovedSpec) :=
  OpenClaim.holds_of_wide 5 Try.f5 rfl rfl rfl rfl rfl rfl rfl ⟨rfl, rfl, rfl, rfl, rfl⟩ rfl rfl rfl rfl rfl (by kernel_rfl) Try.func5 (by kernel_rfl)
    (of_decide_eq_true (by kernel_rfl)) (by unfold Func.isWrapper; first | (rw [if_pos (by decide +kernel)]; kernel_rfl) | (rw [if_neg (by decide +kernel)]; exact ⟨rfl, rfl⟩))
    (fun os started H enc _ => lifted os started H enc)

end Go.Proofs.Ytefomnlgpldgnaa.votesMoved
namespace Go.Proofs.Ytefomnlgpldgnaa
/-- THE STATEMENT. -/
theorem votesMoved_said : Rows.VotesMovedSaid := votesMoved.over
#print axioms votesMoved_said
end Go.Proofs.Ytefomnlgpldgnaa
