/-
  A proof of Rows.VotesFewSaid: the frame after the guide's shell writer; the walk by hand.
-/
import Derived.Test.YtefomnlgpldgnaaRows
import Derived.Test.YtefomnlgpldgnaaVo17
import Derived.Test.YtefomnlgpldgnaaFe17
import Derived.SizedLaws
import Derived.WalkKit
import Derived.ProofKit
import Derived.OpenShut
import Derived.ShutString
import Derived.ChangeOld
import Derived.Below
namespace Go.Proofs.Ytefomnlgpldgnaa.votesFew
open Go.ChangeShapes Go.WideShapes Go.ChangeAt Go.RowKit
set_option linter.unusedVariables false

theorem own : ownKnob Try.prog.godebug = none := by kernel_rfl
theorem laidOut : laidOutB Try.prog = true := by kernel_rfl
set_option maxRecDepth 100000 in
theorem lifted (os : Go.Os) (started : os.Started) (H : Type) (enc : TypeId × Value → H) :
    ReturnsInHanded {} Try.checked os 4 .any (Rows.votesFewSpec.pre6 enc Try.prog Try.f4 Rows.votesFewRow.domain false) (Rows.votesFewSpec.post enc Try.prog Try.f4 false true false false) := by
  refine returnsInHanded_of_change_sized (C := Try.checked) own started (by kernel_rfl) Try.func4
    (ChangeSpec.witness6 (enc := enc) (C := Try.checked) false ⟨#[], #[.agg #[.int .i64 0, .int .i64 0, .int .i64 0], .slice none 0 0], []⟩ 8 (by kernel_rfl) (by kernel_rfl) (by kernel_rfl) (by kernel_rfl)) ?_
  intro W base args ds gs before hval0 hW hcnd hsz0 _
  have hsz : (DataW.weightsEach Try.prog (Try.f4.params.toList ++ Rows.votesFewSpec.plain.varTypes Try.prog) (ds ++ gs)).all (· ≤ reachBytes) = true := hsz0
  clear hsz0
  have hval : ∀ (j : Nat) t v, Try.f4.params[j]? = some t → args[j]? = some v → Value.okWide Try.prog W .any base t v := hval0
  have hW' := hW
  obtain ⟨p, q, hA0, hV, rfl, hfz, hnd⟩ := hW
  have hA : DataW.TrodAll enc Try.prog W 0 (fun _ => true) true Try.f4.params.toList args.toList ds p := hA0
  rw [Try.params4] at hA hval hsz
  obtain ⟨v0, vs0, d0, ds0, q0, r0, hargs, rfl, rfl, t0, s0⟩ := trodAll_cons hA
  obtain ⟨v1, vs1, d1, ds1, q1, r1, rfl, rfl, rfl, t1, s1⟩ := trodAll_cons s0
  obtain ⟨rfl, rfl, rfl⟩ := trodAll_nil s1
  obtain rfl : args = #[v0, v1] := by cases args; simp_all
  obtain ⟨rfl, rfl⟩ := trodVars_none hV
  have k'0 := t0
  have lt0 : ∀ x ∈ q0, x.block < W.heap.size := by obtain ⟨m, hm⟩ := k'0; exact DataW.trod_lt m _ _ _ hm
  have hwt0 : ∀ g ∈ d0.weights Try.prog 23, g ≤ reachBytes := fun g hg => of_decide_eq_true (List.all_eq_true.1 hsz g (DataW.weights_mem_each (j := 0) rfl rfl g hg))
  obtain ⟨cs0, rfl, _⟩ := okWide_struct Try.underlying23 (hval 0 23 v0 rfl rfl)
  obtain ⟨k0, m0, b0, hcs0, hk0, hm0, hb0⟩ : ∃ k m b : Int, cs0 = shC k m b ∧ In64 k ∧ In64 m ∧ In64 b := by
    obtain ⟨fuel, hf⟩ := t0
    obtain ⟨k, m, b, g1, g2, g3, g4⟩ := shape_ofW hf
    exact ⟨k, m, b, by simpa [Value.cells, Array.toList_inj] using g1, g2, g3, g4⟩
  subst hcs0
  have k'1 := t1
  have lt1 : ∀ x ∈ q1, x.block < W.heap.size := by obtain ⟨m, hm⟩ := k'1; exact DataW.trod_lt m _ _ _ hm
  have hwt1 : ∀ g ∈ d1.weights Try.prog 24, g ≤ reachBytes := fun g hg => of_decide_eq_true (List.all_eq_true.1 hsz g (DataW.weights_mem_each (j := 1) rfl rfl g hg))
  obtain ⟨a1, len1, cap1, rfl⟩ := okWide_slice Try.underlying24 (hval 1 24 v1 rfl rfl)
  obtain ⟨p1, n1, c1, ss1, bl1, hv1, hS1, hB1, hn1, hI1⟩ : ∃ (p : Option Addr) (n c : Nat) (ss : Nat → Sn) (bl : Nat → List (List (BitVec 8))), (Value.slice a1 len1 cap1) = .slice p n c ∧ SnL W p n ss ∧ Bls W n ss bl ∧ n ≤ 1172812402926 ∧ ∀ i, i < n → (ss i).hd.In := by
    obtain ⟨fuel, hf⟩ := t1
    exact seens_ofW (v := .slice a1 len1 cap1) (y := (d1, q1)) (by simpa [Value.cells] using hf) hwt1
  injection hv1 with ea1 eb1 ec1
  subst ea1 eb1 ec1
  clear hA0 hval0
  refine (votesFew_walk k0 m0 b0 hm0 hS1 hn1 (fun i hi => ⟨(hI1 i hi).ep, (hI1 i hi).ct, (hI1 i hi).sz⟩) (fun i hi => by obtain ⟨p, c, e, _⟩ := hB1 i hi; rw [e]; rfl)).mono fun e W' ⟨he, bel⟩ => ?_
  subst he
  exact ⟨_, rfl, _, _, _, [], _, [], hW', trodAll_mk1 (shut_bool Try.underlying4 _), (trodAll_cons_mk (Below.trod laidOut (by kernel_rfl) (of_decide_eq_true (by kernel_rfl)) k'0 bel lt0) (trodAll_cons_mk (Below.trod laidOut (by kernel_rfl) (of_decide_eq_true (by kernel_rfl)) k'1 bel lt1) trodAll_mk0)), rfl, bel.frame _, fun h => by cases h⟩

theorem over : Rows.votesFewRow.holds Try.pinned (OpenSpec.ofChange Rows.votesFewSpec) :=
  OpenClaim.holds_of_wide 4 Try.f4 rfl rfl rfl rfl rfl rfl rfl ⟨rfl, rfl, rfl, rfl, rfl⟩ rfl rfl rfl rfl rfl (by kernel_rfl) Try.func4 (by kernel_rfl)
    (of_decide_eq_true (by kernel_rfl)) (by unfold Func.isWrapper; first | (rw [if_pos (by decide +kernel)]; kernel_rfl) | (rw [if_neg (by decide +kernel)]; exact ⟨rfl, rfl⟩))
    (fun os started H enc _ => lifted os started H enc)

end Go.Proofs.Ytefomnlgpldgnaa.votesFew
namespace Go.Proofs.Ytefomnlgpldgnaa
/-- THE STATEMENT. -/
theorem votesFew_said : Rows.VotesFewSaid := votesFew.over
#print axioms votesFew_said
end Go.Proofs.Ytefomnlgpldgnaa
