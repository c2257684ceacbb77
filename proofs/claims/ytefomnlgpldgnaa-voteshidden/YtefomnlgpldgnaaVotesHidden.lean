/-
  A proof of Rows.VotesHiddenSaid: the frame after the guide's shell writer; the walk by hand.
-/
import Derived.Test.YtefomnlgpldgnaaRows
import Derived.Test.YtefomnlgpldgnaaVo17
import Derived.Test.YtefomnlgpldgnaaHi17
import Derived.Test.YtefomnlgpldgnaaHj17
import Derived.SizedLaws
import Derived.WalkKit
import Derived.ProofKit
import Derived.OpenShut
import Derived.ShutString
import Derived.ChangeOld
import Derived.Below
namespace Go.Proofs.Ytefomnlgpldgnaa.votesHidden
open Go.ChangeShapes Go.WideShapes Go.ChangeAt Go.RowKit
set_option linter.unusedVariables false

theorem own : ownKnob Try.prog.godebug = none := by kernel_rfl
theorem laidOut : laidOutB Try.prog = true := by kernel_rfl
set_option maxRecDepth 100000 in
theorem lifted (os : Go.Os) (started : os.Started) (H : Type) (enc : TypeId × Value → H) :
    ReturnsInHanded {} Try.checked os 3 .any (Rows.votesHiddenSpec.pre6 enc Try.prog Try.f3 Rows.votesHiddenRow.domain false) (Rows.votesHiddenSpec.post enc Try.prog Try.f3 false true false false) := by
  refine returnsInHanded_of_change_sized (C := Try.checked) own started (by kernel_rfl) Try.func3
    (ChangeSpec.witness6 (enc := enc) (C := Try.checked) false ⟨#[], #[.agg #[.int .i64 0, .int .i64 0, .int .i64 0], .slice none 0 0, .slice none 0 0], []⟩ 8 (by kernel_rfl) (by kernel_rfl) (by kernel_rfl) (by kernel_rfl)) ?_
  intro W base args ds gs before hval0 hW hcnd hsz0 _
  have hsz : (DataW.weightsEach Try.prog (Try.f3.params.toList ++ Rows.votesHiddenSpec.plain.varTypes Try.prog) (ds ++ gs)).all (· ≤ reachBytes) = true := hsz0
  clear hsz0
  have hval : ∀ (j : Nat) t v, Try.f3.params[j]? = some t → args[j]? = some v → Value.okWide Try.prog W .any base t v := hval0
  have hW' := hW
  obtain ⟨p, q, hA0, hV, rfl, hfz, hnd⟩ := hW
  have hA : DataW.TrodAll enc Try.prog W 0 (fun _ => true) true Try.f3.params.toList args.toList ds p := hA0
  rw [Try.params3] at hA hval hsz
  obtain ⟨v0, vs0, d0, ds0, q0, r0, hargs, rfl, rfl, t0, s0⟩ := trodAll_cons hA
  obtain ⟨v1, vs1, d1, ds1, q1, r1, rfl, rfl, rfl, t1, s1⟩ := trodAll_cons s0
  obtain ⟨v2, vs2, d2, ds2, q2, r2, rfl, rfl, rfl, t2, s2⟩ := trodAll_cons s1
  obtain ⟨rfl, rfl, rfl⟩ := trodAll_nil s2
  obtain rfl : args = #[v0, v1, v2] := by cases args; simp_all
  obtain ⟨rfl, rfl⟩ := trodVars_none hV
  have k'0 := t0
  have lt0 : ∀ x ∈ q0, x.block < W.heap.size := by obtain ⟨m, hm⟩ := k'0; exact DataW.trod_lt m _ _ _ hm
  have hwt0 : ∀ g ∈ d0.weights Try.prog 23, g ≤ reachBytes := fun g hg => of_decide_eq_true (List.all_eq_true.1 hsz g (DataW.weights_mem_each (j := 0) rfl rfl g hg))
  obtain ⟨cs0, rfl, _⟩ := okWide_struct Try.underlying23 (hval 0 23 v0 rfl rfl)
  obtain ⟨k0, m0, b0, hcs0, hk0, hm0, hb0⟩ : ∃ k m b : Int, cs0 = shC k m b ∧ In64 k ∧ In64 m ∧ In64 b := by
    obtain ⟨fuel, hf⟩ := t0
    obtain ⟨k, m, b, g1, g2, g3, g4⟩ := shape_ofW hf
    exact ⟨k, m, b, by simpa [Value.cells, Array.toList_inj] using g1, g2, g3, g4⟩
  subst hcs0
  have k'1 := t1
  have lt1 : ∀ x ∈ q1, x.block < W.heap.size := by obtain ⟨m, hm⟩ := k'1; exact DataW.trod_lt m _ _ _ hm
  have hwt1 : ∀ g ∈ d1.weights Try.prog 24, g ≤ reachBytes := fun g hg => of_decide_eq_true (List.all_eq_true.1 hsz g (DataW.weights_mem_each (j := 1) rfl rfl g hg))
  obtain ⟨a1, len1, cap1, rfl⟩ := okWide_slice Try.underlying24 (hval 1 24 v1 rfl rfl)
  obtain ⟨p1, n1, c1, ss1, bl1, hv1, hS1, hB1, hn1, hI1⟩ : ∃ (p : Option Addr) (n c : Nat) (ss : Nat → Sn) (bl : Nat → List (List (BitVec 8))), (Value.slice a1 len1 cap1) = .slice p n c ∧ SnL W p n ss ∧ Bls W n ss bl ∧ n ≤ 1172812402926 ∧ ∀ i, i < n → (ss i).hd.In := by
    obtain ⟨fuel, hf⟩ := t1
    exact seens_ofW (v := .slice a1 len1 cap1) (y := (d1, q1)) (by simpa [Value.cells] using hf) hwt1
  injection hv1 with ea1 eb1 ec1
  subst ea1 eb1 ec1
  have k'2 := t2
  have lt2 : ∀ x ∈ q2, x.block < W.heap.size := by obtain ⟨m, hm⟩ := k'2; exact DataW.trod_lt m _ _ _ hm
  have hwt2 : ∀ g ∈ d2.weights Try.prog 25, g ≤ reachBytes := fun g hg => of_decide_eq_true (List.all_eq_true.1 hsz g (DataW.weights_mem_each (j := 2) rfl rfl g hg))
  obtain ⟨a2, len2, cap2, rfl⟩ := okWide_slice Try.underlying25 (hval 2 25 v2 rfl rfl)
  obtain ⟨p2, n2, c2, zs2, hv2, hzl2, hzn2, hz2, hzi2⟩ : ∃ (p : Option Addr) (n c : Nat) (zs : List Int), (Value.slice a2 len2 cap2) = .slice p n c ∧ zs.length = n ∧ n ≤ 17592186043904 ∧ Rz W p zs ∧ ∀ z ∈ zs, In64 z := by
    obtain ⟨fuel, hf⟩ := t2
    exact ints_ofW (v := .slice a2 len2 cap2) (y := (d2, q2)) (by simpa [Value.cells] using hf) hwt2
  injection hv2 with ea2 eb2 ec2
  subst ea2 eb2 ec2
  subst hzl2
  clear hA0 hval0
  refine (votesHidden_walk k0 m0 b0 hm0 hS1 (fun i hi => ⟨(hI1 i hi).ep, (hI1 i hi).ct, (hI1 i hi).sz⟩) hz2 hzi2 hzn2).mono fun e W' ⟨he, bel⟩ => ?_
  subst he
  exact ⟨_, rfl, _, _, _, [], _, [], hW', trodAll_mk1 (shut_bool Try.underlying4 _), (trodAll_cons_mk (Below.trod laidOut (by kernel_rfl) (of_decide_eq_true (by kernel_rfl)) k'0 bel lt0) (trodAll_cons_mk (Below.trod laidOut (by kernel_rfl) (of_decide_eq_true (by kernel_rfl)) k'1 bel lt1) (trodAll_cons_mk (Below.trod laidOut (by kernel_rfl) (of_decide_eq_true (by kernel_rfl)) k'2 bel lt2) trodAll_mk0))), rfl, bel.frame _, fun h => by cases h⟩

theorem over : Rows.votesHiddenRow.holds Try.pinned (OpenSpec.ofChange Rows.votesHiddenSpec) :=
  OpenClaim.holds_of_wide 3 Try.f3 rfl rfl rfl rfl rfl rfl rfl ⟨rfl, rfl, rfl, rfl, rfl⟩ rfl rfl rfl rfl rfl (by kernel_rfl) Try.func3 (by kernel_rfl)
    (of_decide_eq_true (by kernel_rfl)) (by unfold Func.isWrapper; first | (rw [if_pos (by decide +kernel)]; kernel_rfl) | (rw [if_neg (by decide +kernel)]; exact ⟨rfl, rfl⟩))
    (fun os started H enc _ => lifted os started H enc)

end Go.Proofs.Ytefomnlgpldgnaa.votesHidden
namespace Go.Proofs.Ytefomnlgpldgnaa
/-- THE STATEMENT. -/
theorem votesHidden_said : Rows.VotesHiddenSaid := votesHidden.over
#print axioms votesHidden_said
end Go.Proofs.Ytefomnlgpldgnaa
