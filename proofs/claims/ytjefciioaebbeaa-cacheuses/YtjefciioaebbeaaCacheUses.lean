/-
  A proof of Rows.CacheUsesSaid: the frame after the guide's shell writer; the walk by hand.
-/
import Derived.Test.YtjefciioaebbeaaRows
import Derived.Test.YtjefciioaebbeaaUw28
import Derived.SizedLaws
import Derived.WalkKit
import Derived.ProofKit
import Derived.OpenShut
import Derived.ShutString
import Derived.ChangeOld
import Derived.Below
namespace Go.Proofs.Ytjefciioaebbeaa.cacheUses
open Go.ChangeShapes Go.WideShapes Go.ChangeAt Go.RowKit
set_option linter.unusedVariables false

theorem own : ownKnob Try.prog.godebug = none := by kernel_rfl
theorem laidOut : laidOutB Try.prog = true := by kernel_rfl
set_option maxRecDepth 100000 in
theorem lifted (os : Go.Os) (started : os.Started) (H : Type) (enc : TypeId × Value → H) :
    ReturnsInHanded {} Try.checked os 4 .any (Rows.cacheUsesSpec.pre6 enc Try.prog Try.f4 Rows.cacheUsesRow.domain false) (Rows.cacheUsesSpec.post enc Try.prog Try.f4 false true false false) := by
  refine returnsInHanded_of_change_sized (C := Try.checked) own started (by kernel_rfl) Try.func4
    (ChangeSpec.witness6 (enc := enc) (C := Try.checked) false ⟨#[], #[.int .i64 0, .int .i64 0, .slice none 0 0], []⟩ 8 (by kernel_rfl) (by kernel_rfl) (by kernel_rfl) (by kernel_rfl)) ?_
  intro W base args ds gs before hval0 hW hcnd hsz0 _
  have hsz : (DataW.weightsEach Try.prog (Try.f4.params.toList ++ Rows.cacheUsesSpec.plain.varTypes Try.prog) (ds ++ gs)).all (· ≤ reachBytes) = true := hsz0
  clear hsz0
  have hval : ∀ (j : Nat) t v, Try.f4.params[j]? = some t → args[j]? = some v → Value.okWide Try.prog W .any base t v := hval0
  have hW' := hW
  obtain ⟨p, q, hA0, hV, rfl, hfz, hnd⟩ := hW
  have hA : DataW.TrodAll enc Try.prog W 0 (fun _ => true) true Try.f4.params.toList args.toList ds p := hA0
  rw [Try.params4] at hA hval hsz
  obtain ⟨v0, vs0, d0, ds0, q0, r0, hargs, rfl, rfl, t0, s0⟩ := trodAll_cons hA
  obtain ⟨v1, vs1, d1, ds1, q1, r1, rfl, rfl, rfl, t1, s1⟩ := trodAll_cons s0
  obtain ⟨v2, vs2, d2, ds2, q2, r2, rfl, rfl, rfl, t2, s2⟩ := trodAll_cons s1
  obtain ⟨rfl, rfl, rfl⟩ := trodAll_nil s2
  obtain rfl : args = #[v0, v1, v2] := by cases args; simp_all
  obtain ⟨rfl, rfl⟩ := trodVars_none hV
  have k'0 := t0
  have lt0 : ∀ x ∈ q0, x.block < W.heap.size := by obtain ⟨m, hm⟩ := k'0; exact DataW.trod_lt m _ _ _ hm
  have hwt0 : ∀ g ∈ d0.weights Try.prog 3, g ≤ reachBytes := fun g hg => of_decide_eq_true (List.all_eq_true.1 hsz g (DataW.weights_mem_each (j := 0) rfl rfl g hg))
  obtain ⟨z0, rfl⟩ := okWide_int Try.underlying3 (hval 0 3 v0 rfl rfl)
  have hz0 : -9223372036854775808 ≤ z0 ∧ z0 ≤ 9223372036854775807 := by
    obtain ⟨fuel, hf⟩ := t0
    obtain ⟨z, e, _, b⟩ := DataW.trod_int Try.underlying3 hf
    have h1 : z = z0 := by simpa [Value.cells] using e.symm
    subst h1
    have := bounds_i64 b
    omega
  have k'1 := t1
  have lt1 : ∀ x ∈ q1, x.block < W.heap.size := by obtain ⟨m, hm⟩ := k'1; exact DataW.trod_lt m _ _ _ hm
  have hwt1 : ∀ g ∈ d1.weights Try.prog 3, g ≤ reachBytes := fun g hg => of_decide_eq_true (List.all_eq_true.1 hsz g (DataW.weights_mem_each (j := 1) rfl rfl g hg))
  obtain ⟨z1, rfl⟩ := okWide_int Try.underlying3 (hval 1 3 v1 rfl rfl)
  have hz1 : -9223372036854775808 ≤ z1 ∧ z1 ≤ 9223372036854775807 := by
    obtain ⟨fuel, hf⟩ := t1
    obtain ⟨z, e, _, b⟩ := DataW.trod_int Try.underlying3 hf
    have h1 : z = z1 := by simpa [Value.cells] using e.symm
    subst h1
    have := bounds_i64 b
    omega
  have k'2 := t2
  have lt2 : ∀ x ∈ q2, x.block < W.heap.size := by obtain ⟨m, hm⟩ := k'2; exact DataW.trod_lt m _ _ _ hm
  have hwt2 : ∀ g ∈ d2.weights Try.prog 32, g ≤ reachBytes := fun g hg => of_decide_eq_true (List.all_eq_true.1 hsz g (DataW.weights_mem_each (j := 2) rfl rfl g hg))
  obtain ⟨a2, len2, cap2, rfl⟩ := okWide_slice Try.underlying32 (hval 2 32 v2 rfl rfl)
  obtain ⟨p2, n2, c2, f2, hv2, hU2, hn2, hI2⟩ : ∃ (p : Option Addr) (n c : Nat) (f : Nat → Us), (Value.slice a2 len2 cap2) = .slice p n c ∧ UL W p n f ∧ n * 56 ≤ 140737488351232 ∧ ∀ i, i < n → (f i).key.length ≤ 140737488351232 ∧ (f i).val.length ≤ 140737488351232 ∧ In64 (f i).wt ∧ In64 (f i).dk := by
    obtain ⟨fuel, hf⟩ := t2
    exact uses_ofW (v := .slice a2 len2 cap2) (y := (d2, q2)) (by simpa [Value.cells] using hf) hwt2
  injection hv2 with ea2 eb2 ec2
  subst ea2 eb2 ec2
  clear hA0 hval0
  refine (cacheUses_walk z0 z1 hU2 hn2 hI2).mono fun e W' ⟨he, bel⟩ => ?_
  subst he
  exact ⟨_, rfl, _, _, _, [], _, [], hW', trodAll_mk1 (shut_bool Try.underlying4 _), (trodAll_cons_mk (Below.trod laidOut (by kernel_rfl) (of_decide_eq_true (by kernel_rfl)) k'0 bel lt0) (trodAll_cons_mk (Below.trod laidOut (by kernel_rfl) (of_decide_eq_true (by kernel_rfl)) k'1 bel lt1) (trodAll_cons_mk (Below.trod laidOut (by kernel_rfl) (of_decide_eq_true (by kernel_rfl)) k'2 bel lt2) trodAll_mk0))), rfl, bel.frame _, fun h => by cases h⟩

theorem over : Rows.cacheUsesRow.holds Try.pinned (OpenSpec.ofChange Rows.cacheUsesSpec) :=
  OpenClaim.holds_of_wide 4 Try.f4 rfl rfl rfl rfl rfl rfl rfl ⟨rfl, rfl, rfl, rfl, rfl⟩ rfl rfl rfl rfl rfl (by kernel_rfl) Try.func4 (by kernel_rfl)
    (of_decide_eq_true (by kernel_rfl)) (by unfold Func.isWrapper; first | (rw [if_pos (by decide +kernel)]; kernel_rfl) | (rw [if_neg (by decide +kernel)]; exact ⟨rfl, rfl⟩))
    (fun os started H enc _ => lifted os started H enc)

end Go.Proofs.Ytjefciioaebbeaa.cacheUses
namespace Go.Proofs.Ytjefciioaebbeaa
/-- THE STATEMENT. -/
theorem cacheUses_said : Rows.CacheUsesSaid := cacheUses.over
#print axioms cacheUses_said
end Go.Proofs.Ytjefciioaebbeaa
