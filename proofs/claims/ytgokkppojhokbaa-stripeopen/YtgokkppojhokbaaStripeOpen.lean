/-
  A proof of Rows.StripeOpenSaid: the frame for one struct by value, after the guide's shell writer; the walk by hand.
-/
import Derived.Test.YtgokkppojhokbaaRows
import Derived.Test.YtgokkppojhokbaaPo10
import Derived.Test.YtgokkppojhokbaaOx10
import Derived.SizedLaws
import Derived.WalkKit
import Derived.ProofKit
import Derived.OpenShut
import Derived.ShutString
import Derived.ChangeOld
import Derived.Below
namespace Go.Proofs.Ytgokkppojhokbaa.stripeOpen
open Go.ChangeShapes Go.WideShapes Go.ChangeAt Go.RowKit
set_option linter.unusedVariables false

theorem own : ownKnob Try.prog.godebug = none := by kernel_rfl
theorem laidOut : laidOutB Try.prog = true := by kernel_rfl
set_option maxRecDepth 100000 in
theorem lifted (os : Os) (started : os.Started) (H : Type) (enc : TypeId × Value → H) :
    ReturnsInHanded {} Try.checked os 3 .any (Rows.stripeOpenSpec.pre6 enc Try.prog Try.f3 Rows.stripeOpenRow.domain false) (Rows.stripeOpenSpec.post enc Try.prog Try.f3 false true false false) := by
  refine returnsInHanded_of_change_sized (C := Try.checked) own started (by kernel_rfl) Try.func3
    (ChangeSpec.witness6 (enc := enc) (C := Try.checked) false ⟨#[], #[.agg #[.int .i64 0, .int .i64 0, .int .i64 0, .int .u8 0, .int .u8 0, .int .u8 0, .int .u8 0, .int .u8 0, .int .u8 0, .int .u8 0, .int .u8 0, .string ⟨#[]⟩, .int .i64 0, .int .i64 0, .slice none 0 0, .slice none 0 0], .slice none 0 0], []⟩ 8 (by kernel_rfl) (by kernel_rfl) (by kernel_rfl) (by kernel_rfl)) ?_
  intro W base args ds gs before hval0 hW hcnd hsz0 _
  clear hsz0
  have hval : ∀ (j : Nat) t v, Try.f3.params[j]? = some t → args[j]? = some v → Value.okWide Try.prog W .any base t v := hval0
  have hW' := hW
  obtain ⟨p, q, hA0, hV, rfl, hfz, hnd⟩ := hW
  have hA : DataW.TrodAll enc Try.prog W 0 (fun _ => true) true Try.f3.params.toList args.toList ds p := hA0
  rw [Try.params3] at hA hval
  obtain ⟨v0, vs0, d0, ds0, q0, r0, hargs, rfl, rfl, h0, s0⟩ := trodAll_cons hA
  obtain ⟨v1, vs1, d1, ds1, q1, r1, rfl, rfl, rfl, h1, s1⟩ := trodAll_cons s0
  obtain ⟨rfl, rfl, rfl⟩ := trodAll_nil s1
  obtain rfl : args = #[v0, v1] := by cases args; simp_all
  obtain ⟨rfl, rfl⟩ := trodVars_none hV
  have k0 := h0
  have lt0 : ∀ x ∈ q0, x.block < W.heap.size := by obtain ⟨m, hm⟩ := k0; exact DataW.trod_lt m _ _ _ hm
  have k1 := h1
  have lt1 : ∀ x ∈ q1, x.block < W.heap.size := by obtain ⟨m, hm⟩ := k1; exact DataW.trod_lt m _ _ _ hm
  obtain ⟨cs, rfl, _⟩ := okWide_struct Try.underlying26 (hval 0 26 v0 rfl rfl)
  obtain ⟨x, pd, n, c, d, pp, np, cp, f, hcs, hnc, hD, hP⟩ : ∃ (x : Hd) (pd : Option Addr) (n c : Nat) (d : Nat → BitVec 8) (pp : Option Addr) (np cp : Nat) (f : Nat → Int), cs = plC x (.slice pd n c) (.slice pp np cp) ∧ n ≤ c ∧ NrE W (.slice pd n c) n d ∧ (0 < np → ∃ b o, pp = some ⟨b, o, none⟩ ∧ ∀ i, i < np → W.cell? ⟨b, o + i, none⟩ = some (.int .i64 (f i))) := by
    obtain ⟨fuel, hf⟩ := h0
    obtain ⟨x, pd, n, c, d, pp, np, cp, f, hcs, hnc, hD, hP⟩ := plain_of hf
    exact ⟨x, pd, n, c, d, pp, np, cp, f, by simpa [Value.cells, Array.toList_inj] using hcs, hnc, hD, hP⟩
  subst hcs
  obtain ⟨p1, l1, c1, e1⟩ := okWide_slice Try.underlying23 (hval 1 23 v1 rfl rfl)
  subst e1
  obtain ⟨d1x, hl1, hR1⟩ : ∃ d : Nat → BitVec 8, l1 ≤ 9223372036854775807 ∧ NrE W (.slice p1 l1 c1) l1 d := by
    obtain ⟨fuel, hf⟩ := h1
    obtain ⟨p', n', c', d', e', hc', hN'⟩ := bytes_ofM hf
    injection e' with e1 e2 e3
    subst e1 e2 e3
    exact ⟨d', hc', hN'⟩
  clear hA0 hval0
  refine (stripeOpen_walk x pd n c d pp np cp f p1 l1 c1 d1x W hnc hD hP hR1 hl1).mono fun e W' ⟨he, bel⟩ => ?_
  subst he
  exact ⟨_, rfl, _, _, _, [], _, [], hW', trodAll_mk1 (shut_bool Try.underlying4 _), (trodAll_cons_mk (Below.trod laidOut (by kernel_rfl) (of_decide_eq_true (by kernel_rfl)) k0 bel lt0) (trodAll_cons_mk (Below.trod laidOut (by kernel_rfl) (of_decide_eq_true (by kernel_rfl)) k1 bel lt1) trodAll_mk0)), rfl, bel.frame _, fun h => by cases h⟩

theorem over : Rows.stripeOpenRow.holds Try.pinned (OpenSpec.ofChange Rows.stripeOpenSpec) :=
  OpenClaim.holds_of_wide 3 Try.f3 rfl rfl rfl rfl rfl rfl rfl ⟨rfl, rfl, rfl, rfl, rfl⟩ rfl rfl rfl rfl rfl (by kernel_rfl) Try.func3 (by kernel_rfl)
    (of_decide_eq_true (by kernel_rfl)) (by unfold Func.isWrapper; first | (rw [if_pos (by decide +kernel)]; kernel_rfl) | (rw [if_neg (by decide +kernel)]; exact ⟨rfl, rfl⟩))
    (fun os started H enc _ => lifted os started H enc)

end Go.Proofs.Ytgokkppojhokbaa.stripeOpen
namespace Go.Proofs.Ytgokkppojhokbaa
/-- THE STATEMENT. -/
theorem stripeOpen_said : Rows.StripeOpenSaid := stripeOpen.over
#print axioms stripeOpen_said
end Go.Proofs.Ytgokkppojhokbaa
