/-
  A proof of Rows.FrameEncodeOwnSaid: the frame for shards by value, after the guide's shell writer; the walk by hand.
-/
import Derived.Test.YtfcjkaigmlfjnaaRows
import Derived.Test.YtfcjkaigmlfjnaaSf8
import Derived.Test.YtfcjkaigmlfjnaaEq8
import Derived.Test.YtfcjkaigmlfjnaaSf8
import Derived.SizedLaws
import Derived.WalkKit
import Derived.ProofKit
import Derived.OpenShut
import Derived.ShutString
import Derived.ChangeOld
import Derived.Below
namespace Go.Proofs.Ytfcjkaigmlfjnaa.frameEncodeOwn
open Go.ChangeShapes Go.WideShapes Go.ChangeAt Go.RowKit
set_option linter.unusedVariables false

theorem own : ownKnob Try.prog.godebug = none := by kernel_rfl
theorem laidOut : laidOutB Try.prog = true := by kernel_rfl
set_option maxRecDepth 100000 in
theorem lifted (os : Os) (started : os.Started) (H : Type) (enc : TypeId × Value → H) :
    ReturnsInHanded {} Try.checked os 3 .any (Rows.frameEncodeOwnSpec.pre6 enc Try.prog Try.f3 Rows.frameEncodeOwnRow.domain false) (Rows.frameEncodeOwnSpec.post enc Try.prog Try.f3 false true false false) := by
  refine returnsInHanded_of_change_sized (C := Try.checked) own started (by kernel_rfl) Try.func3
    (ChangeSpec.witness6 (enc := enc) (C := Try.checked) false ⟨#[], #[.agg #[.int .u8 0, .int .u8 0, .int .u8 0, .int .u8 0, .int .u8 0, .int .u8 0, .int .u8 0, .int .u8 0, .int .i64 0, .int .i64 0, .int .i64 0, .string ⟨#[]⟩, .int .i64 0, .int .i64 0, .int .i64 0, .int .i64 0, .slice none 0 0]], []⟩ 8 (by kernel_rfl) (by kernel_rfl) (by kernel_rfl) (by kernel_rfl)) ?_
  intro W base args ds gs before hval0 hW hcnd hsz0 _
  clear hsz0
  have hval : ∀ (j : Nat) t v, Try.f3.params[j]? = some t → args[j]? = some v → Value.okWide Try.prog W .any base t v := hval0
  have hW' := hW
  obtain ⟨p, q, hA0, hV, rfl, hfz, hnd⟩ := hW
  have hA : DataW.TrodAll enc Try.prog W 0 (fun _ => true) true Try.f3.params.toList args.toList ds p := hA0
  rw [Try.params3] at hA hval
  obtain ⟨v0, vs0, d0, ds0, q0, r0, hargs, rfl, rfl, t0, s0⟩ := trodAll_cons hA
  obtain ⟨rfl, rfl, rfl⟩ := trodAll_nil s0
  obtain rfl : args = #[v0] := by cases args; simp_all
  obtain ⟨rfl, rfl⟩ := trodVars_none hV
  have k0 := t0
  have lt0 : ∀ x ∈ q0, x.block < W.heap.size := by obtain ⟨m, hm⟩ := k0; exact DataW.trod_lt m _ _ _ hm
  obtain ⟨cs0, rfl, _⟩ := okWide_struct Try.underlying31 (hval 0 31 v0 rfl rfl)
  obtain ⟨h0, a0, n0, c0, bl0, hin0, hy0, hcs0, hb0, hc0, hR0⟩ : ∃ (hd : Hd) (p : Option Addr) (n c : Nat) (bl : List (List (BitVec 8))), hd.In ∧ hd.key.length ≤ 9223372036854775807 ∧ cs0 = hd.sh (.slice p n c) ∧ bl.length = n ∧ n ≤ c ∧ Rws W p bl := by
    obtain ⟨fuel, hf⟩ := t0
    obtain ⟨hd, p, n, c, bl, g1, g2, g3, g4, g5, g6⟩ := shard_of hf
    exact ⟨hd, p, n, c, bl, g1, g2, by simpa [Value.cells, Array.toList_inj] using g3, g4, g5, g6⟩
  subst hcs0
  clear hA0 hval0
  refine (frameEncodeOwn_walk h0 hin0 hy0 a0 n0 c0 bl0 hb0 W hR0).mono fun e W' ⟨he, bel⟩ => ?_
  subst he
  exact ⟨_, rfl, _, _, _, [], _, [], hW', trodAll_mk1 (shut_bool Try.underlying4 _), (trodAll_cons_mk (Below.trod laidOut (by kernel_rfl) (of_decide_eq_true (by kernel_rfl)) k0 bel lt0) trodAll_mk0), rfl, bel.frame _, fun h => by cases h⟩

theorem over : Rows.frameEncodeOwnRow.holds Try.pinned (OpenSpec.ofChange Rows.frameEncodeOwnSpec) :=
  OpenClaim.holds_of_wide 3 Try.f3 rfl rfl rfl rfl rfl rfl rfl ⟨rfl, rfl, rfl, rfl, rfl⟩ rfl rfl rfl rfl rfl (by kernel_rfl) Try.func3 (by kernel_rfl)
    (of_decide_eq_true (by kernel_rfl)) (by unfold Func.isWrapper; first | (rw [if_pos (by decide +kernel)]; kernel_rfl) | (rw [if_neg (by decide +kernel)]; exact ⟨rfl, rfl⟩))
    (fun os started H enc _ => lifted os started H enc)

end Go.Proofs.Ytfcjkaigmlfjnaa.frameEncodeOwn
namespace Go.Proofs.Ytfcjkaigmlfjnaa
/-- THE STATEMENT. -/
theorem frameEncodeOwn_said : Rows.FrameEncodeOwnSaid := frameEncodeOwn.over
#print axioms frameEncodeOwn_said
end Go.Proofs.Ytfcjkaigmlfjnaa
