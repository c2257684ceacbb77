/-
  A proof of Rows.DriveNothingUptoSaid: the frame after the guide's shell writer; the walk by hand.
-/
import Derived.Test.YtaddgmbglhdfdaaRows
import Derived.Test.YtaddgmbglhdfdaaLu11
import Derived.Test.YtaddgmbglhdfdaaLv11
import Derived.Deep.CondSized
import Derived.JoinedCond
import Derived.Deep.Slices
import Derived.Deep.Matrix
import Derived.SizedLaws
import Derived.WalkKit
import Derived.ProofKit
import Derived.OpenShut
import Derived.ShutString
import Derived.ChangeOld
import Derived.Below
namespace Go.Proofs.Ytaddgmbglhdfdaa.driveNothing
open Go.ChangeShapes Go.WideShapes Go.ChangeAt Go.RowKit
set_option linter.unusedVariables false

theorem own : ownKnob Try.prog.godebug = none := by kernel_rfl
theorem laidOut : laidOutB Try.prog = true := by kernel_rfl
set_option maxHeartbeats 400000 in
set_option maxRecDepth 100000 in
theorem lifted (os : Os) (started : os.Started) (H : Type) (enc : TypeId × Value → H) (F : Stop.Interp) :
    ReturnsInHanded {} Try.checked os 4 .any ((Rows.OpenSpec.upto Rows.driveNothingSpec).pre6 enc Try.prog Try.f4 Rows.driveNothingUptoRow.domain false) (((Rows.OpenSpec.upto Rows.driveNothingSpec).at F).post enc Try.prog Try.f4 false true false false) := by
  refine returnsInHanded_of_cond_sized (C := Try.checked) (s := Rows.OpenSpec.upto Rows.driveNothingSpec) (k := Rows.uptoSmall) rfl own started (by kernel_rfl) Try.func4
    (OpenSpec.witness (enc := enc) (C := Try.checked) (s := Rows.OpenSpec.upto Rows.driveNothingSpec) (k := Rows.uptoSmall) rfl false ⟨#[], #[.agg #[.int .i64 0, .int .i64 0, .slice none 0 0], .slice none 0 0], []⟩ 8 (by kernel_rfl) (by kernel_rfl) (by kernel_rfl) (x := ([.agg [.lit (.int .i64 0), .lit (.int .i64 0), .nil], .nil], [], [])) (by kernel_rfl) rfl (by kernel_rfl)) ?_
  intro W base args ds gs before hval0 hW hcnd hk hsz0 _
  have hbk : Rows.uptoBulkAll (ds ++ gs) ≤ 1048576 := of_decide_eq_true hk
  clear hk hsz0
  have hval : ∀ (j : Nat) t v, Try.f4.params[j]? = some t → args[j]? = some v → Value.okWide Try.prog W .any base t v := hval0
  have hW' := hW
  obtain ⟨p, q, hA0, hV, rfl, hfz, hnd⟩ := hW
  have hA : DataW.TrodAll enc Try.prog W 0 (fun _ => true) true Try.f4.params.toList args.toList ds p := hA0
  rw [Try.params4] at hA hval
  obtain ⟨v0, vs0, d0, ds0, p'0, q'0, hargs, rfl, rfl, h0, r0⟩ := trodAll_cons hA
  obtain ⟨v1, vs1, d1, ds1, p'1, q'1, rfl, rfl, rfl, h1, r1⟩ := trodAll_cons r0
  obtain ⟨rfl, rfl, rfl⟩ := trodAll_nil r1
  obtain rfl : args = #[v0, v1] := by cases args; simp_all
  obtain ⟨rfl, rfl⟩ := trodVars_none hV
  have k0 := h0
  have lt0 : ∀ x ∈ p'0, x.block < W.heap.size := by obtain ⟨m, hm⟩ := k0; exact DataW.trod_lt m _ _ _ hm
  obtain ⟨cs, rfl, _⟩ := okWide_struct Try.underlying24 (hval 0 24 v0 rfl rfl)
  have hb0 : Rows.uptoBulk d0 ≤ 1048576 := by
    simp only [List.append_nil, Rows.uptoBulkAll] at hbk
    omega
  have hb1 : Rows.uptoBulk d1 ≤ 1048576 := by
    simp only [List.append_nil, Rows.uptoBulkAll] at hbk
    omega
  obtain ⟨how, room, pf, kk, cf, nm1, dt, hcs, hfl, hfz, hfx, hfn⟩ : ∃ (how room : Int) (p : Option Addr) (k c : Nat) (nm' dt : Nat → Tx), cs.toList = (stC how room (.slice p k c)).toList ∧ FlIn W p nm' dt k ∧ fsz (fls nm' dt k) ≤ 1048576 ∧ (∀ i, i < k → (nm' i).length ≤ 134217728) ∧ k ≤ 134217728 := by
    obtain ⟨fuel, hf⟩ := h0
    exact start_of (y := (d0, p'0)) (by simpa [Value.cells] using hf) hb0
  obtain rfl : cs = stC how room (.slice pf kk cf) := by simpa [← Array.toList_inj] using hcs
  obtain ⟨a1, len1, cap1, rfl⟩ := okWide_slice Try.underlying25 (hval 1 25 v1 rfl rfl)
  have k1 := h1
  have lt1 : ∀ x ∈ p'1, x.block < W.heap.size := by obtain ⟨m, hm⟩ := k1; exact DataW.trod_lt m _ _ _ hm
  obtain ⟨pa, ca, LA, hv1, hac, haz, han⟩ : ∃ (p : Option Addr) (c : Nat) (L : List Atp), (Value.slice a1 len1 cap1) = .slice p L.length c ∧ AcsAt W p L ∧ aesz L ≤ 1048576 ∧ L.length ≤ 1048576 := by
    obtain ⟨fuel, hf⟩ := h1
    exact acts_of (v := .slice a1 len1 cap1) (y := (d1, p'1)) (by simpa [Value.cells] using hf) hb1
  injection hv1 with ea1 eb1 ec1
  subst ea1 eb1 ec1
  clear hA0 hval0
  refine (driveNothing_walk how room pf kk cf nm1 dt a1 cap1 LA hfl hfz hfx hfn hac (by omega) han).mono fun e W' ⟨he, bel⟩ => ?_
  subst he
  exact ⟨_, rfl, _, _, _, [], _, [], hW', trodAll_mk1 (shut_bool Try.underlying4 _), (trodAll_cons_mk (Below.trod laidOut (by kernel_rfl) (of_decide_eq_true (by kernel_rfl)) k0 bel lt0) (trodAll_cons_mk (Below.trod laidOut (by kernel_rfl) (of_decide_eq_true (by kernel_rfl)) k1 bel lt1) trodAll_mk0)), rfl, bel.frame _, fun h => by cases h⟩

theorem over : Rows.driveNothingUptoRow.holds Try.pinned (Rows.OpenSpec.upto Rows.driveNothingSpec) :=
  OpenClaim.holds_of_cond 4 Try.f4 rfl rfl rfl rfl rfl rfl rfl ⟨rfl, rfl, rfl, rfl, rfl⟩ rfl rfl rfl rfl rfl (by kernel_rfl) Try.func4 (by kernel_rfl)
    (of_decide_eq_true (by kernel_rfl)) (by unfold Func.isWrapper; first | (rw [if_pos (by decide +kernel)]; kernel_rfl) | (rw [if_neg (by decide +kernel)]; exact ⟨rfl, rfl⟩))
    (fun os started H enc _ F => lifted os started H enc F)

end Go.Proofs.Ytaddgmbglhdfdaa.driveNothing
namespace Go.Proofs.Ytaddgmbglhdfdaa
/-- THE STATEMENT. -/
theorem driveNothing_upto : Rows.DriveNothingUptoSaid := driveNothing.over
#print axioms driveNothing_upto
end Go.Proofs.Ytaddgmbglhdfdaa
