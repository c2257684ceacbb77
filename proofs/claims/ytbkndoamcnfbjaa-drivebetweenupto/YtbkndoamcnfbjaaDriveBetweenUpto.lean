/-
  A proof of Rows.DriveBetweenUptoSaid: the frame after the guide's shell writer; the walk by hand.
-/
import Derived.Test.YtbkndoamcnfbjaaRows
import Derived.Test.YtbkndoamcnfbjaaLb11
import Derived.Deep.CondSized
import Derived.JoinedCond
import Derived.Deep.Slices
import Derived.Deep.Matrix
import Derived.SizedLaws
import Derived.WalkKit
import Derived.ProofKit
import Derived.OpenShut
import Derived.ShutString
import Derived.ChangeOld
import Derived.Below
import Derived.Test.YtbkndoamcnfbjaaKu11
import Derived.Test.YtbkndoamcnfbjaaLa11
namespace Go.Proofs.Ytbkndoamcnfbjaa
open Go.ChangeShapes Go.WideShapes Go.ChangeAt Go.RowKit
theorem list10 {α : Type} {l : List α} (h : l.length = 10) : ∃ c0 c1 c2 c3 c4 c5 c6 c7 c8 c9, l = [c0, c1, c2, c3, c4, c5, c6, c7, c8, c9] := by
  match l, h with
  | [c0, c1, c2, c3, c4, c5, c6, c7, c8, c9], _ => exact ⟨c0, c1, c2, c3, c4, c5, c6, c7, c8, c9, rfl⟩
set_option maxRecDepth 100000 in
theorem change_of {H : Type} {enc : TypeId × Value → H} {W : World} {n : Nat} {cs : List Value} {y : DataW H × List MemPlace} (h : DataW.trod enc Try.prog W 0 (fun _ => true) true n 71 cs = some y) (hb : Rows.uptoBulk y.1 ≤ 1048576) :
    ∃ (how room : Int) (p : Option Addr) (k c : Nat) (nm' dt : Nat → Tx) (pa : Option Addr) (ca : Nat) (LA : List Atp) (nm nz : Tx) (pd : Option Addr) (cd : Nat) (d : Tx) (dn : Int) (qd : Option Addr) (cq : Nat) (dirs : List Bool) (qc : Option Addr) (cc : Nat) (cuts : List Int), cs = (chC how room (.slice p k c) (.slice pa LA.length ca) nm nz (.slice pd d.length cd) dn (.slice qd dirs.length cq) (.slice qc cuts.length cc)).toList ∧ ChAt W p k nm' dt pa LA nm nz pd d qd dirs qc cuts := by
  obtain ⟨xs, m, _, hy, hl, hlen, hf⟩ := DataW.trod_struct Try.underlying71 h
  have hl' : cs.length = 10 := hl.trans (by kernel_rfl)
  obtain ⟨c0, c1, c2, c3, c4, c5, c6, c7, c8, c9, rfl⟩ := list10 hl'
  have n0 : Try.prog.cellsOf 24 = 3 := by kernel_rfl
  have n1 : Try.prog.cellsOf 25 = 1 := by kernel_rfl
  have ns : Try.prog.cellsOf 9 = 1 := by kernel_rfl
  have ni : Try.prog.cellsOf 3 = 1 := by kernel_rfl
  have nb : Try.prog.cellsOf 26 = 1 := by kernel_rfl
  have nf : Try.prog.cellsOf 30 = 2 := by kernel_rfl
  have nF : Try.prog.cellsOf 22 = 1 := by kernel_rfl
  have nd : Try.prog.cellsOf 27 = 1 := by kernel_rfl
  have nc : Try.prog.cellsOf 28 = 1 := by kernel_rfl
  match xs, hlen with
  | [y0, y1, y2, y3, y4, y5, y6], _ =>
    have f0 := hf 0 _ rfl
    have f1 := hf 1 _ rfl
    have f2 := hf 2 _ rfl
    have f3 := hf 3 _ rfl
    have f4 := hf 4 _ rfl
    have f5 := hf 5 _ rfl
    have f6 := hf 6 _ rfl
    simp [n0, n1, ns, nb, nf, ni] at f0 f1 f2 f3 f4 f5 f6
    obtain ⟨ts, m8, _, hy0, _, htl, hs⟩ := DataW.trod_struct Try.underlying24 f0
    obtain ⟨zs, m9, _, hy6, _, hzl, hg⟩ := DataW.trod_struct Try.underlying30 f6
    match ts, htl, zs, hzl with
    | [t0, t1, t2], _, [z0, z1], _ =>
      have s0 := hs 0 _ rfl
      have s1 := hs 1 _ rfl
      have s2 := hs 2 _ rfl
      simp [ni, nF] at s0 s1 s2
      have g0 := hg 0 _ rfl
      have g1 := hg 1 _ rfl
      simp [nd, nc] at g0 g1
      have hy1 : y.1 = _ := congrArg Prod.fst hy
      have hy01 : y0.1 = _ := congrArg Prod.fst hy0
      have hy61 : y6.1 = _ := congrArg Prod.fst hy6
      rw [hy1] at hb
      simp only [List.map_cons, List.map_nil, Rows.uptoBulk, Rows.uptoBulkAll, hy61, hy01] at hb
      obtain ⟨how, e0, _, _⟩ := DataW.trod_int Try.underlying3 s0
      obtain ⟨room, e1, _, _⟩ := DataW.trod_int Try.underlying3 s1
      obtain ⟨p, k, c, nm', dt, e2, hfl, hfz, hfx, hfn⟩ := files_of s2 (by omega)
      obtain ⟨pa, ca, LA, e3, hac, haz, han⟩ := acts_of f1 (by omega)
      obtain ⟨s4, e4, x4, _⟩ := DataW.trod_string Try.underlying9 f2
      obtain ⟨s5, e5, x5, _⟩ := DataW.trod_string Try.underlying9 f3
      obtain ⟨pd, cd, d, e6, hd, hbd, hcap⟩ := bytes_tx f4
      obtain ⟨dn, e7, _, _⟩ := DataW.trod_int Try.underlying3 f5
      obtain ⟨qd, nqd, cq, dirs, e8, hdl, hbq, hnq, hdn⟩ := bls_of g0
      obtain ⟨qc, nqc, cc, cuts, e9, hcl, hiq, hnc, hcn⟩ := ils_of g1
      simp only [List.cons.injEq, and_true] at e0 e1 e4 e5 e7
      subst e0 e1 e2 e3 e4 e5 e6 e7 e8 e9 hdl hcl
      simp only [Rows.uptoBulk, x4, x5] at hb
      refine ⟨how, room, p, k, c, nm', dt, pa, ca, LA, s4.data.toList, s5.data.toList, pd, cd, d, dn, qd, cq, dirs, qc, cc, cuts, ?_, ⟨hfl, hfz, hfx, hfn, hac, by omega, han, ?_, ?_, hd, by omega, hbq, by omega, hiq, by omega, fun b o e h0 => ?_⟩⟩
      · simp only [chC, ← enc_back]
      · have : s4.data.toList.length ≤ 1048576 := by omega
        exact this
      · have : s5.data.toList.length ≤ 1048576 := by omega
        exact this
      · obtain ⟨b', o', e', hc⟩ := hiq 0 h0
        rw [e] at e'
        injection e' with e'
        injection e' with e1 e2
        subst e1
        exact block_lt_of_cell hc
end Go.Proofs.Ytbkndoamcnfbjaa
namespace Go.Proofs.Ytbkndoamcnfbjaa.driveBetween
open Go.ChangeShapes Go.WideShapes Go.ChangeAt Go.RowKit
set_option linter.unusedVariables false

theorem own : ownKnob Try.prog.godebug = none := by kernel_rfl
theorem laidOut : laidOutB Try.prog = true := by kernel_rfl
set_option maxHeartbeats 400000 in
set_option maxRecDepth 100000 in
theorem lifted (os : Os) (started : os.Started) (H : Type) (enc : TypeId × Value → H) (F : Stop.Interp) :
    ReturnsInHanded {} Try.checked os 6 .any ((Rows.OpenSpec.upto Rows.driveBetweenSpec).pre6 enc Try.prog Try.f6 Rows.driveBetweenUptoRow.domain false) (((Rows.OpenSpec.upto Rows.driveBetweenSpec).at F).post enc Try.prog Try.f6 false true false false) := by
  refine returnsInHanded_of_cond_sized (C := Try.checked) (s := Rows.OpenSpec.upto Rows.driveBetweenSpec) (k := Rows.uptoSmall) rfl own started (by kernel_rfl) Try.func6
    (OpenSpec.witness (enc := enc) (C := Try.checked) (s := Rows.OpenSpec.upto Rows.driveBetweenSpec) (k := Rows.uptoSmall) rfl false ⟨#[], #[.agg #[.int .i64 0, .int .i64 0, .slice none 0 0, .slice none 0 0, .string ByteArray.empty, .string ByteArray.empty, .slice none 0 0, .int .i64 0, .slice none 0 0, .slice none 0 0]], []⟩ 8 (by kernel_rfl) (by kernel_rfl) (by kernel_rfl) (x := ([.agg [.agg [.lit (.int .i64 0), .lit (.int .i64 0), .nil], .nil, .lit (.string []), .lit (.string []), .nil, .lit (.int .i64 0), .agg [.nil, .nil]]], [], [])) (by kernel_rfl) rfl (by kernel_rfl)) ?_
  intro W base args ds gs before hval0 hW hcnd hk hsz0 _
  have hbk : Rows.uptoBulkAll (ds ++ gs) ≤ 1048576 := of_decide_eq_true hk
  clear hk hsz0
  have hval : ∀ (j : Nat) t v, Try.f6.params[j]? = some t → args[j]? = some v → Value.okWide Try.prog W .any base t v := hval0
  have hW' := hW
  obtain ⟨p, q, hA0, hV, rfl, hfz, hnd⟩ := hW
  have hA : DataW.TrodAll enc Try.prog W 0 (fun _ => true) true Try.f6.params.toList args.toList ds p := hA0
  rw [Try.params6] at hA hval
  obtain ⟨v0, vs0, d0, ds0, p'0, q'0, hargs, rfl, rfl, h0, r0⟩ := trodAll_cons hA
  obtain ⟨rfl, rfl, rfl⟩ := trodAll_nil r0
  obtain rfl : args = #[v0] := by cases args; simp_all
  obtain ⟨rfl, rfl⟩ := trodVars_none hV
  have k0 := h0
  have lt0 : ∀ x ∈ p'0, x.block < W.heap.size := by obtain ⟨m, hm⟩ := k0; exact DataW.trod_lt m _ _ _ hm
  obtain ⟨cs, rfl, _⟩ := okWide_struct Try.underlying71 (hval 0 71 v0 rfl rfl)
  obtain ⟨fuel, hf⟩ := h0
  have hb0 : Rows.uptoBulk d0 ≤ 1048576 := by
    simp only [List.append_nil, Rows.uptoBulkAll] at hbk
    omega
  obtain ⟨how, room, pf, kk, cf, nm1, dt, pa, ca, LA, nm, nz, pd, cd, d, dn, qd, cq, dirs, qc, cc, cuts, hcs, hKp⟩ := change_of (y := (d0, p'0)) hf hb0
  obtain rfl : cs = chC how room (.slice pf kk cf) (.slice pa LA.length ca) nm nz (.slice pd d.length cd) dn (.slice qd dirs.length cq) (.slice qc cuts.length cc) := by simpa [Value.cells, ← Array.toList_inj] using hcs
  clear hA0 hval0
  refine (driveBetween_walk how room pf kk cf nm1 dt pa ca LA nm nz pd cd d dn qd cq dirs qc cc cuts hKp).mono fun e W' ⟨he, bel⟩ => ?_
  subst he
  exact ⟨_, rfl, _, _, _, [], _, [], hW', trodAll_mk1 (shut_bool Try.underlying4 _), (trodAll_cons_mk (Below.trod laidOut (by kernel_rfl) (of_decide_eq_true (by kernel_rfl)) k0 bel lt0) trodAll_mk0), rfl, bel.frame _, fun h => by cases h⟩

theorem over : Rows.driveBetweenUptoRow.holds Try.pinned (Rows.OpenSpec.upto Rows.driveBetweenSpec) :=
  OpenClaim.holds_of_cond 6 Try.f6 rfl rfl rfl rfl rfl rfl rfl ⟨rfl, rfl, rfl, rfl, rfl⟩ rfl rfl rfl rfl rfl (by kernel_rfl) Try.func6 (by kernel_rfl)
    (of_decide_eq_true (by kernel_rfl)) (by unfold Func.isWrapper; first | (rw [if_pos (by decide +kernel)]; kernel_rfl) | (rw [if_neg (by decide +kernel)]; exact ⟨rfl, rfl⟩))
    (fun os started H enc _ F => lifted os started H enc F)

end Go.Proofs.Ytbkndoamcnfbjaa.driveBetween
namespace Go.Proofs.Ytbkndoamcnfbjaa
/-- THE STATEMENT. -/
theorem driveBetween_upto : Rows.DriveBetweenUptoSaid := driveBetween.over
#print axioms driveBetween_upto
end Go.Proofs.Ytbkndoamcnfbjaa
