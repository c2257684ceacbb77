/-
  Words: countOneMore.
-/
import Derived.Test.YtgconfcijmemmaaWd16
import Derived.Maps.AppendAt
namespace Go.Proofs.Ytgconfcijmemmaa
open Go.RowKit
theorem wstays (x y : Option Int) (h : weq x y = true) (w : World) : (Instr.keyThatStays (wvl y) (wvl x)).run Try.prog w = .ok (wvl x) w := by
  obtain rfl : x = y := by simpa [weq] using h
  unfold Instr.keyThatStays
  have e : Instr.sameBits 10000 (wvl x) (wvl x) = true := by
    unfold wvl wcs
    simp [Instr.sameBits, bytes_eq]
  rw [if_pos e]
  rfl
theorem wcs_eq (x : Option Int) : wcs x = #[.int .i64 (wnu x), .string (wtx x)] := rfl
theorem wrefl (x : Option Int) : weq x x = true := by simp [weq]
section
attribute [local irreducible] Calls GB wcs
set_option maxRecDepth 1000000 in
set_option maxHeartbeats 4000000 in
theorem wone_any (x : Option Int) {w : World} {b N : Nat} {L : List (Option Int)} {o : Obj} (hO : MpO wvl weq L N o) (hb : w.heap[b]? = some o) (hL : L.length ≤ 140737488355328) :
    Calls Try.prog 15 #[.map (some b), .agg (wcs x)] w fun e w' => e = .returned (.int .i64 ((x :: L).countP (weq x) : Int)) ∧ (∃ o', MpO wvl weq (x :: L) (N + 1) o' ∧ w'.heap[b]? = some o') ∧ w.grownBy w' (some b) := by
  obtain ⟨v0, st, o1, hE, hM1⟩ := hO.entry wkind Try.underlying38 x (wrefl x) (fun y hy w => wstays x y hy w) b
  obtain ⟨o2, hS, hM2⟩ := hM1.store wkind.per 38 b
  have hc : List.countP (weq x) L ≤ 140737488355328 := Nat.le_trans List.countP_le_length hL
  obtain ⟨c, hcc⟩ : ∃ c, List.countP (weq x) L = c := ⟨_, rfl⟩
  obtain ⟨c', hcc'⟩ : ∃ c', List.countP (weq x) (x :: L) = c' := ⟨_, rfl⟩
  rw [hcc] at hS hc
  rw [show ((c + 1 : Nat) : Int) = (c : Int) + 1 from rfl] at hS
  rw [hcc']
  have LK0 := (show Hid (∀ W : World, W.heap[b]? = some o → (Instr.lookup 38 (.map (some b)) (.agg (wcs x)) false).run Try.prog W = .ok (.int .i64 (c : Int)) W) from fun W hW => by rw [← hcc]; exact (hO.cm hW).look wkind Try.underlying38 x)
  have LK1 := (show Hid (∀ W : World, W.heap[b]? = some o1 → (Instr.lookup 38 (.map (some b)) (.agg (wcs x)) false).run Try.prog W = .ok (.int .i64 (c : Int)) W) from fun W hW => by rw [← hcc]; exact (hM1.cm hW).look wkind Try.underlying38 x)
  have LK2 := (show Hid (∀ W : World, W.heap[b]? = some o2 → (Instr.lookup 38 (.map (some b)) (.agg (wcs x)) false).run Try.prog W = .ok (.int .i64 (c' : Int)) W) from fun W hW => by rw [← hcc']; exact (hM2.cm hW).look wkind Try.underlying38 x)
  have HE := (show Hid (∀ W : World, W.heap[b]? = some o → (Instr.mapEntry 38 (.map (some b)) (.agg (wcs x))).run Try.prog W = .ok (.tuple #[v0, .int .i64 (st : Int)]) (setB W b o1)) from hE)
  have HS := (show Hid _ from hS)
  have HM := (show Hid (MpO wvl weq (x :: L) (N + 1) o2) from hM2)
  have HB := (show Hid (w.heap[b]? = some o) from hb)
  clear hE hS hM1 hM2 hO hcc hcc' hL hb
  go_enter_defers Try.func15, Try.ntmps15
  go_upto_region 2 with (first
    | (refine wpList_bxB (cs := wcs x) rfl _ rfl rfl ?_; intro w1 hG1 hb1 hs1))
  have HB1 := (show Hid (w1.heap[b]? = some o) from by
    have hl := (Array.getElem?_eq_some_iff.1 HB.out).1
    rw [hb1.block b hl]; exact HB.out)
  obtain ⟨W2, hW2⟩ : ∃ W2, W2 = setB w1 b o1 := ⟨_, rfl⟩
  obtain ⟨W3, hW3⟩ : ∃ W3, W3 = setB W2 b o2 := ⟨_, rfl⟩
  have HB2 := (show Hid (W2.heap[b]? = some o1) from by rw [hW2]; exact setB_at HB1.out _)
  have HB3 := (show Hid (W3.heap[b]? = some o2) from by rw [hW3]; exact setB_at HB2.out _)
  have wc : Hid (wcs x = #[.int .i64 (wnu x), .string (wtx x)]) := wcs_eq x
  have c0 := hG1.cell 0
  have c1 := hG1.cell 1
  rw [wc.out] at c0 c1
  have e1 : (Instr.mapEntry 38 (.map (some b)) (.agg #[.int .i64 (wnu x), .string (wtx x)])).run Try.prog w1.drew = .ok (.tuple #[v0, .int .i64 (st : Int)]) W2.drew := by
    rw [← wc.out, HE.out w1.drew HB1.out, hW2]; rfl
  have l0 : (Instr.lookup 38 (.map (some b)) (.agg #[.int .i64 (wnu x), .string (wtx x)]) false).run Try.prog w1.drew = .ok (.int .i64 (c : Int)) w1.drew := by rw [← wc.out]; exact LK0.out _ HB1.out
  have l1 : (Instr.lookup 38 (.map (some b)) (.agg #[.int .i64 (wnu x), .string (wtx x)]) false).run Try.prog W2.drew = .ok (.int .i64 (c : Int)) W2.drew := by rw [← wc.out]; exact LK1.out _ HB2.out
  have s1 : (Instr.entryStore 38 (.map (some b)) (.int .i64 (st : Int)) (.int .i64 ((c : Int) + 1))).run Try.prog W2.drew = .ok () W3.drew := by
    rw [HS.out W2.drew HB2.out, hW3]; rfl
  have hw1 : wrap64 ((c : Int) + 1) = (c : Int) + 1 := by unfold wrap64; omega
  have HW := (show Hid (w1.grownBy W3 (some b)) from by rw [hW3, hW2]; exact (setB_grown _ _ _).trans (setB_grown _ _ _))
  have HG := (show Hid (w.grownBy W3.drew (some b)) from ⟨HW.out.os.trans hb1.os, HW.out.tape.trans hb1.tape, HW.out.output.trans hb1.output, Nat.le_trans hb1.size HW.out.size, fun i hi hr => (HW.out.block i (Nat.lt_of_lt_of_le hi hb1.size) hr).trans (hb1.block i hi)⟩)
  have HG3 := (show Hid (GB W3 w.heap.size 27 (wcs x)) from hG1.kept HW.out (by intro e; injection e with e; have := (Array.getElem?_eq_some_iff.1 HB.out).1; omega))
  have d0 := HG3.out.cell 0
  have d1 := HG3.out.cell 1
  rw [wc.out] at d0 d1
  have l2 : (Instr.lookup 38 (.map (some b)) (.agg #[.int .i64 (wnu x), .string (wtx x)]) false).run Try.prog W3.drew = .ok (.int .i64 (c' : Int)) W3.drew := by rw [← wc.out]; exact LK2.out _ HB3.out
  clear hW2 hW3 hG1 hb1 hs1
  go_region
  all_goals go_wp2
  all_goals (
    refine leaves_cons (f := 23) (args := #[]) (by simp) (by simp [go_sem]) ?_
    refine (widle_one _).mono ?_
    rintro e u' w'' ⟨rfl, rfl, rfl⟩
    simp [Leaves, settle, results, Try.results15, go_sem]
    exact ⟨⟨o2, HM.out, HB3.out⟩, HG.out⟩)
end
end Go.Proofs.Ytgconfcijmemmaa
