/-
  The document's May, number; the law's fit.
-/
import Derived.Test.YtjobaeopokfekaaGreatLu15
namespace Go.Proofs.YtjobaeopokfekaaGreat
open Go.RowKit
section
attribute [local irreducible] Calls el
set_option maxHeartbeats 4000000 in
set_option maxRecDepth 1000000 in
theorem rmay_any (h : Lbl) (hi : h.In) (w : World) :
    Calls Tryz.prog 33 #[.agg h.cs] w fun e w' => e = .returned (.int .i64 h.ck) ∧ Below w.heap.size w w' := by
  have al : ∀ (W : World) (o : Obj), Below W.heap.size W (W.alloc o) := fun W o => (Below.refl _ _).alloc (Nat.le_refl _) o
  obtain ⟨ik, im, ib, ii, ie⟩ := hi
  unfold I64 at ik im ib ii ie
  unfold Lbl.cs
  by_cases c1 : h.m < 1
  · have d1 : decide (h.m < 1) = true := decide_eq_true c1
    have e : h.ck = 4 := by
      unfold Lbl.ck
      rw [if_pos (by unfold shL; omega)]
    rw [e]
    clear e
    go_enter Tryz.func33, Tryz.ntmps33
    go_wp2
    go_ret
    exact ⟨rfl, bt (al _ _) (al _ _)⟩
  have d1 : decide (h.m < 1) = false := decide_eq_false c1
  by_cases c2 : h.k < h.m
  · have d2 : decide (h.k < h.m) = true := decide_eq_true c2
    have e : h.ck = 4 := by
      unfold Lbl.ck
      rw [if_pos (by unfold shL; omega)]
    rw [e]
    clear e
    go_enter Tryz.func33, Tryz.ntmps33
    go_wp2
    go_ret
    exact ⟨rfl, bt (al _ _) (al _ _)⟩
  have d2 : decide (h.k < h.m) = false := decide_eq_false c2
  by_cases c3 : 255 < h.k
  · have d3 : decide (255 < h.k) = true := decide_eq_true c3
    have e : h.ck = 4 := by
      unfold Lbl.ck
      rw [if_pos (by unfold shL; omega)]
    rw [e]
    clear e
    go_enter Tryz.func33, Tryz.ntmps33
    go_wp2
    go_ret
    exact ⟨rfl, bt (al _ _) (al _ _)⟩
  have d3 : decide (255 < h.k) = false := decide_eq_false c3
  by_cases c4 : 255 < h.k + h.m
  · have d4 : decide (255 < h.k + h.m) = true := decide_eq_true c4
    have e : h.ck = 4 := by
      unfold Lbl.ck
      rw [if_pos (by unfold shL; omega)]
    rw [e]
    clear e
    go_enter Tryz.func33, Tryz.ntmps33
    go_wp2
    go_ret
    exact ⟨rfl, bt (al _ _) (al _ _)⟩
  have d4 : decide (255 < h.k + h.m) = false := decide_eq_false c4
  by_cases c5 : h.b < 1
  · have d5 : decide (h.b < 1) = true := decide_eq_true c5
    have e : h.ck = 4 := by
      unfold Lbl.ck
      rw [if_pos (by unfold shL; omega)]
    rw [e]
    clear e
    go_enter Tryz.func33, Tryz.ntmps33
    go_wp2
    go_ret
    exact ⟨rfl, bt (al _ _) (al _ _)⟩
  have d5 : decide (h.b < 1) = false := decide_eq_false c5
  by_cases c6 : 65536 < h.b
  · have d6 : decide (65536 < h.b) = true := decide_eq_true c6
    have e : h.ck = 4 := by
      unfold Lbl.ck
      rw [if_pos (by unfold shL; omega)]
    rw [e]
    clear e
    go_enter Tryz.func33, Tryz.ntmps33
    go_wp2
    go_ret
    exact ⟨rfl, bt (al _ _) (al _ _)⟩
  have d6 : decide (65536 < h.b) = false := decide_eq_false c6
  by_cases c7 : h.ix < 0
  · have d7 : decide (h.ix < 0) = true := decide_eq_true c7
    have e : h.ck = 2 := by
      unfold Lbl.ck
      rw [if_neg (by unfold shL; omega), if_pos (by omega)]
    rw [e]
    clear e
    go_enter Tryz.func33, Tryz.ntmps33
    go_wp2
    go_ret
    exact ⟨rfl, bt (al _ _) (al _ _)⟩
  have d7 : decide (h.ix < 0) = false := decide_eq_false c7
  by_cases c8 : h.k + h.m ≤ h.ix
  · have d8 : decide (h.k + h.m ≤ h.ix) = true := decide_eq_true c8
    have e : h.ck = 2 := by
      unfold Lbl.ck
      rw [if_neg (by unfold shL; omega), if_pos (by omega)]
    rw [e]
    clear e
    go_enter Tryz.func33, Tryz.ntmps33
    go_wp2
    go_ret
    exact ⟨rfl, bt (al _ _) (al _ _)⟩
  have d8 : decide (h.k + h.m ≤ h.ix) = false := decide_eq_false c8
  by_cases c9 : h.ep < 0
  · have d9 : decide (h.ep < 0) = true := decide_eq_true c9
    have e : h.ck = 2 := by
      unfold Lbl.ck
      rw [if_neg (by unfold shL; omega), if_neg (by omega), if_pos (by omega)]
    rw [e]
    clear e
    go_enter Tryz.func33, Tryz.ntmps33
    go_wp2
    go_ret
    exact ⟨rfl, bt (al _ _) (al _ _)⟩
  have d9 : decide (h.ep < 0) = false := decide_eq_false c9
  by_cases c10 : 4294967295 < h.ep
  · have d10 : decide (4294967295 < h.ep) = true := decide_eq_true c10
    have e : h.ck = 2 := by
      unfold Lbl.ck
      rw [if_neg (by unfold shL; omega), if_neg (by omega), if_pos (by omega)]
    rw [e]
    clear e
    go_enter Tryz.func33, Tryz.ntmps33
    go_wp2
    go_ret
    exact ⟨rfl, bt (al _ _) (al _ _)⟩
  have d10 : decide (4294967295 < h.ep) = false := decide_eq_false c10
  have e : h.ck = 0 := by
    unfold Lbl.ck
    rw [if_neg (by unfold shL; omega), if_neg (by omega), if_neg (by omega)]
  rw [e]
  clear e
  go_enter Tryz.func33, Tryz.ntmps33
  go_wp2
  go_ret
  exact ⟨rfl, bt (al _ _) (al _ _)⟩
/-- May the label be? -/
def fitb (h : Lbl) : Bool := decide (h.ck = 0)
end
end Go.Proofs.YtjobaeopokfekaaGreat
