/-
  The document's May, number; the law's fit.
-/
import Derived.Test.YtbdkdoeiajfkfaaGreatLu15
namespace Go.Proofs.YtbdkdoeiajfkfaaGreat
open Go.RowKit
section
attribute [local irreducible] Calls el
/-- May the label be? -/
def fitb (h : Lbl) : Bool := decide (h.ck = 0)
set_option maxHeartbeats 4000000 in
set_option maxRecDepth 1000000 in
theorem fit_any (h : Lbl) (hi : h.In) (w : World) :
    Calls Tryz.prog 14 #[.agg h.cs] w fun e w' => e = .returned (.bool (fitb h)) ∧ Below w.heap.size w w' := by
  have al : ∀ (W : World) (o : Obj), Below W.heap.size W (W.alloc o) := fun W o => (Below.refl _ _).alloc (Nat.le_refl _) o
  obtain ⟨ik, im, ib, ii, ie⟩ := hi
  unfold I64 at ik im ib ii ie
  unfold Lbl.cs
  by_cases c1 : 1 ≤ h.m
  case neg =>
    have d1 : decide (1 ≤ h.m) = false := decide_eq_false c1
    have e : fitb h = false := by unfold fitb; exact decide_eq_false (fun hk => absurd ((ck_ok h).1 hk) (fun o => by obtain ⟨⟩ := o; omega))
    rw [e]
    clear e
    go_enter Tryz.func14, Tryz.ntmps14
    go_wp2
    go_ret
    exact ⟨rfl, bt (al _ _) (al _ _)⟩
  have d1 : decide (1 ≤ h.m) = true := decide_eq_true c1
  by_cases c2 : h.m ≤ h.k
  case neg =>
    have d2 : decide (h.m ≤ h.k) = false := decide_eq_false c2
    have e : fitb h = false := by unfold fitb; exact decide_eq_false (fun hk => absurd ((ck_ok h).1 hk) (fun o => by obtain ⟨⟩ := o; omega))
    rw [e]
    clear e
    go_enter Tryz.func14, Tryz.ntmps14
    go_wp2
    go_ret
    exact ⟨rfl, bt (al _ _) (al _ _)⟩
  have d2 : decide (h.m ≤ h.k) = true := decide_eq_true c2
  by_cases c3 : h.k ≤ 254
  case neg =>
    have d3 : decide (h.k ≤ 254) = false := decide_eq_false c3
    have e : fitb h = false := by unfold fitb; exact decide_eq_false (fun hk => absurd ((ck_ok h).1 hk) (fun o => by obtain ⟨⟩ := o; omega))
    rw [e]
    clear e
    go_enter Tryz.func14, Tryz.ntmps14
    go_wp2
    go_ret
    exact ⟨rfl, bt (al _ _) (al _ _)⟩
  have d3 : decide (h.k ≤ 254) = true := decide_eq_true c3
  by_cases c4 : h.k + h.m ≤ 255
  case neg =>
    have d4 : decide (h.k + h.m ≤ 255) = false := decide_eq_false c4
    have e : fitb h = false := by unfold fitb; exact decide_eq_false (fun hk => absurd ((ck_ok h).1 hk) (fun o => by obtain ⟨⟩ := o; omega))
    rw [e]
    clear e
    go_enter Tryz.func14, Tryz.ntmps14
    go_wp2
    go_ret
    exact ⟨rfl, bt (al _ _) (al _ _)⟩
  have d4 : decide (h.k + h.m ≤ 255) = true := decide_eq_true c4
  by_cases c5 : 1 ≤ h.b
  case neg =>
    have d5 : decide (1 ≤ h.b) = false := decide_eq_false c5
    have e : fitb h = false := by unfold fitb; exact decide_eq_false (fun hk => absurd ((ck_ok h).1 hk) (fun o => by obtain ⟨⟩ := o; omega))
    rw [e]
    clear e
    go_enter Tryz.func14, Tryz.ntmps14
    go_wp2
    go_ret
    exact ⟨rfl, bt (al _ _) (al _ _)⟩
  have d5 : decide (1 ≤ h.b) = true := decide_eq_true c5
  by_cases c6 : h.b ≤ 65536
  case neg =>
    have d6 : decide (h.b ≤ 65536) = false := decide_eq_false c6
    have e : fitb h = false := by unfold fitb; exact decide_eq_false (fun hk => absurd ((ck_ok h).1 hk) (fun o => by obtain ⟨⟩ := o; omega))
    rw [e]
    clear e
    go_enter Tryz.func14, Tryz.ntmps14
    go_wp2
    go_ret
    exact ⟨rfl, bt (al _ _) (al _ _)⟩
  have d6 : decide (h.b ≤ 65536) = true := decide_eq_true c6
  by_cases c7 : 0 ≤ h.ix
  case neg =>
    have d7 : decide (0 ≤ h.ix) = false := decide_eq_false c7
    have e : fitb h = false := by unfold fitb; exact decide_eq_false (fun hk => absurd ((ck_ok h).1 hk) (fun o => by obtain ⟨⟩ := o; omega))
    rw [e]
    clear e
    go_enter Tryz.func14, Tryz.ntmps14
    go_wp2
    go_ret
    exact ⟨rfl, bt (al _ _) (al _ _)⟩
  have d7 : decide (0 ≤ h.ix) = true := decide_eq_true c7
  by_cases c8 : h.ix < h.k + h.m
  case neg =>
    have d8 : decide (h.ix < h.k + h.m) = false := decide_eq_false c8
    have e : fitb h = false := by unfold fitb; exact decide_eq_false (fun hk => absurd ((ck_ok h).1 hk) (fun o => by obtain ⟨⟩ := o; omega))
    rw [e]
    clear e
    go_enter Tryz.func14, Tryz.ntmps14
    go_wp2
    go_ret
    exact ⟨rfl, bt (al _ _) (al _ _)⟩
  have d8 : decide (h.ix < h.k + h.m) = true := decide_eq_true c8
  by_cases c9 : 0 ≤ h.ep
  case neg =>
    have d9 : decide (0 ≤ h.ep) = false := decide_eq_false c9
    have e : fitb h = false := by unfold fitb; exact decide_eq_false (fun hk => absurd ((ck_ok h).1 hk) (fun o => by obtain ⟨⟩ := o; omega))
    rw [e]
    clear e
    go_enter Tryz.func14, Tryz.ntmps14
    go_wp2
    go_ret
    exact ⟨rfl, bt (al _ _) (al _ _)⟩
  have d9 : decide (0 ≤ h.ep) = true := decide_eq_true c9
  by_cases c10 : h.ep ≤ 4294967295
  case neg =>
    have d10 : decide (h.ep ≤ 4294967295) = false := decide_eq_false c10
    have e : fitb h = false := by unfold fitb; exact decide_eq_false (fun hk => absurd ((ck_ok h).1 hk) (fun o => by obtain ⟨⟩ := o; omega))
    rw [e]
    clear e
    go_enter Tryz.func14, Tryz.ntmps14
    go_wp2
    go_ret
    exact ⟨rfl, bt (al _ _) (al _ _)⟩
  have d10 : decide (h.ep ≤ 4294967295) = true := decide_eq_true c10
  have e : fitb h = true := by unfold fitb; exact decide_eq_true ((ck_ok h).2 ⟨by omega, by omega, by omega, by omega, by omega, by omega, by omega, by omega, by omega, by omega, by omega, by omega⟩)
  rw [e]
  clear e
  go_enter Tryz.func14, Tryz.ntmps14
  go_wp2
  go_ret
  exact ⟨rfl, bt (al _ _) (al _ _)⟩
end
end Go.Proofs.YtbdkdoeiajfkfaaGreat
