/-
  The law of the order: the walk.
-/
import Derived.Test.YtdfhhogibphngabNg
namespace Go.Proofs.Ytdfhhogibphngab
open Go.RowKit Go.Maps Go.Sort
theorem less_dec : ∀ (x y : Tx), Op.bytesLess x y = decide (x < y)
  | _, [] => by simp [Op.bytesLess]
  | [], _ :: _ => by simp [Op.bytesLess]
  | a :: x, b :: y => by
    unfold Op.bytesLess
    rw [less_dec x y, Bool.eq_iff_iff]
    simp [List.cons_lt_cons_iff]
section
attribute [local irreducible] Calls
set_option maxRecDepth 1000000 in
theorem fit_any (k : Tx) (w : World) : Calls Try.prog 12 #[encStr k] w fun e w' => e = .returned (.bool (decide (1 ≤ k.length ∧ k.length ≤ 255))) ∧ w' = w := by
  go_enter Try.func12, Try.ntmps12
  go_wp2
  all_goals
    go_ret
    refine ⟨ret_bool ?_, rfl⟩
    first | (rw [decide_eq_decide]; omega) | (rw [Bool.eq_iff_iff]; simp; omega)
set_option maxRecDepth 1000000 in
theorem order_no (a b : Tx) (h : ¬ (fitK a ∧ fitK b)) (w : World) : Calls Try.prog 4 #[encStr a, encStr b] w fun e w' => e = .returned (.bool true) ∧ Below w.heap.size w w' := by
  by_cases h1 : fitK a
  · have h2 : ¬ fitK b := fun e => h ⟨h1, e⟩
    have fa := fit_any a
    have fb := fit_any b
    unfold fitK at h1 h2
    rw [decide_eq_true h1] at fa
    rw [decide_eq_false h2] at fb
    clear h h1 h2
    go_enter Try.func4, Try.ntmps4
    go_wp2_with (first
      | (go_at_call 8; refine (known_any _).mono ?_; rintro e w1 ⟨rfl, hb1⟩)
      | (go_at_call 12; refine (fa _).mono ?_; rintro e w5 ⟨rfl, hw⟩; rw [hw]; clear hw w5)
      | (go_at_call 12; refine (fb _).mono ?_; rintro e w5 ⟨rfl, hw⟩; rw [hw]; clear hw w5))
    go_ret
    exact ⟨rfl, hb1⟩
  · have fa := fit_any a
    unfold fitK at h1
    rw [decide_eq_false h1] at fa
    clear h h1
    go_enter Try.func4, Try.ntmps4
    go_wp2_with (first
      | (go_at_call 8; refine (known_any _).mono ?_; rintro e w1 ⟨rfl, hb1⟩)
      | (go_at_call 12; refine (fa _).mono ?_; rintro e w5 ⟨rfl, hw⟩; rw [hw]; clear hw w5))
    go_ret
    exact ⟨rfl, hb1⟩
set_option maxHeartbeats 4000000 in
set_option maxRecDepth 1000000 in
theorem order_ok (a b : Tx) (h1 : fitK a) (h2 : fitK b) (w : World) : Calls Try.prog 4 #[encStr a, encStr b] w fun e w' => e = .returned (.bool true) ∧ Below w.heap.size w w' := by
  have fa := fit_any a
  have fb := fit_any b
  have oa := object_ok a h1
  have ob := object_ok b h2
  unfold fitK at h1 h2
  rw [decide_eq_true h1] at fa
  rw [decide_eq_true h2] at fb
  have c1 := begins_any (nm a) (nm b)
  have c2 := begins_any a b
  have c3 := begins_any (nm b) (nm a)
  have c4 := begins_any b a
  rw [show decide (nm b <+: nm a) = decide (b <+: a) by rw [decide_eq_decide]; exact nm_pre b a] at c1
  rw [show decide (nm a <+: nm b) = decide (a <+: b) by rw [decide_eq_decide]; exact nm_pre a b] at c3
  have e1 : Op.bytesLess (nm a) (nm b) = Op.bytesLess a b := by rw [less_dec, less_dec, decide_eq_decide]; exact nm_lt a b
  have e2 : (nm a == nm b) = (a == b) := by rw [Bool.eq_iff_iff]; simp only [beq_iff_eq]; exact nm_inj
  obtain ⟨m, hm⟩ : ∃ m, m = nm a := ⟨_, rfl⟩
  obtain ⟨n, hn⟩ : ∃ n, n = nm b := ⟨_, rfl⟩
  rw [← hm, ← hn] at c1 c3 e1 e2
  rw [← hm] at oa
  rw [← hn] at ob
  generalize decide (b <+: a) = x1 at c1 c2
  generalize decide (a <+: b) = x2 at c3 c4
  generalize hl : Op.bytesLess a b = x3 at e1
  generalize hq : (a == b) = x4 at e2
  clear h1 h2 hm hn
  go_enter Try.func4, Try.ntmps4
  go_wp2_with (first
    | (go_at_call 8; refine (known_any _).mono ?_; rintro e w1 ⟨rfl, hb1⟩)
    | (go_at_call 12; refine (fa _).mono ?_; rintro e w5 ⟨rfl, hw⟩; rw [hw]; clear hw w5)
    | (go_at_call 12; refine (fb _).mono ?_; rintro e w5 ⟨rfl, hw⟩; rw [hw]; clear hw w5)
    | (go_at_call 11; refine (oa _).mono ?_; rintro e w2 ⟨rfl, hb2⟩)
    | (go_at_call 11; refine (ob _).mono ?_; rintro e w3 ⟨rfl, hb3⟩)
    | (go_at_call 13; refine (c1 _).mono ?_; rintro e w5 ⟨rfl, hw⟩; rw [hw]; clear hw w5)
    | (go_at_call 13; refine (c2 _).mono ?_; rintro e w5 ⟨rfl, hw⟩; rw [hw]; clear hw w5)
    | (go_at_call 13; refine (c3 _).mono ?_; rintro e w5 ⟨rfl, hw⟩; rw [hw]; clear hw w5)
    | (go_at_call 13; refine (c4 _).mono ?_; rintro e w5 ⟨rfl, hw⟩; rw [hw]; clear hw w5))
  go_ret
  exact ⟨ret_bool (by simp), below_trans (below_trans hb1 hb2 hb1.size) hb3 (Nat.le_trans hb1.size hb2.size)⟩
theorem order_walk (a b : Tx) (w : World) : Calls Try.prog 4 #[encStr a, encStr b] w fun e w' => e = .returned (.bool true) ∧ Below w.heap.size w w' := by
  by_cases h : fitK a ∧ fitK b
  · exact order_ok a b h.1 h.2 w
  · exact order_no a b h w
end
end Go.Proofs.Ytdfhhogibphngab
