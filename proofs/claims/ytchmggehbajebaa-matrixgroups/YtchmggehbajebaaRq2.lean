/-
  The document's 'Product', whatever it is asked.
-/
import Derived.Test.YtchmggehbajebaaRq
namespace Go.Proofs.Ytchmggehbajebaa
open Go.RowKit
def tn (r1 : Nat) (l1 : Nat → Nat) (r2 : Nat) (l2 : Nat → Nat) : Nat := if tc r1 l1 r2 l2 = 0 then r1 else 0
theorem tc_a {r1 : Nat} {l1 : Nat → Nat} (r2 : Nat) (l2 : Nat → Nat) (h : ¬ fc r1 l1 = 0) : tc r1 l1 r2 l2 = fc r1 l1 := by unfold tc; rw [if_pos h]
theorem tc_b {r1 : Nat} {l1 : Nat → Nat} {r2 : Nat} {l2 : Nat → Nat} (h : fc r1 l1 = 0) (h2 : ¬ fc r2 l2 = 0) : tc r1 l1 r2 l2 = fc r2 l2 := by unfold tc; rw [if_neg (by simp [h]), if_pos h2]
theorem tc_c {r1 : Nat} {l1 : Nat → Nat} {r2 : Nat} {l2 : Nat → Nat} (h : fc r1 l1 = 0) (h2 : fc r2 l2 = 0) (h3 : ¬ cw r1 l1 = r2) : tc r1 l1 r2 l2 = 31 := by unfold tc; rw [if_neg (by simp [h]), if_neg (by simp [h2]), if_pos h3]
theorem tc_ok {r1 : Nat} {l1 : Nat → Nat} {r2 : Nat} {l2 : Nat → Nat} (h : fc r1 l1 = 0) (h2 : fc r2 l2 = 0) (h3 : cw r1 l1 = r2) : tc r1 l1 r2 l2 = 0 := by unfold tc; rw [if_neg (by simp [h]), if_neg (by simp [h2]), if_neg (by simp [h3])]
theorem tn_err {r1 : Nat} {l1 : Nat → Nat} {r2 : Nat} {l2 : Nat → Nat} (h : ¬ tc r1 l1 r2 l2 = 0) : tn r1 l1 r2 l2 = 0 := by unfold tn; rw [if_neg h]
theorem tn_ok {r1 : Nat} {l1 : Nat → Nat} {r2 : Nat} {l2 : Nat → Nat} (h : tc r1 l1 r2 l2 = 0) : tn r1 l1 r2 l2 = r1 := by unfold tn; rw [if_pos h]
theorem tn_le (r1 : Nat) (l1 : Nat → Nat) (r2 : Nat) (l2 : Nat → Nat) : tn r1 l1 r2 l2 ≤ 255 := by
  by_cases h : tc r1 l1 r2 l2 = 0
  · rw [tn_ok h]
    by_cases h1 : fc r1 l1 = 0
    · exact (fc_zero h1).1
    · rw [tc_a r2 l2 h1] at h; exact absurd h h1
  · rw [tn_err h]; omega
theorem tn_cw {r1 : Nat} {l1 : Nat → Nat} {r2 : Nat} {l2 : Nat → Nat} {i : Nat} (h : i < tn r1 l1 r2 l2) : cw r2 l2 ≤ 255 := by
  by_cases h1 : tc r1 l1 r2 l2 = 0
  · by_cases h2 : fc r1 l1 = 0
    · by_cases h3 : fc r2 l2 = 0
      · unfold cw
        by_cases e : r2 = 0
        · rw [if_pos e]; omega
        · rw [if_neg e]; exact (fc_zero h3).2.1 0 (by omega)
      · rw [tc_b h2 h3] at h1; exact absurd h1 h3
    · rw [tc_a r2 l2 h2] at h1; exact absurd h1 h2
  · rw [tn_err h1] at h; omega
section
attribute [local irreducible] Calls fc cw tc
set_option maxHeartbeats 2000000 in
theorem refProduct_err (s : Int) (p1 p2 : Option Addr) (r1 r2 c1 c2 : Nat) (l1 l2 : Nat → Nat) (w : World) (LA : Lm w (.slice p1 r1 c1) r1 l1) (LB : Lm w (.slice p2 r2 c2) r2 l2) (h : ¬ tc r1 l1 r2 l2 = 0) :
    Calls Try.prog 11 #[.int .i64 s, .slice p1 r1 c1, .slice p2 r2 c2] w fun e w' => e = .returned (.tuple #[.slice none 0 0, .int .i64 (tc r1 l1 r2 l2)]) ∧ Below w.heap.size w w' := by
  have F1 := (show Hid _ from refFault_any LA)
  have F2 := (show Hid _ from fun (w1 : World) (hb1 : Below w.heap.size w w1) => refFault_any (LB.below hb1))
  have C1 := (show Hid _ from fun (w1 : World) (hb1 : Below w.heap.size w w1) (hr : r1 ≤ 140737488355328) => refColumns_any (LA.below hb1) hr)
  by_cases f1 : fc r1 l1 = 0
  · rw [f1] at F1
    by_cases f2 : fc r2 l2 = 0
    · rw [f2] at F2
      have f3 : ¬ cw r1 l1 = r2 := fun f3 => h (tc_ok f1 f2 f3)
      rw [tc_c f1 f2 f3]
      have f4 : ((cw r1 l1 : Int) != (r2 : Int)) = true := by simp; omega
      have hr : r1 ≤ 140737488355328 := by have := (fc_zero f1).1; omega
      clear LA LB h
      go_enter Try.func11, Try.ntmps11
      go_wp2_with (first
        | (go_at_call 50; refine F1.out.mono ?_; rintro e w1 ⟨rfl, hb1⟩)
        | (go_at_call 50; refine (F2.out w1 hb1).mono ?_; rintro e w2 ⟨rfl, hb2⟩)
        | (go_at_call 51; refine (C1.out w2 (bt hb1 hb2) hr).mono ?_; rintro e w' ⟨rfl, h⟩; obtain rfl := h.symm))
      go_ret2
      exact ⟨rfl, bt hb1 hb2⟩
    · rw [tc_b f1 f2]
      have f4 : (fc r2 l2 == 0) = false := by simpa using f2
      have f5 : (fc r2 l2 != 0) = true := by simpa using f2
      clear LA LB h C1
      go_enter Try.func11, Try.ntmps11
      go_wp2_with (first
        | (go_at_call 50; refine F1.out.mono ?_; rintro e w1 ⟨rfl, hb1⟩)
        | (go_at_call 50; refine (F2.out w1 hb1).mono ?_; rintro e w2 ⟨rfl, hb2⟩))
      go_ret2
      exact ⟨rfl, bt hb1 hb2⟩
  · rw [tc_a r2 l2 f1]
    have f4 : (fc r1 l1 == 0) = false := by simpa using f1
    have f5 : (fc r1 l1 != 0) = true := by simpa using f1
    clear LA LB h C1 F2
    go_enter Try.func11, Try.ntmps11
    go_wp2_with (first
      | (go_at_call 50; refine F1.out.mono ?_; rintro e w1 ⟨rfl, hb1⟩))
    go_ret2
    exact ⟨rfl, hb1⟩
set_option maxRecDepth 1000000 in
theorem refProduct_nil (s : Int) (p1 p2 : Option Addr) (c1 c2 : Nat) (l1 l2 : Nat → Nat) (w : World) (LA : Lm w (.slice p1 0 c1) 0 l1) (LB : Lm w (.slice p2 0 c2) 0 l2) (hc : cw 0 l1 = 0) (f1 : fc 0 l1 = 0) (f2 : fc 0 l2 = 0) :
    Calls Try.prog 11 #[.int .i64 s, .slice p1 0 c1, .slice p2 0 c2] w fun e w' => e = .returned (.tuple #[.slice none 0 0, .int .i64 0]) ∧ Below w.heap.size w w' := by
  have F1 := (show Hid _ from refFault_any LA)
  have F2 := (show Hid _ from fun (w1 : World) (hb1 : Below w.heap.size w w1) => refFault_any (LB.below hb1))
  have C1 := (show Hid _ from fun (w1 : World) (hb1 : Below w.heap.size w w1) => refColumns_any (LA.below hb1) (by omega))
  rw [f1] at F1
  rw [f2] at F2
  rw [hc] at C1
  clear LA LB
  go_enter Try.func11, Try.ntmps11
  go_wp2_with (first
    | (go_at_call 50; refine F1.out.mono ?_; rintro e w1 ⟨rfl, hb1⟩)
    | (go_at_call 50; refine (F2.out w1 hb1).mono ?_; rintro e w2 ⟨rfl, hb2⟩)
    | (go_at_call 51; refine (C1.out w2 (bt hb1 hb2)).mono ?_; rintro e w' ⟨rfl, h⟩; obtain rfl := h.symm))
  refine wp_loop_rounds 1 ?_
  rw [rounds_succ]
  go_wp2
  go_ret2
  exact ⟨rfl, bt hb1 hb2⟩
end
theorem refProduct_any {K : Type} (nu : K → Int) (pl ti : K → K → K) (oz : K) (s : Int) (HM : ∀ x y (w : World), Calls Try.prog 53 #[.int .i64 s, .int .i64 (nu x), .int .i64 (nu y)] w fun e w' => e = .returned (.int .i64 (nu (ti x y))) ∧ w' = w)
    (HX : ∀ x y, bits .xor .i64 (nu x) (nu y) = nu (pl x y)) (HO : nu oz = 0) {w : World} {v1 v2 : Value} {r1 r2 : Nat} {l1 l2 : Nat → Nat} {P Q : Nat → Nat → K} (h1 : Jm w v1 r1 l1 (fun i j => nu (P i j))) (h2 : Jm w v2 r2 l2 (fun i j => nu (Q i j))) :
    Calls Try.prog 11 #[.int .i64 s, v1, v2] w fun e w' => ∃ v, e = .returned (.tuple #[v, .int .i64 (tc r1 l1 r2 l2)]) ∧ Im w' v (tn r1 l1 r2 l2) (fun _ => cw r2 l2) (fun i j => nu (skk pl oz (fun t => ti (P i t) (Q t j)) r2)) ∧ Below w.heap.size w w' := by
  by_cases hc : tc r1 l1 r2 l2 = 0
  · have f1 : fc r1 l1 = 0 := by
      by_cases h : fc r1 l1 = 0
      · exact h
      · rw [tc_a r2 l2 h] at hc; exact absurd hc h
    have f2 : fc r2 l2 = 0 := by
      by_cases h : fc r2 l2 = 0
      · exact h
      · rw [tc_b f1 h] at hc; exact absurd hc h
    have f3 : cw r1 l1 = r2 := by
      by_cases h : cw r1 l1 = r2
      · exact h
      · rw [tc_c f1 f2 h] at hc; cases hc
    rw [hc, tn_ok hc]
    by_cases h0 : r1 = 0
    · subst h0
      have h4 : cw 0 l1 = 0 := by unfold cw; rw [if_pos rfl]
      obtain rfl : r2 = 0 := by omega
      obtain ⟨p1, c1, rfl⟩ := h1.lm.empty
      obtain ⟨p2, c2, rfl⟩ := h2.lm.empty
      exact (refProduct_nil s p1 p2 c1 c2 l1 l2 w h1.lm h2.lm h4 f1 f2).mono fun e w' ⟨he, hb⟩ => ⟨_, he, Im.nil _ _ _, hb⟩
    · obtain ⟨b1, o1, c1, rows1, rfl, hc1, hr1⟩ := Jm.at h1 (by omega)
      exact refProduct_core nu pl ti oz s HM HX HO b1 o1 c1 r1 r2 (cw r2 l2) v2 rows1 l1 l2 P Q w (by omega) hc1 hr1 h2 h1.lm h2.lm f1 f2 f3 rfl
  · obtain ⟨p1, c1, e1⟩ := (show ∃ p c, v1 = .slice p r1 c from by obtain ⟨rows, h, _⟩ := h1; exact h.form)
    subst e1
    obtain ⟨p2, c2, e2⟩ := (show ∃ p c, v2 = .slice p r2 c from by obtain ⟨rows, h, _⟩ := h2; exact h.form)
    subst e2
    exact (refProduct_err s p1 p2 r1 r2 c1 c2 l1 l2 w h1.lm h2.lm hc).mono fun e w' ⟨he, hb⟩ => ⟨_, he, by rw [tn_err hc]; exact Im.nil _ _ _, hb⟩
end Go.Proofs.Ytchmggehbajebaa
