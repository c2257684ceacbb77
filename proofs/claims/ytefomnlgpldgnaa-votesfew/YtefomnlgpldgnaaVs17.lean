/-
  The document's own functions of layer 17: Fits, Older, places, Hidden.
-/
import Derived.Test.YtefomnlgpldgnaaVq17
import Derived.Test.YtefomnlgpldgnaaVi17
namespace Go.Proofs.Ytefomnlgpldgnaa
open Go.RowKit
theorem add_kk {k m : Int} (h : 1 ≤ m) (h2 : m ≤ k) (h3 : k ≤ 255) : wrap64 (k + m) = k + m := by unfold wrap64; omega
section
attribute [local irreducible] Calls GB
set_option maxHeartbeats 4000000 in
set_option maxRecDepth 1000000 in
theorem rfits_any (k m b : Int) (w : World) :
    Calls Try.prog 7 #[.agg (shC k m b)] w fun e w' => e = .returned (.bool (shB k m b)) ∧ Below w.heap.size w w' := by
  have key : ∀ B : Bool, shB k m b = B → Calls Try.prog 7 #[.agg (shC k m b)] w fun e w' => e = .returned (.bool B) ∧ Below w.heap.size w w' := by
    intro B hB
    unfold shC
    have hno : (shB k m b = true ↔ (1 ≤ m ∧ m ≤ k ∧ k ≤ 255 ∧ k + m ≤ 255 ∧ 1 ≤ b ∧ b ≤ 65536)) := by unfold shB; simp only [Bool.and_eq_true, decide_eq_true_eq]; omega
    rw [hB] at hno
    by_cases h1 : 1 ≤ m
    · by_cases h2 : m ≤ k
      · by_cases h3 : k ≤ 255
        · have s2 := add_kk h1 h2 h3
          by_cases h4 : k + m ≤ 255
          · by_cases h5 : 1 ≤ b
            · by_cases h6 : b ≤ 65536
              · obtain rfl : B = true := hno.2 ⟨h1, h2, h3, h4, h5, h6⟩
                clear hno hB
                go_enter Try.func7, Try.ntmps7
                go_wp2
                go_ret
                exact ⟨rfl, (Below.refl _ _).alloc (Nat.le_refl _) _⟩
              · obtain rfl : B = false := by cases B; rfl; exact absurd (hno.1 rfl).2.2.2.2.2 h6
                clear hno hB
                go_enter Try.func7, Try.ntmps7
                go_wp2
                go_ret
                exact ⟨rfl, (Below.refl _ _).alloc (Nat.le_refl _) _⟩
            · obtain rfl : B = false := by cases B; rfl; exact absurd (hno.1 rfl).2.2.2.2.1 h5
              clear hno hB
              go_enter Try.func7, Try.ntmps7
              go_wp2
              go_ret
              exact ⟨rfl, (Below.refl _ _).alloc (Nat.le_refl _) _⟩
          · obtain rfl : B = false := by cases B; rfl; exact absurd (hno.1 rfl).2.2.2.1 h4
            clear hno hB
            go_enter Try.func7, Try.ntmps7
            go_wp2
            go_ret
            exact ⟨rfl, (Below.refl _ _).alloc (Nat.le_refl _) _⟩
        · obtain rfl : B = false := by cases B; rfl; exact absurd (hno.1 rfl).2.2.1 h3
          clear hno hB
          go_enter Try.func7, Try.ntmps7
          go_wp2
          go_ret
          exact ⟨rfl, (Below.refl _ _).alloc (Nat.le_refl _) _⟩
      · obtain rfl : B = false := by cases B; rfl; exact absurd (hno.1 rfl).2.1 h2
        clear hno hB
        go_enter Try.func7, Try.ntmps7
        go_wp2
        go_ret
        exact ⟨rfl, (Below.refl _ _).alloc (Nat.le_refl _) _⟩
    · obtain rfl : B = false := by cases B; rfl; exact absurd (hno.1 rfl).1 h1
      clear hno hB
      go_enter Try.func7, Try.ntmps7
      go_wp2
      go_ret
      exact ⟨rfl, (Below.refl _ _).alloc (Nat.le_refl _) _⟩
  exact key _ rfl
set_option maxHeartbeats 4000000 in
set_option maxRecDepth 1000000 in
theorem rolder_any (a b : Wg) (w : World) :
    Calls Try.prog 12 #[.agg #[.int .i64 a.1, .int .i64 a.2.1], .int .i64 a.2.2, .agg #[.int .i64 b.1, .int .i64 b.2.1], .int .i64 b.2.2] w fun e w' => e = .returned (.bool (older a b)) ∧ Below w.heap.size w w' := by
  obtain ⟨a1, a2, a3⟩ := a
  obtain ⟨b1, b2, b3⟩ := b
  have hB : ∀ W : World, Below W.heap.size W ((W.alloc (.cells #[.int .i64 a1, .int .i64 a2] 31)).alloc (.cells #[.int .i64 b1, .int .i64 b2] 31)) := fun W => balloc (balloc (Below.refl _ _) _) _
  by_cases h1 : a1 = b1
  · subst h1
    have d1 : (a1 != a1) = false := by simp
    by_cases h2 : a2 = b2
    · subst h2
      have d2 : (a2 != a2) = false := by simp
      have ho : older (a1, a2, a3) (a1, a2, b3) = decide (a3 < b3) := by unfold older; simp
      rw [ho]
      clear ho
      go_enter Try.func12, Try.ntmps12
      go_wp2
      go_ret
      exact ⟨by simp, hB _⟩
    · have d2 : (a2 != b2) = true := by simp [h2]
      have ho : older (a1, a2, a3) (a1, b2, b3) = decide (a2 < b2) := by unfold older; simp [h2]
      rw [ho]
      clear ho
      go_enter Try.func12, Try.ntmps12
      go_wp2
      go_ret
      exact ⟨by simp, hB _⟩
  · have d1 : (a1 != b1) = true := by simp [h1]
    have ho : older (a1, a2, a3) (b1, b2, b3) = decide (a1 < b1) := by unfold older; simp [h1]
    rw [ho]
    clear ho
    go_enter Try.func12, Try.ntmps12
    go_wp2
    go_ret
    exact ⟨by simp, hB _⟩
end
end Go.Proofs.Ytefomnlgpldgnaa
