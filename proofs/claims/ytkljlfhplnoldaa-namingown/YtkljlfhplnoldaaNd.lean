/-
  Kind.
-/
import Derived.Test.YtkljlfhplnoldaaNk
namespace Go.Proofs.Ytkljlfhplnoldaa
open Go.RowKit
theorem beq_dec (a b : Tx) : ((⟨a.toArray⟩ : ByteArray).toList == (⟨b.toArray⟩ : ByteArray).toList) = decide (a = b) := by
  rw [ByteArray.toList_mk, ByteArray.toList_mk]
  by_cases h : a = b
  · simp [h]
  · simp [h]
/-- A name's kind. -/
def knd (s : Tx) : Int := if s = [116] then 2 else if s = [108] then 3 else if (ky s).isSome then 1 else 0
section
attribute [local irreducible] Calls
set_option maxRecDepth 1000000 in
theorem kind_t (w : World) : Calls Try.prog 15 #[encStr [116]] w fun e w' => e = .returned (.int .i64 2) ∧ w' = w := by
  go_enter Try.func15, Try.ntmps15
  go_wp2
  go_ret
  exact ⟨rfl, rfl⟩
set_option maxRecDepth 1000000 in
theorem kind_l (w : World) : Calls Try.prog 15 #[encStr [108]] w fun e w' => e = .returned (.int .i64 3) ∧ w' = w := by
  go_enter Try.func15, Try.ntmps15
  go_wp2
  go_ret
  exact ⟨rfl, rfl⟩
set_option maxRecDepth 1000000 in
theorem kind_else (s : Tx) (h1 : ¬ s = [116]) (h2 : ¬ s = [108]) (w : World) : Calls Try.prog 15 #[encStr s] w fun e w' => e = .returned (.int .i64 (if (ky s).isSome then 1 else 0)) ∧ Below w.heap.size w w' := by
  have hk := key_any s w
  have b1 : (s == [116]) = false := by simp [h1]
  have b2 : (s == [108]) = false := by simp [h2]
  clear h1 h2
  cases hy : ky s with
  | none =>
    rw [hy] at hk
    clear hy
    go_enter Try.func15, Try.ntmps15
    go_wp2_with (go_at_call 14; refine hk.mono ?_; rintro e w' ⟨rfl, hw⟩; unfold kres)
    go_ret
    exact ⟨rfl, hw⟩
  | some k =>
    rw [hy] at hk
    clear hy
    go_enter Try.func15, Try.ntmps15
    go_wp2_with (go_at_call 14; refine hk.mono ?_; rintro e w' ⟨rfl, hw⟩; unfold kres)
    go_ret
    exact ⟨rfl, hw⟩
theorem kind_any (s : Tx) (w : World) : Calls Try.prog 15 #[encStr s] w fun e w' => e = .returned (.int .i64 (knd s)) ∧ Below w.heap.size w w' := by
  unfold knd
  by_cases h1 : s = [116]
  · rw [if_pos h1, h1]
    refine (kind_t w).mono ?_
    rintro e w' ⟨rfl, rfl⟩
    exact ⟨rfl, Below.refl _ _⟩
  · rw [if_neg h1]
    by_cases h2 : s = [108]
    · rw [if_pos h2, h2]
      refine (kind_l w).mono ?_
      rintro e w' ⟨rfl, rfl⟩
      exact ⟨rfl, Below.refl _ _⟩
    · rw [if_neg h2]
      exact kind_else s h1 h2 w
end
end Go.Proofs.Ytkljlfhplnoldaa
