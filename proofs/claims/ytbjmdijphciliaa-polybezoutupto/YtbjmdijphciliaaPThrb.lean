/-
  'Through', at whatever slices.
-/
import Derived.Test.YtbjmdijphciliaaPThr
namespace Go.Proofs.Ytbjmdijphciliaa
open Go.RowKit
section
attribute [local irreducible] Calls el gm co Own Rs Sl Sr ev vk adq inv trim mul
set_option maxRecDepth 1000000 in
theorem through_uneven (p1 p2 : Option Addr) (n m c1 c2 : Nat) (w : World) (h : ¬ n = m) :
    Calls Try.prog 25 #[.slice p1 n c1, .slice p2 m c2] w fun e w' => e = .returned (.tuple #[.slice none 0 0, .int .i64 2]) ∧ w' = w := by
  have h0 : ((n : Int) != (m : Int)) = true := by simp; omega
  go_enter Try.func25, Try.ntmps25
  go_wp2
  go_ret2
  exact ⟨rfl, rfl⟩
set_option maxRecDepth 1000000 in
theorem through_twice (p1 p2 : Option Addr) (n c1 c2 : Nat) (xs : List (BitVec 8)) (w : World) (h1 : Sr w (.slice p1 n c1) xs) (hn : xs.length ≤ 281474976710656) (hnd : ¬ xs.Nodup) :
    Calls Try.prog 25 #[.slice p1 n c1, .slice p2 n c2] w fun e w' => e = .returned (.tuple #[.slice none 0 0, .int .i64 20]) ∧ Below w.heap.size w w' := by
  have HT := (show Hid _ from twice_any h1 hn)
  have HF : ∀ r, Hid (r = true ↔ ¬ xs.Nodup) → r = true := fun r h => h.out.2 hnd
  go_enter Try.func25, Try.ntmps25
  go_wp2_with (go_at_call 43; refine HT.out.mono ?_; rintro e w1 ⟨r, rfl, hr, hb1⟩; obtain rfl := HF r hr; clear hr HT HF)
  go_ret2
  exact ⟨rfl, hb1⟩
set_option maxHeartbeats 1000000 in
set_option maxRecDepth 1000000 in
theorem through_nil (p1 p2 : Option Addr) (c1 c2 : Nat) (w : World) :
    Calls Try.prog 25 #[.slice p1 0 c1, .slice p2 0 c2] w fun e w' => ∃ v, e = .returned (.tuple #[v, .int .i64 0]) ∧ Rs 48 w.heap.size w' v [] ∧ Below w.heap.size w w' := by
  have hmk : ∀ w, (Instr.makeSlice 25 (.int .i64 0) (.int .i64 0)).run Try.prog w = .ok (.slice (some ⟨w.heap.size, 0, none⟩) 0 0) (w.alloc (.cells #[] 48)) := fun w => by simpa using make_el 0 (by omega) w
  have HC0 : ∀ w1 : World, Below w.heap.size w w1 → (Calls Try.prog 31 #[.slice (some ⟨w1.heap.size, 0, none⟩) 0 0] ((w1.alloc (.cells #[] 48)).alloc (.cells #[.int .u8 1] 48)) fun e w' => ∃ v, e = .returned v ∧ Rs 48 w.heap.size ((w1.alloc (.cells #[] 48)).alloc (.cells #[.int .u8 1] 48)) v [] ∧ w' = ((w1.alloc (.cells #[] 48)).alloc (.cells #[.int .u8 1] 48))) := fun w1 hb => by
    have h0 := own_newE w1 0
    rw [Array.replicate_zero] at h0
    have h1 := h0.below ((Below.refl _ _).alloc (Nat.le_refl _) (.cells #[.int .u8 1] 48))
    have h2 := cut_own h1 hb.size (by omega)
    rw [show trim (ls (fun _ => 0#8) 0) = [] by unfold ls trim; rfl] at h2
    exact h2
  have HC := (show Hid _ from HC0)
  clear HC0
  go_enter Try.func25, Try.ntmps25
  go_wp2_with (go_at_call 43; refine (twice_nil _ _ _).mono ?_; rintro e w1 ⟨rfl, hb1⟩)
  refine wp_loop_rounds 1 ?_
  rw [rounds_succ]
  go_wp2_with (go_at_call 31; refine (HC.out _ hb1).mono ?_; rintro e w' ⟨v, rfl, hR, h⟩; obtain rfl := h.symm)
  go_ret2
  exact ⟨v, rfl, hR, (hb1.alloc hb1.size _).alloc (Nat.le_trans hb1.size (by simp)) _⟩
end
theorem pthrough_any {w : World} {v1 v2 : Value} {xs ys : List (BitVec 8)} (h1 : Sr w v1 xs) (h2 : Sr w v2 ys) (hl : xs.length = ys.length) (hn : xs.length + 4 ≤ 281474976710656) (hnd : xs.Nodup) :
    Calls Try.prog 25 #[v1, v2] w fun e w' => ∃ v t, e = .returned (.tuple #[v, .int .i64 0]) ∧ Hid (IsThr xs ys t) ∧ Rs 48 w.heap.size w' v t ∧ Below w.heap.size w w' := by
  by_cases h0 : xs = []
  · subst h0
    have e2 : ys = [] := List.length_eq_zero_iff.1 hl.symm
    subst e2
    obtain ⟨p1, c1, rfl⟩ := h1.empty
    obtain ⟨p2, c2, rfl⟩ := h2.empty
    exact (through_nil p1 p2 c1 c2 w).mono fun e w' ⟨v, he, hr, hb⟩ => ⟨v, [], he, ⟨rfl, Nat.le_refl _, fun i hi => by simp at hi⟩, hr, hb⟩
  · have hx := List.length_pos_iff.2 h0
    obtain ⟨b1, o1, c1, rfl, _, hc1⟩ := h1.cells h0
    obtain ⟨b2, o2, c2, rfl, _, hc2⟩ := h2.cells (by intro e; rw [e] at hl; simp at hl; exact h0 hl)
    rw [← hl] at hc2 ⊢
    exact through_core b1 o1 b2 o2 _ c1 c2 xs ys w rfl hl.symm hn hnd hx hc1 hc2
theorem pthrough_uneven {w : World} {v1 v2 : Value} {xs ys : List (BitVec 8)} (h1 : Sr w v1 xs) (h2 : Sr w v2 ys) (hl : xs.length ≠ ys.length) :
    Calls Try.prog 25 #[v1, v2] w fun e w' => e = .returned (.tuple #[.slice none 0 0, .int .i64 2]) ∧ w' = w := by
  obtain ⟨p1, c1, rfl, _⟩ := h1
  obtain ⟨p2, c2, rfl, _⟩ := h2
  exact through_uneven p1 p2 _ _ c1 c2 w hl
theorem pthrough_twice {w : World} {v1 v2 : Value} {xs ys : List (BitVec 8)} (h1 : Sr w v1 xs) (h2 : Sr w v2 ys) (hl : xs.length = ys.length) (hn : xs.length ≤ 281474976710656) (hnd : ¬ xs.Nodup) :
    Calls Try.prog 25 #[v1, v2] w fun e w' => e = .returned (.tuple #[.slice none 0 0, .int .i64 20]) ∧ Below w.heap.size w w' := by
  have h3 := h1
  obtain ⟨p1, c1, rfl, _⟩ := h1
  obtain ⟨p2, c2, rfl, _⟩ := h2
  rw [← hl]
  exact through_twice p1 p2 _ c1 c2 xs w h3 hn hnd
end Go.Proofs.Ytbjmdijphciliaa
