/-
  The outright statements' own helpers: 'num', 'equal', 'elems', 'awake'.
-/
import Derived.Test.YtbjmdijphciliaaPDivb
import Derived.Test.YtbjmdijphciliaaPRoots
import Derived.Test.YtbjmdijphciliaaPThrb
namespace Go.Proofs.Ytbjmdijphciliaa
open Go.RowKit

theorem num_any (k : Int) (w : World) : Calls Try.prog 9 #[.int .i64 k] w fun e w' => e = .returned (.int .i64 k) ∧ w' = w := by
  go_enter Try.func9, Try.ntmps9
  go_wp2
  go_ret
  exact ⟨rfl, rfl⟩
section
attribute [local irreducible] Calls el gm co
set_option maxRecDepth 1000000 in
theorem equal_core (b1 o1 b2 o2 n c1 c2 : Nat) (x : Nat → BitVec 8) (w : World) (hn : n ≤ 281474976710656)
    (H1 : Hid (∀ i, i < n → w.cell? ⟨b1, o1 + i, none⟩ = some (.int .u8 (el (x i))))) (H2 : Hid (∀ i, i < n → w.cell? ⟨b2, o2 + i, none⟩ = some (.int .u8 (el (x i))))) :
    Calls Try.prog 15 #[.slice (some ⟨b1, o1, none⟩) n c1, .slice (some ⟨b2, o2, none⟩) n c2] w fun e w' => e = .returned (.bool true) ∧ Below w.heap.size w w' := by
  go_enter Try.func15, Try.ntmps15
  go_wp2
  go_loopw [5] (fun i wr => ∃ k : Nat, k ≤ n ∧ i = .int .i64 k ∧ Below w.heap.size w wr) (fun i _ => n - (intOf i).toNat)
  case atStart => exact ⟨0, Nat.zero_le _, rfl, Below.refl _ _⟩
  case round =>
    obtain ⟨k, hk, rfl, hb⟩ := hrel
    by_cases hlt : k < n
    · have g1 := cell_below (H1.out k hlt) hb
      have g2 := cell_below (H2.out k hlt) hb
      have hi : (k : Int) < (n : Int) := by omega
      go_wp2
      go_quiet (fail)
      go_wp2
      go_roundw
      case rel => exact ⟨k + 1, by omega, by go_num, below_drewN hb _⟩
      case measure => simp [intOf]; omega
    · go_wp2
      go_ret
      exact ⟨rfl, hb⟩
set_option maxRecDepth 1000000 in
theorem equal_nil (a1 a2 : Option Addr) (c1 c2 : Nat) (w : World) :
    Calls Try.prog 15 #[.slice a1 0 c1, .slice a2 0 c2] w fun e w' => e = .returned (.bool true) ∧ Below w.heap.size w w' := by
  go_enter Try.func15, Try.ntmps15
  go_wp2
  refine wp_loop_rounds 1 ?_
  rw [rounds_succ]
  go_wp2
  go_ret
  exact ⟨rfl, Below.refl _ _⟩
end
theorem equal_any {w : World} {v1 v2 : Value} {xs : List (BitVec 8)} (h1 : Sr w v1 xs) (h2 : Sr w v2 xs) (hm : xs.length ≤ 281474976710656) :
    Calls Try.prog 15 #[v1, v2] w fun e w' => e = .returned (.bool true) ∧ Below w.heap.size w w' := by
  obtain ⟨p1, c1, rfl, h1⟩ := h1
  obtain ⟨p2, c2, rfl, h2⟩ := h2
  rcases h1 with h1 | ⟨b1, o1, rfl, hc1⟩
  · subst h1; exact equal_nil p1 p2 c1 c2 w
  · rcases h2 with h2 | ⟨b2, o2, rfl, hc2⟩
    · subst h2; exact equal_nil _ p2 c1 c2 w
    · exact equal_core b1 o1 b2 o2 xs.length c1 c2 (fun i => xs.getD i 0#8) w hm hc1 hc2
section
attribute [local irreducible] Calls el gm co vs
set_option maxHeartbeats 2000000 in
set_option maxRecDepth 1000000 in
theorem elems_core (b o n c : Nat) (xs : List (BitVec 8)) (w : World) (hn : n ≤ 140737488351232)
    (H1 : Hid (∀ i, i < n → w.cell? ⟨b, o + i, none⟩ = some (.int .u8 (el (co xs i))))) :
    Calls Try.prog 13 #[.slice (some ⟨b, o, none⟩) n c] w fun e w' => ∃ v, e = .returned v ∧ w'.ownsRow w.heap.size 48 1 v n (vs (co xs) n) ∧ Below w.heap.size w w' := by
  obtain ⟨i0, hi, hz0, hz1, hz2⟩ := info_parts infoE
  go_enter Try.func13, Try.ntmps13
  go_wp2
  go_loopw [3, 4] (fun v i wr => ∃ k : Nat, k ≤ n ∧ i = .int .i64 k ∧ wr.ownsRow w.heap.size 48 1 v k (vs (co xs) k) ∧ Below w.heap.size w wr) (fun _ i _ => n - (intOf i).toNat)
  case atStart => exact ⟨0, Nat.zero_le _, rfl, own_none _ _ _ _, Below.refl _ _⟩
  case round =>
    obtain ⟨k, hk, rfl, hown, hb⟩ := hrel
    by_cases hlt : k < n
    · have g1 := cell_below (H1.out k hlt) hb
      have j1 : (k : Int) < (n : Int) := by omega
      have M1 : Hid (k + 1 ≤ maxLen) := by show _ ≤ _; unfold maxLen; omega
      have M2 : Hid (∀ o : Obj, w.heap.size ≤ (wr.alloc o).heap.size) := fun o => by have := hb.size; simp; omega
      go_wp2_with (at_builtin; refine wpList_append_own _ rfl _ _ 25 rfl w.heap.size 48 i0 (.int .u8 0) 1 1 Try.underlying25 hi hz0 hz1 hz2 rfl (by decide) _ _ _ rfl (hown.alloc _) ⟨wr.heap.size, 0, none⟩ 1 1 [.int .u8 (el (co xs k))] rfl rfl (one_new _ _ _) (one_cell _ _) M1.out (by omega) (M2.out _) ?_; intro v' w1 hown' hgrow _)
      rw [← vs_succ (co xs) k] at hown'
      have hb' := below_append (hb.alloc hb.size _) (M2.out _) hgrow (hown.alloc _) (Nat.le_refl _)
      clear hown hgrow g1
      go_roundw
      case rel => exact ⟨k + 1, by omega, by go_num, hown', hb'⟩
      case measure => simp [intOf]; omega
    · obtain rfl : k = n := by omega
      go_wp2
      go_ret
      exact ⟨_, rfl, hown, hb⟩
set_option maxRecDepth 1000000 in
theorem elems_nil (a : Option Addr) (c : Nat) (w : World) :
    Calls Try.prog 13 #[.slice a 0 c] w fun e w' => e = .returned (.slice none 0 0) ∧ w' = w := by
  go_enter Try.func13, Try.ntmps13
  go_wp2
  refine wp_loop_rounds 1 ?_
  rw [rounds_succ]
  go_wp2
  go_ret
  exact ⟨rfl, rfl⟩
end
theorem elems_any {w : World} {v : Value} {xs : List (BitVec 8)} (h : Sr w v xs) (hn : xs.length ≤ 140737488351232) :
    Calls Try.prog 13 #[v] w fun e w' => ∃ v', e = .returned v' ∧ Rs 48 w.heap.size w' v' xs ∧ Below w.heap.size w w' := by
  by_cases h0 : xs = []
  · subst h0
    obtain ⟨p, c, rfl⟩ := h.empty
    exact (elems_nil p c w).mono fun e w' ⟨he, hw⟩ => ⟨_, he, by rw [hw]; exact Rs.nil _ _ _, by rw [hw]; exact Below.refl _ _⟩
  · obtain ⟨b, o, c, rfl, _, hc⟩ := h.cells h0
    exact elems_core b o _ c xs w hn hc
/-- A literal row. -/
theorem lit_sl (t : TypeId) (w : World) (arr : Array Value) (n : Nat) (xs : List (BitVec 8)) (hl : xs.length = n) (he : arr = rowC (co xs) n) (hn : n ≤ 1000) : Sl (w.alloc (.cells arr t)) (.slice (some ⟨w.heap.size, 0, none⟩) n n) xs := by
  subst hl he
  have ho : Own (w.alloc (.cells (rowC (co xs) xs.length) t)) t w.heap.size (co xs) xs.length := by unfold Own; rw [heap_alloc_new]
  have := own_sl ho (by omega)
  rw [ls_co] at this; exact this
theorem aw_mul : trim (mul [2#8, 1#8] [3#8, 1#8]) = [6#8, 1#8, 1#8] := by decide +kernel
theorem aw_div : IsDiv [6#8, 1#8, 1#8] [3#8, 1#8] [2#8, 1#8] [] := by
  refine ⟨by decide +kernel, rfl, fun i => ?_, by decide +kernel⟩
  rw [show mul [2#8, 1#8] [3#8, 1#8] = [6#8, 1#8, 1#8] by decide +kernel, co_nil]; simp
theorem aw_thr : IsThr [0#8, 1#8, 2#8] [6#8, 6#8, 0#8] [6#8, 1#8, 1#8] := by
  refine ⟨by decide +kernel, by decide, fun i hi => ?_⟩
  have h : i = 0 ∨ i = 1 ∨ i = 2 := by simp at hi; omega
  rcases h with rfl | rfl | rfl <;> decide +kernel
theorem aw_nd : [0#8, 1#8, 2#8].Nodup := by decide
theorem aw_roots : rts [6#8, 1#8, 1#8] 256 = [2#8, 3#8] := by decide +kernel
theorem aw_tr : trim [3#8, 1#8] ≠ [] := by decide
end Go.Proofs.Ytbjmdijphciliaa
