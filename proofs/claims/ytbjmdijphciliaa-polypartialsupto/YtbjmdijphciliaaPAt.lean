/-
  'At'.
-/
import Derived.Test.YtbjmdijphciliaaDeg
import Derived.Deep.Cut
import Derived.BigRegion
import Derived.Great.BuildSlice
namespace Go.Proofs.Ytbjmdijphciliaa
open Go.RowKit

theorem abstract_world {P : Program} {cd : Code} {Q : Exit → Act → World → Prop} {a : Act} {w : World} (R : World → Prop) (hR : R w) (h : ∀ W, R W → cd.wp P Q a W) : cd.wp P Q a w := h w hR
theorem heap_alloc_any (w : World) (c : Array Value) (t : TypeId) : (w.alloc (.cells c t)).heap[w.heap.size]? = some (.cells c t (0, 0)) := heap_alloc_new w _
/-- A table in a variable of its own. -/
theorem tab_new (w w1 : World) (c : BitVec 8) (z : Obj) (cs : Array Value) (hz : z = .cells cs 76) (hb : Below w.heap.size w w1) :
    Own ((w1.alloc z).setRow w1.heap.size (rowC (tw c) 32)) 76 w1.heap.size (tw c) 32 ∧ Below w.heap.size w ((w1.alloc z).setRow w1.heap.size (rowC (tw c) 32)) := by
  subst hz
  refine ⟨?_, Below.row (hb.alloc hb.size _) hb.size _⟩
  unfold Own
  exact setRow_heap _ _ _ _ _ _ (heap_alloc_any w1 _ _)
/-- The value of the last k coefficients. -/
def hv (x : BitVec 8) (xs : List (BitVec 8)) (k : Nat) : BitVec 8 := ev x (xs.drop (xs.length - k))
theorem hv_zero (x : BitVec 8) (xs : List (BitVec 8)) : hv x xs 0 = 0#8 := by unfold hv; rw [List.drop_of_length_le (by omega)]; rfl
theorem hv_all (x : BitVec 8) (xs : List (BitVec 8)) : hv x xs xs.length = ev x xs := by unfold hv; rw [Nat.sub_self, List.drop_zero]
theorem hv_succ (x : BitVec 8) (xs : List (BitVec 8)) (k : Nat) (h : k < xs.length) : hv x xs (k + 1) = gm x (hv x xs k) ^^^ co xs (xs.length - 1 - k) := by
  unfold hv
  rw [show xs.length - (k + 1) = xs.length - 1 - k by omega, List.drop_eq_getElem_cons (by omega : xs.length - 1 - k < xs.length), show xs.length - 1 - k + 1 = xs.length - k by omega]
  show _ ^^^ gm x _ = _
  rw [BitVec.xor_comm]
  congr 1
  simp [co, List.getD_eq_getElem?_getD, List.getElem?_eq_getElem (show xs.length - 1 - k < xs.length by omega)]
section
attribute [local irreducible] Calls el gm Own dbl tb tw co hv
set_option maxHeartbeats 2000000 in
set_option maxRecDepth 1000000 in
theorem at_core (b o n c : Nat) (xs : List (BitVec 8)) (x : BitVec 8) (w : World) (hl : Hid (xs.length = n)) (hn : n ≤ 281474976710656)
    (H1 : Hid (∀ i, i < n → w.cell? ⟨b, o + i, none⟩ = some (.int .u8 (el (co xs i))))) :
    Calls Try.prog 44 #[.slice (some ⟨b, o, none⟩) n c, .int .u8 (el x)] w fun e w' => e = .returned (.int .u8 (el (hv x xs n))) ∧ Below w.heap.size w w' := by
  have HZ : Hid ((Try.prog.info? 76).map (·.size) = some (rowC (tw x) 32).size) := size32 _
  go_enter Try.func44, Try.ntmps44
  go_upto_region 2 with (first | (go_at_call 47; refine (multiplesOf_any x _).mono ?_; rintro e w1 ⟨rfl, hb1⟩) | (refine wpList_store_rowTo rfl 76 (.tmp 5) (.tmp 9) rfl rfl w1.heap.size (rowC (tw x) 32) rfl rfl 76 _ (heap_alloc_any _ _ _) HZ.out (by rw [rowC_size]; rfl) (rowC_one _ _) ?_))
  refine abstract_world (fun W => Own W 76 w1.heap.size (tw x) 32 ∧ Below w.heap.size w W) (tab_new _ _ _ _ _ rfl hb1) ?_
  obtain ⟨A, hA⟩ : ∃ A, A = w1.heap.size := ⟨_, rfl⟩
  rw [← hA]
  clear hA hb1
  rintro W ⟨hT, hb0⟩
  clear HZ
  go_wp2
  go_loopw [6, 12] (fun v i wr => ∃ k : Nat, k ≤ n ∧ i = .int .i64 k ∧ v = .int .u8 (el (hv x xs k)) ∧ Own wr 76 A (tw x) 32 ∧ Below w.heap.size w wr) (fun _ i _ => n - (intOf i).toNat)
  case atStart => exact ⟨0, Nat.zero_le _, rfl, by rw [hv_zero, el_0], hT, hb0⟩
  case round =>
    clear hT hb0
    obtain ⟨k, hk, rfl, rfl, hT, hb⟩ := hrel
    by_cases hlt : k < n
    · have g1 := cell_below (H1.out (n - 1 - k) (by omega)) hb
      have i2 : (k : Int) < (n : Int) := by omega
      go_wp2
      go_quiet ((first | (go_at_call 48; exact Calls.quiet_of (of_any _ _ _ _ (hT.drewN _))) | (go_at_call 30; exact Calls.quiet_of_same (plus_any _ _ _))))
      go_wp2
      go_roundw
      case rel => exact ⟨k + 1, by omega, by go_num, by rw [hv_succ x xs k (by rw [hl.out]; exact hlt), hl.out], hT.drewN _, below_drewN hb _⟩
      case measure => simp [intOf]; omega
    · obtain rfl : k = n := by omega
      go_wp2
      go_ret
      exact ⟨rfl, hb⟩
set_option maxHeartbeats 2000000 in
set_option maxRecDepth 1000000 in
theorem at_nil (a : Option Addr) (c : Nat) (x : BitVec 8) (w : World) :
    Calls Try.prog 44 #[.slice a 0 c, .int .u8 (el x)] w fun e w' => e = .returned (.int .u8 0) ∧ Below w.heap.size w w' := by
  have HZ : Hid ((Try.prog.info? 76).map (·.size) = some (rowC (tw x) 32).size) := size32 _
  go_enter Try.func44, Try.ntmps44
  go_upto_region 2 with (first | (go_at_call 47; refine (multiplesOf_any x _).mono ?_; rintro e w1 ⟨rfl, hb1⟩) | (refine wpList_store_rowTo rfl 76 (.tmp 5) (.tmp 9) rfl rfl w1.heap.size (rowC (tw x) 32) rfl rfl 76 _ (heap_alloc_any _ _ _) HZ.out (by rw [rowC_size]; rfl) (rowC_one _ _) ?_))
  refine abstract_world (fun W => Below w.heap.size w W) (tab_new _ _ _ _ _ rfl hb1).2 ?_
  clear hb1 HZ
  intro W hb0
  go_wp2
  refine wp_loop_rounds 1 ?_
  rw [rounds_succ]
  go_wp2
  go_ret
  exact ⟨rfl, hb0⟩
end
theorem at_any {w : World} {p : Option Addr} {xs : List (BitVec 8)} (h : Rd w p xs) (n c : Nat) (hl : xs.length = n) (hn : n ≤ 281474976710656) (x : BitVec 8) :
    Calls Try.prog 44 #[.slice p n c, .int .u8 (el x)] w fun e w' => e = .returned (.int .u8 (el (ev x xs))) ∧ Below w.heap.size w w' := by
  rcases h with h | ⟨b, o, rfl, hc⟩
  · subst h; subst hl; exact at_nil p c x w
  · have := at_core b o n c xs x w hl hn (by rw [hl] at hc; exact hc)
    rw [← hl, hv_all] at this
    rw [← hl]; exact this
end Go.Proofs.Ytbjmdijphciliaa
