/-
  health.New.
-/
import Derived.Test.YtcfjinpjijcheabRp27
namespace Go.Proofs.Ytcfjinpjijcheab
open Go.RowKit
attribute [local irreducible] dW dR p2 fR fW fV fval sW sR
theorem kp_order {k : Nat} (h : Kp k) : (FloatKind.f32.format.order 0 k == some .lt) = true ∧ (FloatKind.f32.format.order k 1065353216 == some .lt) = true := by
  have f0 : ffin F3 0 := by unfold ffin; rw [F3_I]; show (0 : Nat) < _; omega
  have o1 : fsg F3 1065353216 = false ∧ frg F3 1065353216 = 1065353216 := Sc.sg (s := 1065353216) (Nat.le_refl _)
  have f1 : ffin F3 1065353216 := by unfold ffin; rw [F3_I, o1.2]; omega
  have fk : ffin F3 k := by unfold ffin; rw [F3_I]; have := h.2.2; omega
  have v0 : fval F3 2148 0 = 0 := by unfold fval sgn; rw [show frg F3 0 = 0 from rfl, fW_zero]; simp
  have vk : fval F3 2148 k = (sW (frg F3 k) : Int) := by unfold fval sgn sW; rw [h.1, if_neg (by simp)]
  have v1 : fval F3 2148 1065353216 = (sW 1065353216 : Int) := by unfold fval sgn sW; rw [o1.1, if_neg (by simp), o1.2]
  have a1 := sW_lt h.2.1
  have a2 := sW_lt h.2.2
  rw [sW_zero] at a1
  rw [order_num F3 2148 F3_hc f0 fk, order_num F3 2148 F3_hc fk f1, v0, vk, v1]
  constructor
  · rw [Int.compare_eq_lt.2 (by omega)]; rfl
  · rw [Int.compare_eq_lt.2 (by omega)]; rfl
section
attribute [local irreducible] Calls
set_option maxRecDepth 1000000 in
theorem mayKeep_any {k : Nat} (h : Kp k) (w : World) : Calls Try.prog 28 #[.float .f32 k] w fun e w' => e = .returned (.bool true) ∧ w' = w := by
  obtain ⟨h1, h2⟩ := kp_order h
  go_enter Try.func28, Try.ntmps28
  go_wp2
  go_ret
  exact ⟨rfl, rfl⟩
set_option maxRecDepth 1000000 in
set_option maxHeartbeats 2000000 in
theorem new_any {w : World} (n keep k : Nat) (h1 : 1 ≤ n) (h2 : n ≤ 255) (hc : floatToFloatBits .f64 keep .f32 = some k) (hk : Kp k) :
    Calls Try.prog 22 #[.int .i64 (n : Int), .float .f64 keep] w fun e w' => ∃ b s, e = .returned (.tuple #[.pointer (some ⟨b, 0, none⟩), .int .i64 0]) ∧ Bd w' b s k (List.replicate n 1065353216) ∧ w.heap.size ≤ b ∧ w.heap.size ≤ s ∧ Below w.heap.size w w' := by
  have a1 := cv_run 22 57 s63 Try.underlying57 hc
  have MK := (show Hid _ from mayKeep_any hk)
  have RP := (show Hid _ from fun (W : World) (a : Addr) (hr : W.cell? a = some (.float .f32 1065353216)) => repeat_any (w := W) 1065353216 n 1 hr h1 h2)
  have n1 : ¬ (n : Int) < 1 := by omega
  have n2 : ¬ (255 : Int) < (n : Int) := by omega
  go_enter Try.func22, Try.ntmps22
  go_wp2_with (first
    | (go_at_call 28; refine (MK.out _).mono ?_; rintro e w1 ⟨rfl, h⟩; obtain rfl := h.symm)
    | (go_at_call 37; refine (RP.out _ ⟨w.heap.size, 0, none⟩ ((bl_new w 57 [.float .f32 1065353216]).cell 0)).mono ?_; rintro e w2 ⟨rfl, hB, hb⟩))
  go_ret2
  have hb0 : Below w.heap.size w w2 := bt (balloc w (.cells #[.float .f32 1065353216] 57)) hb
  have hs : w.heap.size + 1 ≤ w2.heap.size := by have := hb.size; rwa [World.size_alloc] at this
  refine ⟨w2.heap.size, w.heap.size + 1, rfl, ⟨?_, ?_⟩, by omega, by omega, hb0.alloc (by omega) _⟩
  · rw [List.length_replicate]; exact heap_alloc_new w2 _
  · have h3 : Bl w2 57 (w.heap.size + 1) (sc (List.replicate n 1065353216)) := by rw [World.size_alloc] at hB; exact hB
    exact h3.below (balloc _ _)
end
end Go.Proofs.Ytcfjinpjijcheab
