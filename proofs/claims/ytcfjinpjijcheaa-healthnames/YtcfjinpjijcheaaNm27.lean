/-
  HealthNames: boards that are not there, boards of no place.
-/
import Derived.Test.YtcfjinpjijcheaaSa27
namespace Go.Proofs.Ytcfjinpjijcheaa
open Go.RowKit
section
attribute [local irreducible] Calls
set_option maxRecDepth 1000000 in
theorem hasNil_any (p : Int) (w : World) : Calls Try.prog 27 #[.pointer none, .int .i64 p] w fun e w' => e = .returned (.int .i64 1) ∧ w' = w := by
  go_enter Try.func27, Try.ntmps27
  go_wp2
  go_ret
  exact ⟨rfl, rfl⟩
set_option maxRecDepth 1000000 in
theorem hasZero_any {w : World} {b : Nat} (c1 : w.cell? ⟨b, 1, none⟩ = some (.slice none 0 0)) : Calls Try.prog 27 #[.pointer (some ⟨b, 0, none⟩), .int .i64 0] w fun e w' => e = .returned (.int .i64 2) ∧ w' = w := by
  go_enter Try.func27, Try.ntmps27
  go_wp2
  go_ret
  exact ⟨rfl, rfl⟩
set_option maxRecDepth 1000000 in
theorem scoreNil_any (w : World) : Calls Try.prog 9 #[.pointer none, .int .i64 0] w fun e w' => e = .returned (.tuple #[.float .f64 0, .int .i64 1]) ∧ w' = w := by
  have HH := (show Hid _ from hasNil_any 0 w)
  go_enter Try.func9, Try.ntmps9
  go_wp2_with (go_at_call 27; refine HH.out.mono ?_; rintro e w1 ⟨rfl, h⟩; obtain rfl := h.symm)
  go_ret2
  exact ⟨rfl, rfl⟩
set_option maxRecDepth 1000000 in
theorem scoreZero_any {w : World} {b : Nat} (c1 : w.cell? ⟨b, 1, none⟩ = some (.slice none 0 0)) : Calls Try.prog 9 #[.pointer (some ⟨b, 0, none⟩), .int .i64 0] w fun e w' => e = .returned (.tuple #[.float .f64 0, .int .i64 2]) ∧ w' = w := by
  have HH := (show Hid _ from hasZero_any c1)
  go_enter Try.func9, Try.ntmps9
  go_wp2_with (go_at_call 27; refine HH.out.mono ?_; rintro e w1 ⟨rfl, h⟩; obtain rfl := h.symm)
  go_ret2
  exact ⟨rfl, rfl⟩
set_option maxRecDepth 1000000 in
theorem tellNil_any (w : World) : Calls Try.prog 10 #[.pointer none, .int .i64 0, .bool true] w fun e w' => e = .returned (.int .i64 1) ∧ w' = w := by
  have HH := (show Hid _ from hasNil_any 0 w)
  go_enter Try.func10, Try.ntmps10
  go_wp2_with (go_at_call 27; refine HH.out.mono ?_; rintro e w1 ⟨rfl, h⟩; obtain rfl := h.symm)
  go_ret
  exact ⟨rfl, rfl⟩
set_option maxRecDepth 1000000 in
theorem tellZero_any {w : World} {b : Nat} (c1 : w.cell? ⟨b, 1, none⟩ = some (.slice none 0 0)) : Calls Try.prog 10 #[.pointer (some ⟨b, 0, none⟩), .int .i64 0, .bool true] w fun e w' => e = .returned (.int .i64 2) ∧ w' = w := by
  have HH := (show Hid _ from hasZero_any c1)
  go_enter Try.func10, Try.ntmps10
  go_wp2_with (go_at_call 27; refine HH.out.mono ?_; rintro e w1 ⟨rfl, h⟩; obtain rfl := h.symm)
  go_ret
  exact ⟨rfl, rfl⟩
set_option maxRecDepth 1000000 in
theorem saveNil_any (w : World) : Calls Try.prog 12 #[.pointer none] w fun e w' => e = .returned (.slice none 0 0) ∧ w' = w := by
  go_enter Try.func12, Try.ntmps12
  go_wp2
  go_ret
  exact ⟨rfl, rfl⟩
set_option maxRecDepth 1000000 in
theorem orderNil_any (w : World) : Calls Try.prog 11 #[.pointer none] w fun e w' => e = .returned (.slice none 0 0) ∧ Below w.heap.size w w' := by
  go_enter Try.func11, Try.ntmps11
  go_wp2
  go_ret
  exact ⟨rfl, balloc _ _⟩
set_option maxRecDepth 1000000 in
theorem insertNone_any (p : Option Addr) (c : Nat) (f : Value) (w : World) : Calls Try.prog 54 #[.slice p 0 c, .int .i64 0, .int .i64 0, f] w fun e w' => e = .returned (.tuple #[]) ∧ w' = w := by
  go_enter Try.func54, Try.ntmps54
  go_wp2
  refine wp_loop_rounds 1 ?_
  rw [rounds_succ]
  go_wp2
  go_end0
  exact ⟨rfl, rfl⟩
set_option maxRecDepth 1000000 in
theorem stableNone_any (p : Option Addr) (c : Nat) (f : Value) (w : World) : Calls Try.prog 46 #[.slice p 0 c, .int .i64 0, f] w fun e w' => e = .returned (.tuple #[]) ∧ w' = w := by
  have IN := (show Hid _ from insertNone_any p c f w)
  go_enter Try.func46, Try.ntmps46
  go_wp2
  refine wp_loop_rounds 1 ?_
  rw [rounds_succ]
  go_wp2_with (go_at_call 54; refine IN.out.mono ?_; rintro e w1 ⟨rfl, h⟩; obtain rfl := h.symm)
  refine wp_loop_rounds 1 ?_
  rw [rounds_succ]
  go_wp2
  go_end0
  exact ⟨rfl, rfl⟩
set_option maxRecDepth 1000000 in
theorem sortNone_any (p : Option Addr) (c : Nat) (f : Value) (w : World) : Calls Try.prog 28 #[.slice p 0 c, f] w fun e w' => e = .returned (.tuple #[]) ∧ w' = w := by
  have ST := (show Hid _ from stableNone_any p c f w)
  go_enter Try.func28, Try.ntmps28
  go_wp2_with (go_at_call 46; refine ST.out.mono ?_; rintro e w1 ⟨rfl, h⟩; obtain rfl := h.symm)
  go_end0
  exact ⟨rfl, rfl⟩
theorem infoI0 : (Try.prog.info? 3).map (fun i => (i.zero, i.size, i.bytes)) = some (some (.int .i64 0), 1, 8) := by kernel_rfl
theorem make_I0 (w : World) : (Instr.makeSlice 32 (.int .i64 0) (.int .i64 0)).run Try.prog w = .ok (.slice (some ⟨w.heap.size, 0, none⟩) 0 0) (w.alloc (.cells #[] 3)) := by
  have := make_G Try.underlying32 infoI0 rfl 0 (by omega) (by omega) w
  exact this
set_option maxRecDepth 1000000 in
theorem orderZero_any {w : World} {b : Nat} (c1 : w.cell? ⟨b, 1, none⟩ = some (.slice none 0 0)) : Calls Try.prog 11 #[.pointer (some ⟨b, 0, none⟩)] w fun e w' => (∃ p c, e = .returned (.slice p 0 c)) ∧ Below w.heap.size w w' := by
  obtain ⟨W1, hW1⟩ : ∃ W1, W1 = w.alloc (.cells #[.pointer (some ⟨b, 0, none⟩)] 22) := ⟨_, rfl⟩
  have hb1 : Below w.heap.size w W1 := by rw [hW1]; exact balloc _ _
  have cb : W1.cell? ⟨w.heap.size, 0, none⟩ = some (.pointer (some ⟨b, 0, none⟩)) := by
    rw [hW1]; exact (bl_new w 22 [.pointer (some ⟨b, 0, none⟩)]).cell 0
  have c2 := cell_below c1 hb1
  have mk := make_I0
  have HW1 := (show Hid _ from hW1)
  have HB1 := (show Hid _ from hb1)
  have SO := (show Hid _ from sortNone_any)
  clear hW1 hb1 c1
  go_enter Try.func11, Try.ntmps11
  go_wp2_with (rw [← HW1.out])
  refine wp_loop_rounds 1 ?_
  rw [rounds_succ]
  go_wp2_with (go_at_call 28; refine (SO.out _ _ _ _).mono ?_; rintro e w2 ⟨rfl, h⟩; obtain rfl := h.symm)
  go_ret
  exact ⟨⟨_, _, rfl⟩, bt HB1.out (balloc _ _)⟩
set_option maxRecDepth 1000000 in
set_option maxHeartbeats 2000000 in
theorem saveZero_any {w : World} {b : Nat} (c0 : w.cell? ⟨b, 0, none⟩ = some (.float .f32 0)) (c1 : w.cell? ⟨b, 1, none⟩ = some (.slice none 0 0)) :
    Calls Try.prog 12 #[.pointer (some ⟨b, 0, none⟩)] w fun e w' => ∃ v', e = .returned v' ∧ Ob w' w.heap.size v' [0, 0, 0, 0, 0] ∧ Below w.heap.size w w' := by
  have AB := (show Hid _ from fun (W : World) (v : Value) (xs : List Nat) (x : Nat) (hO : Ob W w.heap.size v xs) (hW : w.heap.size ≤ W.heap.size) (hx : x < 4294967296) (hl : xs.length ≤ 1048576) => apBits_any hO hW x hx hl)
  have al := balloc
  obtain ⟨W1, hW1⟩ : ∃ W1, W1 = w.alloc (.cells (List.replicate 5 (Value.int .u8 0)).toArray 5) := ⟨_, rfl⟩
  have rm1 : (Instr.makeSlice 34 (.int .i64 0) (.int .i64 5)).run Try.prog w = .ok (.slice (some ⟨w.heap.size, 0, none⟩) 0 5) W1 := by rw [hW1]; exact room_B 5 (by omega) w
  have hO1 : Ob W1 w.heap.size (.slice (some ⟨w.heap.size, 0, none⟩) 0 5) [] := by rw [hW1]; exact ob_room w _ (by omega)
  have hb1 : Below w.heap.size w W1 := by rw [hW1]; exact balloc _ _
  have d0 := cell_below c0 hb1
  have d1 := cell_below c1 hb1
  have H0 := (show Hid _ from c0)
  have H1 := (show Hid _ from c1)
  have r1 : Vr (W1.alloc (.cells #[.int .u8 0] 5)) (some ⟨W1.heap.size, 0, none⟩) (bc [0]) := by
    have := (bl_new W1 5 [.int .u8 0]).rd
    rwa [show bc [0] = [Value.int .u8 0] by simp [bc]]
  have HB1 := (show Hid (Below w.heap.size w W1) from hb1)
  clear hW1 hb1
  go_enter Try.func12, Try.ntmps12
  go_wp2_with (first
    | (at_builtin; refine wpList_apB rfl (.tmp 16) (.tmp 23) rfl w.heap.size _ [] rfl (hO1.below (al _ _)) (some ⟨W1.heap.size, 0, none⟩) 1 1 [0] rfl r1 rfl (by simp) (Nat.le_trans HB1.out.size (al _ _).size) ?_; intro v2 w2 ho2 hg2; have hb2 : Below w.heap.size w w2 := below_append (t := 5) (HB1.out.alloc HB1.out.size _) (Nat.le_trans HB1.out.size (al _ _).size) hg2 (hO1.below (al _ _)) (Nat.le_refl _); have q0 := cell_below H0.out hb2; have q1 := cell_below H1.out hb2)
    | (go_at_call 31; refine (AB.out _ _ _ 0 ho2 hb2.size (by omega) (by simp)).mono ?_; rintro e w3 ⟨v3, rfl, hO3, hb3⟩; have q3 := cell_below H1.out (hb2.trans hb3)))
  refine wp_loop_rounds 1 ?_
  rw [rounds_succ]
  go_wp2
  go_ret
  exact ⟨_, rfl, hO3, hb2.trans hb3⟩
end
end Go.Proofs.Ytcfjinpjijcheaa
