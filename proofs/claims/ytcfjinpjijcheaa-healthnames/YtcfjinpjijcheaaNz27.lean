/-
  HealthNames: the walk.
-/
import Derived.Test.YtcfjinpjijcheaaCz27
namespace Go.Proofs.Ytcfjinpjijcheaa
open Go.RowKit
theorem eq_zero : (FloatKind.f64.format.order 0 0 == some .eq) = true := by decide +kernel
section
attribute [local irreducible] Calls
set_option maxRecDepth 1000000 in
set_option maxHeartbeats 8000000 in
theorem healthNames_walk (w : World) : Calls Try.prog 3 #[] w fun e w' => e = .returned (.bool true) ∧ Below w.heap.size w w' := by
  have SNil := (show Hid _ from fun (W : World) => scoreNil_any W)
  have SZero := (show Hid _ from fun (W : World) (b : Nat) (h : W.cell? ⟨b, 1, none⟩ = some (.slice none 0 0)) => scoreZero_any h)
  have TZ := (show Hid _ from fun (W : World) {b : Nat} (h : W.cell? ⟨b, 1, none⟩ = some (.slice none 0 0)) => tellZero_any h)
  have OZ := (show Hid _ from fun (W : World) {b : Nat} (h : W.cell? ⟨b, 1, none⟩ = some (.slice none 0 0)) => orderZero_any h)
  have SZ := (show Hid _ from fun (W : World) {b : Nat} (h0 : W.cell? ⟨b, 0, none⟩ = some (.float .f32 0)) (h : W.cell? ⟨b, 1, none⟩ = some (.slice none 0 0)) => saveZero_any h0 h)
  have TN := (show Hid _ from fun (W : World) => tellNil_any W)
  have ON := (show Hid _ from fun (W : World) => orderNil_any W)
  have SN := (show Hid _ from fun (W : World) => saveNil_any W)
  obtain ⟨W1, hW1⟩ : ∃ W1, W1 = w.alloc (.cells #[.float .f32 0, .slice none 0 0] 30) := ⟨_, rfl⟩
  have HB1 := (show Hid (Below w.heap.size w W1) from by rw [hW1]; exact balloc _ _)
  have bl := bl_new w 30 [.float .f32 0, .slice none 0 0]
  have z0 : W1.cell? ⟨w.heap.size, 1, none⟩ = some (.slice none 0 0) := by rw [hW1]; exact bl.cell 1
  have Y0 : Hid (W1.cell? ⟨w.heap.size, 0, none⟩ = some (.float .f32 0)) := by
    have : W1.cell? ⟨w.heap.size, 0, none⟩ = some (.float .f32 0) := by rw [hW1]; exact bl.cell 0
    exact this
  have Z0 : Hid (W1.cell? ⟨w.heap.size, 1, none⟩ = some (.slice none 0 0)) := z0
  have ez := eq_zero
  have HW1 := (show Hid _ from hW1)
  clear bl hW1
  go_enter Try.func3, Try.ntmps3
  go_wp2_with (first
    | (go_at_call 9; refine (SNil.out _).mono ?_; rintro e x0 ⟨rfl, h⟩; obtain rfl := h.symm)
    | (rw [← HW1.out])
    | (go_at_call 9; refine (SZero.out _ _ z0).mono ?_; rintro e x0 ⟨rfl, h⟩; obtain rfl := h.symm)
    | (go_at_call 10; refine (TZ.out _ z0).mono ?_; rintro e x0 ⟨rfl, h⟩; obtain rfl := h.symm)
    | (go_at_call 11; refine (OZ.out _ z0).mono ?_; rintro e w2 ⟨⟨pz, cz, rfl⟩, hb2⟩)
    | (go_at_call 12; refine (SZ.out _ (cell_below Y0.out hb2) (cell_below Z0.out hb2)).mono ?_; rintro e w3 ⟨v3, rfl, hO3, hb3⟩; obtain ⟨p3, c3, rfl, hr3⟩ : ∃ p c, v3 = .slice p 5 c ∧ Vr w3 p (bc [0, 0, 0, 0, 0]) := (by obtain ⟨p, c, h1, -, h2⟩ := hO3.rd; exact ⟨p, c, h1, h2⟩); have kd : (convert 34 9 (.slice p3 5 c3)).run Try.prog w3 = .ok (.string ⟨#[0, 0, 0, 0, 0]⟩) w3 := conv_rd hr3 (by decide) 5 c3 rfl)
    | (go_at_call 10; refine (TN.out _).mono ?_; rintro e x0 ⟨rfl, h⟩; obtain rfl := h.symm)
    | (go_at_call 11; refine (ON.out _).mono ?_; rintro e w4 ⟨rfl, hb4⟩)
    | (go_at_call 12; refine (SN.out _).mono ?_; rintro e x0 ⟨rfl, h⟩; obtain rfl := h.symm))
  go_ret
  exact ⟨rfl, bt (bt (bt HB1.out hb2) hb3) hb4⟩
end
end Go.Proofs.Ytcfjinpjijcheaa
