/-
  mayScore; Load.
-/
import Derived.Test.YtcfjinpjijcheabLp27
namespace Go.Proofs.Ytcfjinpjijcheab
open Go.RowKit
attribute [local irreducible] dW dR p2 fR fW fV fval sW sR
theorem sc_orders {x : Nat} (h : Sc x) : (FloatKind.f32.format.order 0 x == some .lt || FloatKind.f32.format.order 0 x == some .eq) = true ∧ (FloatKind.f32.format.order x 1065353216 == some .lt || FloatKind.f32.format.order x 1065353216 == some .eq) = true := by
  have s0 : Sc 0 := Nat.zero_le _
  have s1 : Sc 1065353216 := Nat.le_refl _
  have h' : x ≤ 1065353216 := h
  rw [order_sc s0 h, order_sc h s1]
  constructor
  · by_cases h0 : 0 = x
    · rw [Nat.compare_eq_eq.2 h0]; rfl
    · rw [Nat.compare_eq_lt.2 (by omega)]; rfl
  · by_cases h0 : x = 1065353216
    · rw [Nat.compare_eq_eq.2 h0]; rfl
    · rw [Nat.compare_eq_lt.2 (by omega)]; rfl
theorem sc_of {x : Nat} (hx : x < 4294967296) (h1 : (FloatKind.f32.format.order 0 x == some .lt || FloatKind.f32.format.order 0 x == some .eq) = true) (h2 : (FloatKind.f32.format.order x 1065353216 == some .lt || FloatKind.f32.format.order x 1065353216 == some .eq) = true) : Sc x ∨ x = 2147483648 := by
  simp only [Bool.or_eq_true, beq_iff_eq] at h1 h2
  have f0 : ffin F3 0 := by unfold ffin; rw [F3_I]; show (0 : Nat) < _; omega
  have oo : fsg F3 1065353216 = false ∧ frg F3 1065353216 = 1065353216 := Sc.sg (s := 1065353216) (Nat.le_refl _)
  have f1 : ffin F3 1065353216 := by unfold ffin; rw [F3_I, oo.2]; omega
  have fk := order_two F3 F3_bI f0 f1 h1 h2
  have v0 : fval F3 2148 0 = 0 := by unfold fval sgn; rw [show frg F3 0 = 0 from rfl, fW_zero]; simp
  have v1 : fval F3 2148 1065353216 = (sW 1065353216 : Int) := by unfold fval sgn sW; rw [oo.1, if_neg (by simp), oo.2]
  rw [show FloatKind.f32.format.order 0 x = _ from order_num F3 2148 F3_hc f0 fk, v0] at h1
  rw [show FloatKind.f32.format.order x 1065353216 = _ from order_num F3 2148 F3_hc fk f1, v1] at h2
  have a1 : 0 ≤ fval F3 2148 x := by
    rcases h1 with h | h
    · have := Int.compare_eq_lt.1 (Option.some.inj h); omega
    · have := Int.compare_eq_eq.1 (Option.some.inj h); omega
  have a2 : fval F3 2148 x ≤ (sW 1065353216 : Int) := by
    rcases h2 with h | h
    · have := Int.compare_eq_lt.1 (Option.some.inj h); omega
    · have := Int.compare_eq_eq.1 (Option.some.inj h); omega
  have vk : fval F3 2148 x = sgn (fsg F3 x) (sW (frg F3 x)) := by unfold fval sW; rfl
  rw [vk] at a1 a2
  have sw : F3.signWeight = 2147483648 := by decide
  cases hs : fsg F3 x
  · left
    rw [hs] at a2
    have e : sgn false (sW (frg F3 x)) = (sW (frg F3 x) : Int) := by unfold sgn; rw [if_neg (by simp)]
    rw [e] at a2
    have h3 : frg F3 x ≤ 1065353216 := Nat.le_of_not_lt fun h4 => by have := sW_lt h4; omega
    unfold fsg at hs
    unfold frg at h3
    rw [sw] at hs h3
    simp at hs
    unfold Sc
    omega
  · right
    rw [hs] at a1
    have e : sgn true (sW (frg F3 x)) = -(sW (frg F3 x) : Int) := by unfold sgn; rw [if_pos rfl]
    rw [e] at a1
    have h3 : frg F3 x = 0 := Classical.byContradiction fun h4 => by have := sW_lt (Nat.pos_of_ne_zero h4); rw [sW_zero] at this; omega
    unfold fsg at hs
    unfold frg at h3
    rw [sw] at hs h3
    simp at hs
    omega
section
attribute [local irreducible] Calls
set_option maxRecDepth 1000000 in
theorem mayScore_bool (x : Nat) (hx : x < 4294967296) (w : World) : Calls Try.prog 29 #[.float .f32 x] w fun e w' => (e = .returned (.bool true) ∧ Sc x ∨ e = .returned (.bool false) ∧ ¬ Sc x) ∧ w' = w := by
  by_cases h : Sc x
  · obtain ⟨b1, b2⟩ := sc_orders h
    have a1 := cv_run 57 22 s36 Try.underlying22 (sc_cv h).1
    have hc : cv6 x ≤ 4607182418800017408 := by have := (sc_cv h).2.2.1; unfold Cn at this; omega
    have SB := (show Hid _ from signbit_any (cv6 x) (by omega))
    rw [decide_eq_false (by omega)] at SB
    have HS := (show Hid (Sc x) from h)
    obtain ⟨z, hz⟩ : ∃ z, cv6 x = z := ⟨_, rfl⟩
    rw [hz] at a1 SB
    clear h hc hz
    go_enter Try.func29, Try.ntmps29
    go_wp2_with (go_at_call 40; refine (SB.out _).mono ?_; rintro e w1 ⟨rfl, h⟩; obtain rfl := h.symm)
    go_ret
    exact ⟨.inl ⟨rfl, HS.out⟩, rfl⟩
  · have HS := (show Hid (¬ Sc x) from h)
    cases b1 : (FloatKind.f32.format.order 0 x == some .lt || FloatKind.f32.format.order 0 x == some .eq) with
    | false =>
      clear h
      go_enter Try.func29, Try.ntmps29
      go_wp2
      go_ret
      exact ⟨.inr ⟨rfl, HS.out⟩, rfl⟩
    | true =>
      cases b2 : (FloatKind.f32.format.order x 1065353216 == some .lt || FloatKind.f32.format.order x 1065353216 == some .eq) with
      | false =>
        clear h
        go_enter Try.func29, Try.ntmps29
        go_wp2
        go_ret
        exact ⟨.inr ⟨rfl, HS.out⟩, rfl⟩
      | true =>
        obtain rfl := (sc_of hx b1 b2).resolve_left h
        have a1 := cv_run 57 22 s36 Try.underlying22 cv6_neg
        have SB := (show Hid _ from signbit_any 9223372036854775808 (by omega))
        rw [decide_eq_true (by omega)] at SB
        clear h
        go_enter Try.func29, Try.ntmps29
        go_wp2_with (go_at_call 40; refine (SB.out _).mono ?_; rintro e w1 ⟨rfl, h⟩; obtain rfl := h.symm)
        go_ret
        exact ⟨.inr ⟨rfl, HS.out⟩, rfl⟩
end
end Go.Proofs.Ytcfjinpjijcheab
