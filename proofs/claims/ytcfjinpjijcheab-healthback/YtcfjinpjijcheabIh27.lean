/-
  Numbers of 64 bits that are not below 0: sums, products, what is left of 1.
-/
import Derived.Test.YtcfjinpjijcheabIg27
namespace Go.Proofs.Ytcfjinpjijcheab
open Ieee
abbrev F6 : Format := FloatKind.f64.format
theorem F6_hF : 1 ≤ F6.fractionBits := by decide
theorem F6_lp : F6.leastPlace = -1074 := by decide
theorem F6_hc : 0 ≤ F6.leastPlace + ((2148 : Nat) : Int) := by rw [F6_lp]; decide
theorem F6_2c : 2 * F6.leastPlace + ((2148 : Nat) : Int) = 0 := by rw [F6_lp]; decide
theorem F6_B : F6.binade = 4503599627370496 := by decide
theorem F6_I : F6.infRung = 9218868437227405312 := by decide
theorem F6_bI : F6.binade ≤ F6.infRung := by rw [F6_B, F6_I]; decide
/-- The powers of two, out of sight. -/
def p2 (k : Nat) : Nat := 2 ^ k
theorem p2_add (a b : Nat) : p2 (a + b) = p2 a * p2 b := Nat.pow_add 2 a b
theorem p2_succ (a : Nat) : p2 (a + 1) = 2 * p2 a := by unfold p2; rw [Nat.pow_succ, Nat.mul_comm]
theorem p2_pos (a : Nat) : 0 < p2 a := Nat.two_pow_pos a
theorem p2_mono {a b : Nat} (h : a ≤ b) : p2 a ≤ p2 b := Nat.pow_le_pow_right (by omega) h
theorem p2_eq (a : Nat) : 2 ^ a = p2 a := rfl
/-- The value, and the rounding. -/
def dW (r : Nat) : Nat := fW F6 2148 r
def dR (x : Nat) : Nat := fR F6 2148 x
theorem dW_le {a b : Nat} (h : a ≤ b) : dW a ≤ dW b := fW_le F6 2148 h
theorem dW_lt {a b : Nat} (h : a < b) : dW a < dW b := fW_lt F6 2148 h
theorem dW_le_iff {a b : Nat} : dW a ≤ dW b ↔ a ≤ b := ⟨fun h => Nat.le_of_not_lt fun h2 => by have := dW_lt h2; omega, dW_le⟩
theorem dW_lt_iff {a b : Nat} : dW a < dW b ↔ a < b := ⟨fun h => Nat.lt_of_not_le fun h2 => by have := dW_le h2; omega, dW_lt⟩
theorem dW_zero : dW 0 = 0 := fW_zero F6 2148
theorem dR_mono {x y : Nat} (h : x ≤ y) : dR x ≤ dR y := fR_mono F6 2148 F6_hF F6_hc h
theorem dR_W {r : Nat} (h : r ≤ 9218868437227405312) : dR (dW r) = r := fR_W F6 2148 F6_hF F6_hc (by rw [F6_I]; exact h)
theorem dR_le {x r : Nat} (hr : r ≤ 9218868437227405312) (h : x ≤ dW r) : dR x ≤ r := fR_le F6 2148 F6_hF F6_hc (by rw [F6_I]; exact hr) h
theorem le_dR {x r : Nat} (hr : r ≤ 9218868437227405312) (h : dW r ≤ x) : r ≤ dR x := le_fR F6 2148 F6_hF F6_hc (by rw [F6_I]; exact hr) h
theorem p2_52 : p2 52 = 4503599627370496 := by decide
attribute [local irreducible] p2
theorem dV_pw (k : Nat) : fV F6 ((1023 + k) * 4503599627370496) = p2 (1074 + k) := by
  have h := fV_form F6 (q := 1022 + k) (k := F6.binade) (.inr (Nat.le_refl _)) (by omega)
  rw [F6_B, show (1022 + k) * 4503599627370496 + 4503599627370496 = (1023 + k) * 4503599627370496 by omega, p2_eq] at h
  rw [h, ← p2_52, ← p2_add, show 52 + (1022 + k) = 1074 + k by omega]
theorem dW_V (r : Nat) : dW r = fV F6 r * p2 1074 := by
  have : fu F6 2148 = 1074 := by unfold fu; rw [F6_lp]; decide
  unfold dW fW
  rw [p2_eq (fu F6 2148), this]
theorem dW_pw (k : Nat) : dW ((1023 + k) * 4503599627370496) = p2 (2148 + k) := by
  rw [dW_V, dV_pw, ← p2_add, show 1074 + k + 1074 = 2148 + k by omega]
attribute [local irreducible] dW dR fW fV fR fval
/-- A number from 0 to 2 to the power k, its sign +. -/
def Nn (k w : Nat) : Prop := fsg F6 w = false ∧ frg F6 w ≤ (1023 + k) * 4503599627370496
/-- A zero, whatever its sign. -/
def Zr (w : Nat) : Prop := frg F6 w = 0
theorem Nn.fin {k w : Nat} (h : Nn k w) (hk : k ≤ 1023) : ffin F6 w := by unfold ffin; rw [F6_I]; have := h.2; omega
theorem Zr.fin {w : Nat} (h : Zr w) : ffin F6 w := by
  unfold Zr at h
  unfold ffin
  rw [F6_I]
  omega
theorem Nn.mono {k j w : Nat} (h : Nn k w) (hk : k ≤ j) : Nn j w := ⟨h.1, Nat.le_trans h.2 (Nat.mul_le_mul_right _ (by omega))⟩
def dv (w : Nat) : Nat := dW (frg F6 w)
theorem Nn.val {k w : Nat} (h : Nn k w) : fval F6 2148 w = (dv w : Int) := by unfold fval sgn dv dW; rw [h.1, if_neg (by simp)]
theorem Zr.val {w : Nat} (h : Zr w) : fval F6 2148 w = 0 := by unfold fval sgn; rw [h, fW_zero]; simp
theorem dv_zr {w : Nat} (h : Zr w) : dv w = 0 := by unfold dv; rw [h]; exact dW_zero
theorem Nn.dv_le {k w : Nat} (h : Nn k w) : dv w ≤ p2 (2148 + k) := by rw [← dW_pw]; exact dW_le h.2
theorem pos_word (r : Nat) : F6.word false r = r := rfl
theorem sW6 : F6.signWeight = 9223372036854775808 := by decide
theorem frg_small {r : Nat} (h : r ≤ 9218868437227405312) : frg F6 r = r := frg_word F6 false (by rw [F6_I]; exact h)
theorem fsg_small {r : Nat} (h : r ≤ 9218868437227405312) : fsg F6 r = false := fsg_word F6 false (by rw [F6_I]; exact h)
theorem nn_small {k r : Nat} (h : r ≤ (1023 + k) * 4503599627370496) (hk : k ≤ 1023) : Nn k r := by
  have : r ≤ 9218868437227405312 := by omega
  exact ⟨fsg_small this, by rwa [frg_small this]⟩
theorem dv_small {r : Nat} (h : r ≤ 9218868437227405312) : dv r = dW r := by unfold dv; rw [frg_small h]
theorem nn_self {k w : Nat} (h : Nn k w) (hw : w < 18446744073709551616) : w = frg F6 w := by
  have h1 := h.1
  unfold fsg at h1
  unfold frg
  rw [sW6] at *
  simp at h1
  omega
/-- The sum of two that are not below 0. -/
theorem add_nn {k x y : Nat} (hk : k ≤ 1022) (hx : Nn k x) (hy : Nn k y ∨ Zr y) : F6.add x y = some (dR (dv x + dv y)) ∧ Nn (k + 1) (dR (dv x + dv y)) := by
  have hf : ffin F6 y ∧ fval F6 2148 y = (dv y : Int) ∧ dv y ≤ p2 (2148 + k) := by
    rcases hy with h | h
    · exact ⟨h.fin (by omega), h.val, h.dv_le⟩
    · exact ⟨h.fin, by rw [h.val, dv_zr h, Int.natCast_zero], by rw [dv_zr h]; exact Nat.zero_le _⟩
  have h := add_num F6 2148 F6_hF F6_hc (hx.fin (by omega)) hf.1
  rw [hx.val, hf.2.1, ← Int.natCast_add, Int.natAbs_natCast, hx.1] at h
  have hs : (if ((dv x + dv y : Nat) : Int) = 0 then false && fsg F6 y else decide (((dv x + dv y : Nat) : Int) < 0)) = false := by
    split
    · rfl
    · simp; omega
  rw [hs, pos_word] at h
  rw [show fR F6 2148 (dv x + dv y) = dR (dv x + dv y) by unfold dR; rfl] at h
  refine ⟨h, nn_small (dR_le (by omega) ?_) (by omega)⟩
  have h1 := hx.dv_le
  rw [dW_pw, show 2148 + (k + 1) = 2148 + k + 1 by omega, p2_succ]
  omega
/-- A product with a number from 0 to 1. -/
theorem mul_nn {k x y : Nat} (hk : k ≤ 1022) (hx : Nn k x) (hy : Nn 0 y ∨ Zr y) : ∃ r, F6.mul x y = some r ∧ (Nn k r ∨ Zr r) ∧ (Nn 0 y → r = dR (fV F6 (frg F6 x) * fV F6 (frg F6 y)) ∧ Nn k r) := by
  have hf : ffin F6 y := by rcases hy with h | h; exact h.fin (by omega); exact h.fin
  have h := mul_num F6 2148 F6_hF F6_hc (by rw [F6_2c]; decide) (hx.fin (by omega)) hf
  rw [F6_2c, show (0 : Int).toNat = 0 from rfl, Nat.pow_zero, Nat.mul_one, hx.1] at h
  refine ⟨_, h, ?_⟩
  have key : Nn 0 y → dR (fV F6 (frg F6 x) * fV F6 (frg F6 y)) ≤ (1023 + k) * 4503599627370496 := by
    intro h
    refine dR_le (by omega) ?_
    rw [dW_pw]
    have h1 := fV_le F6 hx.2
    have h2 := fV_le F6 h.2
    rw [dV_pw] at h1 h2
    calc _ ≤ p2 (1074 + k) * p2 (1074 + 0) := Nat.mul_le_mul h1 h2
      _ = p2 (2148 + k) := by rw [← p2_add, show 1074 + k + (1074 + 0) = 2148 + k by omega]
  have h2 : Nn 0 y → F6.word (false ^^ fsg F6 y) (fR F6 2148 (fV F6 (frg F6 x) * fV F6 (frg F6 y))) = dR (fV F6 (frg F6 x) * fV F6 (frg F6 y)) := by
    intro h; rw [h.1]; unfold dR; exact pos_word _
  refine ⟨?_, fun h0 => ⟨h2 h0, by rw [h2 h0]; exact nn_small (key h0) (by omega)⟩⟩
  rcases hy with h0 | h0
  · left; rw [h2 h0]; exact nn_small (key h0) (by omega)
  · right
    unfold Zr
    have e : fR F6 2148 (fV F6 (frg F6 x) * fV F6 (frg F6 y)) = 0 := by
      unfold Zr at h0
      rw [h0, fV_zero, Nat.mul_zero]
      have := dR_W (r := 0) (by omega)
      rw [dW_zero] at this
      unfold dR at this
      exact this
    rw [e]
    exact frg_word F6 _ (Nat.zero_le _)
/-- What is left of 1. -/
theorem one_sub {y : Nat} (hy : Nn 0 y ∨ Zr y) : F6.sub 4607182418800017408 y = some (dR (p2 2148 - dv y)) ∧ Nn 0 (dR (p2 2148 - dv y)) := by
  have h1 : Nn 0 4607182418800017408 := nn_small (by omega) (by omega)
  have d1 : dv 4607182418800017408 = p2 2148 := by rw [dv_small (by omega)]; exact dW_pw 0
  have hf : ffin F6 y ∧ fval F6 2148 y = (dv y : Int) ∧ dv y ≤ p2 2148 := by
    rcases hy with h | h
    · exact ⟨h.fin (by omega), h.val, h.dv_le⟩
    · exact ⟨h.fin, by rw [h.val, dv_zr h, Int.natCast_zero], by rw [dv_zr h]; exact Nat.zero_le _⟩
  have h := sub_num F6 2148 F6_hF F6_hc (h1.fin (by omega)) hf.1
  rw [h1.val, hf.2.1, h1.1, d1] at h
  have hd := hf.2.2
  generalize hD : dv y = d at *
  generalize hP : p2 2148 = P at *
  have e : ((P : Nat) : Int) - (d : Int) = ((P - d : Nat) : Int) := by omega
  rw [e, Int.natAbs_natCast] at h
  have hs : (if ((P - d : Nat) : Int) = 0 then false && !fsg F6 y else decide (((P - d : Nat) : Int) < 0)) = false := by
    split
    · rfl
    · simp
  rw [hs, pos_word] at h
  rw [show fR F6 2148 (P - d) = dR (P - d) by unfold dR; rfl] at h
  refine ⟨h, nn_small (dR_le (by omega) ?_) (by omega)⟩
  rw [dW_pw, show 2148 + 0 = 2148 from rfl, hP]
  omega
/-- How two numbers that are not below 0 stand. -/
theorem order_nn {k x y : Nat} (hk : k ≤ 1023) (hx : Nn k x) (hy : Nn k y) : F6.order x y = some (compare (frg F6 x) (frg F6 y)) := by
  rw [order_num F6 2148 F6_hc (hx.fin hk) (hy.fin hk), hx.val, hy.val]
  have h1 : (dv x : Int) < (dv y : Int) ↔ frg F6 x < frg F6 y := by unfold dv; rw [Int.ofNat_lt]; exact dW_lt_iff
  have h2 : (dv x : Int) = (dv y : Int) ↔ frg F6 x = frg F6 y := by
    refine ⟨fun h => ?_, fun h => by unfold dv; rw [h]⟩
    have h3 : dv x = dv y := Int.ofNat.inj h
    unfold dv at h3
    have a := dW_le_iff.1 (Nat.le_of_eq h3)
    have b := dW_le_iff.1 (Nat.le_of_eq h3.symm)
    omega
  simp only [compare, compareOfLessAndEq, h1, h2]
/-- The test 'from 0 to 1'. -/
def isCh (x : Nat) : Bool := (F6.order 0 x == some .lt || F6.order 0 x == some .eq) && (F6.order x 4607182418800017408 == some .lt || F6.order x 4607182418800017408 == some .eq)
theorem isCh_ok {x : Nat} (h : isCh x = true) : Nn 0 x ∨ Zr x := by
  simp only [isCh, Bool.and_eq_true, Bool.or_eq_true, beq_iff_eq] at h
  have f0 : ffin F6 0 := Zr.fin (show frg F6 0 = 0 from rfl)
  have h1 : Nn 0 4607182418800017408 := nn_small (by omega) (by omega)
  have hf := order_two F6 F6_bI f0 (h1.fin (by omega)) h.1 h.2
  rw [order_num F6 2148 F6_hc f0 hf, order_num F6 2148 F6_hc hf (h1.fin (by omega)), h1.val, Zr.val (show frg F6 0 = 0 from rfl)] at h
  have e1 : 0 ≤ fval F6 2148 x := by
    rcases h.1 with h | h
    · have := Int.compare_eq_lt.1 (Option.some.inj h); omega
    · have := Int.compare_eq_eq.1 (Option.some.inj h); omega
  have e2 : fval F6 2148 x ≤ dv 4607182418800017408 := by
    rcases h.2 with h | h
    · have := Int.compare_eq_lt.1 (Option.some.inj h); omega
    · have := Int.compare_eq_eq.1 (Option.some.inj h); omega
  by_cases hz : frg F6 x = 0
  · exact .inr hz
  · left
    have hp := fW_pos F6 2148 (Nat.pos_of_ne_zero hz)
    unfold fval sgn at e1 e2
    cases hs : fsg F6 x
    · rw [hs] at e2
      refine ⟨hs, ?_⟩
      rw [dv_small (by omega)] at e2
      rw [show fW F6 2148 (frg F6 x) = dW (frg F6 x) by unfold dW; rfl, if_neg (by simp)] at e2
      have : dW (frg F6 x) ≤ dW 4607182418800017408 := Int.ofNat_le.1 e2
      exact dW_le_iff.1 this
    · rw [hs] at e1
      rw [if_pos rfl] at e1
      omega
end Go.Proofs.Ytcfjinpjijcheab
