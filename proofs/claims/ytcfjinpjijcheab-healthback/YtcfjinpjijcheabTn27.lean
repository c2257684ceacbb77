/-
  Sums of samples, as mathematics.
-/
import Derived.Test.YtcfjinpjijcheabCm27
namespace Go.Proofs.Ytcfjinpjijcheab
open Go.RowKit
attribute [local irreducible] dR dW p2 fR fW fV
theorem i64_and3 (n : Int) : bits .and .i64 n 3 = n % 4 := by
  have h3 : (BitVec.ofInt 64 3).toNat = 2 ^ 2 - 1 := by decide
  have key : (BitVec.ofInt 64 n &&& BitVec.ofInt 64 3).toNat = (n % ((2 ^ 64 : Nat) : Int)).toNat % 2 ^ 2 := by
    rw [BitVec.toNat_and, BitVec.toNat_ofInt, h3, Nat.and_two_pow_sub_one_eq_mod]
  show IntKind.i64.wrap ((BitVec.ofInt 64 n &&& BitVec.ofInt 64 3).toNat : Nat) = n % 4
  rw [key, IntKind.wrap_i64]
  omega
/-- 2 to the power 40, in units of 2 to the power -2148. -/
def sS : Nat := p2 2188
theorem sS_pos : 0 < sS := p2_pos _
/-- A multiple of it stands on a rung. -/
theorem sS_rung (t : Nat) (h : t ≤ 1048576) : ∃ r, dW r = t * sS ∧ r ≤ 9218868437227405312 := by
  obtain ⟨d, hd⟩ : ∃ d, d = 1114 := ⟨_, rfl⟩
  obtain ⟨r, e, hr⟩ := rep F6 t d (by rw [F6_B]; omega)
  rw [p2_eq d, hd] at e
  rw [F6_B] at hr
  refine ⟨r, ?_, by omega⟩
  rw [dW_V, e, Nat.mul_assoc, ← p2_add]
  rfl
/-- A sample. -/
def Sm (x : Nat) : Prop := ffin F6 x ∧ (fval F6 2148 x).natAbs ≤ sS
theorem frg_neg : frg F6 14010698440749613056 = 4787326403894837248 := by decide +kernel
theorem fsg_neg : fsg F6 14010698440749613056 = true := by decide +kernel
theorem frg_hi : frg F6 4787326403894837248 = 4787326403894837248 := by decide +kernel
theorem fsg_hi : fsg F6 4787326403894837248 = false := by decide +kernel
theorem dW_hi : fW F6 2148 4787326403894837248 = sS := by
  have := dW_pw 40
  unfold dW at this
  exact this
theorem fval_hi : fval F6 2148 4787326403894837248 = (sS : Int) := by
  unfold fval sgn
  rw [fsg_hi, frg_hi, if_neg (by simp)]
  exact congrArg Int.ofNat dW_hi
theorem fval_lo : fval F6 2148 14010698440749613056 = -(sS : Int) := by
  unfold fval sgn
  rw [fsg_neg, frg_neg, if_pos rfl]
  exact congrArg (fun k : Nat => -(k : Int)) dW_hi
attribute [local irreducible] fval sS
theorem isSa_ok {x : Nat} (h : isSa x = true) : Sm x := by
  simp only [isSa, Bool.and_eq_true, Bool.or_eq_true, beq_iff_eq] at h
  have f0 : ffin F6 14010698440749613056 := by unfold ffin; rw [frg_neg, F6_I]; omega
  have f1 : ffin F6 4787326403894837248 := by unfold ffin; rw [frg_hi, F6_I]; omega
  have hf := order_two F6 F6_bI f0 f1 h.1 h.2
  rw [order_num F6 2148 F6_hc f0 hf, order_num F6 2148 F6_hc hf f1, fval_hi, fval_lo] at h
  have e1 : -(sS : Int) ≤ fval F6 2148 x := by
    rcases h.1 with h | h
    · have := Int.compare_eq_lt.1 (Option.some.inj h); omega
    · have := Int.compare_eq_eq.1 (Option.some.inj h); omega
  have e2 : fval F6 2148 x ≤ (sS : Int) := by
    rcases h.2 with h | h
    · have := Int.compare_eq_lt.1 (Option.some.inj h); omega
    · have := Int.compare_eq_eq.1 (Option.some.inj h); omega
  exact ⟨hf, by omega⟩
/-- A sum of t samples or fewer: no zero with a sign, in its own bits. -/
structure Ac (t R : Nat) : Prop where
  fin : ffin F6 R
  can : R = F6.word (fsg F6 R) (frg F6 R)
  nz : fsg F6 R = true → frg F6 R ≠ 0
  bd : (fval F6 2148 R).natAbs ≤ t * sS
theorem fval_sg {x : Nat} : (fsg F6 x = true → fval F6 2148 x = -(dv x : Int)) ∧ (fsg F6 x = false → fval F6 2148 x = (dv x : Int)) := by
  unfold fval sgn dv dW
  constructor <;> intro h <;> rw [h]
  · rw [if_pos rfl]
  · rw [if_neg (by simp)]
theorem dv_pos {x : Nat} (h : frg F6 x ≠ 0) : 0 < dv x := by unfold dv dW; exact fW_pos F6 2148 (Nat.pos_of_ne_zero h)
theorem Ac.zero (t : Nat) : Ac t 0 := by
  have h0 : frg F6 0 = 0 := rfl
  have h1 : fsg F6 0 = false := rfl
  refine ⟨Zr.fin h0, rfl, by rw [h1]; simp, ?_⟩
  rw [Zr.val h0]; simp
theorem Ac.mono {t u R : Nat} (h : Ac t R) (hu : t ≤ u) : Ac u R := ⟨h.fin, h.can, h.nz, Nat.le_trans h.bd (Nat.mul_le_mul_right _ hu)⟩
theorem Ac.neg {t R : Nat} (h : Ac t R) (hs : fsg F6 R = true) : fval F6 2148 R < 0 := by
  rw [fval_sg.1 hs]
  have := dv_pos (h.nz hs)
  omega
theorem Ac.pos {R : Nat} (hs : fsg F6 R = false) : 0 ≤ fval F6 2148 R := by
  rw [fval_sg.2 hs]
  omega
theorem dW_mul (r : Nat) : dW r = fV F6 r * p2 1074 := dW_V r
theorem fval_unit (x : Nat) : ∃ z : Int, fval F6 2148 x = z * (p2 1074 : Int) := by
  cases h : fsg F6 x
  · exact ⟨(fV F6 (frg F6 x) : Int), by rw [fval_sg.2 h]; unfold dv; rw [dW_V, Int.natCast_mul]⟩
  · exact ⟨-(fV F6 (frg F6 x) : Int), by rw [fval_sg.1 h]; unfold dv; rw [dW_V, Int.natCast_mul, Int.neg_mul]⟩
/-- The rounded sum of two. -/
theorem ac_round {t : Nat} {T : Int} {s : Bool} (ht : t ≤ 1048576) (hT : T.natAbs ≤ t * sS) (hu : ∃ z : Int, T = z * (p2 1074 : Int)) (hs : T = 0 → s = false) :
    Ac t (F6.word (if T = 0 then s else decide (T < 0)) (dR T.natAbs)) := by
  obtain ⟨r, hr, hr2⟩ := sS_rung t ht
  have hle : dR T.natAbs ≤ r := dR_le hr2 (by rw [hr]; exact hT)
  have hI : dR T.natAbs ≤ F6.infRung := by rw [F6_I]; omega
  obtain ⟨σ, hσ⟩ : ∃ σ, (if T = 0 then s else decide (T < 0)) = σ := ⟨_, rfl⟩
  rw [hσ]
  have e1 := fsg_word F6 σ hI
  have e2 := frg_word F6 σ hI
  have hlt : r < 9218868437227405312 := by
    have h1 : dW r ≤ 1048576 * sS := by rw [hr]; exact Nat.mul_le_mul_right _ ht
    have h2 : 1048576 * sS = dW ((1023 + 60) * 4503599627370496) := by
      rw [dW_pw]; unfold sS; rw [show 2148 + 60 = 20 + 2188 from rfl, p2_add]; congr 1; unfold p2; decide
    rw [h2] at h1
    have := dW_le_iff.1 h1
    omega
  refine ⟨by unfold ffin; rw [e2, F6_I]; omega, by rw [e1, e2], ?_, ?_⟩
  · rw [e1, e2]
    intro h1 h2
    by_cases h0 : T = 0
    · rw [if_pos h0, hs h0] at hσ
      rw [← hσ] at h1; cases h1
    · obtain ⟨z, hz⟩ := hu
      have hz0 : z ≠ 0 := by rintro rfl; rw [Int.zero_mul] at hz; exact h0 hz
      have : dW 1 ≤ T.natAbs := by
        rw [dW_V, hz, Int.natAbs_mul, Int.natAbs_natCast]
        refine Nat.mul_le_mul_right _ ?_
        have : fV F6 1 = 1 := by unfold fV; rw [if_pos (by rw [F6_B]; omega)]
        omega
      have := le_dR (r := 1) (by omega) this
      omega
  · have hv : (fval F6 2148 (F6.word σ (dR T.natAbs))).natAbs = dW (dR T.natAbs) := by
      unfold fval sgn dW
      rw [e1, e2]
      cases σ <;> simp
    rw [hv, ← hr]
    exact dW_le hle
theorem add_ac {t R x : Nat} (ht : t ≤ 1000000) (h : Ac t R) (hx : Sm x) : F6.add R x = some (fad R x) ∧ Ac (t + 1) (fad R x) := by
  have e := add_num F6 2148 F6_hF F6_hc h.fin hx.1
  have key := ac_round (t := t + 1) (T := fval F6 2148 R + fval F6 2148 x) (s := fsg F6 R && fsg F6 x) (by omega) (by
    have := h.bd; have := hx.2; rw [Nat.add_mul, Nat.one_mul]; omega) (by
    obtain ⟨a, ha⟩ := fval_unit R
    obtain ⟨b, hb⟩ := fval_unit x
    exact ⟨a + b, by rw [ha, hb, Int.add_mul]⟩) (fun h0 => by
    cases hs : fsg F6 R
    · rfl
    · cases hx' : fsg F6 x
      · rfl
      · have := h.neg hs
        have := fval_sg.1 hx'
        omega)
  have : fad R x = F6.word (if fval F6 2148 R + fval F6 2148 x = 0 then fsg F6 R && fsg F6 x else decide (fval F6 2148 R + fval F6 2148 x < 0)) (dR (fval F6 2148 R + fval F6 2148 x).natAbs) := by
    unfold fad; rw [e, Option.getD_some]; unfold dR; rfl
  rw [this]
  exact ⟨by rw [e]; unfold dR; rfl, key⟩
theorem sub_ac {t R x : Nat} (ht : t ≤ 1000000) (h : Ac t R) (hx : Sm x) : F6.sub R x = some (fsu R x) ∧ Ac (t + 1) (fsu R x) := by
  have e := sub_num F6 2148 F6_hF F6_hc h.fin hx.1
  have key := ac_round (t := t + 1) (T := fval F6 2148 R - fval F6 2148 x) (s := fsg F6 R && !fsg F6 x) (by omega) (by
    have := h.bd; have := hx.2; rw [Nat.add_mul, Nat.one_mul]; omega) (by
    obtain ⟨a, ha⟩ := fval_unit R
    obtain ⟨b, hb⟩ := fval_unit x
    exact ⟨a - b, by rw [ha, hb, Int.sub_mul]⟩) (fun h0 => by
    cases hs : fsg F6 R
    · rfl
    · cases hx' : fsg F6 x
      · have := h.neg hs
        have := fval_sg.2 hx'
        omega
      · rfl)
  have : fsu R x = F6.word (if fval F6 2148 R - fval F6 2148 x = 0 then fsg F6 R && !fsg F6 x else decide (fval F6 2148 R - fval F6 2148 x < 0)) (dR (fval F6 2148 R - fval F6 2148 x).natAbs) := by
    unfold fsu; rw [e, Option.getD_some]; unfold dR; rfl
  rw [this]
  exact ⟨by rw [e]; unfold dR; rfl, key⟩
theorem ac_self {t R : Nat} (h : Ac t R) (s : Bool) (hs : fval F6 2148 R = 0 → s = false) : F6.word (if fval F6 2148 R = 0 then s else decide (fval F6 2148 R < 0)) (dR (fval F6 2148 R).natAbs) = R := by
  have hI : frg F6 R ≤ 9218868437227405312 := by have := h.fin; unfold ffin at this; rw [F6_I] at this; omega
  have e1 : (fval F6 2148 R).natAbs = dW (frg F6 R) := by
    cases hs : fsg F6 R
    · rw [fval_sg.2 hs]; rfl
    · rw [fval_sg.1 hs, Int.natAbs_neg]; rfl
  have e2 : (if fval F6 2148 R = 0 then s else decide (fval F6 2148 R < 0)) = fsg F6 R := by
    cases hg : fsg F6 R
    · have := Ac.pos hg
      split
      · rename_i h0; exact hs h0
      · simp; omega
    · have := h.neg hg
      rw [if_neg (by omega)]
      simp [this]
  rw [e1, e2, dR_W hI]
  exact h.can.symm
theorem zero_fin : ffin F6 0 := Zr.fin (show frg F6 0 = 0 from rfl)
theorem zero_val : fval F6 2148 0 = 0 := Zr.val (show frg F6 0 = 0 from rfl)
theorem add_zero_ac {t R : Nat} (h : Ac t R) : F6.add R 0 = some R := by
  have e := add_num F6 2148 F6_hF F6_hc h.fin zero_fin
  rw [zero_val, Int.add_zero] at e
  rw [e]
  congr 1
  have := ac_self h (fsg F6 R && fsg F6 0) (fun _ => by rw [show fsg F6 0 = false from rfl, Bool.and_false])
  unfold dR at this
  exact this
theorem sub_zero_ac {t R : Nat} (h : Ac t R) : F6.sub R 0 = some R := by
  have e := sub_num F6 2148 F6_hF F6_hc h.fin zero_fin
  rw [zero_val, Int.sub_zero] at e
  rw [e]
  congr 1
  have := ac_self h (fsg F6 R && !fsg F6 0) (fun h0 => by
    cases hs : fsg F6 R
    · rfl
    · have := h.neg hs; omega)
  unfold dR at this
  exact this
theorem order_ac {t R : Nat} (h : Ac t R) : F6.order R R = some .eq := by
  rw [order_num F6 2148 F6_hc h.fin h.fin, Int.compare_eq_eq.2 rfl]
theorem order_zero {t R : Nat} (h : Ac t R) (h0 : R ≠ 0) : (F6.order R 0 == some .eq) = false := by
  rw [order_num F6 2148 F6_hc h.fin zero_fin, zero_val]
  have : fval F6 2148 R ≠ 0 := by
    intro e
    cases hs : fsg F6 R
    · rw [fval_sg.2 hs] at e
      have : frg F6 R = 0 := Classical.byContradiction fun h2 => by have := dv_pos h2; omega
      have hc := h.can
      rw [hs, this] at hc
      exact h0 hc
    · have := h.neg hs; omega
  cases hc : compare (fval F6 2148 R) 0 with
  | eq => exact absurd (Int.compare_eq_eq.1 hc) this
  | lt => rfl
  | gt => rfl
theorem div_zero : F6.div 4607182418800017408 0 = some 9218868437227405312 := by decide +kernel
theorem inf_zero : (F6.order 9218868437227405312 0 == some .lt) = false := by decide +kernel
theorem div_ac {t R : Nat} (h : Ac t R) (h0 : R ≠ 0) : ∃ r, F6.div 4607182418800017408 R = some r := by
  obtain ⟨m, i, e1, -, -⟩ := read_fin F6 (show ffin F6 4607182418800017408 from (cn_one 0).nn (by omega) |>.fin (by omega))
  obtain ⟨n, j, e2, h3, h4⟩ := read_fin F6 h.fin
  unfold Ieee.Format.div
  rw [e1, e2]
  have hn : n ≠ 0 := by
    rintro rfl
    rw [Nat.zero_mul] at h4
    have hz : frg F6 R = 0 := by
      refine Classical.byContradiction fun h5 => ?_
      have := fV_lt F6 (Nat.pos_of_ne_zero h5)
      rw [fV_zero] at this
      omega
    cases hs : fsg F6 R
    · have hc := h.can
      rw [hs, hz] at hc
      exact h0 hc
    · exact h.nz hs hz
  simp only [Ieee.Datum.quotient, if_neg hn, Option.map_some]
  exact ⟨_, rfl⟩
end Go.Proofs.Ytcfjinpjijcheab
