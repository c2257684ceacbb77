/-
  The risk as mathematics: P27.10.
-/
import Derived.Test.YtcfjinpjijcheabSy27
namespace Go.Proofs.Ytcfjinpjijcheab
open Go.RowKit
theorem isCh_zero : isCh 0 = true := by decide +kernel
theorem isCh_one : isCh 4607182418800017408 = true := by decide +kernel
theorem isCh_8 : isCh 4593671619917905920 = true := by decide +kernel
theorem fsu_zero : fsu 4607182418800017408 0 = 4607182418800017408 := by decide +kernel
theorem fsu_one : fsu 4607182418800017408 4607182418800017408 = 0 := by decide +kernel
theorem fad_00 : fad 0 0 = 0 := by decide +kernel
attribute [local irreducible] dW dR p2 fR fW fV fval sW sR
theorem cn_fr {k x : Nat} (h : Cn k x) (hk : k ≤ 1020) : frg F6 x = x := frg_small (by unfold Cn at h; omega)
theorem fmu_valk {k x y : Nat} (hk : k ≤ 1020) (hx : Cn k x) (hy : Nn 0 y) : fmu x y = dR (fV F6 (frg F6 x) * fV F6 (frg F6 y)) := by
  obtain ⟨r, h1, _, h3⟩ := mul_nn (k := k) (by omega) (hx.nn (by omega)) (.inl hy)
  unfold fmu
  rw [h1, Option.getD_some]
  exact (h3 hy).1
theorem cn_le_inf {k x : Nat} (hk : k ≤ 1020) (hx : Cn k x) : x ≤ 9218868437227405312 := by unfold Cn at hx; omega
theorem fmu_one {k x : Nat} (hk : k ≤ 1020) (hx : Cn k x) : fmu x 4607182418800017408 = x := by
  rw [fmu_valk hk hx ((cn_one 0).nn (by omega)), show frg F6 4607182418800017408 = 4607182418800017408 from frg_small (by omega), dV_one, ← dW_V, cn_fr hx hk, dR_W (cn_le_inf hk hx)]
theorem one_fmu {y : Nat} (hy : Nn 0 y) : fmu 4607182418800017408 y = frg F6 y := by
  rw [fmu_valk (k := 0) (by omega) (cn_one 0) hy, show frg F6 4607182418800017408 = 4607182418800017408 from frg_small (by omega), dV_one, Nat.mul_comm, ← dW_V, dR_W (by have := hy.2; omega)]
theorem fmu_zero {k x : Nat} (hk : k ≤ 1020) (hx : Cn k x) : fmu x 0 = 0 := by
  rw [fmu_valk hk hx ((cn_zero 0).nn (by omega)), show frg F6 0 = 0 from frg_small (by omega), fV_zero, Nat.mul_zero]
  have := dR_W (r := 0) (by omega)
  rw [dW_zero] at this
  exact this
theorem dv_cn {k x : Nat} (hk : k ≤ 1020) (hx : Cn k x) : dv x = dW x := cn_dv hx (by omega)
theorem fad_zero {k x : Nat} (hk : k ≤ 1020) (hx : Cn k x) : fad x 0 = x := by
  rw [(fad_ok (by omega) hx (.inl ((cn_zero k).nn (by omega)))).2.2, dv_cn hk hx, dv_cn (k := 0) (by omega) (cn_zero 0), dW_zero, Nat.add_zero, dR_W (cn_le_inf hk hx)]
theorem zero_fad {k x : Nat} (hk : k ≤ 1020) (hx : Cn k x) : fad 0 x = x := by
  rw [(fad_ok (by omega) (cn_zero k) (.inl (hx.nn (by omega)))).2.2, dv_cn hk hx, dv_cn (k := 0) (by omega) (cn_zero 0), dW_zero, Nat.zero_add, dR_W (cn_le_inf hk hx)]
theorem le_fad {k x y : Nat} (hk : k ≤ 1020) (hx : Cn k x) (hy : Cn k y) : x ≤ fad x y := by
  rw [(fad_ok (by omega) hx (.inl (hy.nn (by omega)))).2.2, dv_cn hk hx]
  exact le_dR (cn_le_inf hk hx) (Nat.le_add_right _ _)
theorem fin1_eq {k s : Nat} (h : Cn k s) (hk : k ≤ 1020) : fin1 s = min s 4607182418800017408 := by
  unfold fin1
  rw [fin_order h (by omega)]
  cases hc : compare s 4607182418800017408 with
  | gt => have := Nat.compare_eq_gt.1 hc; rw [if_pos (by rfl)]; omega
  | lt => have := Nat.compare_eq_lt.1 hc; rw [if_neg (by decide)]; omega
  | eq => have := Nat.compare_eq_eq.1 hc; rw [if_neg (by decide)]; omega
/-- The chance that more than m fail. -/
def chm (L : List Nat) (m : Nat) : Nat := fin1 (sdn (chl L) (L.length - m))
theorem chv_chm {L : List Nat} (h : ∀ f ∈ L, isCh f = true) (hl : L.length ≤ 255) (m : Nat) : chv L (m : Int) = (chm L m, 0) := by
  unfold chv chm
  rw [if_neg (by omega), if_neg, Int.toNat_natCast]
  rintro (h1 | h1)
  · omega
  · obtain ⟨y, hy, h2⟩ := List.any_eq_true.1 h1
    rw [h y hy] at h2
    cases h2
theorem chl_cn {L : List Nat} (h : ∀ f ∈ L, isCh f = true) (hl : L.length ≤ 255) : ∀ x ∈ chl L, Cn 255 x := by
  intro x hx
  have := chl_all h L.length (Nat.le_refl _) (by omega)
  rw [List.take_length] at this
  exact (this x hx).mono hl
theorem sdn_mono {l : List Nat} (h : ∀ x ∈ l, Cn 255 x) (t d : Nat) (ht : t + d ≤ 600) : sdn l t ≤ sdn l (t + d) := by
  induction d with
  | zero => exact Nat.le_refl _
  | succ d ih =>
    refine Nat.le_trans (ih (by omega)) ?_
    show sdn l (t + d) ≤ fad (sdn l (t + d)) (l.getD (l.length - 1 - (t + d)) 0)
    exact le_fad (k := 255 + (t + d)) (by omega) (sdn_all h (t + d) (by omega)) ((get_all h _).mono (by omega))
theorem chm_cn {L : List Nat} (h : ∀ f ∈ L, isCh f = true) (hl : L.length ≤ 255) (m : Nat) : Cn 0 (chm L m) := by
  unfold chm
  rw [fin1_eq (sdn_all (chl_cn h hl) (L.length - m) (by omega)) (by omega)]
  unfold Cn
  omega
theorem chm_mono {L : List Nat} (h : ∀ f ∈ L, isCh f = true) (hl : L.length ≤ 255) (m : Nat) : chm L (m + 1) ≤ chm L m := by
  unfold chm
  rw [fin1_eq (sdn_all (chl_cn h hl) _ (by omega)) (by omega), fin1_eq (sdn_all (chl_cn h hl) _ (by omega)) (by omega)]
  have := sdn_mono (chl_cn h hl) (L.length - (m + 1)) (L.length - m - (L.length - (m + 1))) (by omega)
  rw [show L.length - (m + 1) + (L.length - m - (L.length - (m + 1))) = L.length - m by omega] at this
  omega
theorem fin1_zero : fin1 0 = 0 := by rw [fin1_eq (cn_zero 0) (by omega)]; omega
theorem chm_top {L : List Nat} (m : Nat) (hm : L.length ≤ m) : chm L m = 0 := by
  unfold chm
  rw [show L.length - m = 0 by omega]
  exact fin1_zero
/-- None of them fails. -/
theorem chl_zeros (t : Nat) (ht : t ≤ 255) : ∀ j, 1 ≤ j → (chl (List.replicate t 0)).getD j 0 = 0 := by
  induction t with
  | zero => intro j hj; simp [chl, List.getD, show j ≠ 0 by omega]
  | succ t ih =>
    intro j hj
    have hcn := chl_cn (L := List.replicate t 0) (fun f hf => by obtain ⟨-, rfl⟩ := List.mem_replicate.1 hf; exact isCh_zero) (by simp; omega)
    rw [List.replicate_succ', chl_snoc]
    have hlen : (chl (List.replicate t 0)).length = t + 1 := by rw [chl_len]; simp
    by_cases hjl : j < t + 2
    · have e : (stp (chl (List.replicate t 0)) 0).getD j 0 = cel (chl (List.replicate t 0)) 0 j := by
        unfold stp
        simp [List.getD, hlen, show j < t + 1 + 1 by omega]
      rw [e]
      unfold cel
      have e1 : stn (chl (List.replicate t 0)) 0 j = 0 := by
        unfold stn
        split
        · rw [ih (by omega) j hj, fsu_zero]; exact fmu_one (k := 0) (by omega) (cn_zero 0)
        · rfl
      have e2 : fls (chl (List.replicate t 0)) 0 j = 0 := by
        unfold fls
        rw [if_pos (by omega)]
        exact fmu_zero (k := 255) (by omega) (get_all hcn _)
      rw [e1, e2, fad_00]
    · simp [List.getD, stp_len, hlen, show ¬ j < t + 1 + 1 by omega]
theorem sdn_zeros {l : List Nat} (h : ∀ j, 1 ≤ j → l.getD j 0 = 0) : ∀ t, t + 1 ≤ l.length → sdn l t = 0
  | 0, _ => rfl
  | t + 1, ht => by
    show fad (sdn l t) _ = 0
    rw [sdn_zeros h t (by omega), h _ (by omega), fad_00]
theorem chm_zeros (t : Nat) (ht : t ≤ 255) (m : Nat) : chm (List.replicate t 0) m = 0 := by
  unfold chm
  rw [sdn_zeros (chl_zeros t ht) _ (by rw [chl_len]; simp)]
  exact fin1_zero
/-- All of them fail. -/
theorem chl_ones (t : Nat) (ht : t ≤ 255) : (chl (List.replicate t 4607182418800017408)).getD t 0 = 4607182418800017408 ∧ ∀ j, j < t → (chl (List.replicate t 4607182418800017408)).getD j 0 = 0 := by
  induction t with
  | zero => exact ⟨rfl, fun j hj => by omega⟩
  | succ t ih =>
    obtain ⟨i1, i2⟩ := ih (by omega)
    have hcn := chl_cn (L := List.replicate t 4607182418800017408) (fun f hf => by obtain ⟨-, rfl⟩ := List.mem_replicate.1 hf; exact isCh_one) (by simp; omega)
    rw [List.replicate_succ', chl_snoc]
    have hlen : (chl (List.replicate t 4607182418800017408)).length = t + 1 := by rw [chl_len]; simp
    have e : ∀ j, j < t + 2 → (stp (chl (List.replicate t 4607182418800017408)) 4607182418800017408).getD j 0 = fls (chl (List.replicate t 4607182418800017408)) 4607182418800017408 j := by
      intro j hj
      have e0 : (stp (chl (List.replicate t 4607182418800017408)) 4607182418800017408).getD j 0 = cel (chl (List.replicate t 4607182418800017408)) 4607182418800017408 j := by
        unfold stp
        simp [List.getD, hlen, show j < t + 1 + 1 by omega]
      rw [e0]
      unfold cel
      have e1 : stn (chl (List.replicate t 4607182418800017408)) 4607182418800017408 j = 0 := by
        unfold stn
        split
        · rw [fsu_one]; exact fmu_zero (k := 255) (by omega) (get_all hcn _)
        · rfl
      have e2 : Cn 255 (fls (chl (List.replicate t 4607182418800017408)) 4607182418800017408 j) := by
        unfold fls
        split
        · rw [fmu_one (k := 255) (by omega) (get_all hcn _)]; exact get_all hcn _
        · exact cn_zero _
      rw [e1]
      exact zero_fad (by omega) e2
    have f : ∀ j, 0 < j → fls (chl (List.replicate t 4607182418800017408)) 4607182418800017408 j = (chl (List.replicate t 4607182418800017408)).getD (j - 1) 0 := by
      intro j hj
      unfold fls
      rw [if_pos hj]
      exact fmu_one (k := 255) (by omega) (get_all hcn _)
    refine ⟨?_, fun j hj => ?_⟩
    · rw [e _ (by omega), f _ (by omega), Nat.add_sub_cancel, i1]
    · rw [e _ (by omega)]
      by_cases hj0 : 0 < j
      · rw [f _ hj0]; exact i2 _ (by omega)
      · unfold fls; rw [if_neg hj0]
theorem sdn_ones (t : Nat) (ht : t ≤ 255) : ∀ d, 1 ≤ d → d ≤ t → sdn (chl (List.replicate t 4607182418800017408)) d = 4607182418800017408 := by
  obtain ⟨i1, i2⟩ := chl_ones t ht
  have hlen : (chl (List.replicate t 4607182418800017408)).length = t + 1 := by rw [chl_len]; simp
  intro d
  induction d with
  | zero => intro h; omega
  | succ d ih =>
    intro _ hd
    show fad (sdn _ d) _ = _
    rw [hlen]
    by_cases h0 : d = 0
    · subst h0
      rw [show t + 1 - 1 - 0 = t by omega, i1]
      exact zero_fad (k := 0) (by omega) (cn_one 0)
    · rw [ih (by omega) (by omega), i2 _ (by omega)]
      exact fad_zero (k := 0) (by omega) (cn_one 0)
theorem chm_ones (t : Nat) (ht : t ≤ 255) (m : Nat) (hm : m < t) : chm (List.replicate t 4607182418800017408) m = 4607182418800017408 := by
  unfold chm
  rw [List.length_replicate, sdn_ones t ht (t - m) (by omega) (by omega), fin1_eq (cn_one 0) (by omega)]
  omega
/-- One drive's chance is its own number. -/
theorem chm_one {y : Nat} (h : isCh y = true) : F6.order (chm [y] 0) y = some .eq := by
  have hy := isCh_ok h
  have hc : chl [y] = stp [4607182418800017408] y := rfl
  have e1 : (stp [4607182418800017408] y).getD 1 0 = fad 0 (fmu 4607182418800017408 y) := by simp [stp, List.getD, cel, stn, fls]
  have hs : sdn (chl [y]) 1 = fad 0 (fad 0 (fmu 4607182418800017408 y)) := by
    show fad 0 _ = _
    rw [hc, stp_len]
    show fad 0 ((stp [4607182418800017408] y).getD 1 0) = _
    rw [e1]
  have key : ∃ r, Cn 0 r ∧ fad 0 (fad 0 (fmu 4607182418800017408 y)) = r ∧ fval F6 2148 y = (dW r : Int) ∧ ffin F6 y := by
    rcases hy with hy | hy
    · have hr : Cn 0 (frg F6 y) := hy.2
      refine ⟨frg F6 y, hr, ?_, hy.val, hy.fin (by omega)⟩
      rw [one_fmu hy, zero_fad (k := 0) (by omega) hr, zero_fad (k := 0) (by omega) hr]
    · refine ⟨0, cn_zero 0, ?_, by rw [hy.val, dW_zero]; rfl, hy.fin⟩
      obtain ⟨-, h2, -⟩ := fmu_ok (k := 0) (x := 4607182418800017408) (by omega) (cn_one 0) (.inr hy)
      obtain ⟨r, h3, h4, h5⟩ := mul_nn (k := 0) (x := 4607182418800017408) (by omega) ((cn_one 0).nn (by omega)) (.inr hy)
      have hz : Zr (fmu 4607182418800017408 y) := by
        have hm := mul_num F6 2148 F6_hF F6_hc (by rw [F6_2c]; decide) (((cn_one 0).nn (k := 0) (by omega)).fin (by omega)) hy.fin
        unfold Zr at hy ⊢
        unfold fmu
        rw [hm, Option.getD_some, hy, fV_zero, Nat.mul_zero, Nat.zero_mul]
        have e0 : fR F6 2148 0 = 0 := by
          have := dR_W (r := 0) (by omega)
          rw [dW_zero] at this
          unfold dR at this
          exact this
        rw [e0]
        exact frg_word F6 _ (Nat.zero_le _)
      rw [(fad_ok (k := 0) (by omega) (cn_zero 0) (.inr hz)).2.2, dv_zr hz, Nat.add_zero, dv_cn (k := 0) (by omega) (cn_zero 0), dR_W (by omega), fad_00]
  obtain ⟨r, hr, e, hv, hf⟩ := key
  have hch : chm [y] 0 = r := by
    unfold chm
    show fin1 (sdn (chl [y]) 1) = r
    rw [hs, e, fin1_eq hr (by omega)]
    unfold Cn at hr
    omega
  rw [hch, order_num F6 2148 F6_hc ((hr.nn (by omega)).fin (by omega)) hf, (hr.nn (k := 0) (by omega)).val, hv, cn_dv hr (by omega), Int.compare_eq_eq.2 rfl]
end Go.Proofs.Ytcfjinpjijcheab
