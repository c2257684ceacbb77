/-
  Numbers of 32 bits: to 64 bits and back; a score that is told.
-/
import Derived.Test.YtcfjinpjijcheabCh27
namespace Go.Proofs.Ytcfjinpjijcheab
open Ieee
attribute [local irreducible] dW dR p2 fR fW fV fval
abbrev F3 : Format := FloatKind.f32.format
theorem F3_hF : 1 ≤ F3.fractionBits := by decide
theorem F3_lp : F3.leastPlace = -149 := by decide
theorem F3_hc : 0 ≤ F3.leastPlace + ((2148 : Nat) : Int) := by rw [F3_lp]; decide
theorem F3_B : F3.binade = 8388608 := by decide
theorem F3_I : F3.infRung = 2139095040 := by decide
theorem F3_bI : F3.binade ≤ F3.infRung := by rw [F3_B, F3_I]; decide
def sW (r : Nat) : Nat := fW F3 2148 r
def sR (x : Nat) : Nat := fR F3 2148 x
theorem sW_le {a b : Nat} (h : a ≤ b) : sW a ≤ sW b := fW_le F3 2148 h
theorem sW_lt {a b : Nat} (h : a < b) : sW a < sW b := fW_lt F3 2148 h
theorem sW_lt_iff {a b : Nat} : sW a < sW b ↔ a < b := ⟨fun h => Nat.lt_of_not_le fun h2 => by have := sW_le h2; omega, sW_lt⟩
theorem sW_zero : sW 0 = 0 := fW_zero F3 2148
theorem sR_mono {x y : Nat} (h : x ≤ y) : sR x ≤ sR y := fR_mono F3 2148 F3_hF F3_hc h
theorem sR_W {r : Nat} (h : r ≤ 2139095040) : sR (sW r) = r := fR_W F3 2148 F3_hF F3_hc (by rw [F3_I]; exact h)
theorem sW_V (r : Nat) : sW r = fV F3 r * p2 1999 := by
  have : fu F3 2148 = 1999 := by unfold fu; rw [F3_lp]; decide
  unfold sW fW
  rw [p2_eq (fu F3 2148), this]
/-- 1, and what stands beside it. -/
theorem fV_next (f : Format) (q : Nat) : fV f (q * f.binade + f.binade) = f.binade * 2 ^ q := fV_form f (.inr (Nat.le_refl _)) (by omega)
theorem sV_one : fV F3 1065353216 = p2 149 := by
  have h := fV_next F3 126
  rw [F3_B, p2_eq 126, show 126 * 8388608 + 8388608 = 1065353216 from rfl, show 8388608 = p2 23 by unfold p2; rfl, ← p2_add] at h
  exact h
theorem sW_one : sW 1065353216 = p2 2148 := by rw [sW_V, sV_one, ← p2_add]
theorem sW_up : sW 1065353217 = p2 2148 + p2 2125 := by
  have h := fV_succ F3 1065353216
  rw [p2_eq, F3_B, show 1065353216 / 8388608 - 1 = 126 by decide, sV_one] at h
  rw [sW_V, h, Nat.add_mul, ← p2_add, ← p2_add]
theorem sW_dn : sW 1065353215 + p2 2124 = p2 2148 := by
  have h := fV_succ F3 1065353215
  rw [p2_eq, F3_B, show 1065353215 / 8388608 - 1 = 125 by decide, sV_one] at h
  rw [sW_V, show p2 2124 = p2 125 * p2 1999 by rw [← p2_add], ← Nat.add_mul, ← h, ← p2_add]
theorem dV_one : fV F6 4607182418800017408 = p2 1074 := dV_pw 0
theorem dW_one : dW 4607182418800017408 = p2 2148 := dW_pw 0
theorem dW_up : dW 4607182418800017409 = p2 2148 + p2 2096 := by
  have h := fV_succ F6 4607182418800017408
  rw [p2_eq, F6_B, show 4607182418800017408 / 4503599627370496 - 1 = 1022 by decide, dV_one] at h
  rw [dW_V, h, Nat.add_mul, ← p2_add, ← p2_add]
theorem dW_dn : dW 4607182418800017407 + p2 2095 = p2 2148 := by
  have h := fV_succ F6 4607182418800017407
  rw [p2_eq, F6_B, show 4607182418800017407 / 4503599627370496 - 1 = 1021 by decide, dV_one] at h
  rw [dW_V, show p2 2095 = p2 1021 * p2 1074 by rw [← p2_add], ← Nat.add_mul, ← h, ← p2_add]
theorem dW_gap {r : Nat} (h : r < 4607182418800017408) : dW (r + 1) ≤ dW r + p2 2095 := by
  rw [dW_V, dW_V, fV_succ F6 r, p2_eq, Nat.add_mul, ← p2_add, F6_B]
  have : r / 4503599627370496 - 1 + 1074 ≤ 2095 := by omega
  have := p2_mono this
  omega
theorem nr_dW {x n : Nat} (h : Nr F6 2148 x n) : 2 * x ≤ dW n + dW (n + 1) ∧ ∀ m, n = m + 1 → dW m + dW n ≤ 2 * x := by
  unfold dW
  exact ⟨h.up, h.dn⟩
theorem nr_dR {x : Nat} (hx : x ≤ p2 2148) : Nr F6 2148 x (dR x) := by
  obtain ⟨n, h1, h2⟩ := nr_fR F6 2148 F6_hF F6_hc x
  have h3 : dR x ≤ 4607182418800017408 := dR_le (by omega) (by rw [dW_one]; exact hx)
  have h4 : dR x = min n F6.infRung := by unfold dR; exact h2
  rw [F6_I] at h4
  rwa [show dR x = n by omega]
/-- Rounding moves what is at most 1 by little. -/
theorem dR_near {x : Nat} (hx : x ≤ p2 2148) : x ≤ dW (dR x) + p2 2094 ∧ dW (dR x) ≤ x + p2 2094 := by
  have hn := nr_dR hx
  have h3 : dR x ≤ 4607182418800017408 := dR_le (by omega) (by rw [dW_one]; exact hx)
  have e : p2 2095 = 2 * p2 2094 := p2_succ 2094
  generalize dR x = n at *
  constructor
  · by_cases h : n < 4607182418800017408
    · have h1 : 2 * x ≤ dW n + dW (n + 1) := (nr_dW hn).1
      have h2 := dW_gap h
      omega
    · have : n = 4607182418800017408 := by omega
      rw [this, dW_one]; omega
  · by_cases h : n = 0
    · rw [h, dW_zero]; omega
    · obtain ⟨m, rfl⟩ : ∃ m, n = m + 1 := ⟨n - 1, by omega⟩
      have h1 : dW m + dW (m + 1) ≤ 2 * x := (nr_dW hn).2 m rfl
      have h2 := dW_gap (r := m) (by omega)
      omega
/-- A number of 32 bits stands on a rung of 64 bits. -/
theorem s_rung {r : Nat} (h : r < 2139095040) : dW (dR (sW r)) = sW r ∧ dR (sW r) < 9218868437227405312 := by
  obtain ⟨q, k, e, h1, h2, h3⟩ := f_split F3 r
  rw [F3_B] at e h1 h2 h3
  have hq : q ≤ 254 := by rw [h3]; omega
  have hv := fV_form F3 (q := q) (k := k) (by rw [F3_B]; exact h1) (by rw [F3_B]; omega)
  rw [F3_B, ← e, p2_eq q] at hv
  obtain ⟨t, ht⟩ : ∃ t, t = q + 925 := ⟨_, rfl⟩
  obtain ⟨ρ, e1, e2⟩ := rep F6 k t (by rw [F6_B]; omega)
  rw [p2_eq t] at e1
  rw [F6_B] at e2
  have hw : dW ρ = sW r := by
    rw [dW_V, e1, sW_V, hv, Nat.mul_assoc, Nat.mul_assoc, ← p2_add, ← p2_add, ht]
  have hρ : ρ < 9218868437227405312 := by
    have := Nat.mul_le_mul_right 4503599627370496 (show t ≤ 1179 by omega)
    omega
  rw [← hw, dR_W (Nat.le_of_lt hρ)]
  exact ⟨rfl, hρ⟩
def cv6 (b : Nat) : Nat := (floatToFloatBits .f32 b .f64).getD 0
def cv3 (b : Nat) : Nat := (floatToFloatBits .f64 b .f32).getD 0
theorem not_inf (f : Format) (s : Bool) {r : Nat} (h : r < f.infRung) : (f.read (f.word s r)).isInfinity = false := by
  have hf : ffin f (f.word s r) := by unfold ffin; rw [frg_word f s (Nat.le_of_lt h)]; exact h
  obtain ⟨m, p, e, _⟩ := read_fin f hf
  rw [e]; rfl
theorem cv6_ok {k : Nat} (h : frg F3 k < 2139095040) : floatToFloatBits .f32 k .f64 = some (cv6 k) ∧ cv6 k = F6.word (fsg F3 k) (dR (sW (frg F3 k))) := by
  obtain ⟨m, p, e, h1, h2⟩ := read_fin F3 (show ffin F3 k by unfold ffin; rw [F3_I]; exact h)
  have hX := fX_fW F3 2148 F3_hc h1 h2
  have hw : F6.write (.number (fsg F3 k) m p) = F6.word (fsg F3 k) (dR (sW (frg F3 k))) := by
    show F6.nearest _ _ _ = _
    rw [nearest_fR F6 2148 F6_hF F6_hc _ _ _ (by rw [F3_lp] at h1; omega), hX]
    unfold dR sW; rfl
  have key : floatToFloatBits .f32 k .f64 = some (F6.word (fsg F3 k) (dR (sW (frg F3 k)))) := by
    unfold floatToFloatBits
    rw [if_neg (by decide)]
    have e' : FloatKind.f32.decode k = .number (fsg F3 k) m p := e
    rw [e']
    dsimp only
    have hw' : FloatKind.f64.encode (.number (fsg F3 k) m p) = F6.word (fsg F3 k) (dR (sW (frg F3 k))) := hw
    rw [hw', show FloatKind.f64.decode (F6.word (fsg F3 k) (dR (sW (frg F3 k)))) = F6.read (F6.word (fsg F3 k) (dR (sW (frg F3 k)))) from rfl, not_inf F6 _ (by rw [F6_I]; exact (s_rung h).2)]
    rfl
  have e2 : cv6 k = F6.word (fsg F3 k) (dR (sW (frg F3 k))) := by unfold cv6; rw [key, Option.getD_some]
  exact ⟨by rw [key, e2], e2⟩
theorem cv3_ok {x : Nat} (hx : ffin F6 x) (h : sR (dv x) < 2139095040) : floatToFloatBits .f64 x .f32 = some (cv3 x) ∧ cv3 x = F3.word (fsg F6 x) (sR (dv x)) := by
  obtain ⟨m, p, e, h1, h2⟩ := read_fin F6 hx
  have hX := fX_fW F6 2148 F6_hc h1 h2
  have hw : F3.write (.number (fsg F6 x) m p) = F3.word (fsg F6 x) (sR (dv x)) := by
    show F3.nearest _ _ _ = _
    rw [nearest_fR F3 2148 F3_hF F3_hc _ _ _ (by rw [F6_lp] at h1; omega), hX]
    unfold sR dv dW; rfl
  have key : floatToFloatBits .f64 x .f32 = some (F3.word (fsg F6 x) (sR (dv x))) := by
    unfold floatToFloatBits
    rw [if_neg (by decide)]
    have e' : FloatKind.f64.decode x = .number (fsg F6 x) m p := e
    rw [e']
    dsimp only
    have hw' : FloatKind.f32.encode (.number (fsg F6 x) m p) = F3.word (fsg F6 x) (sR (dv x)) := hw
    rw [hw', show FloatKind.f32.decode (F3.word (fsg F6 x) (sR (dv x))) = F3.read (F3.word (fsg F6 x) (sR (dv x))) from rfl, not_inf F3 _ (by rw [F3_I]; exact h)]
    rfl
  have e2 : cv3 x = F3.word (fsg F6 x) (sR (dv x)) := by unfold cv3; rw [key, Option.getD_some]
  exact ⟨by rw [key, e2], e2⟩
/-- A keep: above 0 and below 1. A score: from 0 to 1, in its own bits. -/
def Kp (k : Nat) : Prop := fsg F3 k = false ∧ 0 < frg F3 k ∧ frg F3 k < 1065353216
def Sc (s : Nat) : Prop := s ≤ 1065353216
theorem Sc.sg {s : Nat} (h : Sc s) : fsg F3 s = false ∧ frg F3 s = s := by
  have h2 : s ≤ F3.infRung := by rw [F3_I]; unfold Sc at h; omega
  exact ⟨fsg_word F3 false h2, frg_word F3 false h2⟩
/-- A keep, as a number of 64 bits; a score. -/
theorem kp_cv {k : Nat} (h : Kp k) : floatToFloatBits .f32 k .f64 = some (cv6 k) ∧ Nn 0 (cv6 k) ∧ Cn 0 (cv6 k) ∧ dv (cv6 k) = sW (frg F3 k) := by
  have hf : frg F3 k < 2139095040 := by have := h.2.2; omega
  obtain ⟨h1, h2⟩ := cv6_ok hf
  obtain ⟨e1, e2⟩ := s_rung hf
  rw [h.1, pos_word] at h2
  have hc : Cn 0 (cv6 k) := by
    rw [h2]
    refine dR_le (by omega) ?_
    have := sW_le (show frg F3 k ≤ 1065353216 from Nat.le_of_lt h.2.2)
    rw [sW_one] at this
    rw [dW_pw]
    exact this
  refine ⟨h1, hc.nn (by omega), hc, ?_⟩
  rw [h2, dv_small (Nat.le_of_lt e2), e1]
theorem sc_cv {s : Nat} (h : Sc s) : floatToFloatBits .f32 s .f64 = some (cv6 s) ∧ Nn 0 (cv6 s) ∧ Cn 0 (cv6 s) ∧ dv (cv6 s) = sW s ∧ cv6 s = dR (sW s) := by
  have hf : frg F3 s < 2139095040 := by rw [h.sg.2]; unfold Sc at h; omega
  obtain ⟨h1, h2⟩ := cv6_ok hf
  obtain ⟨e1, e2⟩ := s_rung hf
  rw [h.sg.1, pos_word, h.sg.2] at h2
  rw [h.sg.2] at e1 e2
  have hc : Cn 0 (cv6 s) := by
    rw [h2]
    refine dR_le (by omega) ?_
    have := sW_le (show s ≤ 1065353216 from h)
    rw [sW_one] at this
    rw [dW_pw]
    exact this
  refine ⟨h1, hc.nn (by omega), hc, ?_, h2⟩
  rw [h2, dv_small (Nat.le_of_lt e2), e1]
theorem pos_word3 (r : Nat) : F3.word false r = r := rfl
/-- The score behind a Tell. -/
def tel (k s : Nat) (g : Bool) : Nat := cv3 (fad (fmu (cv6 k) (cv6 s)) (fmu (fsu 4607182418800017408 (cv6 k)) (if g then 4607182418800017408 else 0)))
theorem prod_val (x y : Nat) : fV F6 (frg F6 x) * fV F6 (frg F6 y) * p2 2148 = dv x * dv y := by
  unfold dv
  rw [dW_V, dW_V, show p2 2148 = p2 1074 * p2 1074 by rw [← p2_add]]
  simp only [Nat.mul_assoc, Nat.mul_comm, Nat.mul_left_comm]
theorem mul_le_of {P U a b : Nat} (hU : 0 < U) (h : P * U = a * b) (ha : a ≤ U) : P ≤ b := by
  refine Nat.le_of_mul_le_mul_right ?_ hU
  rw [h, Nat.mul_comm b]
  exact Nat.mul_le_mul_right _ ha
theorem fmu_val {x y : Nat} (hx : Cn 0 x) (hy : Nn 0 y) : fmu x y = dR (fV F6 (frg F6 x) * fV F6 (frg F6 y)) := by
  obtain ⟨r, h1, _, h3⟩ := mul_nn (k := 0) (by omega) (hx.nn (by omega)) (.inl hy)
  unfold fmu
  rw [h1, Option.getD_some]
  exact (h3 hy).1
theorem cn_dv {k x : Nat} (h : Cn k x) (hk : k ≤ 1023) : dv x = dW x := dv_small (by unfold Cn at h; omega)
/-- What a Tell does: every number on the way, and the score that comes of it. -/
theorem tel_ok {k s : Nat} (hk : Kp k) (hs : Sc s) (g : Bool) :
    (F6.mul (cv6 k) (cv6 s) = some (fmu (cv6 k) (cv6 s)) ∧ F6.sub 4607182418800017408 (cv6 k) = some (fsu 4607182418800017408 (cv6 k)) ∧
     F6.mul (fsu 4607182418800017408 (cv6 k)) (if g then 4607182418800017408 else 0) = some (fmu (fsu 4607182418800017408 (cv6 k)) (if g then 4607182418800017408 else 0)) ∧
     F6.add (fmu (cv6 k) (cv6 s)) (fmu (fsu 4607182418800017408 (cv6 k)) (if g then 4607182418800017408 else 0)) = some (fad (fmu (cv6 k) (cv6 s)) (fmu (fsu 4607182418800017408 (cv6 k)) (if g then 4607182418800017408 else 0))) ∧
     floatToFloatBits .f64 (fad (fmu (cv6 k) (cv6 s)) (fmu (fsu 4607182418800017408 (cv6 k)) (if g then 4607182418800017408 else 0))) .f32 = some (tel k s g)) ∧
    Sc (tel k s g) ∧ (g = false → tel k s g ≤ s) ∧ (g = true → s ≤ tel k s g) := by
  obtain ⟨-, kn, kc, kv⟩ := kp_cv hk
  obtain ⟨-, sn, sc, sv, se⟩ := sc_cv hs
  have hs1 : s ≤ 1065353216 := hs
  have hb : sW s ≤ p2 2148 := by rw [← sW_one]; exact sW_le hs1
  have ha : sW (frg F3 k) + p2 2124 ≤ p2 2148 := by
    have := sW_le (show frg F3 k ≤ 1065353215 by have := hk.2.2; omega)
    have := sW_dn
    omega
  have m1 := fmu_ok (k := 0) (by omega) kc (.inl sn)
  have p1 := fmu_val kc sn
  have pv := prod_val (cv6 k) (cv6 s)
  rw [kv, sv] at pv
  obtain ⟨u1, u2, u3⟩ := fsu_ok (.inl kn)
  rw [kv] at u3
  have uc : Cn 0 (fsu 4607182418800017408 (cv6 k)) := by rw [u3] at u2 ⊢; exact cn_dR u2 (dR_inf _)
  have gn : Nn 0 (if g then 4607182418800017408 else 0) := by cases g; exact nn_small (Nat.zero_le _) (by omega); exact (cn_one 0).nn (by omega)
  have m2 := fmu_ok (k := 0) (by omega) uc (.inl gn)
  have p3 := fmu_val uc gn
  obtain ⟨a1, a2, a3⟩ := fad_ok (k := 0) (by omega) (m1.2.2 sn) m2.2.1
  generalize hA : sW (frg F3 k) = A at *
  generalize hBv : sW s = B at *
  generalize hP : fV F6 (frg F6 (cv6 k)) * fV F6 (frg F6 (cv6 s)) = P at *
  have hU := p2_pos 2148
  have PB : P ≤ B := mul_le_of hU pv (by omega)
  have PA : P ≤ A := mul_le_of hU (by rw [pv, Nat.mul_comm]) hb
  -- the first product
  have d1 : dv (fmu (cv6 k) (cv6 s)) = dW (dR P) := by rw [p1]; exact dv_small (dR_inf _)
  have d1B : dW (dR P) ≤ B := by
    have h1 := dR_mono PB
    have h2 := dW_le h1
    have h3 := (s_rung (r := s) (by omega)).1
    rw [hBv] at h3
    omega
  have n1 := dR_near (show P ≤ p2 2148 by omega)
  have nu := dR_near (show p2 2148 - A ≤ p2 2148 by omega)
  have dU : dv (fsu 4607182418800017408 (cv6 k)) = dW (dR (p2 2148 - A)) := by rw [u3]; exact dv_small (dR_inf _)
  -- the second one
  have d2 : dv (fmu (fsu 4607182418800017408 (cv6 k)) (if g then 4607182418800017408 else 0)) = if g then dW (dR (p2 2148 - A)) else 0 := by
    rw [p3, dv_small (dR_inf _)]
    cases g
    · rw [if_neg (by simp), if_neg (by simp), show frg F6 0 = 0 from frg_small (by omega), fV_zero, Nat.mul_zero, ← dW_zero, dR_W (by omega)]
    · rw [if_pos rfl, if_pos rfl, show frg F6 4607182418800017408 = 4607182418800017408 from frg_small (by omega), dV_one, u3, frg_small (dR_inf _), ← dW_V, dR_W (dR_inf _)]
  rw [d1, d2] at a3
  have e0 : 2 * p2 2094 = p2 2095 := (p2_succ 2094).symm
  have e1 : 2 * p2 2095 = p2 2096 := (p2_succ 2095).symm
  have e2 : p2 2097 ≤ p2 2123 := p2_mono (by omega)
  have e3 : 2 * p2 2096 = p2 2097 := (p2_succ 2096).symm
  have e4 : 2 * p2 2123 = p2 2124 := (p2_succ 2123).symm
  have e5 : 2 * p2 2124 = p2 2125 := (p2_succ 2124).symm
  have e6 := p2_pos 2123
  -- what is rounded at last
  have hcase : Sc (sR (dW (fad (fmu (cv6 k) (cv6 s)) (fmu (fsu 4607182418800017408 (cv6 k)) (if g then 4607182418800017408 else 0))))) ∧
      (g = false → sR (dW (fad (fmu (cv6 k) (cv6 s)) (fmu (fsu 4607182418800017408 (cv6 k)) (if g then 4607182418800017408 else 0)))) ≤ s) ∧
      (g = true → s ≤ sR (dW (fad (fmu (cv6 k) (cv6 s)) (fmu (fsu 4607182418800017408 (cv6 k)) (if g then 4607182418800017408 else 0))))) := by
    rw [a3]
    cases g
    · rw [if_neg (by simp), Nat.add_zero, dR_W (dR_inf _)]
      have h : sR (dW (dR P)) ≤ s := by
        have := sR_mono d1B
        rw [← hBv, sR_W (by omega)] at this
        exact this
      exact ⟨Nat.le_trans h hs1, fun _ => h, (fun h => by cases h)⟩
    · rw [if_pos rfl]
      generalize hX : dW (dR P) + dW (dR (p2 2148 - A)) = X at *
      have hX1 : X ≤ dW 4607182418800017409 := by rw [dW_up]; omega
      have h1 : dW (dR X) ≤ p2 2148 + p2 2096 := by rw [← dW_up]; exact dW_le (dR_le (by omega) hX1)
      have top : sR (dW (dR X)) ≤ 1065353216 := by
        obtain ⟨n, q1, q2⟩ := nr_fR F3 2148 F3_hF F3_hc (dW (dR X))
        have q3 : sR (dW (dR X)) = min n F3.infRung := by unfold sR; exact q2
        refine Nat.le_of_not_lt fun hlt => ?_
        have hn : 1065353217 ≤ n := by omega
        obtain ⟨m, rfl⟩ : ∃ m, n = m + 1 := ⟨n - 1, by omega⟩
        have q4 : sW m + sW (m + 1) ≤ 2 * dW (dR X) := by unfold sW; exact q1.dn m rfl
        have q5 := sW_le (show 1065353216 ≤ m by omega)
        have q6 := sW_le (show 1065353217 ≤ m + 1 by omega)
        rw [sW_one] at q5
        rw [sW_up] at q6
        omega
      refine ⟨top, (fun h => by cases h), fun _ => ?_⟩
      by_cases h5 : s = 1065353216
      · -- from 1
        have hB2 : B = p2 2148 := by rw [← hBv, h5, sW_one]
        have hPA : P = A := by
          rw [hB2] at pv
          exact Nat.eq_of_mul_eq_mul_right hU pv
        have hdA : dW (dR P) = A := by rw [hPA, ← hA]; exact (s_rung (by have := hk.2.2; omega)).1
        have hX2 : dW 4607182418800017407 ≤ X := by have := dW_dn; omega
        have h2 : dW 4607182418800017407 ≤ dW (dR X) := dW_le (le_dR (by omega) hX2)
        have h3 := dW_dn
        obtain ⟨n, q1, q2⟩ := nr_fR F3 2148 F3_hF F3_hc (dW (dR X))
        have q3 : sR (dW (dR X)) = min n F3.infRung := by unfold sR; exact q2
        rw [F3_I] at q3
        refine Nat.le_of_not_lt fun hlt => ?_
        have hn : n ≤ 1065353215 := by omega
        have q4 : 2 * dW (dR X) ≤ sW n + sW (n + 1) := by unfold sW; exact q1.up
        have q5 := sW_le hn
        have q6 := sW_le (show n + 1 ≤ 1065353216 by omega)
        have q7 := sW_dn
        rw [sW_one] at q6
        omega
      · -- from below 1
        have hB2 : B + p2 2124 ≤ p2 2148 := by
          have := sW_le (show s ≤ 1065353215 by omega)
          have := sW_dn
          rw [hBv] at *
          omega
        have hX2 : B ≤ X := by
          have key : B + p2 2095 ≤ P + (p2 2148 - A) := by
            refine Nat.le_of_mul_le_mul_right ?_ hU
            obtain ⟨C, hC⟩ : ∃ C, p2 2148 = A + C := ⟨p2 2148 - A, by omega⟩
            obtain ⟨D, hD⟩ : ∃ D, p2 2148 = B + D := ⟨p2 2148 - B, by omega⟩
            have hCD : p2 2095 * p2 2148 ≤ C * D := by
              have : p2 2124 * p2 2124 ≤ C * D := Nat.mul_le_mul (by omega) (by omega)
              rw [← p2_add] at this ⊢
              exact Nat.le_trans (p2_mono (by omega)) this
            rw [show p2 2148 - A = C by omega, Nat.add_mul, Nat.add_mul P, pv]
            have t1 : B * p2 2148 + C * D = A * B + C * p2 2148 := by
              have t2 : C * p2 2148 = C * B + C * D := by rw [hD, Nat.mul_add]
              have t3 : B * p2 2148 = A * B + C * B := by rw [hC, Nat.mul_add, Nat.mul_comm B A, Nat.mul_comm B C]
              omega
            omega
          omega
        have h2 : dR B ≤ dR X := dR_mono hX2
        have h3 := (s_rung (r := s) (by omega)).1
        rw [hBv] at h3
        have h4 : B ≤ dW (dR X) := by rw [← h3]; exact dW_le h2
        have h6 := sR_mono h4
        rw [← hBv, sR_W (by omega)] at h6
        exact h6
  have fin := (a2.nn (k := 1) (by omega)).fin (by omega)
  have dv3 := cn_dv a2 (by omega)
  obtain ⟨c1, c2⟩ := cv3_ok fin (by rw [dv3]; have := hcase.1; unfold Sc at this; omega)
  have c3 : tel k s g = sR (dW (fad (fmu (cv6 k) (cv6 s)) (fmu (fsu 4607182418800017408 (cv6 k)) (if g then 4607182418800017408 else 0)))) := by
    unfold tel
    rw [c2, dv3, (a2.nn (k := 1) (by omega)).1, pos_word3]
  refine ⟨⟨m1.1, u1, m2.1, a1, c1⟩, ?_⟩
  rw [c3]
  exact hcase
end Go.Proofs.Ytcfjinpjijcheab
