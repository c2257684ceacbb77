/-
  Floating-point numbers as mathematics: rungs, values, rounding.
-/
import Derived.Laws.FloatArith
namespace Go.Proofs.Ytcfjinpjijcheab
open Ieee
section
variable (f : Format) (c : Nat)
/-- The value of a rung, in units of the least place. -/
def fV (r : Nat) : Nat := if r < f.binade then r else (f.binade + r % f.binade) * 2 ^ (r / f.binade - 1)
def fu : Nat := (f.leastPlace + c).toNat
/-- The value of a rung, in units of 2 to the power -c. -/
def fW (r : Nat) : Nat := fV f r * 2 ^ fu f c
def fX (m : Nat) (p : Int) : Nat := m * 2 ^ (p + c).toNat
theorem fB_pos : 0 < f.binade := Nat.two_pow_pos _
theorem fV_form {q k : Nat} (h : q = 0 ∨ f.binade ≤ k) (h2 : k ≤ 2 * f.binade) : fV f (q * f.binade + k) = k * 2 ^ q := by
  have hB := fB_pos f
  unfold fV
  generalize f.binade = B at *
  rcases Nat.eq_or_lt_of_le h2 with rfl | h2
  · have e : q * B + 2 * B = B * (q + 2) := by rw [Nat.mul_add, Nat.mul_comm q, Nat.mul_comm 2]
    rw [e, Nat.mul_div_cancel_left _ hB, Nat.mul_mod_right, if_neg (by have := Nat.le_mul_of_pos_right B (show 0 < q + 2 by omega); omega)]
    rw [show q + 2 - 1 = q + 1 by omega, Nat.pow_succ, Nat.add_zero, Nat.mul_comm 2 B, Nat.mul_assoc, Nat.mul_comm 2]
  · by_cases h3 : k < B
    · rcases h with rfl | h
      · simp [h3]
      · omega
    · have e : q * B + k = B * (q + 1) + (k - B) := by rw [Nat.mul_add, Nat.mul_comm q]; omega
      have hk : k - B < B := by omega
      rw [e, if_neg (by have := Nat.le_mul_of_pos_right B (show 0 < q + 1 by omega); omega), Nat.mul_add_div hB, Nat.div_eq_of_lt hk, Nat.mul_add_mod, Nat.mod_eq_of_lt hk]
      rw [show B + (k - B) = k by omega, show q + 1 + 0 - 1 = q by omega]
theorem f_split (r : Nat) : ∃ q k, r = q * f.binade + k ∧ (q = 0 ∨ f.binade ≤ k) ∧ k < 2 * f.binade ∧ q = r / f.binade - 1 := by
  have hB := fB_pos f
  generalize f.binade = B at *
  by_cases h : r < B
  · exact ⟨0, r, by omega, .inl rfl, by omega, by rw [Nat.div_eq_of_lt h]⟩
  · have h1 : 0 < r / B := Nat.div_pos (by omega) hB
    have hm := Nat.mod_lt r hB
    have e := Nat.div_add_mod r B
    refine ⟨r / B - 1, B + r % B, ?_, .inr (by omega), by omega, rfl⟩
    obtain ⟨d, hd⟩ : ∃ d, r / B = d + 1 := ⟨r / B - 1, by omega⟩
    rw [hd] at e ⊢
    rw [Nat.mul_add, Nat.mul_one] at e
    rw [show d + 1 - 1 = d by omega, Nat.mul_comm d]
    omega
theorem fV_succ (r : Nat) : fV f (r + 1) = fV f r + 2 ^ (r / f.binade - 1) := by
  obtain ⟨q, k, e, h1, h2, h3⟩ := f_split f r
  rw [← h3]
  rw [e, Nat.add_assoc, fV_form f (k := k + 1) (h1.imp id (by omega)) (by omega), fV_form f h1 (by omega), Nat.add_mul, Nat.one_mul]
theorem fV_zero : fV f 0 = 0 := by simp [fV, fB_pos f]
theorem fV_lt {a b : Nat} (h : a < b) : fV f a < fV f b := by
  induction h with
  | refl => rw [fV_succ]; have := Nat.two_pow_pos (a / f.binade - 1); omega
  | @step m _ ih => rw [fV_succ]; have := Nat.two_pow_pos (m / f.binade - 1); omega
theorem fV_le {a b : Nat} (h : a ≤ b) : fV f a ≤ fV f b := by
  rcases Nat.eq_or_lt_of_le h with rfl | h
  · exact Nat.le_refl _
  · exact Nat.le_of_lt (fV_lt f h)
theorem fV_lt_iff {a b : Nat} : fV f a < fV f b ↔ a < b := ⟨fun h => Nat.lt_of_not_le fun h2 => Nat.not_lt.2 (fV_le f h2) h, fV_lt f⟩
theorem fV_inj {a b : Nat} (h : fV f a = fV f b) : a = b := by
  rcases Nat.lt_trichotomy a b with h1 | h1 | h1
  · have := fV_lt f h1; omega
  · exact h1
  · have := fV_lt f h1; omega
theorem fW_lt {a b : Nat} (h : a < b) : fW f c a < fW f c b := Nat.mul_lt_mul_of_pos_right (fV_lt f h) (Nat.two_pow_pos _)
theorem fW_le {a b : Nat} (h : a ≤ b) : fW f c a ≤ fW f c b := Nat.mul_le_mul_right _ (fV_le f h)
theorem fW_zero : fW f c 0 = 0 := by simp [fW, fV_zero]
theorem fW_pos {a : Nat} (h : 0 < a) : 0 < fW f c a := by have := fW_lt f c h; omega
/-- n is the rung that x is rounded to. -/
structure Nr (x n : Nat) : Prop where
  up : 2 * x ≤ fW f c n + fW f c (n + 1)
  upe : 2 * x = fW f c n + fW f c (n + 1) → n % 2 = 0
  dn : ∀ m, n = m + 1 → fW f c m + fW f c n ≤ 2 * x
  dne : ∀ m, n = m + 1 → fW f c m + fW f c n = 2 * x → n % 2 = 0
theorem Nr.mono {x y n m : Nat} (h : Nr f c x n) (h' : Nr f c y m) (hl : x ≤ y) : n ≤ m := by
  refine Nat.le_of_not_lt fun hlt => ?_
  obtain ⟨k, rfl⟩ : ∃ k, n = k + 1 := ⟨n - 1, by omega⟩
  have a := h.dn k rfl
  have b := h'.up
  have e := fW_le f c (show m ≤ k by omega)
  have g := fW_le f c (show m + 1 ≤ k + 1 by omega)
  have hm : m = k := by
    refine Nat.le_antisymm (by omega) (Nat.le_of_not_lt fun h3 => ?_)
    have := fW_lt f c h3
    omega
  subst hm
  have h1 := h.dne m rfl (by omega)
  have h2 := h'.upe (by omega)
  omega
theorem Nr.self (r : Nat) : Nr f c (fW f c r) r := by
  have := fW_lt f c (Nat.lt_add_one r)
  refine ⟨by omega, by omega, fun m e => ?_, fun m e => ?_⟩ <;> subst e <;> have := fW_lt f c (Nat.lt_add_one m) <;> omega
theorem cut_even (n d : Nat) : let k := Toward.even.cut false n d
    2 * n ≤ (2 * k + 1) * 2 ^ d ∧ 2 * k * 2 ^ d ≤ 2 * n + 2 ^ d ∧ (2 * n = (2 * k + 1) * 2 ^ d → k % 2 = 0) ∧ (2 * k * 2 ^ d = 2 * n + 2 ^ d → k % 2 = 0) := by
  intro k
  have hl : n < 2 ^ (n.log2 + 1) := Nat.lt_log2_self
  by_cases hd : d ≤ n.log2 + 2
  · have e : k = n / 2 ^ d + (decide (2 ^ d < 2 * (n % 2 ^ d)) || ((2 ^ d == 2 * (n % 2 ^ d)) && n / 2 ^ d % 2 == 1)).toNat := by
      show Toward.cut .even false n d = _
      simp only [Toward.cut, Nat.min_eq_left hd, Nat.one_shiftLeft]
    have hg := Nat.two_pow_pos d
    have hm := Nat.mod_lt n hg
    have hs := Nat.div_add_mod n (2 ^ d)
    generalize 2 ^ d = g at *
    generalize n % g = r at *
    generalize n / g = l at *
    have e2 : ∀ a, (2 * a + 1) * g = 2 * (g * a) + g := fun a => by rw [Nat.add_mul, Nat.one_mul, Nat.mul_assoc, Nat.mul_comm a]
    have e3 : ∀ a, 2 * a * g = 2 * (g * a) := fun a => by rw [Nat.mul_assoc, Nat.mul_comm a]
    rw [e2, e3]
    by_cases h1 : g < 2 * r
    · have : k = l + 1 := by rw [e]; simp [h1]
      rw [this, Nat.mul_add, Nat.mul_one]
      refine ⟨?_, ?_, ?_, ?_⟩ <;> omega
    · by_cases h2 : g = 2 * r
      · by_cases h3 : l % 2 = 1
        · have : k = l + 1 := by rw [e]; simp [h2, h3]
          rw [this, Nat.mul_add, Nat.mul_one]
          refine ⟨?_, ?_, ?_, ?_⟩ <;> omega
        · have : k = l := by rw [e]; simp [h2, h3]
          rw [this]
          refine ⟨?_, ?_, ?_, ?_⟩ <;> omega
      · have : k = l := by rw [e]; simp [h1, h2]
        rw [this]
        refine ⟨?_, ?_, ?_, ?_⟩ <;> omega
  · have hg : 2 ^ (n.log2 + 2) = 2 * 2 ^ (n.log2 + 1) := by rw [Nat.pow_succ 2 (n.log2 + 1), Nat.mul_comm]
    have e : k = 0 := by
      show Toward.cut .even false n d = _
      simp only [Toward.cut, Nat.min_eq_right (show n.log2 + 2 ≤ d by omega), Nat.one_shiftLeft]
      rw [Nat.div_eq_of_lt (by omega), Nat.mod_eq_of_lt (by omega)]
      simp
      omega
    have : 2 ^ (n.log2 + 2) ≤ 2 ^ d := Nat.pow_le_pow_right (by omega) (by omega)
    rw [e]
    refine ⟨?_, ?_, ?_, ?_⟩ <;> omega

theorem nearest_neg (s : Bool) (m : Nat) (p : Int) : f.nearest s m p = f.word s (f.nearest false m p) := by
  unfold Format.nearest
  split
  · simp [Format.word]
  · have : ∀ n d, Toward.cut .even s n d = Toward.cut .even false n d := fun _ _ => rfl
    simp [Format.word, this]
/-- The rung that 'nearest' takes, before it is held under infinity's. -/
def rung0 (m : Nat) (p : Int) : Nat :=
  let last := max (p + m.log2 - f.fractionBits) f.leastPlace
  (last - f.leastPlace).toNat * f.binade + Toward.even.cut false (m <<< (p - last).toNat) (last - p).toNat
theorem nearest_rung0 (m : Nat) (p : Int) (h : m ≠ 0) : f.nearest false m p = min (rung0 f m p) f.infRung := by
  unfold Format.nearest rung0
  rw [if_neg h]
  simp [Format.word]
variable (hF : 1 ≤ f.fractionBits) (hc : 0 ≤ f.leastPlace + c)
include hF hc
theorem nr_rung0 (m : Nat) (p : Int) (h : m ≠ 0) (hp : 0 ≤ p + c) : Nr f c (fX c m p) (rung0 f m p) := by
  have hl1 : 2 ^ m.log2 ≤ m := Nat.log2_self_le h
  have hl2 : m < 2 ^ (m.log2 + 1) := Nat.lt_log2_self
  have hB2 : f.binade % 2 = 0 := by
    unfold Format.binade
    obtain ⟨k, hk⟩ : ∃ k, f.fractionBits = k + 1 := ⟨f.fractionBits - 1, by omega⟩
    rw [hk, Nat.pow_succ]; omega
  have hB := fB_pos f
  have hBe : f.binade = 2 ^ f.fractionBits := rfl
  unfold rung0
  generalize hlast : max (p + m.log2 - f.fractionBits) f.leastPlace = last
  generalize hL : m.log2 = L at *
  have hla : f.leastPlace ≤ last := by omega
  dsimp only
  obtain ⟨q, hq⟩ : ∃ q : Nat, (last - f.leastPlace).toNat = q := ⟨_, rfl⟩
  rw [hq]
  have hlc : (last + c).toNat = q + fu f c := by unfold fu; omega
  by_cases hA : last ≤ p
  · obtain ⟨u, hu⟩ : ∃ u : Nat, (p - last).toNat = u := ⟨_, rfl⟩
    rw [hu, show (last - p).toNat = 0 by omega]
    have hcut : Toward.cut .even false (m <<< u) 0 = m * 2 ^ u := by
      simp [Toward.cut, Nat.shiftLeft_eq]
      omega
    rw [hcut]
    have hk2 : m * 2 ^ u ≤ 2 * f.binade := by
      have : u + (L + 1) ≤ f.fractionBits + 1 := by omega
      calc m * 2 ^ u ≤ 2 ^ (L + 1) * 2 ^ u := Nat.mul_le_mul_right _ (by omega)
        _ = 2 ^ (u + (L + 1)) := by rw [← Nat.pow_add, Nat.add_comm]
        _ ≤ 2 ^ (f.fractionBits + 1) := Nat.pow_le_pow_right (by omega) this
        _ = 2 * f.binade := by rw [hBe, Nat.pow_succ, Nat.mul_comm]
    have hk1 : q = 0 ∨ f.binade ≤ m * 2 ^ u := by
      by_cases h0 : q = 0
      · exact .inl h0
      · refine .inr ?_
        have : f.fractionBits = L + u := by omega
        rw [hBe, this, Nat.pow_add]
        exact Nat.mul_le_mul_right _ hl1
    have hX : fX c m p = fW f c (q * f.binade + m * 2 ^ u) := by
      unfold fX fW
      rw [fV_form f hk1 hk2, Nat.mul_assoc, Nat.mul_assoc, ← Nat.pow_add, ← Nat.pow_add]
      congr 2
      omega
    rw [hX]
    exact Nr.self f c _
  · obtain ⟨d, hd⟩ : ∃ d : Nat, (last - p).toNat = d := ⟨_, rfl⟩
    have hd0 : 0 < d := by omega
    rw [hd, show (p - last).toNat = 0 by omega, Nat.shiftLeft_zero]
    obtain ⟨c1, c2, c3, c4⟩ := cut_even m d
    generalize Toward.cut .even false m d = k at *
    have hE : q + fu f c = (p + c).toNat + d := by omega
    have hp2 : 0 < 2 ^ (p + c).toNat := Nat.two_pow_pos _
    have hpd : 0 < 2 ^ d := Nat.two_pow_pos _
    have hm2 : m < 2 * f.binade * 2 ^ d := by
      have : L + 1 ≤ f.fractionBits + 1 + d := by omega
      calc m < 2 ^ (L + 1) := hl2
        _ ≤ 2 ^ (f.fractionBits + 1 + d) := Nat.pow_le_pow_right (by omega) this
        _ = 2 * f.binade * 2 ^ d := by rw [hBe, Nat.pow_add, Nat.pow_succ 2 f.fractionBits, Nat.mul_comm 2]
    have hm1 : q = 0 ∨ f.binade * 2 ^ d ≤ m := by
      by_cases h0 : q = 0
      · exact .inl h0
      · refine .inr ?_
        have : L = f.fractionBits + d := by omega
        rw [hBe, ← Nat.pow_add, ← this]
        exact hl1
    have form : ∀ j, (q = 0 ∨ f.binade ≤ j) → j ≤ 2 * f.binade → fW f c (q * f.binade + j) = j * 2 ^ d * 2 ^ (p + c).toNat := by
      intro j h1 h2
      unfold fW
      rw [fV_form f h1 h2, Nat.mul_assoc, Nat.mul_assoc, ← Nat.pow_add, ← Nat.pow_add]
      congr 2
      omega
    have hev : ∀ j, (q * f.binade + j) % 2 = j % 2 := by
      intro j
      rw [Nat.add_mod, Nat.mul_mod, hB2, Nat.mul_zero, Nat.zero_mod, Nat.zero_add, Nat.mod_mod]
    have lt := fun j => fW_lt f c (Nat.lt_add_one j)
    generalize f.binade = B at *
    -- k lies from B to 2B
    have hk2 : k ≤ 2 * B := by
      refine Nat.le_of_lt_succ (Nat.lt_of_not_le fun h2 => ?_)
      have := Nat.mul_le_mul_right (2 ^ d) (show 2 * (2 * B + 1) ≤ 2 * k by omega)
      rw [Nat.mul_add, Nat.add_mul, Nat.mul_assoc 2 (2 * B)] at this
      omega
    have hk1 : q = 0 ∨ B ≤ k := by
      refine hm1.imp id fun h1 => Nat.le_of_not_lt fun h2 => ?_
      have := Nat.mul_le_mul_right (2 ^ d) (show 2 * k + 1 + 1 ≤ 2 * B by omega)
      rw [Nat.add_mul (2 * k + 1), Nat.mul_assoc 2 B] at this
      omega
    have hX : 2 * fX c m p = 2 * m * 2 ^ (p + c).toNat := by unfold fX; rw [Nat.mul_assoc]
    have hn := form k hk1 hk2
    generalize 2 ^ (p + c).toNat = E at *
    generalize 2 ^ d = D at *
    have a1 : (2 * k + 1) * D * E = k * D * E + (k + 1) * D * E := by
      rw [← Nat.add_mul, ← Nat.add_mul]; congr 2; omega
    have up : 2 * m * E ≤ fW f c (q * B + k) + fW f c (q * B + k + 1) ∧ (2 * m * E = fW f c (q * B + k) + fW f c (q * B + k + 1) → (q * B + k) % 2 = 0) := by
      rw [hev]
      by_cases h2 : k = 2 * B
      · have h3 := lt (q * B + k)
        have h4 : m * E ≤ k * D * E := Nat.mul_le_mul_right _ (by rw [h2]; omega)
        rw [Nat.mul_assoc]
        omega
      · have h3 := form (k + 1) (hk1.imp id (by omega)) (by omega)
        rw [← Nat.add_assoc] at h3
        rw [hn, h3, ← a1]
        refine ⟨Nat.mul_le_mul_right _ c1, fun e => c3 (Nat.eq_of_mul_eq_mul_right hp2 e)⟩
    have dn : ∀ j, q * B + k = j + 1 → fW f c j + fW f c (q * B + k) ≤ 2 * m * E ∧ (fW f c j + fW f c (q * B + k) = 2 * m * E → (q * B + k) % 2 = 0) := by
      intro j hj
      rw [hev]
      by_cases h2 : q = 0 ∨ B ≤ k - 1
      · have hk0 : 0 < k := by
          rcases h2 with h2 | h2
          · subst h2; omega
          · omega
        have h3 := form (k - 1) h2 (by omega)
        rw [show q * B + (k - 1) = j by omega] at h3
        have a2 : (k - 1) * D * E + k * D * E + D * E = 2 * k * D * E := by
          obtain ⟨i, rfl⟩ : ∃ i, k = i + 1 := ⟨k - 1, by omega⟩
          rw [Nat.add_sub_cancel]
          simp only [Nat.add_mul, Nat.mul_add, Nat.one_mul, Nat.mul_assoc]
          omega
        have a3 := Nat.mul_le_mul_right E c2
        rw [Nat.add_mul] at a3
        rw [hn, h3]
        refine ⟨by omega, fun e => c4 (Nat.eq_of_mul_eq_mul_right hp2 ?_)⟩
        rw [Nat.add_mul]
        omega
      · have hk : k = B := by omega
        have hm : k * D * E ≤ m * E := Nat.mul_le_mul_right _ (by rw [hk]; exact hm1.resolve_left fun h => h2 (.inl h))
        have h3 := lt j
        rw [← hj] at h3
        rw [Nat.mul_assoc]
        omega
    exact ⟨by rw [hX]; exact up.1, by rw [hX]; exact up.2, fun j hj => by rw [hX]; exact (dn j hj).1, fun j hj => by rw [hX]; exact (dn j hj).2⟩
/-- The rung that a number, in units of 2 to the power -c, is rounded to. -/
def fR (f : Format) (c : Nat) (x : Nat) : Nat := f.nearest false x (-(c : Int))
omit hF hc in
theorem nr_zero : Nr f c 0 0 := by
  have := Nr.self f c 0
  rwa [fW_zero] at this
theorem nr_nearest (m : Nat) (p : Int) (hp : 0 ≤ p + c) : ∃ n, Nr f c (fX c m p) n ∧ f.nearest false m p = min n f.infRung := by
  by_cases h : m = 0
  · subst h
    refine ⟨0, ?_, ?_⟩
    · rw [show fX c 0 p = 0 by simp [fX]]; exact nr_zero f c
    · simp [Format.nearest, Format.word]
  · exact ⟨_, nr_rung0 f c hF hc m p h hp, nearest_rung0 f m p h⟩
theorem nr_fR (x : Nat) : ∃ n, Nr f c x n ∧ fR f c x = min n f.infRung := by
  obtain ⟨n, h1, h2⟩ := nr_nearest f c hF hc x (-(c : Int)) (by omega)
  refine ⟨n, ?_, h2⟩
  rwa [show fX c x (-(c : Int)) = x by unfold fX; rw [show (-(c : Int) + c).toNat = 0 by omega, Nat.pow_zero, Nat.mul_one]] at h1
theorem nearest_fR (s : Bool) (m : Nat) (p : Int) (hp : 0 ≤ p + c) : f.nearest s m p = f.word s (fR f c (fX c m p)) := by
  rw [nearest_neg]
  obtain ⟨n, h1, h2⟩ := nr_nearest f c hF hc m p hp
  obtain ⟨k, h3, h4⟩ := nr_fR f c hF hc (fX c m p)
  rw [h2, h4]
  have := h1.mono f c h3 (Nat.le_refl _)
  have := h3.mono f c h1 (Nat.le_refl _)
  rw [show n = k by omega]
theorem fR_mono {x y : Nat} (h : x ≤ y) : fR f c x ≤ fR f c y := by
  obtain ⟨n, h1, h2⟩ := nr_fR f c hF hc x
  obtain ⟨k, h3, h4⟩ := nr_fR f c hF hc y
  have := h1.mono f c h3 h
  rw [h2, h4]
  omega
theorem fR_W {r : Nat} (h : r ≤ f.infRung) : fR f c (fW f c r) = r := by
  obtain ⟨n, h1, h2⟩ := nr_fR f c hF hc (fW f c r)
  have h3 := Nr.self f c r
  have := h1.mono f c h3 (Nat.le_refl _)
  have := h3.mono f c h1 (Nat.le_refl _)
  rw [h2, show n = r by omega]
  omega
theorem fR_le {x r : Nat} (hr : r ≤ f.infRung) (h : x ≤ fW f c r) : fR f c x ≤ r := by
  have := fR_mono f c hF hc h
  rwa [fR_W f c hF hc hr] at this
theorem le_fR {x r : Nat} (hr : r ≤ f.infRung) (h : fW f c r ≤ x) : r ≤ fR f c x := by
  have := fR_mono f c hF hc h
  rwa [fR_W f c hF hc hr] at this
end
end Go.Proofs.Ytcfjinpjijcheab
