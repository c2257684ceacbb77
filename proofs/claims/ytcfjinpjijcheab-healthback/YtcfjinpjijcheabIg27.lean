/-
  Floating-point numbers: what the operations give, in plain numbers.
-/
import Derived.Test.YtcfjinpjijcheabIe27
namespace Go.Proofs.Ytcfjinpjijcheab
open Ieee
section
variable (f : Format) (c : Nat)
def fsg (w : Nat) : Bool := w / f.signWeight % 2 == 1
def frg (w : Nat) : Nat := w % f.signWeight
def ffin (w : Nat) : Prop := frg f w < f.infRung
def sgn (s : Bool) (n : Nat) : Int := if s then -(n : Int) else n
/-- The value of a word, in units of 2 to the power -c. -/
def fval (w : Nat) : Int := sgn (fsg f w) (fW f c (frg f w))
theorem sW_pos : 0 < f.signWeight := Nat.two_pow_pos _
theorem frg_word (s : Bool) {r : Nat} (h : r ≤ f.infRung) : frg f (f.word s r) = r := by
  have := f.infRung_lt
  unfold frg Format.word
  cases s
  · show r % f.signWeight = r
    exact Nat.mod_eq_of_lt (by omega)
  · rw [if_pos rfl, Nat.add_mod_left]; exact Nat.mod_eq_of_lt (by omega)
theorem fsg_word (s : Bool) {r : Nat} (h : r ≤ f.infRung) : fsg f (f.word s r) = s := by
  have := f.infRung_lt
  have h0 := sW_pos f
  unfold fsg Format.word
  cases s
  · rw [if_neg (by simp), Nat.div_eq_of_lt (by omega)]; rfl
  · rw [if_pos rfl, Nat.add_div_left _ h0, Nat.div_eq_of_lt (by omega)]; rfl
theorem read_fin {w : Nat} (h : ffin f w) : ∃ m p, f.read w = .number (fsg f w) m p ∧ f.leastPlace ≤ p ∧ m * 2 ^ (p - f.leastPlace).toNat = fV f (frg f w) := by
  unfold ffin frg at h
  unfold Format.read fV frg
  dsimp only
  by_cases h1 : w % f.signWeight < f.binade
  · rw [if_pos h1, if_pos h1]
    exact ⟨_, _, rfl, Int.le_refl _, by rw [Int.sub_self, Int.toNat_zero, Nat.pow_zero, Nat.mul_one]⟩
  · rw [if_neg h1, if_neg h1, if_pos h]
    refine ⟨_, _, rfl, by omega, ?_⟩
    congr 2
    omega
theorem read_inf (hb : f.binade ≤ f.infRung) {w : Nat} (h : ¬ ffin f w) : f.read w = .infinity (fsg f w) ∨ ∃ k, f.read w = .nan (fsg f w) k := by
  unfold ffin frg at h
  unfold Format.read
  dsimp only
  rw [if_neg (by omega), if_neg h]
  split
  · exact .inl rfl
  · exact .inr ⟨_, rfl⟩
variable (hF : 1 ≤ f.fractionBits) (hc : 0 ≤ f.leastPlace + c)
include hc in
theorem fX_fW {m r : Nat} {p : Int} (hp : f.leastPlace ≤ p) (h : m * 2 ^ (p - f.leastPlace).toNat = fV f r) : fX c m p = fW f c r := by
  unfold fX fW fu
  rw [← h, Nat.mul_assoc, ← Nat.pow_add]
  congr 2
  omega
theorem sgn_mul (s : Bool) (n k : Nat) : sgn s n * (k : Int) = sgn s (n * k) := by
  unfold sgn; cases s <;> simp [Int.neg_mul]
theorem signed_sgn (s : Bool) (m k : Nat) : signed s m k = sgn s (m * 2 ^ k) := by
  unfold signed sgn; rw [Nat.shiftLeft_eq]
theorem sgn_total {s : Bool} {m k e : Nat} {x : Nat} (h : m * 2 ^ (k + e) = x) : signed s m k * ((2 ^ e : Nat) : Int) = sgn s x := by
  rw [signed_sgn, sgn_mul, Nat.mul_assoc, ← Nat.pow_add, h]
include hF hc in
theorem sum_num {s t : Bool} {m n : Nat} {i j : Int} {a b : Nat} (hi : f.leastPlace ≤ i) (hj : f.leastPlace ≤ j) (ha : fX c m i = a) (hb : fX c n j = b) :
    ((Datum.number s m i).sum (.number t n j)).map f.write = some (f.word (if sgn s a + sgn t b = 0 then s && t else decide (sgn s a + sgn t b < 0)) (fR f c (sgn s a + sgn t b).natAbs)) := by
  simp only [Datum.sum, Option.map_some, Format.write]
  have e0 : ∀ k : Int, min i j ≤ k → (k - min i j).toNat + (min i j + c).toNat = (k + c).toNat := by intro k hk; omega
  have e1 : signed s m (i - min i j).toNat * ((2 ^ (min i j + c).toNat : Nat) : Int) = sgn s a := sgn_total (by rw [e0 i (by omega)]; exact ha)
  have e2 : signed t n (j - min i j).toNat * ((2 ^ (min i j + c).toNat : Nat) : Int) = sgn t b := sgn_total (by rw [e0 j (by omega)]; exact hb)
  have hp : (0 : Int) < ((2 ^ (min i j + c).toNat : Nat) : Int) := Int.natCast_pos.2 (Nat.two_pow_pos _)
  rw [nearest_fR f c hF hc _ _ _ (by omega), ← e1, ← e2, ← Int.add_mul]
  generalize signed s m (i - min i j).toNat + signed t n (j - min i j).toNat = T
  unfold fX
  rw [Int.natAbs_mul, Int.natAbs_natCast]
  congr 2
  by_cases h0 : T = 0
  · simp [h0]
  · rw [if_neg h0, if_neg (by simp only [Int.mul_eq_zero]; omega)]
    congr 1
    refine propext ⟨fun h => Int.mul_neg_of_neg_of_pos h hp, fun h => Int.lt_of_not_ge fun h2 => ?_⟩
    have := Int.mul_nonneg h2 (Int.le_of_lt hp)
    omega
include hF hc in
theorem add_num {x y : Nat} (hx : ffin f x) (hy : ffin f y) :
    f.add x y = some (f.word (if fval f c x + fval f c y = 0 then fsg f x && fsg f y else decide (fval f c x + fval f c y < 0)) (fR f c (fval f c x + fval f c y).natAbs)) := by
  obtain ⟨m, i, e1, h1, h2⟩ := read_fin f hx
  obtain ⟨n, j, e2, h3, h4⟩ := read_fin f hy
  unfold Format.add
  rw [e1, e2]
  exact sum_num f c hF hc h1 h3 (fX_fW f c hc h1 h2) (fX_fW f c hc h3 h4)
theorem sgn_not (s : Bool) (n : Nat) : sgn (!s) n = - sgn s n := by cases s <;> simp [sgn]
include hF hc in
theorem sub_num {x y : Nat} (hx : ffin f x) (hy : ffin f y) :
    f.sub x y = some (f.word (if fval f c x - fval f c y = 0 then fsg f x && !fsg f y else decide (fval f c x - fval f c y < 0)) (fR f c (fval f c x - fval f c y).natAbs)) := by
  obtain ⟨m, i, e1, h1, h2⟩ := read_fin f hx
  obtain ⟨n, j, e2, h3, h4⟩ := read_fin f hy
  unfold Format.sub
  rw [e1, e2]
  have := sum_num f c hF hc (s := fsg f x) (t := !fsg f y) h1 h3 (fX_fW f c hc h1 h2) (fX_fW f c hc h3 h4)
  rw [sgn_not, ← Int.sub_eq_add_neg] at this
  exact this
include hF hc in
theorem mul_num {x y : Nat} (h2c : 0 ≤ 2 * f.leastPlace + c) (hx : ffin f x) (hy : ffin f y) :
    f.mul x y = some (f.word (fsg f x ^^ fsg f y) (fR f c (fV f (frg f x) * fV f (frg f y) * 2 ^ (2 * f.leastPlace + c).toNat))) := by
  obtain ⟨m, i, e1, h1, h2⟩ := read_fin f hx
  obtain ⟨n, j, e2, h3, h4⟩ := read_fin f hy
  unfold Format.mul
  rw [e1, e2]
  simp only [Datum.product, Option.map_some, Format.write]
  rw [nearest_fR f c hF hc _ _ _ (by omega)]
  congr 3
  unfold fX
  rw [← h2, ← h4]
  have : (i + j + c).toNat = (i - f.leastPlace).toNat + (j - f.leastPlace).toNat + (2 * f.leastPlace + c).toNat := by omega
  rw [this, Nat.pow_add, Nat.pow_add]
  simp only [Nat.mul_assoc, Nat.mul_comm, Nat.mul_left_comm]
theorem compare_mul (a b k : Int) (hk : 0 < k) : compare (a * k) (b * k) = compare a b := by
  have h1 : a * k < b * k ↔ a < b := Int.mul_lt_mul_right hk
  have h2 : a * k = b * k ↔ a = b := Int.mul_eq_mul_right_iff (by omega)
  simp only [compare, compareOfLessAndEq, h1, h2]
include hc in
theorem order_num {x y : Nat} (hx : ffin f x) (hy : ffin f y) : f.order x y = some (compare (fval f c x) (fval f c y)) := by
  obtain ⟨m, i, e1, h1, h2⟩ := read_fin f hx
  obtain ⟨n, j, e2, h3, h4⟩ := read_fin f hy
  unfold Format.order
  rw [e1, e2]
  simp only [Datum.order]
  have e0 : ∀ k : Int, min i j ≤ k → (k - min i j).toNat + (min i j + c).toNat = (k + c).toNat := by intro k hk; omega
  have e1 : signed (fsg f x) m (i - min i j).toNat * ((2 ^ (min i j + c).toNat : Nat) : Int) = fval f c x := sgn_total (by rw [e0 i (by omega)]; exact fX_fW f c hc h1 h2)
  have e2 : signed (fsg f y) n (j - min i j).toNat * ((2 ^ (min i j + c).toNat : Nat) : Int) = fval f c y := sgn_total (by rw [e0 j (by omega)]; exact fX_fW f c hc h3 h4)
  rw [← e1, ← e2, compare_mul _ _ _ (Int.natCast_pos.2 (Nat.two_pow_pos _))]
/-- A number that the range test takes is finite. -/
theorem order_two (hb : f.binade ≤ f.infRung) {lo hi x : Nat} (hl : ffin f lo) (hh : ffin f hi) (h1 : f.order lo x = some .lt ∨ f.order lo x = some .eq) (h2 : f.order x hi = some .lt ∨ f.order x hi = some .eq) : ffin f x := by
  refine Classical.byContradiction fun hx => ?_
  obtain ⟨m, i, e1, -, -⟩ := read_fin f hl
  obtain ⟨n, j, e2, -, -⟩ := read_fin f hh
  unfold Format.order at h1 h2
  rw [e1] at h1
  rw [e2] at h2
  rcases read_inf f hb hx with e | ⟨k, e⟩
  · rw [e] at h1 h2
    simp only [Datum.order] at h1 h2
    cases hs : fsg f x <;> simp [hs] at h1 h2
  · rw [e] at h1
    simp [Datum.order] at h1
theorem rep (n t : Nat) (h : n ≤ 2 * f.binade) : ∃ r, fV f r = n * 2 ^ t ∧ r ≤ t * f.binade + 2 * f.binade := by
  induction t generalizing n with
  | zero => exact ⟨n, by have := fV_form f (q := 0) (k := n) (.inl rfl) h; rwa [Nat.zero_mul, Nat.zero_add] at this, by omega⟩
  | succ t ih =>
    by_cases h1 : f.binade ≤ n
    · exact ⟨(t + 1) * f.binade + n, fV_form f (.inr h1) h, by omega⟩
    · obtain ⟨r, e, hr⟩ := ih (2 * n) (by omega)
      refine ⟨r, by rw [e, Nat.pow_succ, Nat.mul_comm 2 n, Nat.mul_assoc, Nat.mul_comm 2], ?_⟩
      rw [Nat.add_mul]; omega
end
end Go.Proofs.Ytcfjinpjijcheab
