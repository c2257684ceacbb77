/-
  Short forms: what CodecShort asks of them.
-/
import Derived.Test.YtfcjkaigmlfjnaaPu
namespace Go.Proofs.Ytfcjkaigmlfjnaa
/-- The groups' sum, of the first i bytes. -/
def ps : List Nat → Nat → Nat
  | _, 0 => 0
  | [], _ + 1 => 0
  | c :: l, i + 1 => c % 128 + 128 * ps l i
theorem ps_succ (l : List Nat) (i : Nat) (h : i < l.length) : ps l (i + 1) = ps l i + (l.getD i 0 % 128) * 128 ^ i := by
  induction l generalizing i with
  | nil => simp at h
  | cons c l ih =>
    cases i with
    | zero => simp [ps]
    | succ i =>
      have h' : i < l.length := by simpa using h
      show c % 128 + 128 * ps l (i + 1) = c % 128 + 128 * ps l i + _
      rw [ih i h']
      simp only [List.getD_cons_succ]
      rw [Nat.mul_add, Nat.pow_succ, Nat.mul_comm (128 ^ i) 128, Nat.mul_left_comm]
      omega
theorem ps_mono (l : List Nat) (i j : Nat) (h : i ≤ j) : ps l i ≤ ps l j := by
  induction l generalizing i j with
  | nil => cases i <;> cases j <;> simp [ps]
  | cons c l ih =>
    cases i with
    | zero => simp [ps]
    | succ i => cases j with
      | zero => omega
      | succ j =>
        show c % 128 + 128 * ps l i ≤ c % 128 + 128 * ps l j
        have := ih i j (by omega)
        omega
theorem ps_sfk (k v : Nat) (h : v < 2 ^ (7 * k + 1)) : ps (sfk k v) (sfk k v).length = v := by
  induction k generalizing v with
  | zero => 
    have : v < 2 := by simpa using h
    show v % 128 + 128 * 0 = v
    omega
  | succ k ih =>
    by_cases h1 : v < 128
    · rw [sfk_small _ _ h1]
      show v % 128 + 128 * 0 = v
      omega
    · rw [sfk_big k v h1]
      show (128 + v % 128) % 128 + 128 * ps (sfk k (v / 128)) (sfk k (v / 128)).length = v
      rw [ih _ (div_bound h)]
      omega
theorem sfk_mark (k v i : Nat) (h : v < 2 ^ (7 * k + 1)) (hi : i < (sfk k v).length) : 128 ≤ (sfk k v).getD i 0 ↔ i + 1 < (sfk k v).length := by
  induction k generalizing v i with
  | zero =>
    have h0 : v < 2 := by simpa using h
    have : i = 0 := by simp [sfk] at hi; exact hi
    subst this
    show 128 ≤ v ↔ 0 + 1 < 1
    omega
  | succ k ih =>
    by_cases h1 : v < 128
    · rw [sfk_small _ _ h1] at hi ⊢
      have : i = 0 := by simpa using hi
      subst this
      show 128 ≤ v ↔ 0 + 1 < 1
      omega
    · rw [sfk_big k v h1] at hi ⊢
      have hp := sfk_pos k (v / 128)
      cases i with
      | zero =>
        show 128 ≤ 128 + v % 128 ↔ 0 + 1 < (sfk k (v / 128)).length + 1
        omega
      | succ i =>
        have := ih (v / 128) i (div_bound h) (by simpa using hi)
        simp only [List.getD_cons_succ, List.length_cons]
        omega
/-- How many groups are counted from here on. -/
def gl (k u : Nat) : Nat := if u = 0 then 0 else (sfk k u).length
theorem gl_zero (k : Nat) : gl k 0 = 0 := rfl
theorem gl_step (k u : Nat) (h : 0 < u) (hu : u < 2 ^ (7 * k + 1)) : gl k u = 1 + gl (k - 1) (u / 128) ∧ u / 128 < 2 ^ (7 * (k - 1) + 1) := by
  unfold gl
  rw [if_neg (by omega)]
  by_cases h1 : u < 128
  · rw [sfk_small _ _ h1, if_pos (by omega)]
    refine ⟨rfl, ?_⟩
    have := Nat.two_pow_pos (7 * (k - 1) + 1)
    omega
  · cases k with
    | zero => simp at hu; omega
    | succ k =>
      rw [sfk_big k u h1, if_neg (by omega), List.length_cons]
      exact ⟨by simp only [Nat.add_sub_cancel]; omega, div_bound hu⟩
theorem gl_first (v : Nat) (h : v < 18446744073709551616) : (sfk 9 v).length = 1 + gl 8 (v / 128) ∧ v / 128 < 2 ^ (7 * 8 + 1) := by
  by_cases h1 : v < 128
  · rw [sfk_small _ _ h1, show v / 128 = 0 by omega, gl_zero]; exact ⟨rfl, by decide⟩
  · rw [sfk_big 8 v h1, List.length_cons]
    unfold gl
    rw [if_neg (by omega)]
    exact ⟨by omega, by omega⟩
theorem sb_nat (k v : Nat) (h : v < 2 ^ (7 * k + 1)) : (sb k v).map BitVec.toNat = sfk k v := by
  unfold sb
  rw [List.map_map]
  have hb := sfk_byte k v h
  conv => rhs; rw [← List.map_id (sfk k v)]
  apply List.map_congr_left
  intro c hc
  have := hb c hc
  show (BitVec.ofNat 8 c).toNat = c
  rw [BitVec.toNat_ofNat]; omega
theorem sb_get (k v i : Nat) (h : v < 2 ^ (7 * k + 1)) (hi : i < (sfk k v).length) : el ((sb k v).getD i 0#8) = (((sfk k v).getD i 0 : Nat) : Int) := by
  have hb := sfk_byte k v h
  have e : (sb k v).getD i 0#8 = BitVec.ofNat 8 ((sfk k v).getD i 0) := by
    simp [sb, List.getD, List.getElem?_eq_getElem hi]
  have hl : (sfk k v).getD i 0 < 256 := by
    rw [show (sfk k v).getD i 0 = (sfk k v)[i] by simp [List.getD, List.getElem?_eq_getElem hi]]
    exact hb _ (List.getElem_mem hi)
  rw [e, el_ofNat]; omega
theorem sb_sfl (k v : Nat) : (sb k v).length = (sfk k v).length := by unfold sb; rw [List.length_map]
/-- None begins another. -/
theorem sf_apart (v w : Nat) (hv : v < 18446744073709551616) (hw : w < 18446744073709551616) (h : sb 9 v = (sb 9 w).take (sfk 9 v).length) : v = w := by
  have h1 := congrArg (List.map BitVec.toNat) h
  rw [sb_nat 9 v hv, List.map_take, sb_nat 9 w hw] at h1
  have h2 := rsk_sfk 9 v ((sfk 9 w).drop (sfk 9 v).length) (Nat.le_refl _) hv (.inl rfl)
  have e : sfk 9 v ++ (sfk 9 w).drop (sfk 9 v).length = sfk 9 w := by
    conv => lhs; arg 1; rw [h1]
    exact List.take_append_drop _ _
  rw [e] at h2
  have h3 := rsk_sfk 9 w [] (Nat.le_refl _) hw (.inl rfl)
  rw [List.append_nil, h2] at h3
  injection h3 with h3
  exact (Prod.mk.inj h3).1
theorem sf_prefix (v w : Nat) (hv : v < 18446744073709551616) (hw : w < 18446744073709551616) : ((sb 9 v).take (min (sfk 9 v).length (sfk 9 w).length) = (sb 9 w).take (min (sfk 9 v).length (sfk 9 w).length)) ↔ v = w := by
  constructor
  · intro h
    rcases Nat.le_total (sfk 9 v).length (sfk 9 w).length with hl | hl
    · rw [Nat.min_eq_left hl, List.take_of_length_le (by rw [sb_sfl]; exact Nat.le_refl _)] at h
      exact sf_apart v w hv hw h
    · rw [Nat.min_eq_right hl, List.take_of_length_le (l := sb 9 w) (by rw [sb_sfl]; exact Nat.le_refl _)] at h
      exact (sf_apart w v hw hv h.symm).symm
  · rintro rfl; rfl
end Go.Proofs.Ytfcjkaigmlfjnaa
