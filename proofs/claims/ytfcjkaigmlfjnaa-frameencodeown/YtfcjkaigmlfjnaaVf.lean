/-
  The short form of a number, as plain mathematics: no Go in sight.
-/
import Derived.KernelRfl
namespace Go.Proofs.Ytfcjkaigmlfjnaa

/-- The short form, of at most k + 1 bytes. -/
def sfk : Nat → Nat → List Nat
  | 0, v => [v]
  | k + 1, v => if v < 128 then [v] else (128 + v % 128) :: sfk k (v / 128)
/-- The short form of a number below 2^64. -/
def sf (v : Nat) : List Nat := sfk 9 v
/-- What a reading of a short form comes to: its number and its length; or it is cut (false) or over (true). -/
abbrev Rs := Except Bool (Nat × Nat)
/-- The reading, with k bytes at most behind the first one (9 at first). -/
def rsk : Nat → List Nat → Rs
  | _, [] => .error false
  | 0, c :: _ => if 1 < c then .error true else if c = 0 then .error true else .ok (c, 1)
  | k + 1, c :: l => if c < 128 then (if c = 0 ∧ k + 1 < 9 then .error true else .ok (c, 1)) else match rsk k l with
    | .ok (v, n) => .ok (c % 128 + 128 * v, n + 1)
    | .error e => .error e
theorem rsk_nil (k : Nat) : rsk k [] = .error false := by cases k <;> rfl
theorem sfk_small (k v : Nat) (h : v < 128) : sfk k v = [v] := by
  cases k with
  | zero => rfl
  | succ k => unfold sfk; rw [if_pos h]
theorem sfk_big (k v : Nat) (h : ¬ v < 128) : sfk (k + 1) v = (128 + v % 128) :: sfk k (v / 128) := by
  show (if v < 128 then [v] else _) = _
  rw [if_neg h]
theorem sfk_pos (k v : Nat) : 0 < (sfk k v).length := by
  cases k with
  | zero => simp [sfk]
  | succ k => unfold sfk; split <;> simp
theorem sfk_len (k v : Nat) : (sfk k v).length ≤ k + 1 := by
  induction k generalizing v with
  | zero => simp [sfk]
  | succ k ih =>
    by_cases h : v < 128
    · rw [sfk_small _ _ h]; simp
    · rw [sfk_big k v h, List.length_cons]; have := ih (v / 128); omega
theorem sfk_byte (k v : Nat) (h : v < 2 ^ (7 * k + 1)) : ∀ c ∈ sfk k v, c < 256 := by
  induction k generalizing v with
  | zero => intro c hc; simp [sfk] at hc; subst hc; simp at h; omega
  | succ k ih =>
    intro c hc
    by_cases h1 : v < 128
    · rw [sfk_small _ _ h1] at hc; simp at hc; omega
    · rw [sfk_big k v h1] at hc
      rcases List.mem_cons.1 hc with rfl | hc
      · omega
      · refine ih (v / 128) ?_ c hc
        rw [show 7 * (k + 1) + 1 = (7 * k + 1) + 7 by omega, Nat.pow_add] at h
        exact Nat.div_lt_of_lt_mul (by rw [Nat.mul_comm]; exact h)
theorem div_bound {k v : Nat} (h : v < 2 ^ (7 * (k + 1) + 1)) : v / 128 < 2 ^ (7 * k + 1) := by
  rw [show 7 * (k + 1) + 1 = (7 * k + 1) + 7 by omega, Nat.pow_add] at h
  exact Nat.div_lt_of_lt_mul (by rw [Nat.mul_comm]; exact h)
/-- What was put is read. -/
theorem rsk_sfk (k v : Nat) (rest : List Nat) (hk : k ≤ 9) (h : v < 2 ^ (7 * k + 1)) (h0 : k = 9 ∨ v ≠ 0) : rsk k (sfk k v ++ rest) = .ok (v, (sfk k v).length) := by
  induction k generalizing v with
  | zero =>
    have hv : v = 1 := by simp at h; omega
    subst hv; rfl
  | succ k ih =>
    by_cases h1 : v < 128
    · rw [sfk_small _ _ h1]
      show (if v < 128 then (if v = 0 ∧ k + 1 < 9 then (.error true : Rs) else .ok (v, 1)) else _) = _
      rw [if_pos h1, if_neg (by omega)]; rfl
    · rw [sfk_big k v h1]
      show (if 128 + v % 128 < 128 then _ else match rsk k (sfk k (v / 128) ++ rest) with
        | .ok (u, n) => (.ok ((128 + v % 128) % 128 + 128 * u, n + 1) : Rs)
        | .error e => .error e) = _
      rw [if_neg (by omega), ih (v / 128) (by omega) (div_bound h) (.inr (by omega))]
      simp only [List.length_cons]
      congr 2; omega
/-- What is read is just what was put. -/
theorem sfk_rsk (k : Nat) (l : List Nat) (v n : Nat) (hk : k ≤ 9) (hl : ∀ c ∈ l, c < 256) (h : rsk k l = .ok (v, n)) : v < 2 ^ (7 * k + 1) ∧ l.take n = sfk k v ∧ n = (sfk k v).length ∧ (k = 9 ∨ v ≠ 0) := by
  induction k generalizing l v n with
  | zero =>
    cases l with
    | nil => cases h
    | cons c l =>
      have h' : (if 1 < c then (.error true : Rs) else if c = 0 then .error true else .ok (c, 1)) = .ok (v, n) := h
      by_cases h1 : 1 < c
      · rw [if_pos h1] at h'; cases h'
      · by_cases h2 : c = 0
        · rw [if_neg h1, if_pos h2] at h'; cases h'
        · rw [if_neg h1, if_neg h2] at h'
          injection h' with h'
          injection h' with e1 e2
          subst e1 e2
          exact ⟨by simp; omega, rfl, rfl, .inr (by omega)⟩
  | succ k ih =>
    cases l with
    | nil => cases h
    | cons c l =>
      have h' : (if c < 128 then (if c = 0 ∧ k + 1 < 9 then (.error true : Rs) else .ok (c, 1)) else match rsk k l with
        | .ok (u, m) => (.ok (c % 128 + 128 * u, m + 1) : Rs)
        | .error e => .error e) = .ok (v, n) := h
      by_cases h1 : c < 128
      · rw [if_pos h1] at h'
        by_cases h2 : c = 0 ∧ k + 1 < 9
        · rw [if_pos h2] at h'; cases h'
        · rw [if_neg h2] at h'
          injection h' with h'
          injection h' with e1 e2
          subst e1 e2
          have hb : 128 ≤ 2 ^ (7 * (k + 1) + 1) := by
            rw [show 7 * (k + 1) + 1 = 7 + (7 * k + 1) by omega, Nat.pow_add]
            exact Nat.le_mul_of_pos_right _ (Nat.two_pow_pos _)
          rw [sfk_small _ _ h1]
          exact ⟨by omega, rfl, rfl, by omega⟩
      · rw [if_neg h1] at h'
        cases hr : rsk k l with
        | error e => rw [hr] at h'; cases h'
        | ok um =>
          obtain ⟨u, m⟩ := um
          rw [hr] at h'
          injection h' with h'
          injection h' with e1 e2
          obtain ⟨q1, q2, q3, q4⟩ := ih l u m (by omega) (fun x hx => hl x (List.mem_cons_of_mem _ hx)) hr
          have hu : u ≠ 0 := q4.resolve_left (by omega)
          have hc := hl c (List.mem_cons_self ..)
          subst e1 e2
          have hd : (c % 128 + 128 * u) / 128 = u := by omega
          have hmd : 128 + (c % 128 + 128 * u) % 128 = c := by omega
          rw [sfk_big k _ (by omega), hd, hmd, List.take_succ_cons, q2]
          refine ⟨?_, rfl, by rw [List.length_cons, q3], .inr (by omega)⟩
          rw [show 7 * (k + 1) + 1 = (7 * k + 1) + 7 by omega, Nat.pow_add]
          have : u + 1 ≤ 2 ^ (7 * k + 1) := q1
          have h128 : 2 ^ 7 = 128 := rfl
          rw [h128]
          have := Nat.mul_le_mul_right 128 this
          omega
/-- A beginning that is too short. -/
theorem rsk_short (k v m : Nat) (h : m < (sfk k v).length) : rsk k ((sfk k v).take m) = .error false := by
  induction k generalizing v m with
  | zero =>
    have : m = 0 := by simp [sfk] at h; exact h
    subst this; rfl
  | succ k ih =>
    cases m with
    | zero => rfl
    | succ m =>
      by_cases h1 : v < 128
      · rw [sfk_small _ _ h1] at h; simp at h
      · rw [sfk_big k v h1] at h ⊢
        rw [List.take_succ_cons]
        show (if 128 + v % 128 < 128 then _ else match rsk k ((sfk k (v / 128)).take m) with
          | .ok (u, n) => (.ok ((128 + v % 128) % 128 + 128 * u, n + 1) : Rs)
          | .error e => .error e) = _
        rw [if_neg (by omega), ih (v / 128) m (by simpa using h)]
end Go.Proofs.Ytfcjkaigmlfjnaa
