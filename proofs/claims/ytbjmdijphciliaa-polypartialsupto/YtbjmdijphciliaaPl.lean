/-
  Polynomials over the field of 256, as lists of coefficients: plain mathematics, no Go in sight.
-/
import Derived.Test.YtbjmdijphciliaaGf
namespace Go.Proofs.Ytbjmdijphciliaa

/-- The coefficient at a power. -/
def co (p : List (BitVec 8)) (i : Nat) : BitVec 8 := p.getD i 0#8
theorem co_nil (i : Nat) : co [] i = 0#8 := by simp [co]
theorem co_zero (a : BitVec 8) (p : List (BitVec 8)) : co (a :: p) 0 = a := by simp [co]
theorem co_succ (a : BitVec 8) (p : List (BitVec 8)) (i : Nat) : co (a :: p) (i + 1) = co p i := by simp [co]
theorem co_ge {p : List (BitVec 8)} {i : Nat} (h : p.length ≤ i) : co p i = 0#8 := by
  unfold co; rw [List.getD_eq_getElem?_getD, List.getElem?_eq_none h]; rfl
theorem co_lt {p : List (BitVec 8)} {i : Nat} (h : co p i ≠ 0#8) : i < p.length := by
  rcases Nat.lt_or_ge i p.length with h1 | h1
  · exact h1
  · exact absurd (co_ge h1) h
theorem co_ext {p q : List (BitVec 8)} (hl : p.length = q.length) (h : ∀ i, co p i = co q i) : p = q := by
  apply List.ext_getElem hl
  intro i h1 h2
  have := h i
  simpa [co, List.getD_eq_getElem?_getD, List.getElem?_eq_getElem h1, List.getElem?_eq_getElem h2] using this

/-- Without the zeros at the end. -/
def trim : List (BitVec 8) → List (BitVec 8)
  | [] => []
  | a :: p => if trim p = [] then (if a = 0#8 then [] else [a]) else a :: trim p
theorem co_trim (p : List (BitVec 8)) : ∀ i, co (trim p) i = co p i := by
  induction p with
  | nil => intro i; rfl
  | cons a p ih =>
    intro i
    unfold trim
    by_cases h : trim p = []
    · rw [if_pos h]
      have hz : ∀ j, co p j = 0#8 := fun j => by rw [← ih j, h, co_nil]
      by_cases ha : a = 0#8
      · rw [if_pos ha, co_nil]
        cases i with
        | zero => rw [co_zero, ha]
        | succ i => rw [co_succ, hz]
      · rw [if_neg ha]
        cases i with
        | zero => rw [co_zero, co_zero]
        | succ i => rw [co_succ, co_succ, hz, co_nil]
    · rw [if_neg h]
      cases i with
      | zero => rw [co_zero, co_zero]
      | succ i => rw [co_succ, co_succ, ih]
theorem trim_nil_of {p : List (BitVec 8)} (h : ∀ i, co p i = 0#8) : trim p = [] := by
  induction p with
  | nil => rfl
  | cons a p ih =>
    have h1 : trim p = [] := ih (fun i => by have := h (i + 1); rwa [co_succ] at this)
    have h2 : a = 0#8 := by have := h 0; rwa [co_zero] at this
    unfold trim; rw [if_pos h1, if_pos h2]
theorem zero_of_trim {p : List (BitVec 8)} (h : trim p = []) (i : Nat) : co p i = 0#8 := by rw [← co_trim, h, co_nil]
theorem trim_congr : ∀ {p q : List (BitVec 8)}, (∀ i, co p i = co q i) → trim p = trim q := by
  intro p
  induction p with
  | nil => intro q h; rw [trim_nil_of (p := q) (fun i => by rw [← h i, co_nil])]; rfl
  | cons a p ih =>
    intro q h
    cases q with
    | nil => rw [trim_nil_of (p := a :: p) (fun i => by rw [h i, co_nil])]; rfl
    | cons b q =>
      have h1 : trim p = trim q := ih (fun i => by have := h (i + 1); rwa [co_succ, co_succ] at this)
      have h2 : a = b := by have := h 0; rwa [co_zero, co_zero] at this
      unfold trim; rw [h1, h2]
theorem trim_trim (p : List (BitVec 8)) : trim (trim p) = trim p := trim_congr (co_trim p)
theorem trim_len (p : List (BitVec 8)) : (trim p).length ≤ p.length := by
  induction p with
  | nil => exact Nat.le_refl _
  | cons a p ih =>
    unfold trim
    by_cases h : trim p = []
    · rw [if_pos h]; split <;> simp
    · rw [if_neg h]; simp only [List.length_cons]; omega
theorem trim_top (p : List (BitVec 8)) : trim p ≠ [] → co p ((trim p).length - 1) ≠ 0#8 := by
  induction p with
  | nil => intro h; exact absurd rfl h
  | cons a p ih =>
    unfold trim
    by_cases h : trim p = []
    · rw [if_pos h]
      by_cases ha : a = 0#8
      · rw [if_pos ha]; intro h; exact absurd rfl h
      · rw [if_neg ha]; intro _; simpa [co_zero] using ha
    · rw [if_neg h]; intro _
      have h1 := ih h
      have h2 : 0 < (trim p).length := List.length_pos_iff.2 h
      rw [List.length_cons, Nat.add_sub_cancel, show (trim p).length = ((trim p).length - 1) + 1 by omega, co_succ]; exact h1
/-- The trimmed list has this length, if its greatest power is this. -/
theorem trim_len_of {p : List (BitVec 8)} {d : Nat} (h : co p d ≠ 0#8) (hz : ∀ i, d < i → co p i = 0#8) : (trim p).length = d + 1 := by
  have hne : trim p ≠ [] := fun e => h (zero_of_trim e d)
  have h1 := trim_top p hne
  have h0 : 0 < (trim p).length := List.length_pos_iff.2 hne
  have h2 : d < (trim p).length := by rw [← co_trim] at h; exact co_lt h
  rcases Nat.lt_or_ge d ((trim p).length - 1) with h3 | h3
  · exact absurd (hz _ h3) h1
  · omega
theorem trim_len_le {p : List (BitVec 8)} {n : Nat} (hz : ∀ i, n ≤ i → co p i = 0#8) : (trim p).length ≤ n := by
  rcases Nat.lt_or_ge n (trim p).length with h | h
  · exfalso
    have hne : trim p ≠ [] := by intro e; rw [e] at h; simp at h
    exact trim_top p hne (hz _ (by omega))
  · exact h
theorem trim_take (p : List (BitVec 8)) : trim p = p.take (trim p).length := by
  apply co_ext
  · rw [List.length_take]; have := trim_len p; omega
  · intro i
    rw [co_trim]
    by_cases h : i < (trim p).length
    · unfold co; simp [List.getD_eq_getElem?_getD, List.getElem?_take_of_lt h]
    · rw [co_ge (p := p.take _) (by rw [List.length_take]; omega), ← co_trim, co_ge (by omega)]
theorem trim_self {p : List (BitVec 8)} (h : p ≠ [] → co p (p.length - 1) ≠ 0#8) : trim p = p := by
  by_cases hp : p = []
  · rw [hp]; rfl
  · have h0 : 0 < p.length := List.length_pos_iff.2 hp
    have := trim_len_of (h hp) (fun i hi => co_ge (by omega))
    rw [trim_take, this, show p.length - 1 + 1 = p.length by omega, List.take_length]
theorem trim_eq {p q : List (BitVec 8)} (hp : trim p = p) (hq : trim q = q) (h : ∀ i, co p i = co q i) : p = q := by rw [← hp, ← hq]; exact trim_congr h

/-- The sum. -/
def add : List (BitVec 8) → List (BitVec 8) → List (BitVec 8)
  | [], q => q
  | a :: p, [] => a :: p
  | a :: p, b :: q => (a ^^^ b) :: add p q
theorem co_add (p : List (BitVec 8)) : ∀ (q : List (BitVec 8)) (i : Nat), co (add p q) i = co p i ^^^ co q i := by
  induction p with
  | nil => intro q i; unfold add; rw [co_nil]; simp
  | cons a p ih =>
    intro q i
    cases q with
    | nil => unfold add; rw [co_nil]; simp
    | cons b q =>
      unfold add
      cases i with
      | zero => rw [co_zero, co_zero, co_zero]
      | succ i => rw [co_succ, co_succ, co_succ, ih]
theorem add_len (p : List (BitVec 8)) : ∀ q, (add p q).length = max p.length q.length := by
  induction p with
  | nil => intro q; unfold add; simp
  | cons a p ih =>
    intro q
    cases q with
    | nil => unfold add; simp
    | cons b q => unfold add; simp only [List.length_cons, ih]; omega
/-- Each coefficient times c. -/
def smul (c : BitVec 8) (p : List (BitVec 8)) : List (BitVec 8) := p.map (gm c)
theorem co_smul (c : BitVec 8) (p : List (BitVec 8)) (i : Nat) : co (smul c p) i = gm c (co p i) := by
  unfold co smul
  rw [List.getD_eq_getElem?_getD, List.getD_eq_getElem?_getD, List.getElem?_map]
  cases p[i]? with
  | none => simp [gm_zero]
  | some a => rfl
theorem smul_len (c : BitVec 8) (p : List (BitVec 8)) : (smul c p).length = p.length := by simp [smul]
/-- The product. -/
def mul : List (BitVec 8) → List (BitVec 8) → List (BitVec 8)
  | [], _ => []
  | a :: p, q => add (smul a q) (0#8 :: mul p q)
/-- Moved up by so many powers. -/
def sh (k : Nat) (p : List (BitVec 8)) : List (BitVec 8) := List.replicate k 0#8 ++ p
theorem co_sh (k : Nat) (p : List (BitVec 8)) (i : Nat) : co (sh k p) i = if i < k then 0#8 else co p (i - k) := by
  unfold co sh
  rw [List.getD_eq_getElem?_getD, List.getD_eq_getElem?_getD, List.getElem?_append]
  simp only [List.length_replicate]
  split
  · rename_i h; simp [h]
  · rfl
theorem co_cons (a : BitVec 8) (p : List (BitVec 8)) (i : Nat) : co (a :: p) i = if i = 0 then a else co p (i - 1) := by
  cases i with
  | zero => rw [co_zero, if_pos rfl]
  | succ i => rw [co_succ, if_neg (by omega), Nat.add_sub_cancel]
theorem co_mul_cons (a : BitVec 8) (p q : List (BitVec 8)) (i : Nat) : co (mul (a :: p) q) i = gm a (co q i) ^^^ (if i = 0 then 0#8 else co (mul p q) (i - 1)) := by
  show co (add (smul a q) (0#8 :: mul p q)) i = _
  rw [co_add, co_smul, co_cons]
theorem mul_nil (p : List (BitVec 8)) (i : Nat) : co (mul p []) i = 0#8 := by
  induction p generalizing i with
  | nil => exact co_nil i
  | cons a p ih => rw [co_mul_cons, co_nil, gm_zero]; split <;> simp [ih]
theorem mul_congr_r (p : List (BitVec 8)) {q r : List (BitVec 8)} (h : ∀ i, co q i = co r i) (i : Nat) : co (mul p q) i = co (mul p r) i := by
  induction p generalizing i with
  | nil => rfl
  | cons a p ih => rw [co_mul_cons, co_mul_cons, h, ih]
theorem xr3 (a b c d : BitVec 8) : (a ^^^ b) ^^^ (c ^^^ d) = (a ^^^ c) ^^^ (b ^^^ d) := xor4 a b c d
theorem mul_add_r (p q r : List (BitVec 8)) (i : Nat) : co (mul p (add q r)) i = co (mul p q) i ^^^ co (mul p r) i := by
  induction p generalizing i with
  | nil => show co [] i = co [] i ^^^ co [] i; rw [co_nil]; rfl
  | cons a p ih =>
    rw [co_mul_cons, co_mul_cons, co_mul_cons, co_add, gm_xor_r, xr3]
    congr 1
    split
    · simp
    · exact ih _
theorem mul_smul_r (c : BitVec 8) (p q : List (BitVec 8)) (i : Nat) : co (mul p (smul c q)) i = gm c (co (mul p q) i) := by
  induction p generalizing i with
  | nil => show co [] i = gm c (co [] i); rw [co_nil, gm_zero]
  | cons a p ih =>
    rw [co_mul_cons, co_mul_cons, co_smul, gm_xor_r]
    congr 1
    · rw [← gm_assoc, gm_comm a c, gm_assoc]
    · split
      · rw [gm_zero]
      · exact ih _
theorem mul_cons_r (p : List (BitVec 8)) (b : BitVec 8) (q : List (BitVec 8)) (i : Nat) : co (mul p (b :: q)) i = gm b (co p i) ^^^ (if i = 0 then 0#8 else co (mul p q) (i - 1)) := by
  induction p generalizing i with
  | nil => show co [] i = _; rw [co_nil, gm_zero]; split <;> (show (0#8 : BitVec 8) = 0#8 ^^^ _; first | rfl | (show (0#8 : BitVec 8) = 0#8 ^^^ co [] _; rw [co_nil]; rfl))
  | cons a p ih =>
    rw [co_mul_cons, co_cons, co_cons]
    cases i with
    | zero => simp [gm_comm]
    | succ i =>
      simp only [Nat.add_sub_cancel, Nat.add_eq_zero_iff, Nat.succ_ne_self, and_false, if_false]
      rw [ih, co_mul_cons, ← BitVec.xor_assoc, ← BitVec.xor_assoc, BitVec.xor_comm (gm a (co q i))]
theorem mul_comm (p : List (BitVec 8)) (q : List (BitVec 8)) (i : Nat) : co (mul p q) i = co (mul q p) i := by
  induction p generalizing i with
  | nil => rw [mul_nil]; exact co_nil i
  | cons a p ih =>
    rw [co_mul_cons, mul_cons_r]
    split
    · rfl
    · rw [ih]
theorem mul_congr {p p' q q' : List (BitVec 8)} (h : ∀ i, co p i = co p' i) (h' : ∀ i, co q i = co q' i) (i : Nat) : co (mul p q) i = co (mul p' q') i := by
  rw [mul_congr_r p h', mul_comm, mul_congr_r q' h, mul_comm]
theorem mul_add_l (p q r : List (BitVec 8)) (i : Nat) : co (mul (add p q) r) i = co (mul p r) i ^^^ co (mul q r) i := by
  rw [mul_comm, mul_add_r, mul_comm p r, mul_comm q r]
theorem mul_smul_l (c : BitVec 8) (p q : List (BitVec 8)) (i : Nat) : co (mul (smul c p) q) i = gm c (co (mul p q) i) := by
  rw [mul_comm, mul_smul_r, mul_comm q p]
theorem mul_zcons_l (p q : List (BitVec 8)) (i : Nat) : co (mul (0#8 :: p) q) i = co (0#8 :: mul p q) i := by
  rw [co_mul_cons, co_cons, gm_zero_l]; simp
theorem mul_assoc (p q r : List (BitVec 8)) (i : Nat) : co (mul (mul p q) r) i = co (mul p (mul q r)) i := by
  induction p generalizing i with
  | nil => rfl
  | cons a p ih =>
    show co (mul (add (smul a q) (0#8 :: mul p q)) r) i = _
    rw [mul_add_l, mul_smul_l, mul_zcons_l, co_mul_cons, co_cons]
    congr 1
    split
    · rfl
    · exact ih _
theorem add_congr {p p' q q' : List (BitVec 8)} (h : ∀ i, co p i = co p' i) (h' : ∀ i, co q i = co q' i) (i : Nat) : co (add p q) i = co (add p' q') i := by
  rw [co_add, co_add, h, h']
theorem mul_one_l (p : List (BitVec 8)) (i : Nat) : co (mul [1#8] p) i = co p i := by
  rw [co_mul_cons, gm_one_l]; split <;> (first | (simp; done) | (show co p i ^^^ co [] _ = _; rw [co_nil]; simp))
/-- The product of a list that is put together of two. -/
theorem mul_append (p p' q : List (BitVec 8)) (i : Nat) : co (mul (p ++ p') q) i = co (mul p q) i ^^^ co (sh p.length (mul p' q)) i := by
  induction p generalizing i with
  | nil => show co (mul p' q) i = co [] i ^^^ co (sh 0 (mul p' q)) i; rw [co_nil, co_sh]; simp
  | cons a p ih =>
    show co (mul (a :: (p ++ p')) q) i = _
    rw [co_mul_cons, co_mul_cons, co_sh]
    cases i with
    | zero => simp
    | succ i =>
      have := ih i
      rw [co_sh] at this
      simp only [Nat.add_sub_cancel, Nat.add_eq_zero_iff, Nat.succ_ne_self, and_false, if_false, List.length_cons]
      rw [this, BitVec.xor_assoc]
      congr 2
      by_cases h : i < p.length
      · rw [if_pos h, if_pos (by omega)]
      · rw [if_neg h, if_neg (by omega), show i + 1 - (p.length + 1) = i - p.length by omega]
theorem mul_single (c : BitVec 8) (q : List (BitVec 8)) (i : Nat) : co (mul [c] q) i = gm c (co q i) := by
  rw [co_mul_cons]; split <;> (first | (simp; done) | (show gm c (co q i) ^^^ co [] _ = _; rw [co_nil]; simp))
theorem take_succ_co {p : List (BitVec 8)} {k : Nat} (h : k < p.length) : p.take (k + 1) = p.take k ++ [co p k] := by
  rw [List.take_add_one, List.getElem?_eq_getElem h]; simp [co, h]
/-- One more coefficient of the left list. -/
theorem mul_take_succ {p : List (BitVec 8)} (q : List (BitVec 8)) {k : Nat} (h : k < p.length) (i : Nat) :
    co (mul (p.take (k + 1)) q) i = co (mul (p.take k) q) i ^^^ (if i < k then 0#8 else gm (co p k) (co q (i - k))) := by
  rw [take_succ_co h, mul_append, co_sh, List.length_take, Nat.min_eq_left (by omega)]
  congr 1
  split
  · rfl
  · rw [mul_single]
theorem mul_len {p q : List (BitVec 8)} (hp : p ≠ []) (hq : q ≠ []) : (mul p q).length = p.length + q.length - 1 := by
  induction p with
  | nil => exact absurd rfl hp
  | cons a p ih =>
    show (add (smul a q) (0#8 :: mul p q)).length = _
    have hq0 : 0 < q.length := List.length_pos_iff.2 hq
    rw [add_len, smul_len, List.length_cons, List.length_cons]
    cases p with
    | nil => show max q.length (0 + 1) = _; simp only [List.length_nil]; omega
    | cons b p =>
      have := ih (by simp)
      rw [this]; simp only [List.length_cons]; omega
/-- Beyond the sum of the degrees there is nothing. -/
theorem mul_ge {p q : List (BitVec 8)} {m n : Nat} (hp : ∀ i, m ≤ i → co p i = 0#8) (hq : ∀ i, n ≤ i → co q i = 0#8) (i : Nat) (hi : m + n ≤ i + 1) : co (mul p q) i = 0#8 := by
  induction p generalizing i m with
  | nil => exact co_nil i
  | cons a p ih =>
    cases m with
    | zero => rw [mul_congr (p' := []) (q' := q) (fun j => by rw [hp j (Nat.zero_le _), co_nil]) (fun _ => rfl)]; exact co_nil i
    | succ m =>
      rw [co_mul_cons, hq i (by omega), gm_zero]
      split
      · rfl
      · rw [ih (m := m) (fun j hj => by have := hp (j + 1) (by omega); rwa [co_succ] at this) (i - 1) (by omega)]; rfl
/-- The top of a product. -/
theorem mul_top {p q : List (BitVec 8)} {m n : Nat} (hp : ∀ i, m < i → co p i = 0#8) (hq : ∀ i, n < i → co q i = 0#8) : co (mul p q) (m + n) = gm (co p m) (co q n) := by
  induction p generalizing m with
  | nil => show co [] _ = gm (co [] m) _; rw [co_nil, co_nil, gm_zero_l]
  | cons a p ih =>
    rw [co_mul_cons]
    cases m with
    | zero =>
      have hz : ∀ j, 0 ≤ j → co p j = 0#8 := fun j _ => by have := hp (j + 1) (by omega); rwa [co_succ] at this
      rw [Nat.zero_add, co_zero]
      split
      · simp
      · rw [mul_congr (p' := []) (q' := q) (fun j => by rw [hz j (Nat.zero_le _), co_nil]) (fun _ => rfl), show co (mul [] q) _ = 0#8 from co_nil _]; simp
    | succ m =>
      rw [hq (m + 1 + n) (by omega), gm_zero, if_neg (by omega), co_succ, show m + 1 + n - 1 = m + n by omega, ih (fun j hj => by have := hp (j + 1) (by omega); rwa [co_succ] at this)]; simp
/-- The length of a trimmed product. -/
theorem trim_mul_len {p q : List (BitVec 8)} (hp : trim p ≠ []) (hq : trim q ≠ []) : (trim (mul p q)).length = (trim p).length + (trim q).length - 1 := by
  have h1 : 0 < (trim p).length := List.length_pos_iff.2 hp
  have h2 : 0 < (trim q).length := List.length_pos_iff.2 hq
  have z1 : ∀ i, (trim p).length - 1 < i → co p i = 0#8 := fun i hi => by rw [← co_trim, co_ge (by omega)]
  have z2 : ∀ i, (trim q).length - 1 < i → co q i = 0#8 := fun i hi => by rw [← co_trim, co_ge (by omega)]
  have ht := mul_top z1 z2
  have h3 : co (mul p q) ((trim p).length - 1 + ((trim q).length - 1)) ≠ 0#8 := by rw [ht]; exact gm_ne (trim_top p hp) (trim_top q hq)
  rw [trim_len_of h3 (fun i hi => mul_ge (m := (trim p).length) (n := (trim q).length) (fun j hj => z1 j (by omega)) (fun j hj => z2 j (by omega)) i (by omega))]
  omega
theorem trim_mul_nil_l {p q : List (BitVec 8)} (hp : trim p = []) : trim (mul p q) = [] := trim_nil_of (fun i => by rw [mul_congr (p' := []) (q' := q) (fun i => by rw [zero_of_trim hp, co_nil]) (fun _ => rfl)]; exact co_nil i)
theorem trim_mul_nil_r {p q : List (BitVec 8)} (hq : trim q = []) : trim (mul p q) = [] := by
  rw [trim_congr (mul_comm p q)]; exact trim_mul_nil_l hq
theorem mul_cancel {p q r : List (BitVec 8)} (hr : trim r ≠ []) (h : ∀ i, co (mul p r) i = co (mul q r) i) (i : Nat) : co p i = co q i := by
  have h1 : trim (mul (add p q) r) = [] := trim_nil_of (fun i => by rw [mul_add_l, h]; simp)
  have h2 : trim (add p q) = [] := by
    by_cases e : trim (add p q) = []
    · exact e
    · exfalso
      have := trim_mul_len e hr
      have h3 : 0 < (trim (add p q)).length := List.length_pos_iff.2 e
      have h4 : 0 < (trim r).length := List.length_pos_iff.2 hr
      rw [h1] at this; simp at this; omega
  have h3 := zero_of_trim h2 i
  rw [co_add] at h3
  have : co p i ^^^ co q i ^^^ co q i = 0#8 ^^^ co q i := by rw [h3]
  rw [BitVec.xor_assoc, BitVec.xor_self] at this
  simpa using this
theorem xor_move {a b c : BitVec 8} (h : a ^^^ b = c) : a = c ^^^ b := by rw [← h, BitVec.xor_assoc, BitVec.xor_self]; simp

/-- s and r are p's quotient by q, and the rest. -/
structure IsDiv (p q s r : List (BitVec 8)) : Prop where
  ts : trim s = s
  tr : trim r = r
  eq : ∀ i, co p i = co (mul s q) i ^^^ co r i
  lt : r.length < (trim q).length
theorem IsDiv.congr {p q s r p' q' : List (BitVec 8)} (h : IsDiv p q s r) (hp : ∀ i, co p i = co p' i) (hq : ∀ i, co q i = co q' i) : IsDiv p' q' s r :=
  ⟨h.ts, h.tr, fun i => by rw [← hp, h.eq, mul_congr_r s hq], by rw [← trim_congr hq]; exact h.lt⟩
theorem IsDiv.unique {p q s r s' r' : List (BitVec 8)} (h : IsDiv p q s r) (h' : IsDiv p q s' r') : s = s' ∧ r = r' := by
  have hq : trim q ≠ [] := by intro e; have := h.lt; rw [e] at this; simp at this
  have e1 : ∀ i, co (mul (add s s') q) i = co r i ^^^ co r' i := fun i => by
    have a1 := h.eq i
    have a2 := h'.eq i
    rw [a1] at a2
    rw [mul_add_l]
    have := xor_move a2
    rw [this]
    rw [BitVec.xor_assoc, BitVec.xor_assoc, BitVec.xor_comm (co (mul s' q) i), BitVec.xor_assoc, BitVec.xor_assoc, BitVec.xor_self, BitVec.xor_comm (co r' i)]
    simp
  have e2 : trim (add s s') = [] := by
    by_cases e : trim (add s s') = []
    · exact e
    · exfalso
      have h1 := trim_mul_len e hq
      have h3 : 0 < (trim (add s s')).length := List.length_pos_iff.2 e
      have h4 : (trim (mul (add s s') q)).length < (trim q).length := by
        have : (trim (mul (add s s') q)).length ≤ max r.length r'.length := trim_len_le (fun i hi => by rw [e1, co_ge (p := r) (by omega), co_ge (p := r') (by omega)]; rfl)
        have := h.lt
        have := h'.lt
        omega
      omega
  have e3 : s = s' := trim_eq h.ts h'.ts (fun i => by
    have h3 := zero_of_trim e2 i
    rw [co_add] at h3
    have := xor_move h3
    simpa using this)
  subst e3
  refine ⟨rfl, trim_eq h.tr h'.tr (fun i => ?_)⟩
  have a1 := h.eq i
  rw [h'.eq i] at a1
  have : co (mul s q) i ^^^ (co (mul s q) i ^^^ co r' i) = co (mul s q) i ^^^ (co (mul s q) i ^^^ co r i) := by rw [a1]
  rw [← BitVec.xor_assoc, ← BitVec.xor_assoc, BitVec.xor_self] at this
  simpa using this.symm
end Go.Proofs.Ytbjmdijphciliaa
