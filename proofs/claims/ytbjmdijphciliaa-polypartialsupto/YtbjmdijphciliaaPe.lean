/-
  Values of polynomials, roots, the one through given values: plain mathematics.
-/
import Derived.Test.YtbjmdijphciliaaPl
namespace Go.Proofs.Ytbjmdijphciliaa

/-- The value at x. -/
def ev (x : BitVec 8) : List (BitVec 8) → BitVec 8
  | [] => 0#8
  | a :: p => a ^^^ gm x (ev x p)
theorem ev_zero (x : BitVec 8) {p : List (BitVec 8)} (h : ∀ i, co p i = 0#8) : ev x p = 0#8 := by
  induction p with
  | nil => rfl
  | cons a p ih =>
    have h0 : a = 0#8 := by have := h 0; rwa [co_zero] at this
    unfold ev; rw [ih (fun i => by have := h (i + 1); rwa [co_succ] at this), h0, gm_zero]; rfl
theorem ev_congr (x : BitVec 8) : ∀ {p q : List (BitVec 8)}, (∀ i, co p i = co q i) → ev x p = ev x q := by
  intro p
  induction p with
  | nil => intro q h; exact (ev_zero x (fun i => by rw [← h i, co_nil])).symm
  | cons a p ih =>
    intro q h
    cases q with
    | nil => exact ev_zero x (fun i => by rw [h i, co_nil])
    | cons b q =>
      have h1 : a = b := by have := h 0; rwa [co_zero, co_zero] at this
      unfold ev; rw [h1, ih (q := q) (fun i => by have := h (i + 1); rwa [co_succ, co_succ] at this)]
theorem ev_trim (x : BitVec 8) (p : List (BitVec 8)) : ev x (trim p) = ev x p := ev_congr x (co_trim p)
theorem ev_add (x : BitVec 8) (p : List (BitVec 8)) : ∀ q, ev x (add p q) = ev x p ^^^ ev x q := by
  induction p with
  | nil => intro q; show ev x q = 0#8 ^^^ ev x q; simp
  | cons a p ih =>
    intro q
    cases q with
    | nil => show ev x (a :: p) = ev x (a :: p) ^^^ 0#8; simp
    | cons b q =>
      show (a ^^^ b) ^^^ gm x (ev x (add p q)) = (a ^^^ gm x (ev x p)) ^^^ (b ^^^ gm x (ev x q))
      rw [ih, gm_xor_r, xr3]
theorem ev_smul (x c : BitVec 8) (p : List (BitVec 8)) : ev x (smul c p) = gm c (ev x p) := by
  induction p with
  | nil => show 0#8 = gm c 0#8; rw [gm_zero]
  | cons a p ih =>
    show gm c a ^^^ gm x (ev x (smul c p)) = gm c (a ^^^ gm x (ev x p))
    rw [ih, gm_xor_r, ← gm_assoc, gm_comm x c, gm_assoc]
theorem ev_mul (x : BitVec 8) (p q : List (BitVec 8)) : ev x (mul p q) = gm (ev x p) (ev x q) := by
  induction p with
  | nil => show 0#8 = gm 0#8 _; rw [gm_zero_l]
  | cons a p ih =>
    show ev x (add (smul a q) (0#8 :: mul p q)) = gm (a ^^^ gm x (ev x p)) (ev x q)
    rw [ev_add, ev_smul, gm_xor_l]
    congr 1
    show 0#8 ^^^ gm x (ev x (mul p q)) = _
    rw [ih, gm_assoc]; simp
theorem ev_of {p q : List (BitVec 8)} (x : BitVec 8) {f : BitVec 8} (h : ∀ i, co p i = co q i) (hq : ev x q = f) : ev x p = f := by rw [ev_congr x h, hq]
/-- What is divided by x plus a leaves this quotient. -/
def syn (a : BitVec 8) : List (BitVec 8) → List (BitVec 8)
  | [] => []
  | [_] => []
  | _ :: d :: p => ev a (d :: p) :: syn a (d :: p)
theorem syn_len (a : BitVec 8) (p : List (BitVec 8)) : (syn a p).length = p.length - 1 := by
  induction p with
  | nil => rfl
  | cons c p ih =>
    cases p with
    | nil => rfl
    | cons d p => show (syn a (d :: p)).length + 1 = _; rw [ih]; simp
theorem co_lin (a : BitVec 8) (q : List (BitVec 8)) (i : Nat) : co (mul [a, 1#8] q) i = gm a (co q i) ^^^ (if i = 0 then 0#8 else co q (i - 1)) := by
  rw [co_mul_cons, mul_one_l]
theorem syn_eq (a : BitVec 8) (p : List (BitVec 8)) (i : Nat) : co p i = co (mul [a, 1#8] (syn a p)) i ^^^ co [ev a p] i := by
  rw [co_lin]
  induction p generalizing i with
  | nil =>
    show co [] i = (gm a (co [] i) ^^^ if i = 0 then 0#8 else co [] (i - 1)) ^^^ co [0#8] i
    rw [co_nil, gm_zero, co_nil, co_cons, co_nil]; simp
  | cons c p ih =>
    cases p with
    | nil =>
      show co [c] i = (gm a (co [] i) ^^^ if i = 0 then 0#8 else co [] (i - 1)) ^^^ co [c ^^^ gm a 0#8] i
      rw [co_nil, gm_zero, co_nil]; simp
    | cons d p =>
      show co (c :: d :: p) i = (gm a (co (ev a (d :: p) :: syn a (d :: p)) i) ^^^ if i = 0 then 0#8 else co (ev a (d :: p) :: syn a (d :: p)) (i - 1)) ^^^ co [c ^^^ gm a (ev a (d :: p))] i
      generalize hE : ev a (d :: p) = E at ih ⊢
      cases i with
      | zero =>
        rw [co_zero, co_zero, co_zero, if_pos rfl, BitVec.xor_comm c, ← BitVec.xor_assoc]
        simp
      | succ i =>
        have h := ih i
        rw [co_succ, co_succ, co_succ, co_nil, if_neg (by omega), Nat.add_sub_cancel]
        rw [h]
        cases i with
        | zero => rw [co_zero, co_zero, if_pos rfl]; simp
        | succ i => rw [co_succ, co_succ, if_neg (by omega), Nat.add_sub_cancel, co_nil]
theorem xor_ne {a b : BitVec 8} (h : a ≠ b) : a ^^^ b ≠ 0#8 := fun e => h (by have := xor_move e; simpa using this)
/-- So many coefficients and as many unlike roots: all is zero. -/
theorem few (R : List (BitVec 8)) : ∀ p : List (BitVec 8), p.length ≤ R.length → R.Nodup → (∀ x ∈ R, ev x p = 0#8) → ∀ i, co p i = 0#8 := by
  induction R with
  | nil => intro p hl _ _ i; rw [List.length_eq_zero_iff.1 (Nat.le_zero.1 hl)]; exact co_nil i
  | cons r R ih =>
    intro p hl hn hr i
    have h0 := hr r (by simp)
    have hq := ih (syn r p) (by rw [syn_len]; simp at hl; omega) (List.nodup_cons.1 hn).2 (fun x hx => by
      have h1 := hr x (by simp [hx])
      have h2 : ev x p = ev x (add (mul [r, 1#8] (syn r p)) [ev r p]) := ev_congr x (fun i => by rw [co_add]; exact syn_eq r p i)
      rw [h1, ev_add, ev_mul, h0] at h2
      have h3 : ev x [0#8] = 0#8 := by show 0#8 ^^^ gm x 0#8 = _; rw [gm_zero]; rfl
      have h4 : ev x [r, 1#8] = r ^^^ x := by show r ^^^ gm x (1#8 ^^^ gm x 0#8) = _; rw [gm_zero]; simp [gm_one]
      rw [h3, h4] at h2
      have hne : r ^^^ x ≠ 0#8 := xor_ne (fun e => (List.nodup_cons.1 hn).1 (e ▸ hx))
      by_cases e : ev x (syn r p) = 0#8
      · exact e
      · exact absurd (by simpa using h2.symm) (gm_ne hne e))
    rw [syn_eq r p i, co_lin, hq, gm_zero, h0, co_cons, co_nil]
    by_cases hi : i = 0
    · simp [hi]
    · simp [hi, hq]
theorem ev_lin (a x : BitVec 8) : ev x [a, 1#8] = a ^^^ x := by show a ^^^ gm x (1#8 ^^^ gm x 0#8) = _; rw [gm_zero]; simp [gm_one]
theorem ev_const (a x : BitVec 8) : ev x [a] = a := by show a ^^^ gm x 0#8 = _; rw [gm_zero]; simp
/-- This trimmed list has these values at these points, and no more coefficients than there are points. -/
structure IsThr (xs ys t : List (BitVec 8)) : Prop where
  tt : trim t = t
  len : t.length ≤ xs.length
  ev : ∀ i, i < xs.length → ev (xs.getD i 0#8) t = ys.getD i 0#8
theorem IsThr.unique {xs ys t t' : List (BitVec 8)} (h : IsThr xs ys t) (h' : IsThr xs ys t') (hn : xs.Nodup) : t = t' := by
  refine trim_eq h.tt h'.tt (fun i => ?_)
  have := few xs (add t t') (by rw [add_len]; have := h.len; have := h'.len; omega) hn (fun x hx => by
    obtain ⟨j, hj, rfl⟩ := List.getElem_of_mem hx
    have e : xs[j] = xs.getD j 0#8 := by simp [hj]
    rw [e, ev_add, h.ev j hj, h'.ev j hj]; simp) i
  rw [co_add] at this
  have := xor_move this
  simpa using this
/-- The rest by x plus a is the value at a. -/
theorem div_lin {p s r : List (BitVec 8)} {a : BitVec 8} (h : IsDiv p [a, 1#8] s r) : r = trim [Go.Proofs.Ytbjmdijphciliaa.ev a p] := by
  have h2 : trim [a, 1#8] = [a, 1#8] := trim_self (fun _ => by simp [co])
  have h1 : IsDiv p [a, 1#8] (trim (syn a p)) (trim [Go.Proofs.Ytbjmdijphciliaa.ev a p]) := by
    refine ⟨trim_trim _, trim_trim _, fun i => ?_, ?_⟩
    · rw [co_trim, syn_eq a p i, mul_comm (trim (syn a p)), mul_congr_r _ (co_trim _)]
    · rw [h2]; have := trim_len [Go.Proofs.Ytbjmdijphciliaa.ev a p]; simp at this ⊢; omega
  exact (h.unique h1).2
theorem trim_one_nil {a : BitVec 8} : trim [a] = [] ↔ a = 0#8 := by
  constructor
  · intro h; have := zero_of_trim h 0; rwa [co_zero] at this
  · rintro rfl; rfl
/-- The product of x plus each. -/
def van : List (BitVec 8) → List (BitVec 8)
  | [] => [1#8]
  | a :: p => mul (van p) [a, 1#8]
theorem lin_len (a : BitVec 8) : trim [a, 1#8] = [a, 1#8] := trim_self (fun _ => by simp [co])
theorem trim_van_len (p : List (BitVec 8)) : (trim (van p)).length = p.length + 1 := by
  induction p with
  | nil => show (trim [1#8]).length = 1; rfl
  | cons a p ih =>
    show (trim (mul (van p) [a, 1#8])).length = _
    rw [trim_mul_len (by intro e; rw [e] at ih; simp at ih) (by rw [lin_len]; simp), ih, lin_len]; simp
theorem van_len (p : List (BitVec 8)) : (van p).length = p.length + 1 := by
  induction p with
  | nil => rfl
  | cons a p ih =>
    show (mul (van p) [a, 1#8]).length = _
    rw [mul_len (by intro e; rw [e] at ih; simp at ih) (by simp), ih]; simp
theorem van_trim (p : List (BitVec 8)) : trim (van p) = van p := by rw [trim_take, trim_van_len, ← van_len, List.take_length]
theorem ev_van (x : BitVec 8) (p : List (BitVec 8)) : ev x (van p) = 0#8 ↔ x ∈ p := by
  induction p with
  | nil => rw [show van [] = [1#8] from rfl, ev_const]; simp
  | cons a p ih =>
    show ev x (mul (van p) [a, 1#8]) = 0#8 ↔ _
    rw [ev_mul, ev_lin, List.mem_cons, ← ih]
    constructor
    · intro h
      by_cases e : x = a
      · exact .inl e
      · right
        by_cases e2 : ev x (van p) = 0#8
        · exact e2
        · exact absurd h (gm_ne e2 (xor_ne (fun e3 => e e3.symm)))
    · rintro (rfl | h)
      · simp [gm_zero]
      · rw [h, gm_zero_l]
/-- Powers of an element. -/
def px (x : BitVec 8) : Nat → BitVec 8
  | 0 => 1#8
  | k + 1 => gm (px x k) x
/-- A sum of values times powers, from the left. -/
def evs (x : BitVec 8) (f : Nat → BitVec 8) : Nat → BitVec 8
  | 0 => 0#8
  | k + 1 => evs x f k ^^^ gm (f k) (px x k)
theorem evs_congr {x : BitVec 8} {f g : Nat → BitVec 8} {n : Nat} (h : ∀ i, i < n → f i = g i) : evs x f n = evs x g n := by
  induction n with
  | zero => rfl
  | succ n ih => unfold evs; rw [ih (fun i hi => h i (by omega)), h n (by omega)]
theorem px_succ (x : BitVec 8) (k : Nat) : px x (k + 1) = gm x (px x k) := by rw [px, gm_comm]
theorem evs_shift (x : BitVec 8) (f : Nat → BitVec 8) (n : Nat) : evs x f (n + 1) = f 0 ^^^ gm x (evs x (fun i => f (i + 1)) n) := by
  induction n with
  | zero => show 0#8 ^^^ gm (f 0) 1#8 = f 0 ^^^ gm x 0#8; rw [gm_one, gm_zero]; simp
  | succ n ih =>
    show evs x f (n + 1) ^^^ gm (f (n + 1)) (px x (n + 1)) = f 0 ^^^ gm x (evs x (fun i => f (i + 1)) n ^^^ gm (f (n + 1)) (px x n))
    rw [ih, gm_xor_r, px_succ, ← gm_assoc, gm_comm (f (n + 1)) x, gm_assoc, BitVec.xor_assoc]
theorem ev_evs (x : BitVec 8) (p : List (BitVec 8)) : ev x p = evs x (co p) p.length := by
  induction p with
  | nil => rfl
  | cons a p ih =>
    show a ^^^ gm x (ev x p) = _
    rw [List.length_cons, evs_shift, co_zero, ih]
    congr 2
end Go.Proofs.Ytbjmdijphciliaa
