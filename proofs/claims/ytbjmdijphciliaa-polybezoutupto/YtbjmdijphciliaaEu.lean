/-
  Euclid's row: plain mathematics.
-/
import Derived.Test.YtbjmdijphciliaaPq
namespace Go.Proofs.Ytbjmdijphciliaa

structure Tm where
  g : List (BitVec 8)
  u : List (BitVec 8)
  v : List (BitVec 8)
/-- What follows upon two of the row. -/
def Tm.next (a b : Tm) (s r : List (BitVec 8)) : Tm := ⟨r, trim (add a.u (trim (mul s b.u))), trim (add a.v (trim (mul s b.v)))⟩
/-- The k-th of Euclid's row of p and q, and the one behind it. -/
def Eu (p q : List (BitVec 8)) : Nat → Tm → Tm → Prop
  | 0, a, b => a = ⟨trim p, [1#8], []⟩ ∧ b = ⟨trim q, [], [1#8]⟩
  | k + 1, a, b => ∃ c s r, Eu p q k c a ∧ a.g ≠ [] ∧ IsDiv c.g a.g s r ∧ b = c.next a s r
theorem Eu.zero {p q : List (BitVec 8)} : Eu p q 0 ⟨trim p, [1#8], []⟩ ⟨trim q, [], [1#8]⟩ := ⟨rfl, rfl⟩
theorem Eu.succ {p q : List (BitVec 8)} {k : Nat} {a b : Tm} {s r : List (BitVec 8)} (h : Eu p q k a b) (h0 : b.g ≠ []) (hd : IsDiv a.g b.g s r) : Eu p q (k + 1) b (a.next b s r) := ⟨a, s, r, h, h0, hd, rfl⟩
theorem Eu.det {p q : List (BitVec 8)} {k : Nat} {a b a' b' : Tm} (h : Eu p q k a b) (h' : Eu p q k a' b') : a = a' ∧ b = b' := by
  induction k generalizing a b a' b' with
  | zero =>
    obtain ⟨h1, h2⟩ := h
    obtain ⟨g1, g2⟩ := h'
    exact ⟨by rw [h1, g1], by rw [h2, g2]⟩
  | succ k ih =>
    obtain ⟨c, s, r, h1, _, h3, rfl⟩ := h
    obtain ⟨c', s', r', g1, _, g3, rfl⟩ := h'
    obtain ⟨rfl, rfl⟩ := ih h1 g1
    obtain ⟨rfl, rfl⟩ := h3.unique g3
    exact ⟨rfl, rfl⟩
theorem rest_len {p q s r : List (BitVec 8)} (h : IsDiv p q s r) : r.length ≤ p.length := by
  rcases (div_lens h).2.2 with e | e
  · subst e
    have : r = trim p := trim_eq h.tr (trim_trim p) (fun i => by rw [co_trim, h.eq i, show co (mul [] q) i = 0#8 by unfold mul; exact co_nil i]; simp)
    rw [this]; exact trim_len p
  · by_cases h0 : s = []
    · subst h0
      have : r = trim p := trim_eq h.tr (trim_trim p) (fun i => by rw [co_trim, h.eq i, show co (mul [] q) i = 0#8 by unfold mul; exact co_nil i]; simp)
      rw [this]; exact trim_len p
    · have := List.length_pos_iff.2 h0
      have := h.lt
      omega
/-- A list that is nothing, or leaves so much room. -/
def Fit (l : List (BitVec 8)) (d Q : Nat) : Prop := l = [] ∨ l.length + d ≤ Q + 1
theorem mul_len_le {s u : List (BitVec 8)} : (trim (mul s u)).length = 0 ∨ (trim (mul s u)).length + 1 ≤ s.length + u.length := by
  by_cases h1 : trim s = []
  · rw [trim_mul_nil_l h1]; simp
  · by_cases h2 : trim u = []
    · rw [trim_mul_nil_r h2]; simp
    · have := trim_mul_len h1 h2
      have := List.length_pos_iff.2 h1
      have := List.length_pos_iff.2 h2
      have := trim_len s
      have := trim_len u
      omega
theorem fit_next {p q s r x y : List (BitVec 8)} {Q : Nat} (hD : IsDiv p q s r) (tq : trim q = q) (hx : Fit x q.length Q) (hy : Fit y p.length Q) : Fit (trim (add x (trim (mul s y)))) q.length Q := by
  have h1 := trim_len (add x (trim (mul s y)))
  rw [add_len] at h1
  have h3 : (trim (mul s y)).length = 0 ∨ (trim (mul s y)).length + q.length ≤ Q + 1 := by
    rcases (div_lens hD).2.2 with e | e
    · left; rw [e, trim_mul_nil_l (by rfl)]; rfl
    · rw [tq] at e
      rcases hy with e2 | e2
      · left; rw [e2, trim_mul_nil_r (by rfl)]; rfl
      · rcases mul_len_le (s := s) (u := y) with h | h
        · exact .inl h
        · right; omega
  by_cases h0 : (trim (add x (trim (mul s y)))).length = 0
  · exact .inl (List.length_eq_zero_iff.1 h0)
  · right
    rcases hx with e | e
    · subst e
      simp only [List.length_nil] at h1
      omega
    · omega
/-- What is kept along the row. -/
structure EuI (p q : List (BitVec 8)) (a b : Tm) : Prop where
  ga : trim a.g = a.g
  gb : trim b.g = b.g
  ua : trim a.u = a.u
  ub : trim b.u = b.u
  va : trim a.v = a.v
  vb : trim b.v = b.v
  au : Fit a.u b.g.length (trim q).length
  bu : Fit b.u a.g.length (trim q).length
  av : Fit a.v b.g.length (trim p).length
  bv : Fit b.v a.g.length (trim p).length
  la : a.g.length ≤ max (trim p).length (trim q).length
  lb : b.g.length ≤ max (trim p).length (trim q).length
  ea : ∀ i, co a.g i = co (mul a.u p) i ^^^ co (mul a.v q) i
  eb : ∀ i, co b.g i = co (mul b.u p) i ^^^ co (mul b.v q) i
theorem trim_one : trim [1#8] = [1#8] := by decide
theorem comb_next {x0 x1 y0 y1 p q s g0 g1 r : List (BitVec 8)} (h0 : ∀ i, co g0 i = co (mul x0 p) i ^^^ co (mul y0 q) i) (h1 : ∀ i, co g1 i = co (mul x1 p) i ^^^ co (mul y1 q) i) (hD : ∀ i, co g0 i = co (mul s g1) i ^^^ co r i) (i : Nat) :
    co r i = co (mul (trim (add x0 (trim (mul s x1)))) p) i ^^^ co (mul (trim (add y0 (trim (mul s y1)))) q) i := by
  have e : ∀ (x0 x1 p : List (BitVec 8)), co (mul (trim (add x0 (trim (mul s x1)))) p) i = co (mul x0 p) i ^^^ co (mul s (mul x1 p)) i := fun x0 x1 p => by
    rw [mul_congr (p' := add x0 (mul s x1)) (q' := p) (fun i => by rw [co_trim, co_add, co_add, co_trim]) (fun _ => rfl), mul_add_l, mul_assoc]
  rw [e, e, xr3, ← h0]
  have e2 : co (mul s g1) i = co (mul s (mul x1 p)) i ^^^ co (mul s (mul y1 q)) i := by
    rw [mul_congr_r s (r := add (mul x1 p) (mul y1 q)) (fun i => by rw [co_add]; exact h1 i), mul_add_r]
  rw [← e2, hD i, BitVec.xor_comm (co (mul s g1) i), BitVec.xor_assoc, BitVec.xor_self]; simp
theorem Eu.inv {p q : List (BitVec 8)} {k : Nat} {a b : Tm} (h : Eu p q k a b) : EuI p q a b := by
  induction k generalizing a b with
  | zero =>
    obtain ⟨h1, h2⟩ := h
    subst h1 h2
    refine ⟨trim_trim _, trim_trim _, trim_one, rfl, rfl, trim_one, .inr ?_, .inl rfl, .inl rfl, .inr ?_, by simp; omega, by simp; omega, fun i => ?_, fun i => ?_⟩
    · simp; omega
    · simp; omega
    · rw [co_trim, mul_one_l, show co (mul [] q) i = 0#8 by unfold mul; exact co_nil i]; simp
    · rw [co_trim, mul_one_l, show co (mul [] p) i = 0#8 by unfold mul; exact co_nil i]; simp
  | succ k ih0 =>
    obtain ⟨a0, s, r, h, h0, hD, rfl⟩ := h
    have ih := ih0 h
    have hr := rest_len hD
    have hl := hD.lt
    rw [ih.gb] at hl
    refine ⟨ih.gb, hD.tr, ih.ub, trim_trim _, ih.vb, trim_trim _, ?_, fit_next hD ih.gb ih.au ih.bu, ?_, fit_next hD ih.gb ih.av ih.bv, ih.lb, ?_, ih.eb, fun i => comb_next ih.ea ih.eb hD.eq i⟩
    · rcases ih.bu with e | e
      · exact .inl e
      · exact .inr (by show _ + r.length ≤ _; omega)
    · rcases ih.bv with e | e
      · exact .inl e
      · exact .inr (by show _ + r.length ≤ _; omega)
    · show r.length ≤ _
      have := ih.lb
      omega
theorem EuI.ulen {p q : List (BitVec 8)} {a b : Tm} (h : EuI p q a b) : a.u.length ≤ (trim q).length + 1 ∧ b.u.length ≤ (trim q).length + 1 ∧ a.v.length ≤ (trim p).length + 1 ∧ b.v.length ≤ (trim p).length + 1 := by
  have f : ∀ {l d Q}, Fit l d Q → l.length ≤ Q + 1 := fun {l d Q} h => by
    rcases h with e | e
    · rw [e]; simp
    · omega
  exact ⟨f h.au, f h.bu, f h.av, f h.bv⟩
/-- So great are the products. -/
theorem EuI.sums {p q : List (BitVec 8)} {a b : Tm} (h : EuI p q a b) {s r : List (BitVec 8)} (hD : IsDiv a.g b.g s r) : s.length + b.u.length ≤ max (trim p).length (trim q).length + 1 ∧ s.length + b.v.length ≤ max (trim p).length (trim q).length + 1 := by
  have hd := div_lens hD
  have hl := hD.lt
  rw [h.gb] at hl hd
  have := h.la
  have f : ∀ {l Q}, Q ≤ max (trim p).length (trim q).length → Fit l a.g.length Q → s.length + l.length ≤ max (trim p).length (trim q).length + 1 := fun {l Q} hQ h => by
    rcases h with e | e
    · rw [e]; simp only [List.length_nil]; omega
    · rcases hd.2.2 with e2 | e2
      · rw [e2]; simp only [List.length_nil]; omega
      · omega
  exact ⟨f (by omega) h.bu, f (by omega) h.bv⟩
theorem Eu.lt {p q : List (BitVec 8)} {k : Nat} {a b : Tm} (h : Eu p q k a b) {s r : List (BitVec 8)} (hD : IsDiv a.g b.g s r) : r.length < b.g.length := by
  have := hD.lt; rw [h.inv.gb] at this; exact this
end Go.Proofs.Ytbjmdijphciliaa
