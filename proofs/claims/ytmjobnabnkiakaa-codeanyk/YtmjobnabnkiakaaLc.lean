/-
  Steps of an elimination, inverses, ranks, the powers of unlike points: plain mathematics.
-/
import Derived.Test.YtmjobnabnkiakaaLb
namespace Go.Proofs.Ytmjobnabnkiakaa
variable {K : Type} {D : Fd K}
/-- N's rows are those of A turned, with d pivots among the first c columns. -/
structure Ech (D : Fd K) (r c d : Nat) (A N E F : Nat → Nat → K) (pv : Nat → Nat) : Prop where
  req : Req D r A N E F
  dr : d ≤ r
  pc : ∀ i, i < d → pv i < c
  inc : ∀ i j, i < j → j < d → pv i < pv j
  one : ∀ i, i < d → ∀ k, k < r → N k (pv i) = dl D k i
  zer : ∀ k, d ≤ k → k < r → ∀ j, j < c → N k j = D.oo
theorem Ech.start (D : Fd K) (r : Nat) (A : Nat → Nat → K) : Ech D r 0 0 A A (dl D) (dl D) (fun _ => 0) :=
  ⟨Req.refl r A, Nat.zero_le _, fun i hi => by omega, fun i j _ h => by omega, fun i hi => by omega, fun k _ _ j hj => by omega⟩
theorem Ech.skip {r c d : Nat} {A N E F : Nat → Nat → K} {pv : Nat → Nat} (h : Ech D r c d A N E F pv) (hz : ∀ k, d ≤ k → k < r → N k c = D.oo) : Ech D r (c + 1) d A N E F pv :=
  ⟨h.req, h.dr, fun i hi => Nat.lt_succ_of_lt (h.pc i hi), h.inc, h.one, fun k hk hr j hj => by
    by_cases e : j = c
    · rw [e]; exact hz k hk hr
    · exact h.zer k hk hr j (by omega)⟩
theorem Ech.widen {r c c' : Nat} {A N E F : Nat → Nat → K} {pv : Nat → Nat} (h : Ech D r c r A N E F pv) (hc : c ≤ c') : Ech D r c' r A N E F pv :=
  ⟨h.req, h.dr, fun i hi => Nat.lt_of_lt_of_le (h.pc i hi) hc, h.inc, h.one, fun k hk hr j _ => by omega⟩
theorem Ech.congr {r c d : Nat} {A N N' E F : Nat → Nat → K} {pv : Nat → Nat} (h : Ech D r c d A N E F pv) (e : ∀ i, i < r → ∀ j, N' i j = N i j) : Ech D r c d A N' E F pv :=
  ⟨h.req.congr e, h.dr, h.pc, h.inc, fun i hi k hk => by rw [e k hk]; exact h.one i hi k hk, fun k hk hr j hj => by rw [e k hr]; exact h.zer k hk hr j hj⟩
theorem sw_low {a b i : Nat} (h : a ≤ b) (hi : i < a) : sw a b i = i := by unfold sw; rw [if_neg (by omega), if_neg (by omega)]
theorem sw_high {a b i : Nat} (h : a ≤ b) (hi : a ≤ i) : a ≤ sw a b i := by unfold sw; split; exact h; split; exact Nat.le_refl _; exact hi
theorem sw_fst (a b : Nat) : sw a b a = b := by unfold sw; rw [if_pos rfl]
/-- The next column has a pivot, at the row b. -/
theorem Ech.step {r c d b : Nat} {A N E F : Nat → Nat → K} {pv : Nat → Nat} (h : Ech D r c d A N E F pv) (hd : d ≤ b) (hb : b < r) (hne : N b c ≠ D.oo) :
    ∃ E' F', Ech D r (c + 1) (d + 1) A (clr D d (D.iv (N b c)) (fun i => N (sw d b i) c) (fun i j => N (sw d b i) j)) E' F' (fun i => if i = d then c else pv i) := by
  have hdr : d < r := by omega
  refine ⟨_, _, (h.req.trans (req_swap N hdr hb)).trans (req_clr (fun i j => N (sw d b i) j) hdr (iv_ne hne) _), by omega, fun i hi => ?_, fun i j hij hj => ?_, fun i hi k hk => ?_, fun k hk hr j hj => ?_⟩
  · show (if i = d then c else pv i) < c + 1
    by_cases e : i = d
    · rw [if_pos e]; omega
    · rw [if_neg e]; have := h.pc i (by omega); omega
  · show (if i = d then c else pv i) < (if j = d then c else pv j)
    rw [if_neg (by omega)]
    by_cases e : j = d
    · rw [if_pos e]; exact h.pc i (by omega)
    · rw [if_neg e]; exact h.inc i j hij (by omega)
  · have hswk : sw d b k < r := sw_lt hdr hb hk
    by_cases e : i = d
    · subst e
      show clr D i _ _ _ k (if i = i then c else pv i) = _
      rw [if_pos rfl]
      unfold clr
      dsimp only
      by_cases e2 : k = i
      · subst e2
        rw [if_pos rfl, sw_fst, iv_iv hne]
        unfold dl; rw [if_pos rfl]
      · rw [if_neg e2, sw_fst, iv_iv hne, D.ti_ee, D.pl_self]
        unfold dl; rw [if_neg e2]
    · show clr D d _ _ _ k (if i = d then c else pv i) = _
      rw [if_neg e]
      have hi2 : i < d := by omega
      have hz : N (sw d b d) (pv i) = D.oo := by
        rw [sw_fst, h.one i hi2 b hb]; unfold dl; rw [if_neg (by omega)]
      unfold clr
      dsimp only
      by_cases e2 : k = d
      · rw [if_pos e2, hz, ti_oo, e2]; unfold dl; rw [if_neg (fun x => e x.symm)]
      · rw [if_neg e2, hz, ti_oo, ti_oo, D.pl_oo, h.one i hi2 _ hswk]
        unfold dl
        by_cases e3 : k < d
        · rw [sw_low hd e3]
        · have := sw_high hd (show d ≤ k by omega)
          rw [if_neg (by omega), if_neg (by omega)]
  · have hz : ∀ j, j < c → N (sw d b d) j = D.oo := fun j hj => by rw [sw_fst]; exact h.zer b hd hb j hj
    unfold clr
    dsimp only
    rw [if_neg (by omega)]
    by_cases e : j = c
    · subst e; rw [sw_fst, iv_iv hne, D.ti_ee, D.pl_self]
    · rw [hz j (by omega), ti_oo, ti_oo, D.pl_oo]
      exact h.zer _ (sw_high hd (by omega)) (sw_lt hdr hb hr) j (by omega)
theorem Ech.at {n : Nat} {A N E F : Nat → Nat → K} {pv : Nat → Nat} (h : Ech D n n n A N E F pv) {i : Nat} (hi : i < n) : pv i = i := by
  have up : ∀ k i, i + k < n → pv i + k ≤ pv (i + k) := by
    intro k
    induction k with
    | zero => exact fun i _ => Nat.le_refl _
    | succ k ih => intro i hik; have h1 := ih i (by omega); have h2 := h.inc (i + k) (i + (k + 1)) (by omega) hik; omega
  have h1 := up i 0 (by omega)
  rw [Nat.zero_add] at h1
  have h2 := up (n - 1 - i) i (by omega)
  have h3 := h.pc (i + (n - 1 - i)) (by omega)
  omega
theorem Ech.full {n : Nat} {A N E F : Nat → Nat → K} {pv : Nat → Nat} (h : Ech D n n n A N E F pv) {i j : Nat} (hi : i < n) (hj : j < n) : N i j = dl D i j := by
  have := h.one j hj i hi
  rw [h.at hj] at this; exact this
/-- What stands behind an identity that was turned along is the inverse. -/
theorem Ech.inverse {n : Nat} {A N E F a : Nat → Nat → K} {pv : Nat → Nat} (h : Ech D n n n A N E F pv) (h1 : ∀ i, i < n → ∀ j, j < n → A i j = a i j) (h2 : ∀ i, i < n → ∀ j, j < n → A i (n + j) = dl D i j) :
    (∀ i, i < n → ∀ j, j < n → mm D n (fun i j => N i (n + j)) a i j = dl D i j) ∧ ∀ i, i < n → ∀ j, j < n → mm D n a (fun i j => N i (n + j)) i j = dl D i j := by
  have hE : ∀ i, i < n → ∀ j, j < n → N i (n + j) = E i j := fun i hi j hj => by
    rw [h.req.eq i hi, mm_congr (A' := E) (B' := fun t u => dl D t (u - n)) (fun _ _ => rfl) (fun t ht => by rw [h2 t ht j hj]; show _ = dl D t (n + j - n); rw [Nat.add_sub_cancel_left])]
    show mm D n E (dl D) i (n + j - n) = E i j
    rw [Nat.add_sub_cancel_left]; exact mm_dl_r hj
  have hEa : ∀ i, i < n → ∀ j, j < n → mm D n E a i j = dl D i j := fun i hi j hj => by
    rw [← h.full hi hj, h.req.eq i hi]
    exact mm_congr (fun _ _ => rfl) (fun t ht => (h1 t ht j hj).symm)
  have hF : ∀ i, i < n → ∀ j, j < n → F i j = a i j := fun i hi j hj => by
    rw [← mm_dl_r (D := D) (A := F) (i := i) hj, mm_congr (A' := F) (B' := mm D n E a) (fun _ _ => rfl) (fun t ht => (hEa t ht j hj).symm), ← mm_assoc, mm_congr (A' := dl D) (B' := a) (fun t ht => h.req.fe i hi t ht) (fun _ _ => rfl), mm_dl_l hi]
  refine ⟨fun i hi j hj => ?_, fun i hi j hj => ?_⟩
  · rw [← hEa i hi j hj]; exact mm_congr (fun t ht => hE i hi t ht) (fun _ _ => rfl)
  · rw [← h.req.fe i hi j hj]; exact mm_congr (fun t ht => (hF i hi t ht).symm) (fun t ht => hE t ht j hj)
/-- Too few pivots: there is no inverse. -/
theorem Ech.few {n d : Nat} {A N E F a X : Nat → Nat → K} {pv : Nat → Nat} (h : Ech D n n d A N E F pv) (hd : d < n) (h1 : ∀ i, i < n → ∀ j, j < n → A i j = a i j) (hX : ∀ i, i < n → ∀ j, j < n → mm D n X a i j = dl D i j) : False := by
  have he : ∀ j, j < n → sm D (fun t => D.ti (E d t) (a t j)) n = D.oo := fun j hj => by
    rw [← h.zer d (Nat.le_refl _) hd j hj, h.req.eq d hd]
    exact sm_congr (fun t ht => by rw [h1 t ht j hj])
  have hz := left_oo hX he
  have := h.req.ef d hd d hd
  rw [show mm D n E F d d = D.oo from sm_oo (fun t ht => by rw [hz t ht, oo_ti])] at this
  unfold dl at this
  rw [if_pos rfl] at this
  exact D.ee_ne this.symm
/-- What takes nothing but zero to zero has all its pivots. -/
theorem Ech.all {n d : Nat} {A N E F a : Nat → Nat → K} {pv : Nat → Nat} (h : Ech D n n d A N E F pv) (h1 : ∀ i, i < n → ∀ j, j < n → A i j = a i j) (ha : ∀ y : Nat → K, (∀ i, i < n → sm D (fun j => D.ti (a i j) (y j)) n = D.oo) → ∀ j, j < n → y j = D.oo) : d = n := by
  rcases Nat.lt_or_ge d n with hlt | hge
  · exfalso
    obtain ⟨y, ⟨c, hc, hy⟩, h0⟩ := more d n N hlt
    refine hy (ha y (fun i hi => ?_) c hc)
    have hN : ∀ t, t < n → mm D n N (fun k _ => y k) t 0 = D.oo := fun t ht => by
      rcases Nat.lt_or_ge t d with h2 | h2
      · exact h0 t h2
      · exact sm_oo (fun j hj => by rw [h.zer t h2 ht j hj, oo_ti])
    have hA : ∀ j, j < n → a i j = mm D n F N i j := fun j hj => by
      rw [← h1 i hi j hj, mm_congr (A' := F) (B' := mm D n E A) (fun _ _ => rfl) (fun t ht => h.req.eq t ht j), ← mm_assoc, mm_congr (A' := dl D) (B' := A) (fun t ht => h.req.fe i hi t ht) (fun _ _ => rfl), mm_dl_l hi]
    rw [sm_congr (g := fun j => D.ti (mm D n F N i j) (y j)) (fun j hj => by rw [hA j hj])]
    show mm D n (mm D n F N) (fun k _ => y k) i 0 = D.oo
    rw [mm_assoc]
    exact sm_oo (fun t ht => by rw [hN t ht, ti_oo])
  · have := h.dr; omega
/-- An inverse on the left is the inverse on the right. -/
theorem inv_one {n : Nat} {a X Y : Nat → Nat → K} (hX : ∀ i, i < n → ∀ j, j < n → mm D n X a i j = dl D i j) (hY : ∀ i, i < n → ∀ j, j < n → mm D n a Y i j = dl D i j) {i j : Nat} (hi : i < n) (hj : j < n) : X i j = Y i j := by
  rw [← mm_dl_r (D := D) (A := X) (i := i) hj, mm_congr (A' := X) (B' := mm D n a Y) (fun _ _ => rfl) (fun t ht => (hY t ht j hj).symm), ← mm_assoc, mm_congr (A' := dl D) (B' := Y) (fun t ht => hX i hi t ht) (fun _ _ => rfl), mm_dl_l hi]
/-- x to the j. -/
def po (D : Fd K) (x : K) : Nat → K
  | 0 => D.ee
  | j + 1 => D.ti (po D x j) x
def ev (D : Fd K) (n : Nat) (y : Nat → K) (x : K) : K := sm D (fun j => D.ti (y j) (po D x j)) n
theorem sm_shift (f : Nat → K) (n : Nat) : sm D f (n + 1) = D.pl (f 0) (sm D (fun j => f (j + 1)) n) := by
  induction n with
  | zero => show D.pl D.oo (f 0) = D.pl (f 0) D.oo; rw [D.pl_comm]
  | succ n ih => show D.pl (sm D f (n + 1)) (f (n + 1)) = _; rw [ih, D.pl_assoc]; rfl
theorem ev_shift (n : Nat) (y : Nat → K) (x : K) : ev D (n + 1) y x = D.pl (y 0) (D.ti x (ev D n (fun j => y (j + 1)) x)) := by
  unfold ev
  rw [sm_shift, show po D x 0 = D.ee from rfl, D.ti_ee, ← sm_ti]
  refine congrArg _ (sm_congr (fun j _ => ?_))
  show D.ti _ (D.ti _ x) = _
  rw [← D.ti_assoc, D.ti_comm _ x]
theorem divide (n : Nat) : ∀ (y : Nat → K) (z : K), ∃ (q : Nat → K) (R : K), (∀ x, ev D (n + 1) y x = D.pl (D.ti (D.pl x z) (ev D n q x)) R) ∧ ((∀ j, j < n → q j = D.oo) → R = D.oo → ∀ j, j < n + 1 → y j = D.oo) := by
  induction n with
  | zero =>
    intro y z
    refine ⟨fun _ => D.oo, y 0, fun x => ?_, fun _ h j hj => ?_⟩
    · rw [ev_shift]
      show D.pl (y 0) (D.ti x D.oo) = D.pl (D.ti _ D.oo) (y 0)
      rw [ti_oo, ti_oo, D.pl_comm]
    · obtain rfl : j = 0 := by omega
      exact h
  | succ n ih =>
    intro y z
    obtain ⟨q, R, h1, h2⟩ := ih (fun j => y (j + 1)) z
    refine ⟨fun j => if j = 0 then R else q (j - 1), D.pl (y 0) (D.ti z R), fun x => ?_, fun hq hR j hj => ?_⟩
    · rw [ev_shift, h1 x, ev_shift n (fun j => if j = 0 then R else q (j - 1)) x]
      have e : ev D n (fun j => if j + 1 = 0 then R else q (j + 1 - 1)) x = ev D n q x := sm_congr (fun j _ => by show D.ti (if j + 1 = 0 then R else q (j + 1 - 1)) _ = _; rw [if_neg (by omega), Nat.add_sub_cancel])
      rw [e]
      show _ = D.pl (D.ti (D.pl x z) (D.pl (if 0 = 0 then R else q (0 - 1)) _)) _
      rw [if_pos rfl, D.ti_pl x, D.ti_pl (D.pl x z), pl_ti x z R, ← D.ti_assoc x, ← D.ti_assoc (D.pl x z), D.ti_comm x (D.pl x z)]
      generalize D.ti (D.ti (D.pl x z) x) (ev D n q x) = u
      generalize D.ti x R = p
      generalize D.ti z R = s
      rw [D.pl_comm u p, ← D.pl_assoc, D.pl_comm (y 0) p, D.pl_comm (y 0) s, ← D.pl_assoc _ s (y 0), D.pl_assoc _ u s, D.pl_comm u s, D.pl_assoc p s, ← D.pl_assoc s s u, D.pl_self, oo_pl, D.pl_assoc p u, D.pl_comm u (y 0), ← D.pl_assoc]
    · have hR0 : R = D.oo := by have := hq 0 (by omega); dsimp only at this; rw [if_pos rfl] at this; exact this
      have hy0 : y 0 = D.oo := by rw [hR0, ti_oo, D.pl_oo] at hR; exact hR
      by_cases e : j = 0
      · rw [e]; exact hy0
      · have := h2 (fun i hi => by have := hq (i + 1) (by omega); dsimp only at this; rw [if_neg (by omega), Nat.add_sub_cancel] at this; exact this) hR0 (j - 1) (by omega)
        rw [show j - 1 + 1 = j by omega] at this; exact this
/-- No more roots than places. -/
theorem vander (n : Nat) : ∀ (x y : Nat → K), (∀ i, i < n → ∀ j, j < n → i ≠ j → x i ≠ x j) → (∀ i, i < n → ev D n y (x i) = D.oo) → ∀ j, j < n → y j = D.oo := by
  induction n with
  | zero => intro x y _ _ j hj; omega
  | succ n ih =>
    intro x y hx hy
    obtain ⟨q, R, h1, h2⟩ := divide n y (x n)
    have hR : R = D.oo := by
      have := hy n (by omega)
      rw [h1, D.pl_self, oo_ti, oo_pl] at this; exact this
    refine h2 (ih x q (fun i hi j hj => hx i (by omega) j (by omega)) (fun i hi => ?_)) hR
    have := hy i (by omega)
    rw [h1, hR, D.pl_oo] at this
    cases D.dec (ev D n q (x i)) D.oo with
    | isTrue h => exact h
    | isFalse h => exact absurd this (ti_ne (fun e => hx i (by omega) n (by omega) (by omega) (pl_eq e)) h)
end Go.Proofs.Ytmjobnabnkiakaa
