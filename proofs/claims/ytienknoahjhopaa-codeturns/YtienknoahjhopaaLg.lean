/-
  Lagrange's shares, as plain mathematics: the code's matrix.
-/
import Derived.Test.YtienknoahjhopaaUn
import Derived.Test.YtienknoahjhopaaRefO
namespace Go.Proofs.Ytienknoahjhopaa
open Go.RowKit
/-- The product of x less each point but the one at j. -/
def lup (p : Nat → BitVec 8) (j : Nat) (x : BitVec 8) : Nat → BitVec 8
  | 0 => 1#8
  | n + 1 => if n = j then lup p j x n else gm (lup p j x n) (x ^^^ p n)
theorem lup_skip (p : Nat → BitVec 8) (j : Nat) (x : BitVec 8) : lup p j x (j + 1) = lup p j x j := by show (if j = j then _ else _) = _; rw [if_pos rfl]
theorem lup_next (p : Nat → BitVec 8) {j n : Nat} (h : n ≠ j) (x : BitVec 8) : lup p j x (n + 1) = gm (lup p j x n) (x ^^^ p n) := by show (if n = j then _ else _) = _; rw [if_neg h]
theorem lup_zero {p : Nat → BitVec 8} {j n t : Nat} (ht : t < n) (h : t ≠ j) : lup p j (p t) n = 0#8 := by
  induction n with
  | zero => omega
  | succ n ih =>
    by_cases e : n = j
    · subst e
      rw [lup_skip]
      exact ih (by omega)
    · rw [lup_next p e]
      by_cases e2 : t = n
      · subst e2; rw [BitVec.xor_self, gm_comm, gm_zero_l]
      · rw [ih (by omega), gm_zero_l]
theorem lup_ne {p : Nat → BitVec 8} {j n : Nat} {x : BitVec 8} (h : ∀ t, t < n → t ≠ j → x ≠ p t) : lup p j x n ≠ 0#8 := by
  induction n with
  | zero => show (1#8 : BitVec 8) ≠ 0#8; decide
  | succ n ih =>
    by_cases e : n = j
    · subst e
      rw [lup_skip]
      exact ih (fun t ht => h t (by omega))
    · rw [lup_next p e]
      exact ti_ne (D := fdE) (ih (fun t ht => h t (by omega))) (fun e2 => h n (by omega) e (pl_eq (D := fdE) e2))
/-- A polynomial times x less a point is a polynomial. -/
theorem ev_lin (n : Nat) (y : Nat → BitVec 8) (a : BitVec 8) : ∃ q : Nat → BitVec 8, ∀ x, ev fdE (n + 1) q x = gm (ev fdE n y x) (x ^^^ a) := by
  refine ⟨fun j => fdE.pl (if j = 0 then 0#8 else y (j - 1)) (if j < n then fdE.ti a (y j) else 0#8), fun x => ?_⟩
  have e1 : ev fdE (n + 1) (fun j => if j = 0 then 0#8 else y (j - 1)) x = fdE.ti x (ev fdE n y x) := by
    rw [ev_shift]
    rw [if_pos rfl]
    show fdE.pl fdE.oo _ = _
    rw [oo_pl]
    refine congrArg (fdE.ti x) (sm_congr (fun j _ => ?_))
    dsimp only
    rw [if_neg (by omega), Nat.add_sub_cancel]
  have e2 : ev fdE (n + 1) (fun j => if j < n then fdE.ti a (y j) else 0#8) x = fdE.ti a (ev fdE n y x) := by
    unfold ev
    show fdE.pl (sm fdE _ n) _ = _
    dsimp only
    rw [if_neg (Nat.lt_irrefl n), show fdE.ti 0#8 (po fdE x n) = fdE.oo from oo_ti (D := fdE) _, fdE.pl_oo, ← sm_ti]
    exact sm_congr (fun j hj => by rw [if_pos hj, fdE.ti_assoc])
  have e3 : ev fdE (n + 1) (fun j => fdE.pl (if j = 0 then 0#8 else y (j - 1)) (if j < n then fdE.ti a (y j) else 0#8)) x = fdE.pl (ev fdE (n + 1) (fun j => if j = 0 then 0#8 else y (j - 1)) x) (ev fdE (n + 1) (fun j => if j < n then fdE.ti a (y j) else 0#8) x) := by
    unfold ev
    rw [← sm_pl]
    exact sm_congr (fun j _ => pl_ti _ _ _)
  rw [e3, e1, e2, ← pl_ti, fdE.ti_comm]
  rfl
theorem lup_ev (p : Nat → BitVec 8) (j n : Nat) : ∃ y : Nat → BitVec 8, ∀ x, lup p j x n = ev fdE (if j < n then n else n + 1) y x := by
  induction n with
  | zero =>
    refine ⟨fun _ => 1#8, fun x => ?_⟩
    rw [if_neg (by omega), ev_shift]
    show (1#8 : BitVec 8) = fdE.pl 1#8 (fdE.ti x fdE.oo)
    rw [ti_oo, fdE.pl_oo]
  | succ n ih =>
    obtain ⟨y, hy⟩ := ih
    by_cases e : n = j
    · subst e
      refine ⟨y, fun x => ?_⟩
      rw [lup_skip, hy x, if_neg (by omega), if_pos (by omega)]
    · obtain ⟨q, hq⟩ := ev_lin (if j < n then n else n + 1) y (p n)
      refine ⟨q, fun x => ?_⟩
      rw [lup_next p e, hy x, ← hq x]
      congr 1
      by_cases e2 : j < n
      · rw [if_pos e2, if_pos (by omega)]
      · rw [if_neg e2, if_neg (by omega)]
/-- What takes the powers of k points back: its values are Lagrange's. -/
theorem lag {k : Nat} {p : Nat → BitVec 8} {X : Nat → Nat → BitVec 8} (hp : ∀ i, i < k → ∀ j, j < k → i ≠ j → p i ≠ p j) (hX : ∀ i, i < k → ∀ j, j < k → mm fdE k (fun i t => po fdE (p i) t) X i j = dl fdE i j) {j : Nat} (hj : j < k) (x : BitVec 8) :
    gm (sm fdE (fun t => fdE.ti (po fdE x t) (X t j)) k) (lup p j (p j) k) = lup p j x k := by
  obtain ⟨y, hy⟩ := lup_ev p j k
  rw [if_pos hj] at hy
  have hev : ∀ z, ev fdE k (fun t => fdE.pl (fdE.ti (X t j) (lup p j (p j) k)) (y t)) z = fdE.pl (fdE.ti (sm fdE (fun t => fdE.ti (po fdE z t) (X t j)) k) (lup p j (p j) k)) (lup p j z k) := fun z => by
    rw [hy z, ← sm_ti_r]
    unfold ev
    rw [← sm_pl]
    refine sm_congr (fun t _ => ?_)
    rw [pl_ti, fdE.ti_comm (po fdE z t) (X t j), fdE.ti_assoc, fdE.ti_assoc, fdE.ti_comm (lup p j (p j) k)]
  have hz : ∀ t, t < k → fdE.pl (fdE.ti (X t j) (lup p j (p j) k)) (y t) = fdE.oo := vander (D := fdE) k p _ hp (fun i hi => by
    rw [hev (p i), show sm fdE (fun t => fdE.ti (po fdE (p i) t) (X t j)) k = dl fdE i j from hX i hi j hj]
    unfold dl
    by_cases e : i = j
    · subst e
      rw [if_pos rfl, ee_ti, fdE.pl_self]
    · rw [if_neg e, oo_ti, lup_zero hi e]
      exact fdE.pl_self fdE.oo)
  have h0 := hev x
  rw [show ev fdE k (fun t => fdE.pl (fdE.ti (X t j) (lup p j (p j) k)) (y t)) x = fdE.oo from sm_oo (fun t ht => by dsimp only; rw [hz t ht, oo_ti])] at h0
  exact (pl_eq h0.symm)
/-- The share of the point at j in the value at x. -/
def sha (p : Nat → BitVec 8) (q j : Nat) (x : BitVec 8) : BitVec 8 := gm (lup p j x q) (inv (lup p j (p j) q))
theorem sha_fac {k : Nat} {F : Nat → Nat → BitVec 8} (hF : Fac k F) (hk : k ≤ 255) {j : Nat} (hj : j < k) (i : Nat) : F i j = sha pt k j (pt i) := by
  obtain ⟨X, _, h2, h3⟩ := hF
  have hp : ∀ i, i < k → ∀ j, j < k → i ≠ j → pt i ≠ pt j := fun i hi j hj hne => pt_ne (by omega) (by omega) hne
  have h := lag hp (X := X) h2 hj (pt i)
  have hne : lup pt j (pt j) k ≠ 0#8 := lup_ne (fun t ht hne => hp j hj t ht (Ne.symm hne))
  unfold sha
  rw [h3 i j, ← h, gm_assoc, gm_inv hne, gm_one]
  rfl
end Go.Proofs.Ytienknoahjhopaa
