/-
  Fields in which a thing and itself make zero; sums; matrices: plain mathematics.
-/
import Derived.KernelRfl
namespace Go.Proofs.Ytfopegfkgmccdaa

/-- A field in which a thing and itself make zero. -/
class Fd (K : Type) where
  pl : K → K → K
  ti : K → K → K
  oo : K
  ee : K
  iv : K → K
  dec : ∀ a b : K, Decidable (a = b)
  pl_comm : ∀ a b, pl a b = pl b a
  pl_assoc : ∀ a b c, pl (pl a b) c = pl a (pl b c)
  pl_oo : ∀ a, pl a oo = a
  pl_self : ∀ a, pl a a = oo
  ti_comm : ∀ a b, ti a b = ti b a
  ti_assoc : ∀ a b c, ti (ti a b) c = ti a (ti b c)
  ti_ee : ∀ a, ti a ee = a
  ti_pl : ∀ a b c, ti a (pl b c) = pl (ti a b) (ti a c)
  ti_iv : ∀ a, a ≠ oo → ti a (iv a) = ee
  ee_ne : ee ≠ oo
open Fd
variable {K : Type} [Fd K]
theorem oo_pl (a : K) : pl oo a = a := by rw [pl_comm, pl_oo]
theorem ee_ti (a : K) : ti ee a = a := by rw [ti_comm, ti_ee]
theorem ti_oo (a : K) : ti a oo = oo := by
  have h : pl (ti a oo) (ti a oo) = ti a oo := by rw [← ti_pl, pl_oo]
  rw [pl_self] at h; exact h.symm
theorem oo_ti (a : K) : ti oo a = oo := by rw [ti_comm, ti_oo]
theorem pl_ti (a b c : K) : ti (pl a b) c = pl (ti a c) (ti b c) := by rw [ti_comm, ti_pl, ti_comm c a, ti_comm c b]
theorem pl4 (a b c d : K) : pl (pl a b) (pl c d) = pl (pl a c) (pl b d) := by
  rw [pl_assoc, ← pl_assoc b c d, pl_comm b c, pl_assoc c b d, ← pl_assoc]
theorem pl_move {a b c : K} (h : pl a b = c) : a = pl c b := by rw [← h, pl_assoc, pl_self, pl_oo]
theorem pl_eq {a b : K} (h : pl a b = oo) : a = b := by rw [pl_move h, oo_pl]
theorem ti_ne {a b : K} (ha : a ≠ oo) (hb : b ≠ oo) : ti a b ≠ oo := fun h => hb (by
  have : ti (ti a b) (iv a) = b := by rw [ti_comm a b, ti_assoc, ti_iv a ha, ti_ee]
  rw [h, oo_ti] at this; exact this.symm)
theorem iv_ne {a : K} (ha : a ≠ oo) : iv a ≠ oo := fun h => by
  have := ti_iv a ha
  rw [h, ti_oo] at this; exact ee_ne this.symm
theorem iv_iv {a : K} (ha : a ≠ oo) : ti (iv a) a = ee := by rw [ti_comm, ti_iv a ha]

/-- f 0 to f (n - 1) together. -/
def sm (f : Nat → K) : Nat → K
  | 0 => oo
  | n + 1 => pl (sm f n) (f n)
theorem sm_congr {f g : Nat → K} {n : Nat} (h : ∀ i, i < n → f i = g i) : sm f n = sm g n := by
  induction n with
  | zero => rfl
  | succ n ih => unfold sm; rw [ih (fun i hi => h i (by omega)), h n (by omega)]
theorem sm_oo {f : Nat → K} {n : Nat} (h : ∀ i, i < n → f i = oo) : sm f n = oo := by
  induction n with
  | zero => rfl
  | succ n ih => unfold sm; rw [ih (fun i hi => h i (by omega)), h n (by omega), pl_oo]
theorem sm_pl (f g : Nat → K) (n : Nat) : sm (fun i => pl (f i) (g i)) n = pl (sm f n) (sm g n) := by
  induction n with
  | zero => exact (pl_oo oo).symm
  | succ n ih => unfold sm; rw [ih, pl4]
theorem sm_ti (c : K) (f : Nat → K) (n : Nat) : sm (fun i => ti c (f i)) n = ti c (sm f n) := by
  induction n with
  | zero => exact (ti_oo c).symm
  | succ n ih => unfold sm; rw [ih, ti_pl]
theorem sm_ti_r (c : K) (f : Nat → K) (n : Nat) : sm (fun i => ti (f i) c) n = ti (sm f n) c := by
  rw [ti_comm, ← sm_ti]; exact sm_congr (fun i _ => ti_comm _ _)
theorem sm_swap (f : Nat → Nat → K) (n m : Nat) : sm (fun i => sm (f i) m) n = sm (fun j => sm (fun i => f i j) n) m := by
  induction n with
  | zero => exact (sm_oo (fun _ _ => rfl)).symm
  | succ n ih => show pl _ _ = sm (fun j => pl _ _) m; rw [ih, ← sm_pl]
theorem sm_one {f : Nat → K} {n j : Nat} (hj : j < n) (h : ∀ i, i < n → i ≠ j → f i = oo) : sm f n = f j := by
  induction n with
  | zero => omega
  | succ n ih =>
    unfold sm
    by_cases e : j = n
    · subst e
      rw [sm_oo (fun i hi => h i (by omega) (by omega)), oo_pl]
    · rw [ih (by omega) (fun i hi hne => h i (by omega) hne), h n (by omega) (fun x => e x.symm), pl_oo]
/-- The places but one. -/
def skp (c j : Nat) : Nat := if j < c then j else j + 1
theorem sm_skp (f : Nat → K) (c r : Nat) (h : c < r + 1) : sm f (r + 1) = pl (sm (fun j => f (skp c j)) r) (f c) := by
  induction r with
  | zero => obtain rfl : c = 0 := by omega
            rfl
  | succ r ih =>
    by_cases e : c = r + 1
    · subst e
      show pl (sm f (r + 1)) _ = _
      rw [sm_congr (g := fun j => f (skp (r + 1) j)) (fun i hi => by unfold skp; rw [if_pos hi])]
    · show pl (sm f (r + 1)) (f (r + 1)) = pl (pl (sm (fun j => f (skp c j)) r) (f (skp c r))) (f c)
      rw [ih (by omega), show skp c r = r + 1 by unfold skp; rw [if_neg (by omega)], pl_assoc, pl_comm (f c), ← pl_assoc]
theorem all_or_one (f : Nat → K) (r : Nat) : (∀ j, j < r → f j = oo) ∨ ∃ j, j < r ∧ f j ≠ oo := by
  induction r with
  | zero => exact .inl (fun j hj => by omega)
  | succ r ih =>
    rcases ih with h | ⟨j, hj, h⟩
    · cases dec (f r) oo with
      | isTrue e => exact .inl (fun j hj => by
          by_cases h2 : j = r
          · rw [h2]; exact e
          · exact h j (by omega))
      | isFalse e => exact .inr ⟨r, by omega, e⟩
    · exact .inr ⟨j, by omega, h⟩
/-- More unknowns than equations. -/
theorem more (s : Nat) : ∀ (r : Nat) (N : Nat → Nat → K), s < r → ∃ x : Nat → K, (∃ j, j < r ∧ x j ≠ oo) ∧ ∀ i, i < s → sm (fun j => ti (N i j) (x j)) r = oo := by
  induction s with
  | zero => exact fun r N h => ⟨fun _ => ee, ⟨0, h, ee_ne⟩, fun i hi => by omega⟩
  | succ s ih =>
    intro r N h
    rcases all_or_one (N s) r with hz | ⟨c, hc, hn⟩
    · obtain ⟨x, hx, hi⟩ := ih r N (by omega)
      refine ⟨x, hx, fun i h2 => ?_⟩
      by_cases e : i = s
      · subst e; exact sm_oo (fun j hj => by rw [hz j hj, oo_ti])
      · exact hi i (by omega)
    · obtain ⟨r, rfl⟩ : ∃ q, r = q + 1 := ⟨r - 1, by omega⟩
      obtain ⟨y, ⟨j, hj, hy⟩, hi⟩ := ih r (fun i j => pl (N i (skp c j)) (ti (ti (N i c) (iv (N s c))) (N s (skp c j)))) (by omega)
      let u := ti (iv (N s c)) (sm (fun j => ti (N s (skp c j)) (y j)) r)
      let x : Nat → K := fun j => if j = c then u else if j < c then y j else y (j - 1)
      have hx : ∀ j, x (skp c j) = y j := fun j => by
        show (if skp c j = c then u else if skp c j < c then y (skp c j) else y (skp c j - 1)) = y j
        unfold skp
        by_cases e : j < c
        · rw [if_pos e, if_neg (by omega), if_pos e]
        · rw [if_neg e, if_neg (by omega), if_neg (by omega), Nat.add_sub_cancel]
      have hu : x c = u := if_pos rfl
      refine ⟨x, ⟨skp c j, by unfold skp; split <;> omega, by rw [hx]; exact hy⟩, fun i h2 => ?_⟩
      rw [sm_skp _ c r hc, hu, sm_congr (g := fun j => ti (N i (skp c j)) (y j)) (fun j _ => by rw [hx])]
      by_cases e : i = s
      · subst e
        show pl _ (ti _ (ti _ _)) = _
        rw [← ti_assoc, ti_iv _ hn, ee_ti, pl_self]
      · have := hi i (by omega)
        rw [sm_congr (g := fun j => pl (ti (N i (skp c j)) (y j)) (ti (ti (N i c) (iv (N s c))) (ti (N s (skp c j)) (y j)))) (fun j _ => by rw [pl_ti, ti_assoc (ti (N i c) (iv (N s c)))]), sm_pl, sm_ti, ti_assoc] at this
        exact this

/-- The product, with n places between. -/
def mm (n : Nat) (A B : Nat → Nat → K) (i j : Nat) : K := sm (fun t => ti (A i t) (B t j)) n
/-- The identity. -/
def dl (i j : Nat) : K := if i = j then ee else oo
theorem mm_congr {n : Nat} {A A' B B' : Nat → Nat → K} {i j : Nat} (h : ∀ t, t < n → A i t = A' i t) (h' : ∀ t, t < n → B t j = B' t j) : mm n A B i j = mm n A' B' i j :=
  sm_congr (fun t ht => by rw [h t ht, h' t ht])
theorem mm_assoc (n m : Nat) (A B C : Nat → Nat → K) (i j : Nat) : mm m (mm n A B) C i j = mm n A (mm m B C) i j := by
  show sm (fun t => ti (sm (fun s => ti (A i s) (B s t)) n) (C t j)) m = sm (fun s => ti (A i s) (sm (fun t => ti (B s t) (C t j)) m)) n
  rw [sm_congr (g := fun t => sm (fun s => ti (A i s) (ti (B s t) (C t j))) n) (fun t _ => by rw [← sm_ti_r]; exact sm_congr (fun s _ => ti_assoc _ _ _)), sm_swap]
  exact sm_congr (fun s _ => by rw [sm_ti])
theorem mm_dl_l {n : Nat} {A : Nat → Nat → K} {i j : Nat} (hi : i < n) : mm n dl A i j = A i j := by
  unfold mm
  rw [sm_one hi (fun t _ hne => by unfold dl; rw [if_neg (fun e => hne e.symm), oo_ti])]
  unfold dl; rw [if_pos rfl, ee_ti]
theorem mm_dl_r {n : Nat} {A : Nat → Nat → K} {i j : Nat} (hj : j < n) : mm n A dl i j = A i j := by
  unfold mm
  rw [sm_one hj (fun t _ hne => by unfold dl; rw [if_neg hne, ti_oo])]
  unfold dl; rw [if_pos rfl, ti_ee]
end Go.Proofs.Ytfopegfkgmccdaa
