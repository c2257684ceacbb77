/-
  Fields in which a thing and itself make zero; sums; matrices: plain mathematics.
-/
import Derived.KernelRfl
namespace Go.Proofs.Ytmjobnabnkiakaa

/-- A field in which a thing and itself make zero. -/
structure Fd (K : Type) where
  pl : K → K → K
  ti : K → K → K
  oo : K
  ee : K
  iv : K → K
  dec : ∀ a b : K, Decidable (a = b)
  pl_comm : ∀ a b, pl a b = pl b a
  pl_assoc : ∀ a b c, pl (pl a b) c = pl a (pl b c)
  pl_oo : ∀ a, pl a oo = a
  pl_self : ∀ a, pl a a = oo
  ti_comm : ∀ a b, ti a b = ti b a
  ti_assoc : ∀ a b c, ti (ti a b) c = ti a (ti b c)
  ti_ee : ∀ a, ti a ee = a
  ti_pl : ∀ a b c, ti a (pl b c) = pl (ti a b) (ti a c)
  ti_iv : ∀ a, a ≠ oo → ti a (iv a) = ee
  ee_ne : ee ≠ oo
variable {K : Type} {D : Fd K}
theorem oo_pl (a : K) : D.pl D.oo a = a := by rw [D.pl_comm, D.pl_oo]
theorem ee_ti (a : K) : D.ti D.ee a = a := by rw [D.ti_comm, D.ti_ee]
theorem ti_oo (a : K) : D.ti a D.oo = D.oo := by
  have h : D.pl (D.ti a D.oo) (D.ti a D.oo) = D.ti a D.oo := by rw [← D.ti_pl, D.pl_oo]
  rw [D.pl_self] at h; exact h.symm
theorem oo_ti (a : K) : D.ti D.oo a = D.oo := by rw [D.ti_comm, ti_oo]
theorem pl_ti (a b c : K) : D.ti (D.pl a b) c = D.pl (D.ti a c) (D.ti b c) := by rw [D.ti_comm, D.ti_pl, D.ti_comm c a, D.ti_comm c b]
theorem pl4 (a b c d : K) : D.pl (D.pl a b) (D.pl c d) = D.pl (D.pl a c) (D.pl b d) := by
  rw [D.pl_assoc, ← D.pl_assoc b c d, D.pl_comm b c, D.pl_assoc c b d, ← D.pl_assoc]
theorem pl_move {a b c : K} (h : D.pl a b = c) : a = D.pl c b := by rw [← h, D.pl_assoc, D.pl_self, D.pl_oo]
theorem pl_eq {a b : K} (h : D.pl a b = D.oo) : a = b := by rw [pl_move h, oo_pl]
theorem ti_ne {a b : K} (ha : a ≠ D.oo) (hb : b ≠ D.oo) : D.ti a b ≠ D.oo := fun h => hb (by
  have : D.ti (D.ti a b) (D.iv a) = b := by rw [D.ti_comm a b, D.ti_assoc, D.ti_iv a ha, D.ti_ee]
  rw [h, oo_ti] at this; exact this.symm)
theorem iv_ne {a : K} (ha : a ≠ D.oo) : D.iv a ≠ D.oo := fun h => by
  have := D.ti_iv a ha
  rw [h, ti_oo] at this; exact D.ee_ne this.symm
theorem iv_iv {a : K} (ha : a ≠ D.oo) : D.ti (D.iv a) a = D.ee := by rw [D.ti_comm, D.ti_iv a ha]

/-- f 0 to f (n - 1) together. -/
def sm (D : Fd K) (f : Nat → K) : Nat → K
  | 0 => D.oo
  | n + 1 => D.pl (sm D f n) (f n)
theorem sm_congr {f g : Nat → K} {n : Nat} (h : ∀ i, i < n → f i = g i) : sm D f n = sm D g n := by
  induction n with
  | zero => rfl
  | succ n ih => unfold sm; rw [ih (fun i hi => h i (by omega)), h n (by omega)]
theorem sm_oo {f : Nat → K} {n : Nat} (h : ∀ i, i < n → f i = D.oo) : sm D f n = D.oo := by
  induction n with
  | zero => rfl
  | succ n ih => unfold sm; rw [ih (fun i hi => h i (by omega)), h n (by omega), D.pl_oo]
theorem sm_pl (f g : Nat → K) (n : Nat) : sm D (fun i => D.pl (f i) (g i)) n = D.pl (sm D f n) (sm D g n) := by
  induction n with
  | zero => exact (D.pl_oo D.oo).symm
  | succ n ih => unfold sm; rw [ih, pl4]
theorem sm_ti (c : K) (f : Nat → K) (n : Nat) : sm D (fun i => D.ti c (f i)) n = D.ti c (sm D f n) := by
  induction n with
  | zero => exact (ti_oo c).symm
  | succ n ih => unfold sm; rw [ih, D.ti_pl]
theorem sm_ti_r (c : K) (f : Nat → K) (n : Nat) : sm D (fun i => D.ti (f i) c) n = D.ti (sm D f n) c := by
  rw [D.ti_comm, ← sm_ti]; exact sm_congr (fun i _ => D.ti_comm _ _)
theorem sm_swap (f : Nat → Nat → K) (n m : Nat) : sm D (fun i => sm D (f i) m) n = sm D (fun j => sm D (fun i => f i j) n) m := by
  induction n with
  | zero => exact (sm_oo (fun _ _ => rfl)).symm
  | succ n ih => show D.pl _ _ = sm D (fun j => D.pl _ _) m; rw [ih, ← sm_pl]
theorem sm_one {f : Nat → K} {n j : Nat} (hj : j < n) (h : ∀ i, i < n → i ≠ j → f i = D.oo) : sm D f n = f j := by
  induction n with
  | zero => omega
  | succ n ih =>
    unfold sm
    by_cases e : j = n
    · subst e
      rw [sm_oo (fun i hi => h i (by omega) (by omega)), oo_pl]
    · rw [ih (by omega) (fun i hi hne => h i (by omega) hne), h n (by omega) (fun x => e x.symm), D.pl_oo]
/-- The places but one. -/
def skp (c j : Nat) : Nat := if j < c then j else j + 1
theorem sm_skp (f : Nat → K) (c r : Nat) (h : c < r + 1) : sm D f (r + 1) = D.pl (sm D (fun j => f (skp c j)) r) (f c) := by
  induction r with
  | zero => obtain rfl : c = 0 := by omega
            rfl
  | succ r ih =>
    by_cases e : c = r + 1
    · subst e
      show D.pl (sm D f (r + 1)) _ = _
      rw [sm_congr (g := fun j => f (skp (r + 1) j)) (fun i hi => by unfold skp; rw [if_pos hi])]
    · show D.pl (sm D f (r + 1)) (f (r + 1)) = D.pl (D.pl (sm D (fun j => f (skp c j)) r) (f (skp c r))) (f c)
      rw [ih (by omega), show skp c r = r + 1 by unfold skp; rw [if_neg (by omega)], D.pl_assoc, D.pl_comm (f c), ← D.pl_assoc]
theorem all_or_one (f : Nat → K) (r : Nat) : (∀ j, j < r → f j = D.oo) ∨ ∃ j, j < r ∧ f j ≠ D.oo := by
  induction r with
  | zero => exact .inl (fun j hj => by omega)
  | succ r ih =>
    rcases ih with h | ⟨j, hj, h⟩
    · cases D.dec (f r) D.oo with
      | isTrue e => exact .inl (fun j hj => by
          by_cases h2 : j = r
          · rw [h2]; exact e
          · exact h j (by omega))
      | isFalse e => exact .inr ⟨r, by omega, e⟩
    · exact .inr ⟨j, by omega, h⟩
/-- More unknowns than equations. -/
theorem more (s : Nat) : ∀ (r : Nat) (N : Nat → Nat → K), s < r → ∃ x : Nat → K, (∃ j, j < r ∧ x j ≠ D.oo) ∧ ∀ i, i < s → sm D (fun j => D.ti (N i j) (x j)) r = D.oo := by
  induction s with
  | zero => exact fun r N h => ⟨fun _ => D.ee, ⟨0, h, D.ee_ne⟩, fun i hi => by omega⟩
  | succ s ih =>
    intro r N h
    rcases all_or_one (N s) r with hz | ⟨c, hc, hn⟩
    · obtain ⟨x, hx, hi⟩ := ih r N (by omega)
      refine ⟨x, hx, fun i h2 => ?_⟩
      by_cases e : i = s
      · subst e; exact sm_oo (fun j hj => by rw [hz j hj, oo_ti])
      · exact hi i (by omega)
    · obtain ⟨r, rfl⟩ : ∃ q, r = q + 1 := ⟨r - 1, by omega⟩
      obtain ⟨y, ⟨j, hj, hy⟩, hi⟩ := ih r (fun i j => D.pl (N i (skp c j)) (D.ti (D.ti (N i c) (D.iv (N s c))) (N s (skp c j)))) (by omega)
      let u := D.ti (D.iv (N s c)) (sm D (fun j => D.ti (N s (skp c j)) (y j)) r)
      let x : Nat → K := fun j => if j = c then u else if j < c then y j else y (j - 1)
      have hx : ∀ j, x (skp c j) = y j := fun j => by
        show (if skp c j = c then u else if skp c j < c then y (skp c j) else y (skp c j - 1)) = y j
        unfold skp
        by_cases e : j < c
        · rw [if_pos e, if_neg (by omega), if_pos e]
        · rw [if_neg e, if_neg (by omega), if_neg (by omega), Nat.add_sub_cancel]
      have hu : x c = u := if_pos rfl
      refine ⟨x, ⟨skp c j, by unfold skp; split <;> omega, by rw [hx]; exact hy⟩, fun i h2 => ?_⟩
      rw [sm_skp _ c r hc, hu, sm_congr (g := fun j => D.ti (N i (skp c j)) (y j)) (fun j _ => by rw [hx])]
      by_cases e : i = s
      · subst e
        show D.pl _ (D.ti _ (D.ti _ _)) = _
        rw [← D.ti_assoc, D.ti_iv _ hn, ee_ti, D.pl_self]
      · have := hi i (by omega)
        rw [sm_congr (g := fun j => D.pl (D.ti (N i (skp c j)) (y j)) (D.ti (D.ti (N i c) (D.iv (N s c))) (D.ti (N s (skp c j)) (y j)))) (fun j _ => by rw [pl_ti, D.ti_assoc (D.ti (N i c) (D.iv (N s c)))]), sm_pl, sm_ti, D.ti_assoc] at this
        exact this

/-- The product, with n places between. -/
def mm (D : Fd K) (n : Nat) (A B : Nat → Nat → K) (i j : Nat) : K := sm D (fun t => D.ti (A i t) (B t j)) n
/-- The identity. -/
def dl (D : Fd K) (i j : Nat) : K := if i = j then D.ee else D.oo
theorem mm_congr {n : Nat} {A A' B B' : Nat → Nat → K} {i j : Nat} (h : ∀ t, t < n → A i t = A' i t) (h' : ∀ t, t < n → B t j = B' t j) : mm D n A B i j = mm D n A' B' i j :=
  sm_congr (fun t ht => by rw [h t ht, h' t ht])
theorem mm_assoc (n m : Nat) (A B C : Nat → Nat → K) (i j : Nat) : mm D m (mm D n A B) C i j = mm D n A (mm D m B C) i j := by
  show sm D (fun t => D.ti (sm D (fun s => D.ti (A i s) (B s t)) n) (C t j)) m = sm D (fun s => D.ti (A i s) (sm D (fun t => D.ti (B s t) (C t j)) m)) n
  rw [sm_congr (g := fun t => sm D (fun s => D.ti (A i s) (D.ti (B s t) (C t j))) n) (fun t _ => by rw [← sm_ti_r]; exact sm_congr (fun s _ => D.ti_assoc _ _ _)), sm_swap]
  exact sm_congr (fun s _ => by rw [sm_ti])
theorem mm_dl_l {n : Nat} {A : Nat → Nat → K} {i j : Nat} (hi : i < n) : mm D n (dl D) A i j = A i j := by
  unfold mm
  rw [sm_one hi (fun t _ hne => by unfold dl; rw [if_neg (fun e => hne e.symm), oo_ti])]
  unfold dl; rw [if_pos rfl, ee_ti]
theorem mm_dl_r {n : Nat} {A : Nat → Nat → K} {i j : Nat} (hj : j < n) : mm D n A (dl D) i j = A i j := by
  unfold mm
  rw [sm_one hj (fun t _ hne => by unfold dl; rw [if_neg hne, ti_oo])]
  unfold dl; rw [if_pos rfl, D.ti_ee]
end Go.Proofs.Ytmjobnabnkiakaa
