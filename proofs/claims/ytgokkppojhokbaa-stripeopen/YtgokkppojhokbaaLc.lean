/-
  Fields in which a thing and itself make zero; sums; matrices: plain mathematics.
-/
import Derived.KernelRfl
namespace Go.Proofs.Ytgokkppojhokbaa

/-- A field in which a thing and itself make zero. -/
structure Fd (K : Type) where
  pl : K → K → K
  ti : K → K → K
  oo : K
  ee : K
  iv : K → K
  dec : ∀ a b : K, Decidable (a = b)
  pl_comm : ∀ a b, pl a b = pl b a
  pl_assoc : ∀ a b c, pl (pl a b) c = pl a (pl b c)
  pl_oo : ∀ a, pl a oo = a
  pl_self : ∀ a, pl a a = oo
  ti_comm : ∀ a b, ti a b = ti b a
  ti_assoc : ∀ a b c, ti (ti a b) c = ti a (ti b c)
  ti_ee : ∀ a, ti a ee = a
  ti_pl : ∀ a b c, ti a (pl b c) = pl (ti a b) (ti a c)
  ti_iv : ∀ a, a ≠ oo → ti a (iv a) = ee
  ee_ne : ee ≠ oo
variable {K : Type} {D : Fd K}
theorem oo_pl (a : K) : D.pl D.oo a = a := by rw [D.pl_comm, D.pl_oo]
theorem ee_ti (a : K) : D.ti D.ee a = a := by rw [D.ti_comm, D.ti_ee]
theorem ti_oo (a : K) : D.ti a D.oo = D.oo := by
  have h : D.pl (D.ti a D.oo) (D.ti a D.oo) = D.ti a D.oo := by rw [← D.ti_pl, D.pl_oo]
  rw [D.pl_self] at h; exact h.symm
theorem oo_ti (a : K) : D.ti D.oo a = D.oo := by rw [D.ti_comm, ti_oo]
theorem pl_ti (a b c : K) : D.ti (D.pl a b) c = D.pl (D.ti a c) (D.ti b c) := by rw [D.ti_comm, D.ti_pl, D.ti_comm c a, D.ti_comm c b]
theorem pl4 (a b c d : K) : D.pl (D.pl a b) (D.pl c d) = D.pl (D.pl a c) (D.pl b d) := by
  rw [D.pl_assoc, ← D.pl_assoc b c d, D.pl_comm b c, D.pl_assoc c b d, ← D.pl_assoc]
theorem pl_move {a b c : K} (h : D.pl a b = c) : a = D.pl c b := by rw [← h, D.pl_assoc, D.pl_self, D.pl_oo]
theorem pl_eq {a b : K} (h : D.pl a b = D.oo) : a = b := by rw [pl_move h, oo_pl]
theorem ti_ne {a b : K} (ha : a ≠ D.oo) (hb : b ≠ D.oo) : D.ti a b ≠ D.oo := fun h => hb (by
  have : D.ti (D.ti a b) (D.iv a) = b := by rw [D.ti_comm a b, D.ti_assoc, D.ti_iv a ha, D.ti_ee]
  rw [h, oo_ti] at this; exact this.symm)
theorem iv_ne {a : K} (ha : a ≠ D.oo) : D.iv a ≠ D.oo := fun h => by
  have := D.ti_iv a ha
  rw [h, ti_oo] at this; exact D.ee_ne this.symm
theorem iv_iv {a : K} (ha : a ≠ D.oo) : D.ti (D.iv a) a = D.ee := by rw [D.ti_comm, D.ti_iv a ha]

/-- f 0 to f (n - 1) together. -/
def sm (D : Fd K) (f : Nat → K) : Nat → K
  | 0 => D.oo
  | n + 1 => D.pl (sm D f n) (f n)
theorem sm_congr {f g : Nat → K} {n : Nat} (h : ∀ i, i < n → f i = g i) : sm D f n = sm D g n := by
  induction n with
  | zero => rfl
  | succ n ih => unfold sm; rw [ih (fun i hi => h i (by omega)), h n (by omega)]
theorem sm_oo {f : Nat → K} {n : Nat} (h : ∀ i, i < n → f i = D.oo) : sm D f n = D.oo := by
  induction n with
  | zero => rfl
  | succ n ih => unfold sm; rw [ih (fun i hi => h i (by omega)), h n (by omega), D.pl_oo]
theorem sm_pl (f g : Nat → K) (n : Nat) : sm D (fun i => D.pl (f i) (g i)) n = D.pl (sm D f n) (sm D g n) := by
  induction n with
  | zero => exact (D.pl_oo D.oo).symm
  | succ n ih => unfold sm; rw [ih, pl4]
theorem sm_ti (c : K) (f : Nat → K) (n : Nat) : sm D (fun i => D.ti c (f i)) n = D.ti c (sm D f n) := by
  induction n with
  | zero => exact (ti_oo c).symm
  | succ n ih => unfold sm; rw [ih, D.ti_pl]
theorem sm_ti_r (c : K) (f : Nat → K) (n : Nat) : sm D (fun i => D.ti (f i) c) n = D.ti (sm D f n) c := by
  rw [D.ti_comm, ← sm_ti]; exact sm_congr (fun i _ => D.ti_comm _ _)
theorem sm_swap (f : Nat → Nat → K) (n m : Nat) : sm D (fun i => sm D (f i) m) n = sm D (fun j => sm D (fun i => f i j) n) m := by
  induction n with
  | zero => exact (sm_oo (fun _ _ => rfl)).symm
  | succ n ih => show D.pl _ _ = sm D (fun j => D.pl _ _) m; rw [ih, ← sm_pl]
theorem sm_one {f : Nat → K} {n j : Nat} (hj : j < n) (h : ∀ i, i < n → i ≠ j → f i = D.oo) : sm D f n = f j := by
  induction n with
  | zero => omega
  | succ n ih =>
    unfold sm
    by_cases e : j = n
    · subst e
      rw [sm_oo (fun i hi => h i (by omega) (by omega)), oo_pl]
    · rw [ih (by omega) (fun i hi hne => h i (by omega) hne), h n (by omega) (fun x => e x.symm), D.pl_oo]
/-- The places but one. -/
def skp (c j : Nat) : Nat := if j < c then j else j + 1
theorem sm_skp (f : Nat → K) (c r : Nat) (h : c < r + 1) : sm D f (r + 1) = D.pl (sm D (fun j => f (skp c j)) r) (f c) := by
  induction r with
  | zero => obtain rfl : c = 0 := by omega
            rfl
  | succ r ih =>
    by_cases e : c = r + 1
    · subst e
      show D.pl (sm D f (r + 1)) _ = _
      rw [sm_congr (g := fun j => f (skp (r + 1) j)) (fun i hi => by unfold skp; rw [if_pos hi])]
    · show D.pl (sm D f (r + 1)) (f (r + 1)) = D.pl (D.pl (sm D (fun j => f (skp c j)) r) (f (skp c r))) (f c)
      rw [ih (by omega), show skp c r = r + 1 by unfold skp; rw [if_neg (by omega)], D.pl_assoc, D.pl_comm (f c), ← D.pl_assoc]
theorem all_or_one (f : Nat → K) (r : Nat) : (∀ j, j < r → f j = D.oo) ∨ ∃ j, j < r ∧ f j ≠ D.oo := by
  induction r with
  | zero => exact .inl (fun j hj => by omega)
  | succ r ih =>
    rcases ih with h | ⟨j, hj, h⟩
    · cases D.dec (f r) D.oo with
      | isTrue e => exact .inl (fun j hj => by
          by_cases h2 : j = r
          · rw [h2]; exact e
          · exact h j (by omega))
      | isFalse e => exact .inr ⟨r, by omega, e⟩
    · exact .inr ⟨j, by omega, h⟩
/-- More unknowns than equations. -/
theorem more (s : Nat) : ∀ (r : Nat) (N : Nat → Nat → K), s < r → ∃ x : Nat → K, (∃ j, j < r ∧ x j ≠ D.oo) ∧ ∀ i, i < s → sm D (fun j => D.ti (N i j) (x j)) r = D.oo := by
  induction s with
  | zero => exact fun r N h => ⟨fun _ => D.ee, ⟨0, h, D.ee_ne⟩, fun i hi => by omega⟩
  | succ s ih =>
    intro r N h
    rcases all_or_one (N s) r with hz | ⟨c, hc, hn⟩
    · obtain ⟨x, hx, hi⟩ := ih r N (by omega)
      refine ⟨x, hx, fun i h2 => ?_⟩
      by_cases e : i = s
      · subst e; exact sm_oo (fun j hj => by rw [hz j hj, oo_ti])
      · exact hi i (by omega)
    · obtain ⟨r, rfl⟩ : ∃ q, r = q + 1 := ⟨r - 1, by omega⟩
      obtain ⟨y, ⟨j, hj, hy⟩, hi⟩ := ih r (fun i j => D.pl (N i (skp c j)) (D.ti (D.ti (N i c) (D.iv (N s c))) (N s (skp c j)))) (by omega)
      let u := D.ti (D.iv (N s c)) (sm D (fun j => D.ti (N s (skp c j)) (y j)) r)
      let x : Nat → K := fun j => if j = c then u else if j < c then y j else y (j - 1)
      have hx : ∀ j, x (skp c j) = y j := fun j => by
        show (if skp c j = c then u else if skp c j < c then y (skp c j) else y (skp c j - 1)) = y j
        unfold skp
        by_cases e : j < c
        · rw [if_pos e, if_neg (by omega), if_pos e]
        · rw [if_neg e, if_neg (by omega), if_neg (by omega), Nat.add_sub_cancel]
      have hu : x c = u := if_pos rfl
      refine ⟨x, ⟨skp c j, by unfold skp; split <;> omega, by rw [hx]; exact hy⟩, fun i h2 => ?_⟩
      rw [sm_skp _ c r hc, hu, sm_congr (g := fun j => D.ti (N i (skp c j)) (y j)) (fun j _ => by rw [hx])]
      by_cases e : i = s
      · subst e
        show D.pl _ (D.ti _ (D.ti _ _)) = _
        rw [← D.ti_assoc, D.ti_iv _ hn, ee_ti, D.pl_self]
      · have := hi i (by omega)
        rw [sm_congr (g := fun j => D.pl (D.ti (N i (skp c j)) (y j)) (D.ti (D.ti (N i c) (D.iv (N s c))) (D.ti (N s (skp c j)) (y j)))) (fun j _ => by rw [pl_ti, D.ti_assoc (D.ti (N i c) (D.iv (N s c)))]), sm_pl, sm_ti, D.ti_assoc] at this
        exact this

/-- The product, with n places between. -/
def mm (D : Fd K) (n : Nat) (A B : Nat → Nat → K) (i j : Nat) : K := sm D (fun t => D.ti (A i t) (B t j)) n
/-- The identity. -/
def dl (D : Fd K) (i j : Nat) : K := if i = j then D.ee else D.oo
theorem mm_congr {n : Nat} {A A' B B' : Nat → Nat → K} {i j : Nat} (h : ∀ t, t < n → A i t = A' i t) (h' : ∀ t, t < n → B t j = B' t j) : mm D n A B i j = mm D n A' B' i j :=
  sm_congr (fun t ht => by rw [h t ht, h' t ht])
theorem mm_assoc (n m : Nat) (A B C : Nat → Nat → K) (i j : Nat) : mm D m (mm D n A B) C i j = mm D n A (mm D m B C) i j := by
  show sm D (fun t => D.ti (sm D (fun s => D.ti (A i s) (B s t)) n) (C t j)) m = sm D (fun s => D.ti (A i s) (sm D (fun t => D.ti (B s t) (C t j)) m)) n
  rw [sm_congr (g := fun t => sm D (fun s => D.ti (A i s) (D.ti (B s t) (C t j))) n) (fun t _ => by rw [← sm_ti_r]; exact sm_congr (fun s _ => D.ti_assoc _ _ _)), sm_swap]
  exact sm_congr (fun s _ => by rw [sm_ti])
theorem mm_dl_l {n : Nat} {A : Nat → Nat → K} {i j : Nat} (hi : i < n) : mm D n (dl D) A i j = A i j := by
  unfold mm
  rw [sm_one hi (fun t _ hne => by unfold dl; rw [if_neg (fun e => hne e.symm), oo_ti])]
  unfold dl; rw [if_pos rfl, ee_ti]
theorem mm_dl_r {n : Nat} {A : Nat → Nat → K} {i j : Nat} (hj : j < n) : mm D n A (dl D) i j = A i j := by
  unfold mm
  rw [sm_one hj (fun t _ hne => by unfold dl; rw [if_neg hne, ti_oo])]
  unfold dl; rw [if_pos rfl, D.ti_ee]
end Go.Proofs.Ytgokkppojhokbaa
/-
  Inverses, ranks, rows that say the same: plain mathematics.
-/
namespace Go.Proofs.Ytgokkppojhokbaa
variable {K : Type} {D : Fd K}

/-- M and N make the identity of r places, over s places between: then r is no more than s. -/
theorem dl_le {r s : Nat} {M N : Nat → Nat → K} (h : ∀ i, i < r → ∀ j, j < r → mm D s M N i j = (dl D) i j) : r ≤ s := by
  rcases Nat.lt_or_ge s r with hlt | hge
  · exfalso
    obtain ⟨x, ⟨c, hc, hx⟩, h0⟩ := more s r N hlt
    refine hx ?_
    have h1 : mm D r (mm D s M N) (fun k _ => x k) c 0 = x c := by
      rw [mm_congr (A' := (dl D)) (B' := fun k _ => x k) (fun t ht => h c hc t ht) (fun _ _ => rfl), mm_dl_l hc]
    rw [mm_assoc] at h1
    rw [← h1]
    exact sm_oo (fun t ht => by rw [show mm D r N (fun k _ => x k) t 0 = D.oo from h0 t ht, ti_oo])
  · exact hge
/-- What has an inverse on the left leaves nothing but zero at zero. -/
theorem left_oo {n : Nat} {m a : Nat → Nat → K} (hl : ∀ i, i < n → ∀ j, j < n → mm D n m a i j = (dl D) i j) {e : Nat → K} (he : ∀ j, j < n → sm D (fun t => D.ti (e t) (a t j)) n = D.oo) : ∀ t, t < n → e t = D.oo := by
  obtain ⟨x, ⟨c, hc, hx⟩, h0⟩ := more n (n + 1) (fun i j => if j < n then m j i else e i) (Nat.lt_succ_self n)
  have h1 : ∀ i, i < n → D.pl (sm D (fun j => D.ti (x j) (m j i)) n) (D.ti (x n) (e i)) = D.oo := fun i hi => by
    have := h0 i hi
    unfold sm at this
    rw [sm_congr (g := fun j => D.ti (x j) (m j i)) (fun j hj => by rw [if_pos hj, D.ti_comm]), if_neg (by omega), D.ti_comm (e i)] at this
    exact this
  have h2 : ∀ k, k < n → x k = D.oo := fun k hk => by
    have e1 : mm D n (fun _ i => sm D (fun j => D.ti (x j) (m j i)) n) a 0 k = x k := by
      show mm D n (mm D n (fun _ j => x j) m) a 0 k = x k
      rw [mm_assoc, mm_congr (A' := fun _ j => x j) (B' := (dl D)) (fun _ _ => rfl) (fun t ht => hl t ht k hk), mm_dl_r hk]
    rw [← e1]
    unfold mm
    rw [sm_congr (g := fun t => D.ti (x n) (D.ti (e t) (a t k))) (fun t ht => by show D.ti (sm D (fun j => D.ti (x j) (m j t)) n) (a t k) = _; rw [pl_eq (h1 t ht), D.ti_assoc]), sm_ti, he k hk, ti_oo]
  have h3 : x n ≠ D.oo := by
    by_cases e : c = n
    · rw [← e]; exact hx
    · exact absurd (h2 c (by omega)) hx
  intro t ht
  have h4 := h1 t ht
  rw [sm_oo (fun j hj => by rw [h2 j hj, oo_ti]), oo_pl] at h4
  cases D.dec (e t) D.oo with
  | isTrue h => exact h
  | isFalse h => exact absurd h4 (ti_ne h3 h)

/-- The rows of B are sums of multiples of A's, and the other way round. -/
structure Req (D : Fd K) (n : Nat) (A B : Nat → Nat → K) (E F : Nat → Nat → K) : Prop where
  ef : ∀ i, i < n → ∀ j, j < n → mm D n E F i j = (dl D) i j
  fe : ∀ i, i < n → ∀ j, j < n → mm D n F E i j = (dl D) i j
  eq : ∀ i, i < n → ∀ j, B i j = mm D n E A i j
theorem Req.refl (n : Nat) (A : Nat → Nat → K) : Req D n A A (dl D) (dl D) :=
  ⟨fun _ hi _ _ => mm_dl_l hi, fun _ hi _ _ => mm_dl_l hi, fun _ hi _ => (mm_dl_l hi).symm⟩
theorem mm_four {n : Nat} {E F G H : Nat → Nat → K} (h : ∀ i, i < n → ∀ j, j < n → mm D n F G i j = (dl D) i j) (i j : Nat) : mm D n (mm D n E F) (mm D n G H) i j = mm D n E H i j := by
  rw [mm_assoc]
  refine mm_congr (fun _ _ => rfl) (fun t ht => ?_)
  rw [← mm_assoc, mm_congr (A' := (dl D)) (B' := H) (fun s hs => h t ht s hs) (fun _ _ => rfl), mm_dl_l ht]
theorem Req.trans {n : Nat} {A B C E F E' F' : Nat → Nat → K} (h : Req D n A B E F) (h' : Req D n B C E' F') : Req D n A C (mm D n E' E) (mm D n F F') := by
  refine ⟨fun i hi j hj => ?_, fun i hi j hj => ?_, fun i hi j => ?_⟩
  · rw [mm_four h.ef, h'.ef i hi j hj]
  · rw [mm_four h'.fe, h.fe i hi j hj]
  · rw [h'.eq i hi j, mm_assoc]
    exact mm_congr (fun _ _ => rfl) (fun t ht => h.eq t ht j)
theorem Req.congr {n : Nat} {A B B' E F : Nat → Nat → K} (h : Req D n A B E F) (e : ∀ i, i < n → ∀ j, B' i j = B i j) : Req D n A B' E F := ⟨h.ef, h.fe, fun i hi j => by rw [e i hi j, h.eq i hi j]⟩
/-- Two rows change places. -/
def sw (a b i : Nat) : Nat := if i = a then b else if i = b then a else i
theorem sw_sw (a b i : Nat) : sw a b (sw a b i) = i := by
  unfold sw
  by_cases h1 : i = a
  · subst h1
    rw [if_pos rfl]
    by_cases h2 : b = i
    · rw [if_pos h2, h2]
    · rw [if_neg h2, if_pos rfl]
  · rw [if_neg h1]
    by_cases h2 : i = b
    · subst h2; rw [if_pos rfl, if_pos rfl]
    · rw [if_neg h2, if_neg h1, if_neg h2]
theorem sw_lt {a b i n : Nat} (ha : a < n) (hb : b < n) (hi : i < n) : sw a b i < n := by unfold sw; split; exact hb; split; exact ha; exact hi
theorem sw_mm {n a b : Nat} (ha : a < n) (hb : b < n) (X : Nat → Nat → K) (i j : Nat) (hi : i < n) : mm D n (fun i t => (dl D) (sw a b i) t) X i j = X (sw a b i) j :=
  mm_dl_l (A := X) (sw_lt ha hb hi)
theorem req_swap {n : Nat} (A : Nat → Nat → K) {a b : Nat} (ha : a < n) (hb : b < n) : Req D n A (fun i j => A (sw a b i) j) (fun i t => (dl D) (sw a b i) t) (fun i t => (dl D) (sw a b i) t) := by
  have h : ∀ i, i < n → ∀ j, j < n → mm D n (fun i t => (dl D) (sw a b i) t) (fun i t => (dl D) (sw a b i) t) i j = (dl D) i j := fun i hi j hj => by
    rw [sw_mm ha hb _ i j hi, sw_sw]
  exact ⟨h, h, fun i hi j => (sw_mm ha hb A i j hi).symm⟩
/-- A row is multiplied, and multiples of it are added to the others. -/
def clr (D : Fd K) (a : Nat) (c : K) (f : Nat → K) (A : Nat → Nat → K) (i j : Nat) : K := if i = a then D.ti c (A a j) else D.pl (A i j) (D.ti (f i) (D.ti c (A a j)))
def clrE (D : Fd K) (a : Nat) (c : K) (f : Nat → K) (i t : Nat) : K := if i = a then (if t = a then c else D.oo) else D.pl ((dl D) i t) (if t = a then D.ti (f i) c else D.oo)
theorem clrE_mm {n a : Nat} (ha : a < n) (c : K) (f : Nat → K) (X : Nat → Nat → K) (i j : Nat) (hi : i < n) : mm D n (clrE D a c f) X i j = if i = a then D.ti c (X a j) else D.pl (X i j) (D.ti (D.ti (f i) c) (X a j)) := by
  have one : ∀ d : K, sm D (fun t => D.ti (if t = a then d else D.oo) (X t j)) n = D.ti d (X a j) := fun d => by
    rw [sm_one ha (fun t _ hne => by rw [if_neg hne, oo_ti]), if_pos rfl]
  unfold mm clrE
  by_cases e : i = a
  · rw [if_pos e, sm_congr (g := fun t => D.ti (if t = a then c else D.oo) (X t j)) (fun t _ => by rw [if_pos e]), one]
  · rw [if_neg e, sm_congr (g := fun t => D.pl (D.ti ((dl D) i t) (X t j)) (D.ti (if t = a then D.ti (f i) c else D.oo) (X t j))) (fun t _ => by rw [if_neg e, pl_ti]), sm_pl, one]
    exact congrArg (fun x => D.pl x _) (mm_dl_l (A := X) hi)
theorem req_clr {n : Nat} (A : Nat → Nat → K) {a : Nat} (ha : a < n) {c : K} (hc : c ≠ D.oo) (f : Nat → K) : Req D n A (clr D a c f A) (clrE D a c f) (clrE D a (D.iv c) (fun i => D.ti c (f i))) := by
  refine ⟨fun i hi j _ => ?_, fun i hi j _ => ?_, fun i hi j => ?_⟩
  · rw [clrE_mm ha _ _ _ _ _ hi]
    unfold clrE
    by_cases e : i = a
    · rw [if_pos e, if_pos rfl, e]
      unfold dl
      by_cases h : j = a
      · rw [if_pos h, if_pos h.symm, D.ti_iv c hc]
      · rw [if_neg h, if_neg (fun x => h x.symm), ti_oo]
    · rw [if_neg e, if_pos rfl, if_neg e]
      by_cases h : j = a
      · show D.pl (D.pl ((dl D) i j) (if j = a then D.ti (D.ti c (f i)) (D.iv c) else D.oo)) _ = _
        rw [if_pos h, if_pos h, D.ti_comm c (f i), D.pl_assoc, D.pl_self, D.pl_oo]
      · rw [if_neg h, if_neg h, ti_oo, D.pl_oo, D.pl_oo]
  · rw [clrE_mm ha _ _ _ _ _ hi]
    unfold clrE
    by_cases e : i = a
    · rw [if_pos e, if_pos rfl, e]
      unfold dl
      by_cases h : j = a
      · rw [if_pos h, if_pos h.symm, iv_iv hc]
      · rw [if_neg h, if_neg (fun x => h x.symm), ti_oo]
    · rw [if_neg e, if_pos rfl, if_neg e]
      by_cases h : j = a
      · show D.pl (D.pl ((dl D) i j) (if j = a then D.ti (f i) c else D.oo)) (D.ti (D.ti (D.ti c (f i)) (D.iv c)) _) = _
        rw [if_pos h, if_pos h, D.ti_assoc (D.ti c (f i)), iv_iv hc, D.ti_ee, D.ti_comm c (f i), D.pl_assoc, D.pl_self, D.pl_oo]
      · rw [if_neg h, if_neg h, ti_oo, D.pl_oo, D.pl_oo]
  · rw [clrE_mm ha _ _ _ _ _ hi]
    unfold clr
    by_cases e : i = a
    · rw [if_pos e, if_pos e]
    · rw [if_neg e, if_neg e, D.ti_assoc]
end Go.Proofs.Ytgokkppojhokbaa
/-
  Steps of an elimination, inverses, ranks, the powers of unlike points: plain mathematics.
-/
namespace Go.Proofs.Ytgokkppojhokbaa
variable {K : Type} {D : Fd K}
/-- N's rows are those of A turned, with d pivots among the first c columns. -/
structure Ech (D : Fd K) (r c d : Nat) (A N E F : Nat → Nat → K) (pv : Nat → Nat) : Prop where
  req : Req D r A N E F
  dr : d ≤ r
  pc : ∀ i, i < d → pv i < c
  inc : ∀ i j, i < j → j < d → pv i < pv j
  one : ∀ i, i < d → ∀ k, k < r → N k (pv i) = dl D k i
  zer : ∀ k, d ≤ k → k < r → ∀ j, j < c → N k j = D.oo
theorem Ech.start (D : Fd K) (r : Nat) (A : Nat → Nat → K) : Ech D r 0 0 A A (dl D) (dl D) (fun _ => 0) :=
  ⟨Req.refl r A, Nat.zero_le _, fun i hi => by omega, fun i j _ h => by omega, fun i hi => by omega, fun k _ _ j hj => by omega⟩
theorem Ech.skip {r c d : Nat} {A N E F : Nat → Nat → K} {pv : Nat → Nat} (h : Ech D r c d A N E F pv) (hz : ∀ k, d ≤ k → k < r → N k c = D.oo) : Ech D r (c + 1) d A N E F pv :=
  ⟨h.req, h.dr, fun i hi => Nat.lt_succ_of_lt (h.pc i hi), h.inc, h.one, fun k hk hr j hj => by
    by_cases e : j = c
    · rw [e]; exact hz k hk hr
    · exact h.zer k hk hr j (by omega)⟩
theorem Ech.widen {r c c' : Nat} {A N E F : Nat → Nat → K} {pv : Nat → Nat} (h : Ech D r c r A N E F pv) (hc : c ≤ c') : Ech D r c' r A N E F pv :=
  ⟨h.req, h.dr, fun i hi => Nat.lt_of_lt_of_le (h.pc i hi) hc, h.inc, h.one, fun k hk hr j _ => by omega⟩
theorem Ech.congr {r c d : Nat} {A N N' E F : Nat → Nat → K} {pv : Nat → Nat} (h : Ech D r c d A N E F pv) (e : ∀ i, i < r → ∀ j, N' i j = N i j) : Ech D r c d A N' E F pv :=
  ⟨h.req.congr e, h.dr, h.pc, h.inc, fun i hi k hk => by rw [e k hk]; exact h.one i hi k hk, fun k hk hr j hj => by rw [e k hr]; exact h.zer k hk hr j hj⟩
theorem sw_low {a b i : Nat} (h : a ≤ b) (hi : i < a) : sw a b i = i := by unfold sw; rw [if_neg (by omega), if_neg (by omega)]
theorem sw_high {a b i : Nat} (h : a ≤ b) (hi : a ≤ i) : a ≤ sw a b i := by unfold sw; split; exact h; split; exact Nat.le_refl _; exact hi
theorem sw_fst (a b : Nat) : sw a b a = b := by unfold sw; rw [if_pos rfl]
/-- The next column has a pivot, at the row b. -/
theorem Ech.step {r c d b : Nat} {A N E F : Nat → Nat → K} {pv : Nat → Nat} (h : Ech D r c d A N E F pv) (hd : d ≤ b) (hb : b < r) (hne : N b c ≠ D.oo) :
    ∃ E' F', Ech D r (c + 1) (d + 1) A (clr D d (D.iv (N b c)) (fun i => N (sw d b i) c) (fun i j => N (sw d b i) j)) E' F' (fun i => if i = d then c else pv i) := by
  have hdr : d < r := by omega
  refine ⟨_, _, (h.req.trans (req_swap N hdr hb)).trans (req_clr (fun i j => N (sw d b i) j) hdr (iv_ne hne) _), by omega, fun i hi => ?_, fun i j hij hj => ?_, fun i hi k hk => ?_, fun k hk hr j hj => ?_⟩
  · show (if i = d then c else pv i) < c + 1
    by_cases e : i = d
    · rw [if_pos e]; omega
    · rw [if_neg e]; have := h.pc i (by omega); omega
  · show (if i = d then c else pv i) < (if j = d then c else pv j)
    rw [if_neg (by omega)]
    by_cases e : j = d
    · rw [if_pos e]; exact h.pc i (by omega)
    · rw [if_neg e]; exact h.inc i j hij (by omega)
  · have hswk : sw d b k < r := sw_lt hdr hb hk
    by_cases e : i = d
    · subst e
      show clr D i _ _ _ k (if i = i then c else pv i) = _
      rw [if_pos rfl]
      unfold clr
      dsimp only
      by_cases e2 : k = i
      · subst e2
        rw [if_pos rfl, sw_fst, iv_iv hne]
        unfold dl; rw [if_pos rfl]
      · rw [if_neg e2, sw_fst, iv_iv hne, D.ti_ee, D.pl_self]
        unfold dl; rw [if_neg e2]
    · show clr D d _ _ _ k (if i = d then c else pv i) = _
      rw [if_neg e]
      have hi2 : i < d := by omega
      have hz : N (sw d b d) (pv i) = D.oo := by
        rw [sw_fst, h.one i hi2 b hb]; unfold dl; rw [if_neg (by omega)]
      unfold clr
      dsimp only
      by_cases e2 : k = d
      · rw [if_pos e2, hz, ti_oo, e2]; unfold dl; rw [if_neg (fun x => e x.symm)]
      · rw [if_neg e2, hz, ti_oo, ti_oo, D.pl_oo, h.one i hi2 _ hswk]
        unfold dl
        by_cases e3 : k < d
        · rw [sw_low hd e3]
        · have := sw_high hd (show d ≤ k by omega)
          rw [if_neg (by omega), if_neg (by omega)]
  · have hz : ∀ j, j < c → N (sw d b d) j = D.oo := fun j hj => by rw [sw_fst]; exact h.zer b hd hb j hj
    unfold clr
    dsimp only
    rw [if_neg (by omega)]
    by_cases e : j = c
    · subst e; rw [sw_fst, iv_iv hne, D.ti_ee, D.pl_self]
    · rw [hz j (by omega), ti_oo, ti_oo, D.pl_oo]
      exact h.zer _ (sw_high hd (by omega)) (sw_lt hdr hb hr) j (by omega)
theorem Ech.at {n : Nat} {A N E F : Nat → Nat → K} {pv : Nat → Nat} (h : Ech D n n n A N E F pv) {i : Nat} (hi : i < n) : pv i = i := by
  have up : ∀ k i, i + k < n → pv i + k ≤ pv (i + k) := by
    intro k
    induction k with
    | zero => exact fun i _ => Nat.le_refl _
    | succ k ih => intro i hik; have h1 := ih i (by omega); have h2 := h.inc (i + k) (i + (k + 1)) (by omega) hik; omega
  have h1 := up i 0 (by omega)
  rw [Nat.zero_add] at h1
  have h2 := up (n - 1 - i) i (by omega)
  have h3 := h.pc (i + (n - 1 - i)) (by omega)
  omega
theorem Ech.full {n : Nat} {A N E F : Nat → Nat → K} {pv : Nat → Nat} (h : Ech D n n n A N E F pv) {i j : Nat} (hi : i < n) (hj : j < n) : N i j = dl D i j := by
  have := h.one j hj i hi
  rw [h.at hj] at this; exact this
/-- What stands behind an identity that was turned along is the inverse. -/
theorem Ech.inverse {n : Nat} {A N E F a : Nat → Nat → K} {pv : Nat → Nat} (h : Ech D n n n A N E F pv) (h1 : ∀ i, i < n → ∀ j, j < n → A i j = a i j) (h2 : ∀ i, i < n → ∀ j, j < n → A i (n + j) = dl D i j) :
    (∀ i, i < n → ∀ j, j < n → mm D n (fun i j => N i (n + j)) a i j = dl D i j) ∧ ∀ i, i < n → ∀ j, j < n → mm D n a (fun i j => N i (n + j)) i j = dl D i j := by
  have hE : ∀ i, i < n → ∀ j, j < n → N i (n + j) = E i j := fun i hi j hj => by
    rw [h.req.eq i hi, mm_congr (A' := E) (B' := fun t u => dl D t (u - n)) (fun _ _ => rfl) (fun t ht => by rw [h2 t ht j hj]; show _ = dl D t (n + j - n); rw [Nat.add_sub_cancel_left])]
    show mm D n E (dl D) i (n + j - n) = E i j
    rw [Nat.add_sub_cancel_left]; exact mm_dl_r hj
  have hEa : ∀ i, i < n → ∀ j, j < n → mm D n E a i j = dl D i j := fun i hi j hj => by
    rw [← h.full hi hj, h.req.eq i hi]
    exact mm_congr (fun _ _ => rfl) (fun t ht => (h1 t ht j hj).symm)
  have hF : ∀ i, i < n → ∀ j, j < n → F i j = a i j := fun i hi j hj => by
    rw [← mm_dl_r (D := D) (A := F) (i := i) hj, mm_congr (A' := F) (B' := mm D n E a) (fun _ _ => rfl) (fun t ht => (hEa t ht j hj).symm), ← mm_assoc, mm_congr (A' := dl D) (B' := a) (fun t ht => h.req.fe i hi t ht) (fun _ _ => rfl), mm_dl_l hi]
  refine ⟨fun i hi j hj => ?_, fun i hi j hj => ?_⟩
  · rw [← hEa i hi j hj]; exact mm_congr (fun t ht => hE i hi t ht) (fun _ _ => rfl)
  · rw [← h.req.fe i hi j hj]; exact mm_congr (fun t ht => (hF i hi t ht).symm) (fun t ht => hE t ht j hj)
/-- Too few pivots: there is no inverse. -/
theorem Ech.few {n d : Nat} {A N E F a X : Nat → Nat → K} {pv : Nat → Nat} (h : Ech D n n d A N E F pv) (hd : d < n) (h1 : ∀ i, i < n → ∀ j, j < n → A i j = a i j) (hX : ∀ i, i < n → ∀ j, j < n → mm D n X a i j = dl D i j) : False := by
  have he : ∀ j, j < n → sm D (fun t => D.ti (E d t) (a t j)) n = D.oo := fun j hj => by
    rw [← h.zer d (Nat.le_refl _) hd j hj, h.req.eq d hd]
    exact sm_congr (fun t ht => by rw [h1 t ht j hj])
  have hz := left_oo hX he
  have := h.req.ef d hd d hd
  rw [show mm D n E F d d = D.oo from sm_oo (fun t ht => by rw [hz t ht, oo_ti])] at this
  unfold dl at this
  rw [if_pos rfl] at this
  exact D.ee_ne this.symm
/-- What takes nothing but zero to zero has all its pivots. -/
theorem Ech.all {n d : Nat} {A N E F a : Nat → Nat → K} {pv : Nat → Nat} (h : Ech D n n d A N E F pv) (h1 : ∀ i, i < n → ∀ j, j < n → A i j = a i j) (ha : ∀ y : Nat → K, (∀ i, i < n → sm D (fun j => D.ti (a i j) (y j)) n = D.oo) → ∀ j, j < n → y j = D.oo) : d = n := by
  rcases Nat.lt_or_ge d n with hlt | hge
  · exfalso
    obtain ⟨y, ⟨c, hc, hy⟩, h0⟩ := more d n N hlt
    refine hy (ha y (fun i hi => ?_) c hc)
    have hN : ∀ t, t < n → mm D n N (fun k _ => y k) t 0 = D.oo := fun t ht => by
      rcases Nat.lt_or_ge t d with h2 | h2
      · exact h0 t h2
      · exact sm_oo (fun j hj => by rw [h.zer t h2 ht j hj, oo_ti])
    have hA : ∀ j, j < n → a i j = mm D n F N i j := fun j hj => by
      rw [← h1 i hi j hj, mm_congr (A' := F) (B' := mm D n E A) (fun _ _ => rfl) (fun t ht => h.req.eq t ht j), ← mm_assoc, mm_congr (A' := dl D) (B' := A) (fun t ht => h.req.fe i hi t ht) (fun _ _ => rfl), mm_dl_l hi]
    rw [sm_congr (g := fun j => D.ti (mm D n F N i j) (y j)) (fun j hj => by rw [hA j hj])]
    show mm D n (mm D n F N) (fun k _ => y k) i 0 = D.oo
    rw [mm_assoc]
    exact sm_oo (fun t ht => by rw [hN t ht, ti_oo])
  · have := h.dr; omega
/-- An inverse on the left is the inverse on the right. -/
theorem inv_one {n : Nat} {a X Y : Nat → Nat → K} (hX : ∀ i, i < n → ∀ j, j < n → mm D n X a i j = dl D i j) (hY : ∀ i, i < n → ∀ j, j < n → mm D n a Y i j = dl D i j) {i j : Nat} (hi : i < n) (hj : j < n) : X i j = Y i j := by
  rw [← mm_dl_r (D := D) (A := X) (i := i) hj, mm_congr (A' := X) (B' := mm D n a Y) (fun _ _ => rfl) (fun t ht => (hY t ht j hj).symm), ← mm_assoc, mm_congr (A' := dl D) (B' := Y) (fun t ht => hX i hi t ht) (fun _ _ => rfl), mm_dl_l hi]
/-- x to the j. -/
def po (D : Fd K) (x : K) : Nat → K
  | 0 => D.ee
  | j + 1 => D.ti (po D x j) x
def ev (D : Fd K) (n : Nat) (y : Nat → K) (x : K) : K := sm D (fun j => D.ti (y j) (po D x j)) n
theorem sm_shift (f : Nat → K) (n : Nat) : sm D f (n + 1) = D.pl (f 0) (sm D (fun j => f (j + 1)) n) := by
  induction n with
  | zero => show D.pl D.oo (f 0) = D.pl (f 0) D.oo; rw [D.pl_comm]
  | succ n ih => show D.pl (sm D f (n + 1)) (f (n + 1)) = _; rw [ih, D.pl_assoc]; rfl
theorem ev_shift (n : Nat) (y : Nat → K) (x : K) : ev D (n + 1) y x = D.pl (y 0) (D.ti x (ev D n (fun j => y (j + 1)) x)) := by
  unfold ev
  rw [sm_shift, show po D x 0 = D.ee from rfl, D.ti_ee, ← sm_ti]
  refine congrArg _ (sm_congr (fun j _ => ?_))
  show D.ti _ (D.ti _ x) = _
  rw [← D.ti_assoc, D.ti_comm _ x]
theorem divide (n : Nat) : ∀ (y : Nat → K) (z : K), ∃ (q : Nat → K) (R : K), (∀ x, ev D (n + 1) y x = D.pl (D.ti (D.pl x z) (ev D n q x)) R) ∧ ((∀ j, j < n → q j = D.oo) → R = D.oo → ∀ j, j < n + 1 → y j = D.oo) := by
  induction n with
  | zero =>
    intro y z
    refine ⟨fun _ => D.oo, y 0, fun x => ?_, fun _ h j hj => ?_⟩
    · rw [ev_shift]
      show D.pl (y 0) (D.ti x D.oo) = D.pl (D.ti _ D.oo) (y 0)
      rw [ti_oo, ti_oo, D.pl_comm]
    · obtain rfl : j = 0 := by omega
      exact h
  | succ n ih =>
    intro y z
    obtain ⟨q, R, h1, h2⟩ := ih (fun j => y (j + 1)) z
    refine ⟨fun j => if j = 0 then R else q (j - 1), D.pl (y 0) (D.ti z R), fun x => ?_, fun hq hR j hj => ?_⟩
    · rw [ev_shift, h1 x, ev_shift n (fun j => if j = 0 then R else q (j - 1)) x]
      have e : ev D n (fun j => if j + 1 = 0 then R else q (j + 1 - 1)) x = ev D n q x := sm_congr (fun j _ => by show D.ti (if j + 1 = 0 then R else q (j + 1 - 1)) _ = _; rw [if_neg (by omega), Nat.add_sub_cancel])
      rw [e]
      show _ = D.pl (D.ti (D.pl x z) (D.pl (if 0 = 0 then R else q (0 - 1)) _)) _
      rw [if_pos rfl, D.ti_pl x, D.ti_pl (D.pl x z), pl_ti x z R, ← D.ti_assoc x, ← D.ti_assoc (D.pl x z), D.ti_comm x (D.pl x z)]
      generalize D.ti (D.ti (D.pl x z) x) (ev D n q x) = u
      generalize D.ti x R = p
      generalize D.ti z R = s
      rw [D.pl_comm u p, ← D.pl_assoc, D.pl_comm (y 0) p, D.pl_comm (y 0) s, ← D.pl_assoc _ s (y 0), D.pl_assoc _ u s, D.pl_comm u s, D.pl_assoc p s, ← D.pl_assoc s s u, D.pl_self, oo_pl, D.pl_assoc p u, D.pl_comm u (y 0), ← D.pl_assoc]
    · have hR0 : R = D.oo := by have := hq 0 (by omega); dsimp only at this; rw [if_pos rfl] at this; exact this
      have hy0 : y 0 = D.oo := by rw [hR0, ti_oo, D.pl_oo] at hR; exact hR
      by_cases e : j = 0
      · rw [e]; exact hy0
      · have := h2 (fun i hi => by have := hq (i + 1) (by omega); dsimp only at this; rw [if_neg (by omega), Nat.add_sub_cancel] at this; exact this) hR0 (j - 1) (by omega)
        rw [show j - 1 + 1 = j by omega] at this; exact this
/-- No more roots than places. -/
theorem vander (n : Nat) : ∀ (x y : Nat → K), (∀ i, i < n → ∀ j, j < n → i ≠ j → x i ≠ x j) → (∀ i, i < n → ev D n y (x i) = D.oo) → ∀ j, j < n → y j = D.oo := by
  induction n with
  | zero => intro x y _ _ j hj; omega
  | succ n ih =>
    intro x y hx hy
    obtain ⟨q, R, h1, h2⟩ := divide n y (x n)
    have hR : R = D.oo := by
      have := hy n (by omega)
      rw [h1, D.pl_self, oo_ti, oo_pl] at this; exact this
    refine h2 (ih x q (fun i hi j hj => hx i (by omega) j (by omega)) (fun i hi => ?_)) hR
    have := hy i (by omega)
    rw [h1, hR, D.pl_oo] at this
    cases D.dec (ev D n q (x i)) D.oo with
    | isTrue h => exact h
    | isFalse h => exact absurd this (ti_ne (fun e => hx i (by omega) n (by omega) (by omega) (pl_eq e)) h)
end Go.Proofs.Ytgokkppojhokbaa
