/-
  Inverses, ranks, rows that say the same: plain mathematics.
-/
import Derived.Test.YtmjobnabnkiakaaLa
namespace Go.Proofs.Ytmjobnabnkiakaa
variable {K : Type} {D : Fd K}

/-- M and N make the identity of r places, over s places between: then r is no more than s. -/
theorem dl_le {r s : Nat} {M N : Nat → Nat → K} (h : ∀ i, i < r → ∀ j, j < r → mm D s M N i j = (dl D) i j) : r ≤ s := by
  rcases Nat.lt_or_ge s r with hlt | hge
  · exfalso
    obtain ⟨x, ⟨c, hc, hx⟩, h0⟩ := more s r N hlt
    refine hx ?_
    have h1 : mm D r (mm D s M N) (fun k _ => x k) c 0 = x c := by
      rw [mm_congr (A' := (dl D)) (B' := fun k _ => x k) (fun t ht => h c hc t ht) (fun _ _ => rfl), mm_dl_l hc]
    rw [mm_assoc] at h1
    rw [← h1]
    exact sm_oo (fun t ht => by rw [show mm D r N (fun k _ => x k) t 0 = D.oo from h0 t ht, ti_oo])
  · exact hge
/-- What has an inverse on the left leaves nothing but zero at zero. -/
theorem left_oo {n : Nat} {m a : Nat → Nat → K} (hl : ∀ i, i < n → ∀ j, j < n → mm D n m a i j = (dl D) i j) {e : Nat → K} (he : ∀ j, j < n → sm D (fun t => D.ti (e t) (a t j)) n = D.oo) : ∀ t, t < n → e t = D.oo := by
  obtain ⟨x, ⟨c, hc, hx⟩, h0⟩ := more n (n + 1) (fun i j => if j < n then m j i else e i) (Nat.lt_succ_self n)
  have h1 : ∀ i, i < n → D.pl (sm D (fun j => D.ti (x j) (m j i)) n) (D.ti (x n) (e i)) = D.oo := fun i hi => by
    have := h0 i hi
    unfold sm at this
    rw [sm_congr (g := fun j => D.ti (x j) (m j i)) (fun j hj => by rw [if_pos hj, D.ti_comm]), if_neg (by omega), D.ti_comm (e i)] at this
    exact this
  have h2 : ∀ k, k < n → x k = D.oo := fun k hk => by
    have e1 : mm D n (fun _ i => sm D (fun j => D.ti (x j) (m j i)) n) a 0 k = x k := by
      show mm D n (mm D n (fun _ j => x j) m) a 0 k = x k
      rw [mm_assoc, mm_congr (A' := fun _ j => x j) (B' := (dl D)) (fun _ _ => rfl) (fun t ht => hl t ht k hk), mm_dl_r hk]
    rw [← e1]
    unfold mm
    rw [sm_congr (g := fun t => D.ti (x n) (D.ti (e t) (a t k))) (fun t ht => by show D.ti (sm D (fun j => D.ti (x j) (m j t)) n) (a t k) = _; rw [pl_eq (h1 t ht), D.ti_assoc]), sm_ti, he k hk, ti_oo]
  have h3 : x n ≠ D.oo := by
    by_cases e : c = n
    · rw [← e]; exact hx
    · exact absurd (h2 c (by omega)) hx
  intro t ht
  have h4 := h1 t ht
  rw [sm_oo (fun j hj => by rw [h2 j hj, oo_ti]), oo_pl] at h4
  cases D.dec (e t) D.oo with
  | isTrue h => exact h
  | isFalse h => exact absurd h4 (ti_ne h3 h)

/-- The rows of B are sums of multiples of A's, and the other way round. -/
structure Req (D : Fd K) (n : Nat) (A B : Nat → Nat → K) (E F : Nat → Nat → K) : Prop where
  ef : ∀ i, i < n → ∀ j, j < n → mm D n E F i j = (dl D) i j
  fe : ∀ i, i < n → ∀ j, j < n → mm D n F E i j = (dl D) i j
  eq : ∀ i, i < n → ∀ j, B i j = mm D n E A i j
theorem Req.refl (n : Nat) (A : Nat → Nat → K) : Req D n A A (dl D) (dl D) :=
  ⟨fun _ hi _ _ => mm_dl_l hi, fun _ hi _ _ => mm_dl_l hi, fun _ hi _ => (mm_dl_l hi).symm⟩
theorem mm_four {n : Nat} {E F G H : Nat → Nat → K} (h : ∀ i, i < n → ∀ j, j < n → mm D n F G i j = (dl D) i j) (i j : Nat) : mm D n (mm D n E F) (mm D n G H) i j = mm D n E H i j := by
  rw [mm_assoc]
  refine mm_congr (fun _ _ => rfl) (fun t ht => ?_)
  rw [← mm_assoc, mm_congr (A' := (dl D)) (B' := H) (fun s hs => h t ht s hs) (fun _ _ => rfl), mm_dl_l ht]
theorem Req.trans {n : Nat} {A B C E F E' F' : Nat → Nat → K} (h : Req D n A B E F) (h' : Req D n B C E' F') : Req D n A C (mm D n E' E) (mm D n F F') := by
  refine ⟨fun i hi j hj => ?_, fun i hi j hj => ?_, fun i hi j => ?_⟩
  · rw [mm_four h.ef, h'.ef i hi j hj]
  · rw [mm_four h'.fe, h.fe i hi j hj]
  · rw [h'.eq i hi j, mm_assoc]
    exact mm_congr (fun _ _ => rfl) (fun t ht => h.eq t ht j)
theorem Req.congr {n : Nat} {A B B' E F : Nat → Nat → K} (h : Req D n A B E F) (e : ∀ i, i < n → ∀ j, B' i j = B i j) : Req D n A B' E F := ⟨h.ef, h.fe, fun i hi j => by rw [e i hi j, h.eq i hi j]⟩
/-- Two rows change places. -/
def sw (a b i : Nat) : Nat := if i = a then b else if i = b then a else i
theorem sw_sw (a b i : Nat) : sw a b (sw a b i) = i := by
  unfold sw
  by_cases h1 : i = a
  · subst h1
    rw [if_pos rfl]
    by_cases h2 : b = i
    · rw [if_pos h2, h2]
    · rw [if_neg h2, if_pos rfl]
  · rw [if_neg h1]
    by_cases h2 : i = b
    · subst h2; rw [if_pos rfl, if_pos rfl]
    · rw [if_neg h2, if_neg h1, if_neg h2]
theorem sw_lt {a b i n : Nat} (ha : a < n) (hb : b < n) (hi : i < n) : sw a b i < n := by unfold sw; split; exact hb; split; exact ha; exact hi
theorem sw_mm {n a b : Nat} (ha : a < n) (hb : b < n) (X : Nat → Nat → K) (i j : Nat) (hi : i < n) : mm D n (fun i t => (dl D) (sw a b i) t) X i j = X (sw a b i) j :=
  mm_dl_l (A := X) (sw_lt ha hb hi)
theorem req_swap {n : Nat} (A : Nat → Nat → K) {a b : Nat} (ha : a < n) (hb : b < n) : Req D n A (fun i j => A (sw a b i) j) (fun i t => (dl D) (sw a b i) t) (fun i t => (dl D) (sw a b i) t) := by
  have h : ∀ i, i < n → ∀ j, j < n → mm D n (fun i t => (dl D) (sw a b i) t) (fun i t => (dl D) (sw a b i) t) i j = (dl D) i j := fun i hi j hj => by
    rw [sw_mm ha hb _ i j hi, sw_sw]
  exact ⟨h, h, fun i hi j => (sw_mm ha hb A i j hi).symm⟩
/-- A row is multiplied, and multiples of it are added to the others. -/
def clr (D : Fd K) (a : Nat) (c : K) (f : Nat → K) (A : Nat → Nat → K) (i j : Nat) : K := if i = a then D.ti c (A a j) else D.pl (A i j) (D.ti (f i) (D.ti c (A a j)))
def clrE (D : Fd K) (a : Nat) (c : K) (f : Nat → K) (i t : Nat) : K := if i = a then (if t = a then c else D.oo) else D.pl ((dl D) i t) (if t = a then D.ti (f i) c else D.oo)
theorem clrE_mm {n a : Nat} (ha : a < n) (c : K) (f : Nat → K) (X : Nat → Nat → K) (i j : Nat) (hi : i < n) : mm D n (clrE D a c f) X i j = if i = a then D.ti c (X a j) else D.pl (X i j) (D.ti (D.ti (f i) c) (X a j)) := by
  have one : ∀ d : K, sm D (fun t => D.ti (if t = a then d else D.oo) (X t j)) n = D.ti d (X a j) := fun d => by
    rw [sm_one ha (fun t _ hne => by rw [if_neg hne, oo_ti]), if_pos rfl]
  unfold mm clrE
  by_cases e : i = a
  · rw [if_pos e, sm_congr (g := fun t => D.ti (if t = a then c else D.oo) (X t j)) (fun t _ => by rw [if_pos e]), one]
  · rw [if_neg e, sm_congr (g := fun t => D.pl (D.ti ((dl D) i t) (X t j)) (D.ti (if t = a then D.ti (f i) c else D.oo) (X t j))) (fun t _ => by rw [if_neg e, pl_ti]), sm_pl, one]
    exact congrArg (fun x => D.pl x _) (mm_dl_l (A := X) hi)
theorem req_clr {n : Nat} (A : Nat → Nat → K) {a : Nat} (ha : a < n) {c : K} (hc : c ≠ D.oo) (f : Nat → K) : Req D n A (clr D a c f A) (clrE D a c f) (clrE D a (D.iv c) (fun i => D.ti c (f i))) := by
  refine ⟨fun i hi j _ => ?_, fun i hi j _ => ?_, fun i hi j => ?_⟩
  · rw [clrE_mm ha _ _ _ _ _ hi]
    unfold clrE
    by_cases e : i = a
    · rw [if_pos e, if_pos rfl, e]
      unfold dl
      by_cases h : j = a
      · rw [if_pos h, if_pos h.symm, D.ti_iv c hc]
      · rw [if_neg h, if_neg (fun x => h x.symm), ti_oo]
    · rw [if_neg e, if_pos rfl, if_neg e]
      by_cases h : j = a
      · show D.pl (D.pl ((dl D) i j) (if j = a then D.ti (D.ti c (f i)) (D.iv c) else D.oo)) _ = _
        rw [if_pos h, if_pos h, D.ti_comm c (f i), D.pl_assoc, D.pl_self, D.pl_oo]
      · rw [if_neg h, if_neg h, ti_oo, D.pl_oo, D.pl_oo]
  · rw [clrE_mm ha _ _ _ _ _ hi]
    unfold clrE
    by_cases e : i = a
    · rw [if_pos e, if_pos rfl, e]
      unfold dl
      by_cases h : j = a
      · rw [if_pos h, if_pos h.symm, iv_iv hc]
      · rw [if_neg h, if_neg (fun x => h x.symm), ti_oo]
    · rw [if_neg e, if_pos rfl, if_neg e]
      by_cases h : j = a
      · show D.pl (D.pl ((dl D) i j) (if j = a then D.ti (f i) c else D.oo)) (D.ti (D.ti (D.ti c (f i)) (D.iv c)) _) = _
        rw [if_pos h, if_pos h, D.ti_assoc (D.ti c (f i)), iv_iv hc, D.ti_ee, D.ti_comm c (f i), D.pl_assoc, D.pl_self, D.pl_oo]
      · rw [if_neg h, if_neg h, ti_oo, D.pl_oo, D.pl_oo]
  · rw [clrE_mm ha _ _ _ _ _ hi]
    unfold clr
    by_cases e : i = a
    · rw [if_pos e, if_pos e]
    · rw [if_neg e, if_neg e, D.ti_assoc]
end Go.Proofs.Ytmjobnabnkiakaa
