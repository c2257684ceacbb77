/-
  Inverses, ranks, rows that say the same: plain mathematics.
-/
import Derived.Test.YtfopegfkgmccdaaLa
namespace Go.Proofs.Ytfopegfkgmccdaa
open Fd
variable {K : Type} [Fd K]

/-- M and N make the identity of r places, over s places between: then r is no more than s. -/
theorem dl_le {r s : Nat} {M N : Nat → Nat → K} (h : ∀ i, i < r → ∀ j, j < r → mm s M N i j = dl i j) : r ≤ s := by
  rcases Nat.lt_or_ge s r with hlt | hge
  · exfalso
    obtain ⟨x, ⟨c, hc, hx⟩, h0⟩ := more s r N hlt
    refine hx ?_
    have h1 : mm r (mm s M N) (fun k _ => x k) c 0 = x c := by
      rw [mm_congr (A' := dl) (B' := fun k _ => x k) (fun t ht => h c hc t ht) (fun _ _ => rfl), mm_dl_l hc]
    rw [mm_assoc] at h1
    rw [← h1]
    exact sm_oo (fun t ht => by rw [show mm r N (fun k _ => x k) t 0 = oo from h0 t ht, ti_oo])
  · exact hge
/-- What has an inverse on the left leaves nothing but zero at zero. -/
theorem left_oo {n : Nat} {m a : Nat → Nat → K} (hl : ∀ i, i < n → ∀ j, j < n → mm n m a i j = dl i j) {e : Nat → K} (he : ∀ j, j < n → sm (fun t => ti (e t) (a t j)) n = oo) : ∀ t, t < n → e t = oo := by
  obtain ⟨x, ⟨c, hc, hx⟩, h0⟩ := more n (n + 1) (fun i j => if j < n then m j i else e i) (Nat.lt_succ_self n)
  have h1 : ∀ i, i < n → pl (sm (fun j => ti (x j) (m j i)) n) (ti (x n) (e i)) = oo := fun i hi => by
    have := h0 i hi
    unfold sm at this
    rw [sm_congr (g := fun j => ti (x j) (m j i)) (fun j hj => by rw [if_pos hj, ti_comm]), if_neg (by omega), ti_comm (e i)] at this
    exact this
  have h2 : ∀ k, k < n → x k = oo := fun k hk => by
    have e1 : mm n (fun _ i => sm (fun j => ti (x j) (m j i)) n) a 0 k = x k := by
      show mm n (mm n (fun _ j => x j) m) a 0 k = x k
      rw [mm_assoc, mm_congr (A' := fun _ j => x j) (B' := dl) (fun _ _ => rfl) (fun t ht => hl t ht k hk), mm_dl_r hk]
    rw [← e1]
    unfold mm
    rw [sm_congr (g := fun t => ti (x n) (ti (e t) (a t k))) (fun t ht => by show ti (sm (fun j => ti (x j) (m j t)) n) (a t k) = _; rw [pl_eq (h1 t ht), ti_assoc]), sm_ti, he k hk, ti_oo]
  have h3 : x n ≠ oo := by
    by_cases e : c = n
    · rw [← e]; exact hx
    · exact absurd (h2 c (by omega)) hx
  intro t ht
  have h4 := h1 t ht
  rw [sm_oo (fun j hj => by rw [h2 j hj, oo_ti]), oo_pl] at h4
  cases dec (e t) oo with
  | isTrue h => exact h
  | isFalse h => exact absurd h4 (ti_ne h3 h)

/-- The rows of B are sums of multiples of A's, and the other way round. -/
structure Req (n : Nat) (A B : Nat → Nat → K) (E F : Nat → Nat → K) : Prop where
  ef : ∀ i, i < n → ∀ j, j < n → mm n E F i j = dl i j
  fe : ∀ i, i < n → ∀ j, j < n → mm n F E i j = dl i j
  eq : ∀ i, i < n → ∀ j, B i j = mm n E A i j
theorem Req.refl (n : Nat) (A : Nat → Nat → K) : Req n A A dl dl :=
  ⟨fun _ hi _ _ => mm_dl_l hi, fun _ hi _ _ => mm_dl_l hi, fun _ hi _ => (mm_dl_l hi).symm⟩
theorem mm_four {n : Nat} {E F G H : Nat → Nat → K} (h : ∀ i, i < n → ∀ j, j < n → mm n F G i j = dl i j) (i j : Nat) : mm n (mm n E F) (mm n G H) i j = mm n E H i j := by
  rw [mm_assoc]
  refine mm_congr (fun _ _ => rfl) (fun t ht => ?_)
  rw [← mm_assoc, mm_congr (A' := dl) (B' := H) (fun s hs => h t ht s hs) (fun _ _ => rfl), mm_dl_l ht]
theorem Req.trans {n : Nat} {A B C E F E' F' : Nat → Nat → K} (h : Req n A B E F) (h' : Req n B C E' F') : Req n A C (mm n E' E) (mm n F F') := by
  refine ⟨fun i hi j hj => ?_, fun i hi j hj => ?_, fun i hi j => ?_⟩
  · rw [mm_four h.ef, h'.ef i hi j hj]
  · rw [mm_four h'.fe, h.fe i hi j hj]
  · rw [h'.eq i hi j, mm_assoc]
    exact mm_congr (fun _ _ => rfl) (fun t ht => h.eq t ht j)
theorem Req.congr {n : Nat} {A B B' E F : Nat → Nat → K} (h : Req n A B E F) (e : ∀ i, i < n → ∀ j, B' i j = B i j) : Req n A B' E F := ⟨h.ef, h.fe, fun i hi j => by rw [e i hi j, h.eq i hi j]⟩
/-- Two rows change places. -/
def sw (a b i : Nat) : Nat := if i = a then b else if i = b then a else i
theorem sw_sw (a b i : Nat) : sw a b (sw a b i) = i := by
  unfold sw
  by_cases h1 : i = a
  · subst h1
    rw [if_pos rfl]
    by_cases h2 : b = i
    · rw [if_pos h2, h2]
    · rw [if_neg h2, if_pos rfl]
  · rw [if_neg h1]
    by_cases h2 : i = b
    · subst h2; rw [if_pos rfl, if_pos rfl]
    · rw [if_neg h2, if_neg h1, if_neg h2]
theorem sw_lt {a b i n : Nat} (ha : a < n) (hb : b < n) (hi : i < n) : sw a b i < n := by unfold sw; split; exact hb; split; exact ha; exact hi
theorem sw_mm {n a b : Nat} (ha : a < n) (hb : b < n) (X : Nat → Nat → K) (i j : Nat) (hi : i < n) : mm n (fun i t => dl (sw a b i) t) X i j = X (sw a b i) j :=
  mm_dl_l (A := X) (sw_lt ha hb hi)
theorem req_swap {n : Nat} (A : Nat → Nat → K) {a b : Nat} (ha : a < n) (hb : b < n) : Req n A (fun i j => A (sw a b i) j) (fun i t => dl (sw a b i) t) (fun i t => dl (sw a b i) t) := by
  have h : ∀ i, i < n → ∀ j, j < n → mm n (fun i t => dl (K := K) (sw a b i) t) (fun i t => dl (sw a b i) t) i j = dl i j := fun i hi j hj => by
    rw [sw_mm ha hb _ i j hi, sw_sw]
  exact ⟨h, h, fun i hi j => (sw_mm ha hb A i j hi).symm⟩
/-- A row is multiplied, and multiples of it are added to the others. -/
def clr (a : Nat) (c : K) (f : Nat → K) (A : Nat → Nat → K) (i j : Nat) : K := if i = a then ti c (A a j) else pl (A i j) (ti (f i) (ti c (A a j)))
def clrE (a : Nat) (c : K) (f : Nat → K) (i t : Nat) : K := if i = a then (if t = a then c else oo) else pl (dl i t) (if t = a then ti (f i) c else oo)
theorem clrE_mm {n a : Nat} (ha : a < n) (c : K) (f : Nat → K) (X : Nat → Nat → K) (i j : Nat) (hi : i < n) : mm n (clrE a c f) X i j = if i = a then ti c (X a j) else pl (X i j) (ti (ti (f i) c) (X a j)) := by
  have one : ∀ d : K, sm (fun t => ti (if t = a then d else oo) (X t j)) n = ti d (X a j) := fun d => by
    rw [sm_one ha (fun t _ hne => by rw [if_neg hne, oo_ti]), if_pos rfl]
  unfold mm clrE
  by_cases e : i = a
  · rw [if_pos e, sm_congr (g := fun t => ti (if t = a then c else oo) (X t j)) (fun t _ => by rw [if_pos e]), one]
  · rw [if_neg e, sm_congr (g := fun t => pl (ti (dl i t) (X t j)) (ti (if t = a then ti (f i) c else oo) (X t j))) (fun t _ => by rw [if_neg e, pl_ti]), sm_pl, one]
    exact congrArg (fun x => pl x _) (mm_dl_l (A := X) hi)
theorem req_clr {n : Nat} (A : Nat → Nat → K) {a : Nat} (ha : a < n) {c : K} (hc : c ≠ oo) (f : Nat → K) : Req n A (clr a c f A) (clrE a c f) (clrE a (iv c) (fun i => ti c (f i))) := by
  refine ⟨fun i hi j _ => ?_, fun i hi j _ => ?_, fun i hi j => ?_⟩
  · rw [clrE_mm ha _ _ _ _ _ hi]
    unfold clrE
    by_cases e : i = a
    · rw [if_pos e, if_pos rfl, e]
      unfold dl
      by_cases h : j = a
      · rw [if_pos h, if_pos h.symm, ti_iv c hc]
      · rw [if_neg h, if_neg (fun x => h x.symm), ti_oo]
    · rw [if_neg e, if_pos rfl, if_neg e]
      by_cases h : j = a
      · show pl (pl (dl i j) (if j = a then ti (ti c (f i)) (iv c) else oo)) _ = _
        rw [if_pos h, if_pos h, ti_comm c (f i), pl_assoc, pl_self, pl_oo]
      · rw [if_neg h, if_neg h, ti_oo, pl_oo, pl_oo]
  · rw [clrE_mm ha _ _ _ _ _ hi]
    unfold clrE
    by_cases e : i = a
    · rw [if_pos e, if_pos rfl, e]
      unfold dl
      by_cases h : j = a
      · rw [if_pos h, if_pos h.symm, iv_iv hc]
      · rw [if_neg h, if_neg (fun x => h x.symm), ti_oo]
    · rw [if_neg e, if_pos rfl, if_neg e]
      by_cases h : j = a
      · show pl (pl (dl i j) (if j = a then ti (f i) c else oo)) (ti (ti (ti c (f i)) (iv c)) _) = _
        rw [if_pos h, if_pos h, ti_assoc (ti c (f i)), iv_iv hc, ti_ee, ti_comm c (f i), pl_assoc, pl_self, pl_oo]
      · rw [if_neg h, if_neg h, ti_oo, pl_oo, pl_oo]
  · rw [clrE_mm ha _ _ _ _ _ hi]
    unfold clr
    by_cases e : i = a
    · rw [if_pos e, if_pos e]
    · rw [if_neg e, if_neg e, ti_assoc]
end Go.Proofs.Ytfopegfkgmccdaa
