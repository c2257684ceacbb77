/-
  StripeOpen: the order of the places; k rows of whatever bytes are a word's.
-/
import Derived.Test.YtgokkppojhokbaaOs10
import Derived.Test.YtgokkppojhokbaaSr10
import Derived.Test.YtgokkppojhokbaaAo10
namespace Go.Proofs.Ytgokkppojhokbaa
open Go.RowKit
/-- The places below i that are in the list, or those that are not. -/
def sel (P : List Nat) (b : Bool) (i : Nat) : List Nat := (List.range i).filter (fun j => decide (j ∈ P) == b)
theorem sel_zero (P : List Nat) (b : Bool) : sel P b 0 = [] := rfl
theorem sel_yes {P : List Nat} {b : Bool} {i : Nat} (h : (decide (i ∈ P) == b) = true) : sel P b (i + 1) = sel P b i ++ [i] := by
  unfold sel
  rw [List.range_succ, List.filter_append, List.filter_cons_of_pos (p := fun j => decide (j ∈ P) == b) h]
  rfl
theorem sel_no {P : List Nat} {b : Bool} {i : Nat} (h : ¬ (decide (i ∈ P) == b) = true) : sel P b (i + 1) = sel P b i := by
  unfold sel
  rw [List.range_succ, List.filter_append, List.filter_cons_of_neg (p := fun j => decide (j ∈ P) == b) h]
  exact List.append_nil _
theorem sel_len (P : List Nat) (N : Nat) : (sel P true N).length + (sel P false N).length = N := by
  induction N with
  | zero => rfl
  | succ N ih =>
    by_cases h : N ∈ P
    · rw [sel_yes (by rw [decide_eq_true h]; rfl), sel_no (b := false) (by rw [decide_eq_true h]; decide), List.length_append]
      simp
      omega
    · rw [sel_no (by rw [decide_eq_false h]; decide), sel_yes (b := false) (by rw [decide_eq_false h]; rfl), List.length_append]
      simp
      omega
theorem sel_mem {P : List Nat} {b : Bool} {N x : Nat} (h : x ∈ sel P b N) : x < N ∧ decide (x ∈ P) = b := by
  unfold sel at h
  rw [List.mem_filter, List.mem_range] at h
  exact ⟨h.1, by simpa using h.2⟩
theorem sel_le (P : List Nat) (b : Bool) (N : Nat) : (sel P b N).length ≤ N := by
  unfold sel
  have := List.length_filter_le (fun j => decide (j ∈ P) == b) (List.range N)
  simpa using this
def ord (P : List Nat) (N : Nat) : List Nat := sel P true N ++ sel P false N
theorem ord_len (P : List Nat) (N : Nat) : (ord P N).length = N := by unfold ord; rw [List.length_append, sel_len]
theorem ord_lt {P : List Nat} {N x : Nat} (h : x ∈ ord P N) : x < N := by
  unfold ord at h
  rcases List.mem_append.1 h with h | h
  · exact (sel_mem h).1
  · exact (sel_mem h).1
theorem ord_ne (P : List Nat) (N : Nat) : (ord P N).Pairwise (· ≠ ·) := by
  unfold ord
  rw [List.pairwise_append]
  refine ⟨?_, ?_, fun a ha b hb e => ?_⟩
  · exact (List.Pairwise.filter _ List.pairwise_lt_range).imp (fun h => Nat.ne_of_lt h)
  · exact (List.Pairwise.filter _ List.pairwise_lt_range).imp (fun h => Nat.ne_of_lt h)
  · subst e
    have h1 := (sel_mem ha).2
    have h2 := (sel_mem hb).2
    rw [h1] at h2
    cases h2
def od (P : List Nat) (N i : Nat) : Nat := (ord P N).getD i 0
theorem od_eq {P : List Nat} {N i : Nat} (h : i < N) : ∃ h' : i < (ord P N).length, od P N i = (ord P N)[i] := by
  have h' : i < (ord P N).length := by rw [ord_len]; exact h
  refine ⟨h', ?_⟩
  unfold od
  rw [List.getD_eq_getElem?_getD, List.getElem?_eq_getElem h']
  rfl
theorem od_lt {P : List Nat} {N i : Nat} (h : i < N) : od P N i < N := by
  obtain ⟨h', e⟩ := od_eq (P := P) h
  rw [e]
  exact ord_lt (List.getElem_mem h')
theorem od_ne {P : List Nat} {N i j : Nat} (hi : i < N) (hj : j < N) (h : i ≠ j) : od P N i ≠ od P N j := by
  obtain ⟨h1, e1⟩ := od_eq (P := P) hi
  obtain ⟨h2, e2⟩ := od_eq (P := P) hj
  rw [e1, e2]
  rcases Nat.lt_or_ge i j with h3 | h3
  · exact List.pairwise_iff_getElem.1 (ord_ne P N) i j h1 h2 h3
  · exact (List.pairwise_iff_getElem.1 (ord_ne P N) j i h2 h1 (by omega)).symm
/-- The places that were lost behind t rounds. -/
def qo (P : List Nat) (N t : Nat) : List Nat := (List.range t).map (fun s => od P N (s + 1))
theorem qo_succ (P : List Nat) (N t : Nat) : qo P N (t + 1) = qo P N t ++ [od P N (t + 1)] := by
  unfold qo
  rw [List.range_succ, List.map_append]
  rfl
theorem qo_len (P : List Nat) (N t : Nat) : (qo P N t).length = t := by unfold qo; simp
theorem qo_mem {P : List Nat} {N t x : Nat} : x ∈ qo P N t ↔ ∃ s, s < t ∧ od P N (s + 1) = x := by
  unfold qo
  rw [List.mem_map]
  exact ⟨fun ⟨s, h1, h2⟩ => ⟨s, List.mem_range.1 h1, h2⟩, fun ⟨s, h1, h2⟩ => ⟨s, List.mem_range.2 h1, h2⟩⟩
theorem qo_first {P : List Nat} {N t : Nat} (h : t < N) : ¬ od P N 0 ∈ qo P N t := fun hm => by
  obtain ⟨s, h1, h2⟩ := qo_mem.1 hm
  exact od_ne (by omega) (by omega) (by omega) h2
theorem qo_nodup {P : List Nat} {N t : Nat} (h : t < N) : (qo P N t).Pairwise (· ≠ ·) := by
  unfold qo
  rw [List.pairwise_map]
  refine List.Pairwise.imp_of_mem (fun {a b} ha hb hab => ?_) List.pairwise_lt_range
  have h1 := List.mem_range.1 ha
  have h2 := List.mem_range.1 hb
  exact od_ne (by omega) (by omega) (by omega)
theorem hit_new {a : Nat} {Q : List Nat} (ha : ¬ a ∈ Q) (N : Nat) : hit (a :: Q) N = hit Q N + (if a < N then 1 else 0) := by
  induction N with
  | zero => simp [hit]
  | succ N ih =>
    rw [hit_succ, hit_succ, ih]
    have e1 : (if N ∈ a :: Q then 1 else 0) = (if N ∈ Q then 1 else 0) + (if N = a then 1 else 0) := by
      by_cases h3 : N = a
      · subst h3; rw [if_pos (show N ∈ N :: Q by simp), if_neg ha, if_pos rfl]
      · by_cases h1 : N ∈ Q
        · rw [if_pos h1, if_pos (List.mem_cons_of_mem _ h1), if_neg h3]
        · rw [if_neg h1, if_neg (by simp [h1, h3]), if_neg h3]
    have e2 : (if a < N + 1 then 1 else 0) = (if a < N then 1 else 0) + (if N = a then 1 else 0) := by
      by_cases h3 : N = a
      · subst h3; rw [if_pos (by omega), if_neg (by omega), if_pos rfl]
      · by_cases h1 : a < N
        · rw [if_pos h1, if_pos (by omega), if_neg h3]
        · rw [if_neg h1, if_neg (by omega), if_neg h3]
    rw [e1, e2]
    omega
theorem hit_all {N : Nat} : ∀ (Q : List Nat), Q.Pairwise (· ≠ ·) → (∀ x ∈ Q, x < N) → hit Q N = Q.length
  | [], _, _ => by simp [hit]
  | a :: Q, h, hl => by
    rw [List.pairwise_cons] at h
    rw [hit_new (fun hm => h.1 a hm rfl), if_pos (hl a (by simp)), hit_all Q h.2 (fun x hx => hl x (by simp [hx])), List.length_cons]
theorem qo_thr {P : List Nat} {k m n : Nat} (hk : 1 ≤ k) (hn : 0 < n) : (thr (lo (qo P (k + m) m) n) (k + m)).length = k := by
  have h1 := thr_hit (qo P (k + m) m) hn (k + m)
  rw [hit_all (qo P (k + m) m) (qo_nodup (by omega)) (fun x hx => by
    obtain ⟨s, h1, h2⟩ := qo_mem.1 hx
    rw [← h2]
    exact od_lt (by omega)), qo_len] at h1
  omega
/-- What has an inverse on the left has it on the right. -/
theorem has_right {n : Nat} {P X : Nat → Nat → BitVec 8} (hX : ∀ i, i < n → ∀ j, j < n → mm fdE n X P i j = dl fdE i j) (i : Nat) (hi : i < n) (j : Nat) (hj : j < n) : mm fdE n P X i j = dl fdE i j := by
  have h := left_oo (D := fdE) hX (e := fun t => fdE.pl (mm fdE n P X i t) (dl fdE i t)) (fun j hj => by
    rw [sm_congr (g := fun t => fdE.pl (fdE.ti (mm fdE n P X i t) (P t j)) (fdE.ti (dl fdE i t) (P t j))) (fun t _ => pl_ti _ _ _), sm_pl]
    have e1 : sm fdE (fun t => fdE.ti (mm fdE n P X i t) (P t j)) n = P i j := by
      have h1 : mm fdE n (mm fdE n P X) P i j = P i j := by
        rw [mm_assoc, mm_congr (A' := P) (B' := dl fdE) (fun _ _ => rfl) (fun t ht => hX t ht j hj), mm_dl_r hj]
      exact h1
    have e2 : sm fdE (fun t => fdE.ti (dl fdE i t) (P t j)) n = P i j := mm_dl_l (D := fdE) (A := P) hi
    rw [e1, e2, fdE.pl_self]) j hj
  exact pl_eq h
/-- k rows of whatever bytes, at any places, are those of a word. -/
theorem Fac.open {k m : Nat} {F : Nat → Nat → BitVec 8} (h : Fac k F) (hkm : k + m ≤ 255) {L : Nat → Nat} (hq : (thr L (k + m)).length = k) (R : Nat → Nat → BitVec 8) : ∃ D : Nat → Nat → BitVec 8, ∀ i, i < k + m → 0 < L i → ∀ c, R i c = mm fdE k F D i c := by
  obtain ⟨Z, hz⟩ := h.has (p := pk L (k + m)) (fun i hi => by have := (pk_mem (L := L) (r := k + m) (t := i) (by omega)).1; omega) (fun i hi j hj hne => pk_ne (by omega) (by omega) hne)
  have hr := has_right hz
  refine ⟨mm fdE k Z (fun t c => R (pk L (k + m) t) c), fun i hi hL c => ?_⟩
  obtain ⟨t, ht, e⟩ := List.getElem_of_mem (thr_mem.2 ⟨hi, hL⟩)
  have e2 : pk L (k + m) t = i := by
    unfold pk
    rw [List.getD_eq_getElem?_getD, List.getElem?_eq_getElem ht]
    exact e
  have h1 : mm fdE k (fun i j => F (pk L (k + m) i) j) (mm fdE k Z (fun t c => R (pk L (k + m) t) c)) t c = R (pk L (k + m) t) c := by
    rw [← mm_assoc, mm_congr (A' := dl fdE) (B' := fun t c => R (pk L (k + m) t) c) (fun s hs => hr t (by omega) s hs) (fun _ _ => rfl), mm_dl_l (by omega)]
  rw [e2] at h1
  rw [← h1]
  have e3 : mm fdE k (fun i j => F (pk L (k + m) i) j) (mm fdE k Z (fun t c => R (pk L (k + m) t) c)) t c = mm fdE k F (mm fdE k Z (fun t c => R (pk L (k + m) t) c)) (pk L (k + m) t) c := rfl
  rw [e3, e2]
end Go.Proofs.Ytgokkppojhokbaa
