/-
  'awake': what the laws ask first; rows that are left.
-/
import Derived.Test.YtienknoahjhopaaCm
namespace Go.Proofs.Ytienknoahjhopaa
open Go.RowKit
/-- What is encoded: the values of the polynomials. -/
theorem Fac.word {k : Nat} {F D C : Nat → Nat → BitVec 8} (h : Fac k F) {c : Nat} (hC : ∀ i, i < k → mm fdE k vm C i c = D i c) (i : Nat) : mm fdE k F D i c = mm fdE k vm C i c := by
  obtain ⟨X, h1, _, h3⟩ := h
  rw [mm_congr (A' := mm fdE k vm X) (B' := mm fdE k vm C) (fun t _ => h3 i t) (fun t ht => (hC t ht).symm), mm_assoc]
  exact mm_congr (fun _ _ => rfl) (fun t ht => by rw [← mm_assoc, mm_congr (A' := dl fdE) (B' := C) (fun s hs => h1 t ht s hs) (fun _ _ => rfl), mm_dl_l ht])
def aD (i j : Nat) : BitVec 8 := if j = 0 then (if i = 0 then 5#8 else 7#8) else 1#8
def aC (i j : Nat) : BitVec 8 := if i = 0 then (if j = 0 then 5#8 else 1#8) else (if j = 0 then 2#8 else 0#8)
def aW (i j : Nat) : BitVec 8 := if j = 0 then (if i = 0 then 5#8 else if i = 1 then 7#8 else 1#8) else 1#8
theorem aC_D (i j : Nat) (hi : i < 2) (hj : j < 2) : mm fdE 2 vm aC i j = aD i j := by
  match i, hi, j, hj with
  | 0, _, 0, _ => decide +kernel
  | 0, _, 1, _ => decide +kernel
  | 1, _, 0, _ => decide +kernel
  | 1, _, 1, _ => decide +kernel
theorem aC_W (i j : Nat) (hi : i < 3) (hj : j < 2) : mm fdE 2 vm aC i j = aW i j := by
  match i, hi, j, hj with
  | 0, _, 0, _ => decide +kernel
  | 0, _, 1, _ => decide +kernel
  | 1, _, 0, _ => decide +kernel
  | 1, _, 1, _ => decide +kernel
  | 2, _, 0, _ => decide +kernel
  | 2, _, 1, _ => decide +kernel
theorem aword {F : Nat → Nat → BitVec 8} (h : Fac 2 F) (i : Nat) (hi : i < 3) (j : Nat) (hj : j < 2) : mm fdE 2 F aD i j = aW i j := by
  rw [h.word (C := aC) (fun t ht => aC_D t j ht hj) i, aC_W i j hi hj]
/-- Rows of two bytes that were just built. -/
def one2 (w : World) (a b : Int) : World := w.alloc (.cells #[.int .u8 a, .int .u8 b] 5)
theorem one2_size (w : World) (a b : Int) : (one2 w a b).heap.size = w.heap.size + 1 := by unfold one2; simp
theorem one2_below (w : World) (a b : Int) : Below w.heap.size w (one2 w a b) := (Below.refl _ _).alloc (Nat.le_refl _) _
theorem one2_nr (w : World) (a b : BitVec 8) (f : Nat → BitVec 8) (h0 : f 0 = a) (h1 : f 1 = b) (x y : Int) (hx : x = el a) (hy : y = el b) : NrE (one2 w x y) (.slice (some ⟨w.heap.size, 0, none⟩) 2 2) 2 f := by
  subst hx hy
  refine ⟨_, _, rfl, .inr ⟨_, _, rfl, fun j hj => ?_⟩⟩
  unfold one2
  rw [cell_of_row _ _ _ _ _ (0, 0) (heap_alloc_new w _)]
  match j, hj with
  | 0, _ => unfold clE; rw [h0]; rfl
  | 1, _ => unfold clE; rw [h1]; rfl
def lw2 (w : World) : World := (one2 (one2 w 5 1) 7 1).alloc (.cells #[.slice (some ⟨w.heap.size, 0, none⟩) 2 2, .slice (some ⟨w.heap.size + 1, 0, none⟩) 2 2] 23)
theorem lw2_below (w : World) : Below w.heap.size w (lw2 w) :=
  (bt (one2_below w 5 1) (one2_below _ 7 1)).alloc (by rw [one2_size, one2_size]; omega) _
theorem lw2_nm (w : World) : NmE (lw2 w) (.slice (some ⟨w.heap.size + 1 + 1, 0, none⟩) 2 2) 2 (fun _ => 2) aD := by
  have r0 := one2_nr w 5#8 1#8 (aD 0) rfl rfl 5 1 (by decide) (by decide)
  have r1 := one2_nr (one2 w 5 1) 7#8 1#8 (aD 1) rfl rfl 7 1 (by decide) (by decide)
  have b2 : Below (one2 (one2 w 5 1) 7 1).heap.size (one2 (one2 w 5 1) 7 1) (lw2 w) := (Below.refl _ _).alloc (Nat.le_refl _) _
  have s2 : (one2 (one2 w 5 1) 7 1).heap.size = w.heap.size + 1 + 1 := by rw [one2_size, one2_size]
  rw [one2_size] at r1
  have h2 : (lw2 w).heap[w.heap.size + 1 + 1]? = some (.cells #[.slice (some ⟨w.heap.size, 0, none⟩) 2 2, .slice (some ⟨w.heap.size + 1, 0, none⟩) 2 2] 23 (0, 0)) := by
    unfold lw2
    rw [← s2, heap_alloc_new]
  refine ⟨fun i => if i = 0 then .slice (some ⟨w.heap.size, 0, none⟩) 2 2 else .slice (some ⟨w.heap.size + 1, 0, none⟩) 2 2, ⟨_, _, rfl, .inr ⟨_, _, rfl, fun i hi => ?_⟩⟩, fun i hi => ?_⟩
  · rw [cell_of_row _ _ _ _ _ _ h2]
    match i, hi with
    | 0, _ => rfl
    | 1, _ => rfl
  · match i, hi with
    | 0, _ => exact NrE.below r0 (bt (one2_below _ 7 1) b2)
    | 1, _ => exact NrE.below r1 b2
def lw3 (w : World) : World := (one2 (one2 (one2 w 5 1) 7 1) 1 1).alloc (.cells #[.slice (some ⟨w.heap.size, 0, none⟩) 2 2, .slice (some ⟨w.heap.size + 1, 0, none⟩) 2 2, .slice (some ⟨w.heap.size + 1 + 1, 0, none⟩) 2 2] 23)
theorem lw3_below (w : World) : Below w.heap.size w (lw3 w) :=
  (bt (bt (one2_below w 5 1) (one2_below _ 7 1)) (one2_below _ 1 1)).alloc (by rw [one2_size, one2_size, one2_size]; omega) _
theorem lw3_nm (w : World) : NmE (lw3 w) (.slice (some ⟨w.heap.size + 1 + 1 + 1, 0, none⟩) 3 3) 3 (fun _ => 2) aW := by
  have r0 := one2_nr w 5#8 1#8 (aW 0) rfl rfl 5 1 (by decide) (by decide)
  have r1 := one2_nr (one2 w 5 1) 7#8 1#8 (aW 1) rfl rfl 7 1 (by decide) (by decide)
  have r2 := one2_nr (one2 (one2 w 5 1) 7 1) 1#8 1#8 (aW 2) rfl rfl 1 1 (by decide) (by decide)
  have b2 : Below (one2 (one2 (one2 w 5 1) 7 1) 1 1).heap.size (one2 (one2 (one2 w 5 1) 7 1) 1 1) (lw3 w) := (Below.refl _ _).alloc (Nat.le_refl _) _
  have s2 : (one2 (one2 (one2 w 5 1) 7 1) 1 1).heap.size = w.heap.size + 1 + 1 + 1 := by rw [one2_size, one2_size, one2_size]
  rw [one2_size] at r1
  rw [one2_size, one2_size] at r2
  have h2 : (lw3 w).heap[w.heap.size + 1 + 1 + 1]? = some (.cells #[.slice (some ⟨w.heap.size, 0, none⟩) 2 2, .slice (some ⟨w.heap.size + 1, 0, none⟩) 2 2, .slice (some ⟨w.heap.size + 1 + 1, 0, none⟩) 2 2] 23 (0, 0)) := by
    unfold lw3
    rw [← s2, heap_alloc_new]
  refine ⟨fun i => if i = 0 then .slice (some ⟨w.heap.size, 0, none⟩) 2 2 else if i = 1 then .slice (some ⟨w.heap.size + 1, 0, none⟩) 2 2 else .slice (some ⟨w.heap.size + 1 + 1, 0, none⟩) 2 2, ⟨_, _, rfl, .inr ⟨_, _, rfl, fun i hi => ?_⟩⟩, fun i hi => ?_⟩
  · rw [cell_of_row _ _ _ _ _ _ h2]
    match i, hi with
    | 0, _ => rfl
    | 1, _ => rfl
    | 2, _ => rfl
  · match i, hi with
    | 0, _ => exact NrE.below r0 (bt (one2_below _ 7 1) (bt (one2_below _ 1 1) b2))
    | 1, _ => exact NrE.below r1 (bt (one2_below _ 1 1) b2)
    | 2, _ => exact NrE.below r2 b2
section
attribute [local irreducible] Calls el NmE NrE Cd Fac mm
end
theorem nm_cut {w : World} {p : Option Addr} {r c q : Nat} {l : Nat → Nat} {N : Nat → Nat → BitVec 8} (h : NmE w (.slice p r c) r l N) (hq : q ≤ r) : NmE w (.slice p q c) q l N := by
  obtain ⟨rows, ⟨p', c', e, h⟩, hr⟩ := h
  injection e with e1 e2 e3
  subst e1 e3
  refine ⟨rows, ⟨_, _, rfl, ?_⟩, fun i hi => hr i (by omega)⟩
  rcases h with h | ⟨b, o, e, hc⟩
  · exact .inl (by omega)
  · exact .inr ⟨b, o, e, fun i hi => hc i (by omega)⟩
theorem Fac.data {k : Nat} {F D : Nat → Nat → BitVec 8} (h : Fac k F) {i : Nat} (hi : i < k) (j : Nat) : mm fdE k F D i j = D i j := by
  rw [mm_congr (A' := dl fdE) (B' := D) (fun t ht => h.id hi ht) (fun _ _ => rfl), mm_dl_l hi]
theorem owned_ov {w : World} {base : Nat} {t : TypeId} {r : Nat} {v : Value} {rows : Nat → Value} (h : w.ownsRow base t 1 v r (lv rows r)) (h0 : 0 < r) : ∃ g cap N f, v = .slice (some ⟨g, 0, none⟩) r cap ∧ base ≤ g ∧ r ≤ N ∧ Ov w t g f N ∧ ∀ i, i < r → f i = rows i := by
  rcases h.2 with ⟨hv, h1⟩ | ⟨g, cap, c, hv, hg, hh, hc, hm, hs, ht⟩
  · omega
  · have hrc : r ≤ c.size := by rw [hs]; omega
    refine ⟨g, cap, c.size, fun i => c.getD i (.bool false), hv, hg, hrc, ?_, fun i hi => ?_⟩
    · unfold Ov
      rw [hh]
      have e : c = rv (fun i => c.getD i (.bool false)) c.size := by
        apply Array.ext
        · rw [rv_size]
        · intro i h1 h2
          have h3 := rv_get (fun i => c.getD i (.bool false)) c.size i h1
          rw [Array.getElem?_eq_getElem h2] at h3
          injection h3 with h3
          rw [h3]
          simp [Array.getD, h1]
      exact congrArg (fun z => some (Obj.cells z t (0, 0))) e
    · have h1 : (c.toList.take (r * 1))[i]? = some (rows i) := by rw [ht, lv_at rows r i hi]
      rw [List.getElem?_take_of_lt (by omega)] at h1
      have h2 : c[i]? = some (rows i) := by simpa using h1
      have h4 : i < c.size := by omega
      rw [Array.getElem?_eq_getElem h4] at h2
      injection h2 with h2
      simp [Array.getD, h4, h2]
theorem bm_open {base : Nat} {w : World} {v : Value} {r : Nat} {L : Nat → Nat} {M : Nat → Nat → BitVec 8} (h : Bm base w v r L M) (h0 : 0 < r) : ∃ g cap N f, v = .slice (some ⟨g, 0, none⟩) r cap ∧ base ≤ g ∧ r ≤ N ∧ Ov w 23 g f N ∧ ∀ i, i < r → Br w (f i) (L i) (M i) := by
  obtain ⟨rows, h1, h2⟩ := h
  obtain ⟨g, cap, N, f, e, hg, hN, hO, hf⟩ := owned_ov h1 h0
  exact ⟨g, cap, N, f, e, hg, hN, hO, fun i hi => by rw [hf i hi]; exact h2 i hi⟩
theorem Br.but {g : Nat} {w w' : World} {v : Value} {n N : Nat} {f : Nat → BitVec 8} {h : Nat → Value} (hr : Br w v n f) (hO : Ov w 23 g h N) (hb : But g w w') : Br w' v n f := by
  obtain ⟨p, c, e, hr⟩ := hr
  refine ⟨p, c, e, ?_⟩
  rcases hr with h0 | ⟨b, o, cs, z, e2, h1, h2⟩
  · exact .inl h0
  · refine .inr ⟨b, o, cs, z, e2, ?_, h2⟩
    rw [hb.ot b (lt_of_block h1) (fun hbg => by
      subst hbg
      unfold Ov at hO
      rw [hO] at h1
      injection h1 with h1
      injection h1 with _ h1 _
      exact absurd h1 (by decide))]
    exact h1
/-- What is left of the rows. -/
def lf (P : List Nat) (t : Nat) (f : Nat → Value) (i : Nat) : Value := if i < t ∧ i ∈ P then .slice none 0 0 else f i
theorem lf_zero (P : List Nat) (f : Nat → Value) (i : Nat) : lf P 0 f i = f i := by unfold lf; rw [if_neg (by omega)]
theorem lf_yes {P : List Nat} {t : Nat} (h : t ∈ P) (f : Nat → Value) (i : Nat) : (if i = t then .slice none 0 0 else lf P t f i) = lf P (t + 1) f i := by
  unfold lf
  by_cases e : i = t
  · subst e; rw [if_pos rfl, if_pos ⟨by omega, h⟩]
  · rw [if_neg e]
    by_cases e2 : i < t ∧ i ∈ P
    · rw [if_pos e2, if_pos ⟨by omega, e2.2⟩]
    · rw [if_neg e2, if_neg (fun h => e2 ⟨by omega, h.2⟩)]
theorem lf_no {P : List Nat} {t : Nat} (h : ¬ t ∈ P) (f : Nat → Value) (i : Nat) : lf P t f i = lf P (t + 1) f i := by
  unfold lf
  by_cases e2 : i < t ∧ i ∈ P
  · rw [if_pos e2, if_pos ⟨by omega, e2.2⟩]
  · rw [if_neg e2, if_neg (fun h1 => e2 ⟨by
      by_cases e : i = t
      · subst e; exact absurd h1.2 h
      · omega, h1.2⟩)]
theorem left_nm {w9 wr : World} {g N r n cap : Nat} {f : Nat → Value} {h : Nat → Value} {P : List Nat} {M : Nat → Nat → BitVec 8} (hN : r ≤ N) (hO9 : Ov w9 23 g h N) (hf : ∀ i, i < r → Br w9 (f i) n (M i)) (hb : But g w9 wr) (hO : Ov wr 23 g (lf P r f) N) : NmE wr (.slice (some ⟨g, 0, none⟩) r cap) r (lo P n) M := by
  refine ⟨lf P r f, ⟨_, _, rfl, .inr ⟨_, _, rfl, fun i hi => by rw [Nat.zero_add]; exact hO.cell (by omega)⟩⟩, fun i hi => ?_⟩
  unfold lf lo
  by_cases e : i ∈ P
  · rw [if_pos ⟨hi, e⟩, if_pos e]
    exact ⟨_, _, rfl, .inl rfl⟩
  · rw [if_neg (fun h => e h.2), if_neg e]
    exact (Br.but (hf i hi) hO9 hb).nr
theorem lo_pos {P : List Nat} {n i : Nat} (h : 0 < lo P n i) : lo P n i = n := by
  unfold lo at h ⊢
  by_cases e : i ∈ P
  · rw [if_pos e] at h; omega
  · rw [if_neg e]
theorem bm_in {P : List Nat} {t : Nat} (h : t ∈ P) : bm P t = .bool true := by unfold bm; rw [decide_eq_true h]
theorem bm_out {P : List Nat} {t : Nat} (h : ¬ t ∈ P) : bm P t = .bool false := by unfold bm; rw [decide_eq_false h]
end Go.Proofs.Ytienknoahjhopaa
