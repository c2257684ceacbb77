/-
  Rows of values: reading, owning; whatever a value is.
-/
import Derived.Test.YtmjobnabnkiakaaRd
import Derived.Deep.RegionWith
import Derived.Deep.RegionLaw
import Derived.Deep.WholeRow
namespace Go.Proofs.Ytmjobnabnkiakaa
open Go.RowKit

/-- One step behind the other. -/
theorem bt {w w1 w2 : World} (h1 : Below w.heap.size w w1) (h2 : Below w1.heap.size w1 w2) : Below w.heap.size w w2 := h1.trans (h2.mono h1.size)
theorem add_pl (b o j : Nat) : (⟨b, o, none⟩ : Addr).add j = ⟨b, o + j, none⟩ := by unfold Addr.add; split <;> simp_all
theorem below_append {t : TypeId} {w w' : World} {base k n : Nat} {v : Value} {xs : List Value} {B : Nat} {a : World} (hb : Below B a w) (hB : B ≤ w.heap.size) (hg : w.grownBy w' v.ownBlock) (ho : w.ownsRow base t k v n xs) (hbase : B ≤ base) : Below B a w' :=
  hb.grown hg hB (fun k hk => Nat.le_trans hbase (ho.lt k hk).1)
theorem one_new (w : World) (v : Value) (t : TypeId) : ∀ j u, ([v] : List Value)[j]? = some u → (w.alloc (.cells #[v] t)).cell? ((⟨w.heap.size, 0, none⟩ : Addr).add j) = some u := by
  intro j u hj
  match j, hj with
  | 0, hj =>
    simp at hj; subst hj
    rw [add_pl, cell_of_row _ _ _ _ _ (0, 0) (heap_alloc_new w _)]; rfl
theorem one_newb (w : World) (v : Value) (t : TypeId) {b : Nat} (h : b = w.heap.size) : ∀ j u, ([v] : List Value)[j]? = some u → (w.alloc (.cells #[v] t)).cell? ((⟨b, 0, none⟩ : Addr).add j) = some u := by
  subst h; exact one_new w v t
theorem size_set (w : World) (p : Addr) (v : Value) : w.heap.size = (w.setCell p v).heap.size := by simp
/-- The cells of n values. -/
def rv (f : Nat → Value) (n : Nat) : Array Value := ((List.range n).map f).toArray
theorem rv_size (f : Nat → Value) (n : Nat) : (rv f n).size = n := by simp [rv]
theorem rv_get (f : Nat → Value) (n i : Nat) (h : i < n) : (rv f n)[i]? = some (f i) := by
  unfold rv; rw [List.getElem?_toArray, List.getElem?_map, List.getElem?_range h]; rfl
theorem rv_toList (f : Nat → Value) (n : Nat) : (rv f n).toList = (List.range n).map f := by simp [rv]
theorem rv_congr {f g : Nat → Value} {n : Nat} (h : ∀ i, i < n → f i = g i) : rv f n = rv g n := by
  unfold rv; congr 1
  apply List.map_congr_left
  intro i hi; rw [h i (List.mem_range.1 hi)]
theorem rv_set (f : Nat → Value) (n k : Nat) (v : Value) (hk : k < n) : (rv f n).setIfInBounds k v = rv (fun i => if i = k then v else f i) n := by
  apply Array.ext_getElem?
  intro i
  rw [Array.getElem?_setIfInBounds, rv_size]
  by_cases hi : i < n
  · rw [rv_get (fun i => if i = k then v else f i) n i hi]
    by_cases e : k = i
    · subst e; simp [hk]
    · rw [if_neg e, rv_get f n i hi, if_neg (fun h => e h.symm)]
  · rw [Array.getElem?_eq_none (by rw [rv_size]; omega), Array.getElem?_eq_none (by rw [rv_size]; omega), if_neg (by omega)]
theorem rv_const (v : Value) (n : Nat) : rv (fun _ => v) n = Array.replicate n v := by
  apply Array.ext_getElem?
  intro i
  by_cases hi : i < n
  · rw [rv_get _ n i hi]; simp [hi]
  · rw [Array.getElem?_eq_none (by rw [rv_size]; omega), Array.getElem?_eq_none (by simp; omega)]
/-- The block g is a row of the call's own: these cells and no more room. -/
def Ov (w : World) (t : TypeId) (g : Nat) (f : Nat → Value) (n : Nat) : Prop := w.heap[g]? = some (.cells (rv f n) t (0, 0))
theorem Ov.cell {w : World} {t : TypeId} {g : Nat} {f : Nat → Value} {n : Nat} (h : Ov w t g f n) {i : Nat} (hi : i < n) : w.cell? ⟨g, i, none⟩ = some (f i) := by
  rw [cell_of_row w g i _ _ _ h, rv_get f n i hi]
theorem Ov.frozen {w : World} {t : TypeId} {g : Nat} {f : Nat → Value} {n : Nat} (h : Ov w t g f n) (i : Nat) : w.frozen? ⟨g, i, none⟩ = false := frozen_of_row w g i _ _ h
theorem Ov.set {w : World} {t : TypeId} {g : Nat} {f : Nat → Value} {n : Nat} (h : Ov w t g f n) {k : Nat} (hk : k < n) (v : Value) : Ov (w.setCell ⟨g, k, none⟩ v) t g (fun i => if i = k then v else f i) n := by
  unfold Ov; rw [heap_setCell_same w g k _ _ _ h, rv_set f n k v hk]
theorem Ov.congr {w : World} {t : TypeId} {g : Nat} {f f' : Nat → Value} {n : Nat} (h : Ov w t g f n) (e : ∀ i, i < n → f i = f' i) : Ov w t g f' n := by
  unfold Ov; rw [← rv_congr e]; exact h
theorem Ov.lt {w : World} {t : TypeId} {g : Nat} {f : Nat → Value} {n : Nat} (h : Ov w t g f n) : g < w.heap.size := by
  rcases Nat.lt_or_ge g w.heap.size with h1 | h1
  · exact h1
  · unfold Ov at h; rw [Array.getElem?_eq_none h1] at h; cases h
theorem Ov.below {w w' : World} {t : TypeId} {g : Nat} {f : Nat → Value} {n : Nat} (h : Ov w t g f n) (hb : Below w.heap.size w w') : Ov w' t g f n := by
  unfold Ov; rw [hb.block g h.lt]; exact h
theorem Ov.other {w W : World} {t : TypeId} {g n : Nat} {f : Nat → Value} (h : Ov w t g f n) {p : Addr} {u : Value} (hp : g ≠ p.block) (e : W.heap = (w.setCell p u).heap) : Ov W t g f n := by
  unfold Ov at h ⊢
  rw [e, heap_setCell_other _ _ _ _ hp]; exact h
theorem Ov.heap {w W : World} {t : TypeId} {g n : Nat} {f : Nat → Value} (h : Ov w t g f n) (e : W.heap = w.heap) : Ov W t g f n := by
  unfold Ov at h ⊢; rw [e]; exact h
theorem ov_new (w : World) (t : TypeId) (v : Value) (n : Nat) : Ov (w.alloc (.cells (Array.replicate n v) t)) t w.heap.size (fun _ => v) n := by
  unfold Ov; rw [heap_alloc_new, rv_const]
/-- The slice v has n cells in a block of type t, and reads so (its length is l). -/
def St (w : World) (t : TypeId) (v : Value) (l : Nat) (f : Nat → Value) (n : Nat) : Prop := ∃ p c, v = .slice p l c ∧ (n = 0 ∨ ∃ b o cs z, p = some ⟨b, o, none⟩ ∧ w.heap[b]? = some (.cells cs t z) ∧ ∀ i, i < n → cs[o + i]? = some (f i))
/-- The slice v reads so. -/
def Sv (w : World) (v : Value) (l : Nat) (f : Nat → Value) (n : Nat) : Prop := ∃ p c, v = .slice p l c ∧ (n = 0 ∨ ∃ b o, p = some ⟨b, o, none⟩ ∧ ∀ i, i < n → w.cell? ⟨b, o + i, none⟩ = some (f i))
theorem St.sv {w : World} {t : TypeId} {v : Value} {l : Nat} {f : Nat → Value} {n : Nat} (h : St w t v l f n) : Sv w v l f n := by
  obtain ⟨p, c, e, h⟩ := h
  refine ⟨p, c, e, ?_⟩
  rcases h with h | ⟨b, o, cs, z, e2, h1, h2⟩
  · exact .inl h
  · exact .inr ⟨b, o, e2, fun i hi => by rw [cell_of_row w b (o + i) _ _ _ h1]; exact h2 i hi⟩
theorem Ov.st {w : World} {t : TypeId} {g : Nat} {f : Nat → Value} {n : Nat} (h : Ov w t g f n) (l c : Nat) : St w t (.slice (some ⟨g, 0, none⟩) l c) l f n :=
  ⟨_, c, rfl, .inr ⟨g, 0, _, _, rfl, h, fun i hi => by rw [Nat.zero_add]; exact rv_get f n i hi⟩⟩
theorem Sv.below {w w' : World} {v : Value} {l : Nat} {f : Nat → Value} {n : Nat} (h : Sv w v l f n) (hb : Below w.heap.size w w') : Sv w' v l f n := by
  obtain ⟨p, c, e, h⟩ := h
  refine ⟨p, c, e, ?_⟩
  rcases h with h | ⟨b, o, e2, h2⟩
  · exact .inl h
  · exact .inr ⟨b, o, e2, fun i hi => cell_below (h2 i hi) hb⟩
theorem Sv.congr {w : World} {v : Value} {l : Nat} {f f' : Nat → Value} {n : Nat} (h : Sv w v l f n) (e : ∀ i, i < n → f i = f' i) : Sv w v l f' n := by
  obtain ⟨p, c, ev, h⟩ := h
  refine ⟨p, c, ev, ?_⟩
  rcases h with h | ⟨b, o, e2, h2⟩
  · exact .inl h
  · exact .inr ⟨b, o, e2, fun i hi => by rw [h2 i hi, e i hi]⟩
theorem St.below {w w' : World} {t : TypeId} {v : Value} {l : Nat} {f : Nat → Value} {n : Nat} (h : St w t v l f n) (hb : Below w.heap.size w w') : St w' t v l f n := by
  obtain ⟨p, c, e, h⟩ := h
  refine ⟨p, c, e, ?_⟩
  rcases h with h | ⟨b, o, cs, z, e2, h1, h2⟩
  · exact .inl h
  · exact .inr ⟨b, o, cs, z, e2, by rw [hb.block b (lt_of_block h1)]; exact h1, h2⟩
theorem Sv.cells {w : World} {v : Value} {l : Nat} {f : Nat → Value} {n : Nat} (h : Sv w v l f n) (h0 : 0 < n) : ∃ b o c, v = .slice (some ⟨b, o, none⟩) l c ∧ ∀ i, i < n → w.cell? ⟨b, o + i, none⟩ = some (f i) := by
  obtain ⟨p, c, rfl, h⟩ := h
  rcases h with h | ⟨b, o, rfl, h2⟩
  · omega
  · exact ⟨b, o, c, rfl, h2⟩
theorem St.congr {w : World} {t : TypeId} {v : Value} {l : Nat} {f f' : Nat → Value} {n : Nat} (h : St w t v l f n) (e : ∀ i, i < n → f i = f' i) : St w t v l f' n := by
  obtain ⟨p, c, ev, h⟩ := h
  refine ⟨p, c, ev, ?_⟩
  rcases h with h | ⟨b, o, cs, z, e2, h1, h2⟩
  · exact .inl h
  · exact .inr ⟨b, o, cs, z, e2, h1, fun i hi => by rw [h2 i hi, e i hi]⟩
/-- A row that grew: rows of another type are as they were. -/
theorem St.grown {w w' : World} {t : TypeId} {v : Value} {l : Nat} {f : Nat → Value} {n : Nat} (h : St w t v l f n) {base k m : Nat} {t' : TypeId} {u : Value} {us : List Value} (ho : w.ownsRow base t' k u m us) (hg : w.grownBy w' u.ownBlock) (ht : t ≠ t') : St w' t v l f n := by
  obtain ⟨p, c, e, h⟩ := h
  refine ⟨p, c, e, ?_⟩
  rcases h with h | ⟨b, o, cs, z, e2, h1, h2⟩
  · exact .inl h
  · refine .inr ⟨b, o, cs, z, e2, ?_, h2⟩
    rw [hg.block b (lt_of_block h1) ?_]
    · exact h1
    · intro hb
      rcases ho.2 with ⟨hv, _⟩ | ⟨g, cap, cur, hv, _, hh, _⟩
      · rw [hv] at hb; cases hb
      · rw [hv] at hb
        injection hb with hb
        subst hb
        rw [hh] at h1
        injection h1 with h1
        injection h1 with _ h1 _
        exact ht h1.symm
/-- n values that are owned. -/
def lv (f : Nat → Value) (n : Nat) : List Value := (List.range n).map f
theorem lv_succ (f : Nat → Value) (n : Nat) : lv f (n + 1) = lv f n ++ [f n] := by
  unfold lv; rw [List.range_succ, List.map_append]; rfl
theorem lv_len (f : Nat → Value) (n : Nat) : (lv f n).length = n := by simp [lv]
theorem lv_at (f : Nat → Value) (n j : Nat) (h : j < n) : (lv f n)[j]? = some (f j) := by
  unfold lv; rw [List.getElem?_map, List.getElem?_range h]; rfl
theorem lv_congr {f g : Nat → Value} {n : Nat} (h : ∀ i, i < n → f i = g i) : lv f n = lv g n := by
  unfold lv; apply List.map_congr_left; intro i hi; rw [h i (List.mem_range.1 hi)]
theorem lv_none (t : TypeId) (k : Nat) (w : World) (base : Nat) (f : Nat → Value) : w.ownsRow base t k (.slice none 0 0) 0 (lv f 0) := World.ownsRow_nil _ _ _ _
/-- What is owned reads so. -/
theorem owns_st {t : TypeId} {w : World} {base k n : Nat} {v : Value} {f : Nat → Value} (h : w.ownsRow base t k v n (lv f (n * k))) : St w t v n f (n * k) := by
  rcases h.2 with ⟨hv, h0⟩ | ⟨g, cap, c, hv, hg, hh, hc, hm, hs, ht⟩
  · subst h0; exact ⟨none, 0, hv, .inl (Nat.zero_mul k)⟩
  · refine ⟨some ⟨g, 0, none⟩, cap, hv, .inr ⟨g, 0, c, _, rfl, hh, fun i hi => ?_⟩⟩
    have h1 : (c.toList.take (n * k))[i]? = some (f i) := by rw [ht, lv_at f (n * k) i hi]
    rw [List.getElem?_take_of_lt hi] at h1
    rw [Nat.zero_add]; simpa using h1
theorem owns_st1 {t : TypeId} {w : World} {base n : Nat} {v : Value} {f : Nat → Value} (h : w.ownsRow base t 1 v n (lv f n)) : St w t v n f n := by
  have h2 := owns_st (k := 1) (f := f) (by rw [Nat.mul_one]; exact h)
  rw [Nat.mul_one] at h2; exact h2
/-- A list of rows that grew by one row. -/
theorem push_all {t t' : TypeId} (ht : t ≠ t') {W W3 : World} {base k : Nat} {v x : Value} {us : List Value} {rows : Nat → Value} {o : Obj} {l c : Nat → Nat} {f : Nat → Nat → Value} (hown : W.ownsRow base t' 1 v k us) (hgrow : (W.alloc o).grownBy W3 v.ownBlock) (hR : ∀ i, i < k → St W t (rows i) (l i) (f i) (c i)) (hx : St W t x (l k) (f k) (c k)) : ∀ i, i < k + 1 → St W3 t (if i = k then x else rows i) (l i) (f i) (c i) := by
  intro i hi
  have ha := (Below.refl _ W).alloc (Nat.le_refl _) o
  by_cases e : i = k
  · subst e; rw [if_pos rfl]; exact (hx.below ha).grown (hown.alloc _) hgrow ht
  · rw [if_neg e]; exact ((hR i (by omega)).below ha).grown (hown.alloc _) hgrow ht
theorem push_lv (rows : Nat → Value) (k : Nat) (x : Value) : lv rows k ++ [x] = lv (fun i => if i = k then x else rows i) (k + 1) := by
  rw [lv_succ, if_pos rfl]
  exact congrArg (· ++ _) (lv_congr (fun i hi => by rw [if_neg (by omega)]))
theorem one_cellv {v : Value} (h : v.oneCell' = true) : ∀ u ∈ ([v] : List Value), u.oneCell' = true := by
  intro u hu; simp at hu; subst hu; exact h
end Go.Proofs.Ytmjobnabnkiakaa
