/-
  Rows that a call makes: 'Sum'.
-/
import Derived.Test.YtfcjkaigmlfjnaaRd
import Derived.Deep.RegionWith
namespace Go.Proofs.Ytfcjkaigmlfjnaa
open Go.RowKit

def rowC (f : Nat → BitVec 8) (n : Nat) : Array Value := ((List.range n).map fun i => Value.int .u8 (el (f i))).toArray
theorem rowC_size (f : Nat → BitVec 8) (n : Nat) : (rowC f n).size = n := by simp [rowC]
theorem rowC_get (f : Nat → BitVec 8) (n i : Nat) (h : i < n) : (rowC f n)[i]? = some (.int .u8 (el (f i))) := by
  unfold rowC; rw [List.getElem?_toArray, List.getElem?_map, List.getElem?_range h]; rfl
theorem rowC_congr {f g : Nat → BitVec 8} {n : Nat} (h : ∀ i, i < n → f i = g i) : rowC f n = rowC g n := by
  unfold rowC; congr 1
  apply List.map_congr_left
  intro i hi; rw [h i (List.mem_range.1 hi)]
theorem rowC_set (f : Nat → BitVec 8) (n k : Nat) (v : BitVec 8) (hk : k < n) : (rowC f n).setIfInBounds k (.int .u8 (el v)) = rowC (fun i => if i = k then v else f i) n := by
  apply Array.ext_getElem?
  intro i
  rw [Array.getElem?_setIfInBounds, rowC_size]
  by_cases hi : i < n
  · rw [rowC_get (fun i => if i = k then v else f i) n i hi]
    by_cases e : k = i
    · subst e; simp [hk]
    · rw [if_neg e, rowC_get f n i hi, if_neg (fun h => e h.symm)]
  · have h1 : (rowC f n)[i]? = none := by rw [Array.getElem?_eq_none]; rw [rowC_size]; omega
    have h2 : (rowC (fun i => if i = k then v else f i) n)[i]? = none := by rw [Array.getElem?_eq_none]; rw [rowC_size]; omega
    rw [h1, h2, if_neg (by omega)]
theorem rowC_zero (n : Nat) : rowC (fun _ => 0#8) n = Array.replicate n (.int .u8 0) := by
  apply Array.ext_getElem?
  intro i
  by_cases hi : i < n
  · rw [rowC_get _ n i hi]; simp [hi]; rfl
  · rw [Array.getElem?_eq_none (by rw [rowC_size]; omega), Array.getElem?_eq_none (by simp; omega)]

/-- The block g is a row of the call's own: these elements and no more room. -/
def Own (w : World) (t : TypeId) (g : Nat) (f : Nat → BitVec 8) (n : Nat) : Prop := w.heap[g]? = some (.cells (rowC f n) t (0, 0))
theorem Own.cell {w : World} {t : TypeId} {g : Nat} {f : Nat → BitVec 8} {n : Nat} (h : Own w t g f n) {i : Nat} (hi : i < n) : w.cell? ⟨g, i, none⟩ = some (.int .u8 (el (f i))) := by
  rw [cell_of_row w g i _ _ _ h, rowC_get f n i hi]
theorem Own.frozen {w : World} {t : TypeId} {g : Nat} {f : Nat → BitVec 8} {n : Nat} (h : Own w t g f n) (i : Nat) : w.frozen? ⟨g, i, none⟩ = false := frozen_of_row w g i _ _ h
theorem Own.set {w : World} {t : TypeId} {g : Nat} {f : Nat → BitVec 8} {n : Nat} (h : Own w t g f n) {k : Nat} (hk : k < n) (v : BitVec 8) : Own (w.setCell ⟨g, k, none⟩ (.int .u8 (el v))) t g (fun i => if i = k then v else f i) n := by
  unfold Own; rw [heap_setCell_same w g k _ _ _ h, rowC_set f n k v hk]
theorem Own.congr {w : World} {t : TypeId} {g : Nat} {f f' : Nat → BitVec 8} {n : Nat} (h : Own w t g f n) (e : ∀ i, i < n → f i = f' i) : Own w t g f' n := by
  unfold Own; rw [← rowC_congr e]; exact h
theorem Own.lt {w : World} {t : TypeId} {g : Nat} {f : Nat → BitVec 8} {n : Nat} (h : Own w t g f n) : g < w.heap.size := by
  rcases Nat.lt_or_ge g w.heap.size with h1 | h1
  · exact h1
  · unfold Own at h; rw [Array.getElem?_eq_none h1] at h; cases h
theorem Own.below {w w' : World} {t : TypeId} {g : Nat} {f : Nat → BitVec 8} {n : Nat} (h : Own w t g f n) (hb : Below w.heap.size w w') : Own w' t g f n := by
  unfold Own; rw [hb.block g h.lt]; exact h
theorem Own.drewN {w : World} {t : TypeId} {g : Nat} {f : Nat → BitVec 8} {n : Nat} (h : Own w t g f n) (d : Nat) : Own (w.drewN d) t g f n := h
theorem Own.rd {w : World} {t : TypeId} {g : Nat} {f : Nat → BitVec 8} {n : Nat} (h : Own w t g f n) : Rd w (some ⟨g, 0, none⟩) ((List.range n).map f) := by
  refine .inr ⟨g, 0, rfl, fun i hi => ?_⟩
  have hi' : i < n := by simpa using hi
  rw [Nat.zero_add, h.cell hi']; simp [hi']
/-- A round that fills the next place. -/
theorem Own.fill {w W : World} {t : TypeId} {g n k : Nat} {f : Nat → BitVec 8} (h : Own w t g (fun i => if i < k then f i else 0#8) n) (hk : k < n) (e : W.heap = (w.setCell ⟨g, k, none⟩ (.int .u8 (el (f k)))).heap) : Own W t g (fun i => if i < k + 1 then f i else 0#8) n := by
  have h1 := (h.set hk (f k)).congr (f' := fun i => if i < k + 1 then f i else 0#8) (fun i hi => by
    by_cases e : i = k
    · subst e; simp
    · by_cases h2 : i < k
      · rw [if_neg e, if_pos h2, if_pos (by omega)]
      · rw [if_neg e, if_neg h2, if_neg (by omega)])
  unfold Own at h1 ⊢
  rw [e]; exact h1
theorem own_new (w : World) (n : Nat) : Own (w.alloc (.cells (Array.replicate n (.int .u8 0)) 5)) 5 w.heap.size (fun _ => 0#8) n := by
  unfold Own; rw [heap_alloc_new, rowC_zero]

theorem info5 : (Try.prog.info? 5).map (fun i => (i.zero, i.size, i.bytes)) = some (some (.int .u8 0), 1, 1) := by kernel_rfl
theorem make_bytes (n : Nat) (hn : n ≤ 140737488355328) (w : World) : (Instr.makeSlice 35 (.int .i64 (n : Int)) (.int .i64 (n : Int))).run Try.prog w = .ok (.slice (some ⟨w.heap.size, 0, none⟩) n n) (w.alloc (.cells (Array.replicate n (.int .u8 0)) 5)) := by
  obtain ⟨i0, hi, hz0, hz1, hz2⟩ := info_parts info5
  have h := run_make (P := Try.prog) w 35 5 i0 (.int .u8 0) Try.underlying35 hi hz0 .i64 .i64 (n : Int) (n : Int) (by omega) (by omega) (by rw [hz2]; omega) (by omega)
  rw [h, hz1]
  have e : madeCells (Value.int .u8 0).cells ((n : Int).toNat * 1) = Array.replicate n (.int .u8 0) := by
    apply Array.ext_getElem?
    intro i
    simp only [madeCells, Int.toNat_natCast, Nat.mul_one]
    by_cases hin : i < n
    · simp [hin, Value.cells]
      rw [Nat.mod_one]; rfl
    · rw [Array.getElem?_eq_none (by simp; omega), Array.getElem?_eq_none (by simp; omega)]
  rw [e, Int.toNat_natCast]

end Go.Proofs.Ytfcjkaigmlfjnaa
