/-
  Rows that a call makes: 'Sum'.
-/
import Derived.Test.YtmjobnabnkiakaaRd
import Derived.Deep.RegionWith
namespace Go.Proofs.Ytmjobnabnkiakaa
open Go.RowKit

def rowC (f : Nat → BitVec 8) (n : Nat) : Array Value := ((List.range n).map fun i => Value.int .u8 (el (f i))).toArray
theorem rowC_size (f : Nat → BitVec 8) (n : Nat) : (rowC f n).size = n := by simp [rowC]
theorem rowC_get (f : Nat → BitVec 8) (n i : Nat) (h : i < n) : (rowC f n)[i]? = some (.int .u8 (el (f i))) := by
  unfold rowC; rw [List.getElem?_toArray, List.getElem?_map, List.getElem?_range h]; rfl
theorem rowC_congr {f g : Nat → BitVec 8} {n : Nat} (h : ∀ i, i < n → f i = g i) : rowC f n = rowC g n := by
  unfold rowC; congr 1
  apply List.map_congr_left
  intro i hi; rw [h i (List.mem_range.1 hi)]
theorem rowC_set (f : Nat → BitVec 8) (n k : Nat) (v : BitVec 8) (hk : k < n) : (rowC f n).setIfInBounds k (.int .u8 (el v)) = rowC (fun i => if i = k then v else f i) n := by
  apply Array.ext_getElem?
  intro i
  rw [Array.getElem?_setIfInBounds, rowC_size]
  by_cases hi : i < n
  · rw [rowC_get (fun i => if i = k then v else f i) n i hi]
    by_cases e : k = i
    · subst e; simp [hk]
    · rw [if_neg e, rowC_get f n i hi, if_neg (fun h => e h.symm)]
  · have h1 : (rowC f n)[i]? = none := by rw [Array.getElem?_eq_none]; rw [rowC_size]; omega
    have h2 : (rowC (fun i => if i = k then v else f i) n)[i]? = none := by rw [Array.getElem?_eq_none]; rw [rowC_size]; omega
    rw [h1, h2, if_neg (by omega)]
theorem rowC_zero (n : Nat) : rowC (fun _ => 0#8) n = Array.replicate n (.int .u8 0) := by
  apply Array.ext_getElem?
  intro i
  by_cases hi : i < n
  · rw [rowC_get _ n i hi]; simp [hi]; rfl
  · rw [Array.getElem?_eq_none (by rw [rowC_size]; omega), Array.getElem?_eq_none (by simp; omega)]

/-- The block g is a row of the call's own: these elements and no more room. -/
def Own (w : World) (t : TypeId) (g : Nat) (f : Nat → BitVec 8) (n : Nat) : Prop := w.heap[g]? = some (.cells (rowC f n) t (0, 0))
theorem Own.cell {w : World} {t : TypeId} {g : Nat} {f : Nat → BitVec 8} {n : Nat} (h : Own w t g f n) {i : Nat} (hi : i < n) : w.cell? ⟨g, i, none⟩ = some (.int .u8 (el (f i))) := by
  rw [cell_of_row w g i _ _ _ h, rowC_get f n i hi]
theorem Own.frozen {w : World} {t : TypeId} {g : Nat} {f : Nat → BitVec 8} {n : Nat} (h : Own w t g f n) (i : Nat) : w.frozen? ⟨g, i, none⟩ = false := frozen_of_row w g i _ _ h
theorem Own.set {w : World} {t : TypeId} {g : Nat} {f : Nat → BitVec 8} {n : Nat} (h : Own w t g f n) {k : Nat} (hk : k < n) (v : BitVec 8) : Own (w.setCell ⟨g, k, none⟩ (.int .u8 (el v))) t g (fun i => if i = k then v else f i) n := by
  unfold Own; rw [heap_setCell_same w g k _ _ _ h, rowC_set f n k v hk]
theorem Own.congr {w : World} {t : TypeId} {g : Nat} {f f' : Nat → BitVec 8} {n : Nat} (h : Own w t g f n) (e : ∀ i, i < n → f i = f' i) : Own w t g f' n := by
  unfold Own; rw [← rowC_congr e]; exact h
theorem Own.lt {w : World} {t : TypeId} {g : Nat} {f : Nat → BitVec 8} {n : Nat} (h : Own w t g f n) : g < w.heap.size := by
  rcases Nat.lt_or_ge g w.heap.size with h1 | h1
  · exact h1
  · unfold Own at h; rw [Array.getElem?_eq_none h1] at h; cases h
theorem Own.below {w w' : World} {t : TypeId} {g : Nat} {f : Nat → BitVec 8} {n : Nat} (h : Own w t g f n) (hb : Below w.heap.size w w') : Own w' t g f n := by
  unfold Own; rw [hb.block g h.lt]; exact h
theorem Own.drewN {w : World} {t : TypeId} {g : Nat} {f : Nat → BitVec 8} {n : Nat} (h : Own w t g f n) (d : Nat) : Own (w.drewN d) t g f n := h
theorem Own.rd {w : World} {t : TypeId} {g : Nat} {f : Nat → BitVec 8} {n : Nat} (h : Own w t g f n) : Rd w (some ⟨g, 0, none⟩) ((List.range n).map f) := by
  refine .inr ⟨g, 0, rfl, fun i hi => ?_⟩
  have hi' : i < n := by simpa using hi
  rw [Nat.zero_add, h.cell hi']; simp [hi']
/-- A round that fills the next place. -/
theorem Own.fill {w W : World} {t : TypeId} {g n k : Nat} {f : Nat → BitVec 8} (h : Own w t g (fun i => if i < k then f i else 0#8) n) (hk : k < n) (e : W.heap = (w.setCell ⟨g, k, none⟩ (.int .u8 (el (f k)))).heap) : Own W t g (fun i => if i < k + 1 then f i else 0#8) n := by
  have h1 := (h.set hk (f k)).congr (f' := fun i => if i < k + 1 then f i else 0#8) (fun i hi => by
    by_cases e : i = k
    · subst e; simp
    · by_cases h2 : i < k
      · rw [if_neg e, if_pos h2, if_pos (by omega)]
      · rw [if_neg e, if_neg h2, if_neg (by omega)])
  unfold Own at h1 ⊢
  rw [e]; exact h1
theorem own_new (w : World) (n : Nat) : Own (w.alloc (.cells (Array.replicate n (.int .u8 0)) 5)) 5 w.heap.size (fun _ => 0#8) n := by
  unfold Own; rw [heap_alloc_new, rowC_zero]

theorem info5 : (Try.prog.info? 5).map (fun i => (i.zero, i.size, i.bytes)) = some (some (.int .u8 0), 1, 1) := by kernel_rfl
theorem make_bytes (n : Nat) (hn : n ≤ 140737488355328) (w : World) : (Instr.makeSlice 37 (.int .i64 (n : Int)) (.int .i64 (n : Int))).run Try.prog w = .ok (.slice (some ⟨w.heap.size, 0, none⟩) n n) (w.alloc (.cells (Array.replicate n (.int .u8 0)) 5)) := by
  obtain ⟨i0, hi, hz0, hz1, hz2⟩ := info_parts info5
  have h := run_make (P := Try.prog) w 37 5 i0 (.int .u8 0) Try.underlying37 hi hz0 .i64 .i64 (n : Int) (n : Int) (by omega) (by omega) (by rw [hz2]; omega) (by omega)
  rw [h, hz1]
  have e : madeCells (Value.int .u8 0).cells ((n : Int).toNat * 1) = Array.replicate n (.int .u8 0) := by
    apply Array.ext_getElem?
    intro i
    simp only [madeCells, Int.toNat_natCast, Nat.mul_one]
    by_cases hin : i < n
    · simp [hin, Value.cells]
      rw [Nat.mod_one]; rfl
    · rw [Array.getElem?_eq_none (by simp; omega), Array.getElem?_eq_none (by simp; omega)]
  rw [e, Int.toNat_natCast]

section
attribute [local irreducible] Calls el gm Own
set_option maxRecDepth 1000000 in
theorem sum_core (b1 o1 b2 o2 n c1 c2 : Nat) (x y : Nat → BitVec 8) (w : World) (hn : n ≤ 140737488355328)
    (H1 : Hid (∀ i, i < n → w.cell? ⟨b1, o1 + i, none⟩ = some (.int .u8 (el (x i))))) (H2 : Hid (∀ i, i < n → w.cell? ⟨b2, o2 + i, none⟩ = some (.int .u8 (el (y i))))) :
    Calls Try.prog 43 #[.slice (some ⟨b1, o1, none⟩) n c1, .slice (some ⟨b2, o2, none⟩) n c2] w fun e w' => e = .returned (.tuple #[.slice (some ⟨w.heap.size, 0, none⟩) n n, .int .i64 0]) ∧ Own w' 5 w.heap.size (fun i => x i ^^^ y i) n ∧ Below w.heap.size w w' := by
  have hmk := make_bytes n hn
  go_enter Try.func43, Try.ntmps43
  go_wp2
  clear hmk
  go_loopw [18] (fun i wr => ∃ k : Nat, k ≤ n ∧ i = .int .i64 k ∧ Own wr 5 w.heap.size (fun i => if i < k then x i ^^^ y i else 0#8) n ∧ Below w.heap.size w wr) (fun i _ => n - (intOf i).toNat)
  case atStart => exact ⟨0, Nat.zero_le _, rfl, own_new w n, (Below.refl _ _).alloc (Nat.le_refl _) _⟩
  case round =>
    obtain ⟨k, hk, rfl, hO, hb⟩ := hrel
    by_cases hlt : k < n
    · have g1 := cell_below (H1.out k hlt) hb
      have g2 := cell_below (H2.out k hlt) hb
      have g3 := hO.cell hlt
      have g4 := hO.frozen k
      have hi : (k : Int) < (n : Int) := by omega
      go_wp2
      go_region_with (first | (go_at_call 57; refine (plus_any _ _ _).mono ?_; rintro e w' ⟨rfl, rfl⟩))
      all_goals
        go_wp2
        go_roundw
        case rel => exact ⟨k + 1, by omega, by go_num, hO.fill (f := fun i => x i ^^^ y i) hlt rfl, (hb.setCell (Nat.le_refl _) _).drew⟩
        case measure => simp [intOf]; omega
    · obtain rfl : k = n := by omega
      go_wp2
      go_ret2
      exact ⟨rfl, hO.congr (fun i hi => by rw [if_pos hi]), hb⟩
set_option maxRecDepth 1000000 in
theorem sum_nil (a1 a2 : Option Addr) (c1 c2 : Nat) (w : World) :
    Calls Try.prog 43 #[.slice a1 0 c1, .slice a2 0 c2] w fun e w' => e = .returned (.tuple #[.slice (some ⟨w.heap.size, 0, none⟩) 0 0, .int .i64 0]) ∧ w' = w.alloc (.cells #[] 5) := by
  have hmk : ∀ w, (Instr.makeSlice 37 (.int .i64 0) (.int .i64 0)).run Try.prog w = .ok (.slice (some ⟨w.heap.size, 0, none⟩) 0 0) (w.alloc (.cells #[] 5)) := fun w => by simpa using make_bytes 0 (by omega) w
  go_enter Try.func43, Try.ntmps43
  go_wp2
  refine wp_loop_rounds 1 ?_
  rw [rounds_succ]
  go_wp2
  go_ret2
  exact ⟨rfl, rfl⟩
theorem sum_uneven (a1 a2 : Option Addr) (n m c1 c2 : Nat) (h : ¬ n = m) (w : World) :
    Calls Try.prog 43 #[.slice a1 n c1, .slice a2 m c2] w fun e w' => e = .returned (.tuple #[.slice none 0 0, .int .i64 11]) ∧ w' = w := by
  have h0 : ((n : Int) != (m : Int)) = true := by simp; omega
  go_enter Try.func43, Try.ntmps43
  go_wp2
  go_ret2
  exact ⟨rfl, rfl⟩
end
theorem sum_any {w : World} {a1 a2 : Option Addr} {xs ys : List (BitVec 8)} (h1 : Rd w a1 xs) (h2 : Rd w a2 ys) (n c1 c2 : Nat) (hn : xs.length = n) (hn2 : ys.length = n) (hm : n ≤ 140737488355328) :
    Calls Try.prog 43 #[.slice a1 n c1, .slice a2 n c2] w fun e w' => e = .returned (.tuple #[.slice (some ⟨w.heap.size, 0, none⟩) n n, .int .i64 0]) ∧ Own w' 5 w.heap.size (fun i => xs.getD i 0#8 ^^^ ys.getD i 0#8) n ∧ Below w.heap.size w w' := by
  have nil : n = 0 → Calls Try.prog 43 #[.slice a1 n c1, .slice a2 n c2] w fun e w' => e = .returned (.tuple #[.slice (some ⟨w.heap.size, 0, none⟩) n n, .int .i64 0]) ∧ Own w' 5 w.heap.size (fun i => xs.getD i 0#8 ^^^ ys.getD i 0#8) n ∧ Below w.heap.size w w' := by
    rintro rfl
    refine (sum_nil a1 a2 c1 c2 w).mono ?_
    rintro e w' ⟨rfl, rfl⟩
    have ho := own_new w 0
    simp only [Array.replicate_zero] at ho
    exact ⟨rfl, ho.congr (fun i hi => by omega), (Below.refl _ _).alloc (Nat.le_refl _) _⟩
  rcases h1 with h1 | ⟨b1, o1, rfl, hc1⟩
  · subst h1; exact nil hn.symm
  · rcases h2 with h2 | ⟨b2, o2, rfl, hc2⟩
    · subst h2; exact nil hn2.symm
    · rw [hn] at hc1
      rw [hn2] at hc2
      exact sum_core b1 o1 b2 o2 n c1 c2 (fun i => xs.getD i 0#8) (fun i => ys.getD i 0#8) w hm hc1 hc2
end Go.Proofs.Ytmjobnabnkiakaa
