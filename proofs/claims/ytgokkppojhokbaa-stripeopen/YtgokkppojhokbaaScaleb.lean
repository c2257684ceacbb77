/-
  Rows that a call makes: 'Sum'.
-/
import Derived.Test.YtgokkppojhokbaaRd
import Derived.Deep.RegionWith
import Derived.Deep.WholeRow
import Derived.Deep.Cut
import Derived.BigRegion
import Derived.Great.BuildSlice
namespace Go.Proofs.Ytgokkppojhokbaa
open Go.RowKit

def rowC (f : Nat → BitVec 8) (n : Nat) : Array Value := ((List.range n).map fun i => Value.int .u8 (el (f i))).toArray
theorem rowC_size (f : Nat → BitVec 8) (n : Nat) : (rowC f n).size = n := by simp [rowC]
theorem rowC_get (f : Nat → BitVec 8) (n i : Nat) (h : i < n) : (rowC f n)[i]? = some (.int .u8 (el (f i))) := by
  unfold rowC; rw [List.getElem?_toArray, List.getElem?_map, List.getElem?_range h]; rfl
theorem rowC_congr {f g : Nat → BitVec 8} {n : Nat} (h : ∀ i, i < n → f i = g i) : rowC f n = rowC g n := by
  unfold rowC; congr 1
  apply List.map_congr_left
  intro i hi; rw [h i (List.mem_range.1 hi)]
theorem rowC_set (f : Nat → BitVec 8) (n k : Nat) (v : BitVec 8) (hk : k < n) : (rowC f n).setIfInBounds k (.int .u8 (el v)) = rowC (fun i => if i = k then v else f i) n := by
  apply Array.ext_getElem?
  intro i
  rw [Array.getElem?_setIfInBounds, rowC_size]
  by_cases hi : i < n
  · rw [rowC_get (fun i => if i = k then v else f i) n i hi]
    by_cases e : k = i
    · subst e; simp [hk]
    · rw [if_neg e, rowC_get f n i hi, if_neg (fun h => e h.symm)]
  · have h1 : (rowC f n)[i]? = none := by rw [Array.getElem?_eq_none]; rw [rowC_size]; omega
    have h2 : (rowC (fun i => if i = k then v else f i) n)[i]? = none := by rw [Array.getElem?_eq_none]; rw [rowC_size]; omega
    rw [h1, h2, if_neg (by omega)]
theorem rowC_zero (n : Nat) : rowC (fun _ => 0#8) n = Array.replicate n (.int .u8 0) := by
  apply Array.ext_getElem?
  intro i
  by_cases hi : i < n
  · rw [rowC_get _ n i hi]; simp [hi]; rfl
  · rw [Array.getElem?_eq_none (by rw [rowC_size]; omega), Array.getElem?_eq_none (by simp; omega)]

/-- The block g is a row of the call's own: these elements and no more room. -/
def Own (w : World) (t : TypeId) (g : Nat) (f : Nat → BitVec 8) (n : Nat) : Prop := w.heap[g]? = some (.cells (rowC f n) t (0, 0))
theorem Own.cell {w : World} {t : TypeId} {g : Nat} {f : Nat → BitVec 8} {n : Nat} (h : Own w t g f n) {i : Nat} (hi : i < n) : w.cell? ⟨g, i, none⟩ = some (.int .u8 (el (f i))) := by
  rw [cell_of_row w g i _ _ _ h, rowC_get f n i hi]
theorem Own.frozen {w : World} {t : TypeId} {g : Nat} {f : Nat → BitVec 8} {n : Nat} (h : Own w t g f n) (i : Nat) : w.frozen? ⟨g, i, none⟩ = false := frozen_of_row w g i _ _ h
theorem Own.set {w : World} {t : TypeId} {g : Nat} {f : Nat → BitVec 8} {n : Nat} (h : Own w t g f n) {k : Nat} (hk : k < n) (v : BitVec 8) : Own (w.setCell ⟨g, k, none⟩ (.int .u8 (el v))) t g (fun i => if i = k then v else f i) n := by
  unfold Own; rw [heap_setCell_same w g k _ _ _ h, rowC_set f n k v hk]
theorem Own.congr {w : World} {t : TypeId} {g : Nat} {f f' : Nat → BitVec 8} {n : Nat} (h : Own w t g f n) (e : ∀ i, i < n → f i = f' i) : Own w t g f' n := by
  unfold Own; rw [← rowC_congr e]; exact h
theorem Own.lt {w : World} {t : TypeId} {g : Nat} {f : Nat → BitVec 8} {n : Nat} (h : Own w t g f n) : g < w.heap.size := by
  rcases Nat.lt_or_ge g w.heap.size with h1 | h1
  · exact h1
  · unfold Own at h; rw [Array.getElem?_eq_none h1] at h; cases h
theorem Own.below {w w' : World} {t : TypeId} {g : Nat} {f : Nat → BitVec 8} {n : Nat} (h : Own w t g f n) (hb : Below w.heap.size w w') : Own w' t g f n := by
  unfold Own; rw [hb.block g h.lt]; exact h
theorem Own.drewN {w : World} {t : TypeId} {g : Nat} {f : Nat → BitVec 8} {n : Nat} (h : Own w t g f n) (d : Nat) : Own (w.drewN d) t g f n := h
theorem Own.rd {w : World} {t : TypeId} {g : Nat} {f : Nat → BitVec 8} {n : Nat} (h : Own w t g f n) : Rd w (some ⟨g, 0, none⟩) ((List.range n).map f) := by
  refine .inr ⟨g, 0, rfl, fun i hi => ?_⟩
  have hi' : i < n := by simpa using hi
  rw [Nat.zero_add, h.cell hi']; simp [hi']
/-- A round that fills the next place. -/
theorem Own.fill {w W : World} {t : TypeId} {g n k : Nat} {f : Nat → BitVec 8} (h : Own w t g (fun i => if i < k then f i else 0#8) n) (hk : k < n) (e : W.heap = (w.setCell ⟨g, k, none⟩ (.int .u8 (el (f k)))).heap) : Own W t g (fun i => if i < k + 1 then f i else 0#8) n := by
  have h1 := (h.set hk (f k)).congr (f' := fun i => if i < k + 1 then f i else 0#8) (fun i hi => by
    by_cases e : i = k
    · subst e; simp
    · by_cases h2 : i < k
      · rw [if_neg e, if_pos h2, if_pos (by omega)]
      · rw [if_neg e, if_neg h2, if_neg (by omega)])
  unfold Own at h1 ⊢
  rw [e]; exact h1
theorem own_new (w : World) (n : Nat) : Own (w.alloc (.cells (Array.replicate n (.int .u8 0)) 5)) 5 w.heap.size (fun _ => 0#8) n := by
  unfold Own; rw [heap_alloc_new, rowC_zero]

theorem info5 : (Try.prog.info? 5).map (fun i => (i.zero, i.size, i.bytes)) = some (some (.int .u8 0), 1, 1) := by kernel_rfl
theorem make_bytes (n : Nat) (hn : n ≤ 140737488355328) (w : World) : (Instr.makeSlice 23 (.int .i64 (n : Int)) (.int .i64 (n : Int))).run Try.prog w = .ok (.slice (some ⟨w.heap.size, 0, none⟩) n n) (w.alloc (.cells (Array.replicate n (.int .u8 0)) 5)) := by
  obtain ⟨i0, hi, hz0, hz1, hz2⟩ := info_parts info5
  have h := run_make (P := Try.prog) w 23 5 i0 (.int .u8 0) Try.underlying23 hi hz0 .i64 .i64 (n : Int) (n : Int) (by omega) (by omega) (by rw [hz2]; omega) (by omega)
  rw [h, hz1]
  have e : madeCells (Value.int .u8 0).cells ((n : Int).toNat * 1) = Array.replicate n (.int .u8 0) := by
    apply Array.ext_getElem?
    intro i
    simp only [madeCells, Int.toNat_natCast, Nat.mul_one]
    by_cases hin : i < n
    · simp [hin, Value.cells]
      rw [Nat.mod_one]; rfl
    · rw [Array.getElem?_eq_none (by simp; omega), Array.getElem?_eq_none (by simp; omega)]
  rw [e, Int.toNat_natCast]

end Go.Proofs.Ytgokkppojhokbaa
/-
  'multiples' and 'Scale'.
-/
namespace Go.Proofs.Ytgokkppojhokbaa
open Go.RowKit

def nb (i : Nat) : BitVec 8 := BitVec.ofNat 8 i
/-- c times the element number i. -/
def tb (c : BitVec 8) (i : Nat) : BitVec 8 := gm (nb i) c
theorem tb_zero (c : BitVec 8) : tb c 0 = 0#8 := gm_zero_l c
theorem nb_even : ∀ i, i < 8 → nb (2 * i) = dbl (nb i) := by
  intro i hi
  have : i = 0 ∨ i = 1 ∨ i = 2 ∨ i = 3 ∨ i = 4 ∨ i = 5 ∨ i = 6 ∨ i = 7 := by omega
  rcases this with rfl | rfl | rfl | rfl | rfl | rfl | rfl | rfl <;> decide
theorem nb_odd : ∀ i, i < 8 → nb (2 * i + 1) = dbl (nb i) ^^^ 1#8 := by
  intro i hi
  have : i = 0 ∨ i = 1 ∨ i = 2 ∨ i = 3 ∨ i = 4 ∨ i = 5 ∨ i = 6 ∨ i = 7 := by omega
  rcases this with rfl | rfl | rfl | rfl | rfl | rfl | rfl | rfl <;> decide
theorem tb_even (c : BitVec 8) {i : Nat} (hi : i < 8) : tb c (2 * i) = dbl (tb c i) := by unfold tb; rw [nb_even i hi, gm_dbl]
theorem tb_odd (c : BitVec 8) {i : Nat} (hi : i < 8) : tb c (2 * i + 1) = dbl (tb c i) ^^^ c := by unfold tb; rw [nb_odd i hi, gm_xor_l, gm_dbl, gm_one_l]
/-- The table behind k rounds. -/
def tk (c : BitVec 8) (k : Nat) (j : Nat) : BitVec 8 := if j < 2 * k then tb c j else 0#8
theorem tk_at (c : BitVec 8) (k : Nat) : tk c k k = tb c k := by
  unfold tk
  by_cases h : k = 0
  · subst h; rw [if_neg (by omega), tb_zero]
  · rw [if_pos (by omega)]

theorem Own.two {w W : World} {t : TypeId} {g k : Nat} {c : BitVec 8} (h : Own w t g (tk c k) 16) (hk : k < 8)
    (e : W.heap = ((w.setCell ⟨g, 2 * k, none⟩ (.int .u8 (el (dbl (tb c k))))).setCell ⟨g, 2 * k + 1, none⟩ (.int .u8 (el (dbl (tb c k) ^^^ c)))).heap) : Own W t g (tk c (k + 1)) 16 := by
  have h1 := ((h.set (k := 2 * k) (by omega) (dbl (tb c k))).set (k := 2 * k + 1) (by omega) (dbl (tb c k) ^^^ c)).congr (f' := tk c (k + 1)) (fun i hi => by
    show (if i = 2 * k + 1 then _ else if i = 2 * k then _ else tk c k i) = _
    unfold tk
    by_cases e1 : i = 2 * k + 1
    · subst e1; rw [if_pos rfl, if_pos (by omega), tb_odd c hk]
    · rw [if_neg e1]
      by_cases e2 : i = 2 * k
      · subst e2; rw [if_pos rfl, if_pos (by omega), tb_even c hk]
      · rw [if_neg e2]
        by_cases e3 : i < 2 * k
        · rw [if_pos e3, if_pos (by omega)]
        · rw [if_neg e3, if_neg (by omega)])
  unfold Own at h1 ⊢
  rw [e]; exact h1

theorem Own.other2 {w W : World} {t : TypeId} {g n : Nat} {f : Nat → BitVec 8} (h : Own w t g f n) {p q : Addr} {u v : Value} (hp : g ≠ p.block) (hq : g ≠ q.block) (e : W.heap = ((w.setCell p u).setCell q v).heap) : Own W t g f n := by
  unfold Own at h ⊢
  rw [e, heap_setCell_other _ _ _ _ hq, heap_setCell_other _ _ _ _ hp]; exact h
theorem Own.whole {w : World} {t : TypeId} {g n : Nat} {f f' : Nat → BitVec 8} (h : Own w t g f n) (e : ∀ i, i < n → f i = f' i) : w.heap[g]? = some (.cells (rowC f' n) t (0, 0)) := h.congr e
theorem rowC_one (f : Nat → BitVec 8) (n : Nat) : (rowC f n).all (·.oneCell') = true := by
  rw [Array.all_eq_true_iff_forall_mem]
  intro x hx
  unfold rowC at hx
  simp only [List.mem_toArray, List.mem_map] at hx
  obtain ⟨i, _, rfl⟩ := hx
  rfl
theorem Below.row {B : Nat} {a w : World} (h : Below B a w) {g : Nat} (hg : B ≤ g) (cs : Array Value) : Below B a (w.setRow g cs) :=
  ⟨h.os, h.tape, h.output, by rw [setRow_size]; exact h.size, fun k hk => by rw [setRow_other w g k cs (by omega)]; exact h.block k hk⟩

theorem info16 : (Try.prog.info? 109).map (fun i => (i.zero, i.size)) = some (some (.agg (Array.replicate 16 (.int .u8 0))), 16) := by kernel_rfl
theorem size16 : (Try.prog.info? 109).map (·.size) = some 16 := (zero_of_info info16).2
theorem own16 (w : World) (c : BitVec 8) : Own (w.alloc (.cells (Array.replicate 16 (.int .u8 0)) 109)) 109 w.heap.size (tk c 0) 16 := by
  unfold Own; rw [heap_alloc_new, ← rowC_zero]
  congr 2
theorem own16a (w : World) (c : BitVec 8) (z : Obj) (hz : z = .cells (Array.replicate 16 (.int .u8 0)) 109) : Own ((w.alloc z).alloc z) 109 (w.heap.size + 1) (tk c 0) 16 := by
  subst hz
  have h := own16 (w.alloc (.cells (Array.replicate 16 (.int .u8 0)) 109)) c
  rwa [World.size_alloc] at h
theorem own16b (w : World) (z : Obj) (hz : z = .cells (Array.replicate 16 (.int .u8 0)) 109) : Own ((w.alloc z).alloc z) 109 w.heap.size (fun _ => 0#8) 16 := by
  subst hz
  have h := own16 w 0#8
  have h2 := h.below ((Below.refl _ _).alloc (Nat.le_refl _) (.cells (Array.replicate 16 (.int .u8 0)) 109))
  exact h2.congr (fun i _ => by unfold tk; rw [if_neg (by omega)])
section
attribute [local irreducible] Calls el gm Own dbl tb
set_option maxRecDepth 1000000 in
theorem multiples_any (c : BitVec 8) (w : World) :
    Calls Try.prog 64 #[.int .u8 (el c)] w fun e w' => e = .returned (.agg (rowC (tb c) 16)) ∧ Below w.heap.size w w' := by
  go_enter Try.func64, Try.ntmps64
  go_wp2
  go_loopw [6] (fun i wr => ∃ k : Nat, k ≤ 8 ∧ i = .int .i64 k ∧ Own wr 109 (w.heap.size + 1) (tk c k) 16 ∧ Own wr 109 w.heap.size (fun _ => 0#8) 16 ∧ Below w.heap.size w wr) (fun i _ => 8 - (intOf i).toNat)
  case atStart => exact ⟨0, Nat.zero_le _, rfl, own16a w c _ rfl, own16b w _ rfl, ((Below.refl _ _).alloc (Nat.le_refl _) _).alloc (by simp) _⟩
  case round =>
    obtain ⟨k, hk, rfl, hO, hZ, hb⟩ := hrel
    by_cases hlt : k < 8
    · have g1 : wr.cell? ⟨w.heap.size + 1, k, none⟩ = some (.int .u8 (el (tb c k))) := by rw [← tk_at c k]; exact hO.cell (by omega)
      have g2 := hO.cell (i := 2 * k) (by omega)
      have g3 := hO.cell (i := 2 * k + 1) (by omega)
      have g4 := hO.frozen (2 * k)
      have g5 := hO.frozen (2 * k + 1)
      have hi : (k : Int) < 8 := by omega
      have i1 : (2 : Int) * (k : Int) < 16 := by omega
      have i2 : (2 : Int) * (k : Int) + 1 < 16 := by omega
      have i3 : (0 : Int) ≤ 2 * (k : Int) := by omega
      have i4 : (0 : Int) ≤ 2 * (k : Int) + 1 := by omega
      have i5 : IntKind.i64.wrap (2 * (k : Int)) = 2 * (k : Int) := by rw [IntKind.wrap_i64]; omega
      have i6 : IntKind.i64.wrap (2 * (k : Int) + 1) = 2 * (k : Int) + 1 := by rw [IntKind.wrap_i64]; omega
      have i7 : (2 * (k : Int)).toNat = 2 * k := by omega
      have i8 : (2 * (k : Int) + 1).toNat = 2 * k + 1 := by omega
      go_wp2_with (go_at_call 66; refine (double_any _ _).mono ?_; rintro e w' ⟨rfl, rfl⟩)
      go_region_with (first | (go_at_call 63; refine (plus_any _ _ _).mono ?_; rintro e w' ⟨rfl, rfl⟩))
      go_wp2
      go_roundw
      case rel => exact ⟨k + 1, by omega, by go_num, hO.two hlt rfl, hZ.other2 (by simp) (by simp) rfl, ((hb.setCell (by simp) _).setCell (by simp) _).drew⟩
      case measure => simp [intOf]; omega
    · obtain rfl : k = 8 := by omega
      have hO2 := hO.whole (f' := tb c) (fun i hi => by unfold tk; rw [if_pos (by omega)])
      have hZ2 := hZ.whole (f' := fun _ => 0#8) (fun i hi => rfl)
      have hsz : (Try.prog.info? 109).map (·.size) = some (rowC (tb c) 16).size := by rw [rowC_size]; exact size16
      have HO : Hid (wr.heap[w.heap.size + 1]? = some (.cells (rowC (tb c) 16) 109 (0, 0))) := hO2
      have HZ : Hid (wr.heap[w.heap.size]? = some (.cells (rowC (fun _ => 0#8) 16) 109 (0, 0))) := hZ2
      have HS : Hid ((Try.prog.info? 109).map (·.size) = some (rowC (tb c) 16).size) := hsz
      clear hO2 hZ2 hsz
      go_wp2_with (first | (refine wpList_load_row rfl 109 _ rfl (w.heap.size + 1) rfl 109 (rowC (tb c) 16) (0, 0) _ HO.out Try.underlying109 rfl HS.out ?_) | (refine wpList_store_row rfl 109 _ _ rfl w.heap.size (rowC (tb c) 16) rfl rfl 109 (rowC (fun _ => 0#8) 16) HZ.out HS.out (by rw [rowC_size, rowC_size]) (rowC_one _ _) ?_))
      refine bodyPost_ret (v := .agg (rowC (tb c) 16)) ?_ rfl ⟨rfl, Below.row hb (Nat.le_refl _) _⟩
      exact results_cell_row rfl _ _ w.heap.size 109 (rowC (tb c) 16) (0, 0) (.array 16 83) (by kernel_rfl) (setRow_heap _ _ _ _ _ _ HZ.out) Try.underlying109 rfl HS.out
end
end Go.Proofs.Ytgokkppojhokbaa
/-
  'Scale'.
-/
namespace Go.Proofs.Ytgokkppojhokbaa
open Go.RowKit

theorem times_16 (c : BitVec 8) (w : World) :
    Calls Try.prog 65 #[.int .u8 (el c), .int .u8 16] w fun e w' => e = .returned (.int .u8 (el (gm c 16#8))) ∧ w' = w := times_any c 16#8 w
theorem hs16 (f : Nat → BitVec 8) : (Try.prog.info? 109).map (·.size) = some (rowC f 16).size := by rw [rowC_size]; exact size16
theorem lo_lt (x : BitVec 8) : (x &&& 15#8).toNat < 16 := by revert x; decide +kernel
theorem hi_lt (x : BitVec 8) : (x >>> 4).toNat < 16 := by revert x; decide +kernel
def loN (x : BitVec 8) : Nat := (x &&& 15#8).toNat
def hiN (x : BitVec 8) : Nat := (x >>> 4).toNat
theorem loN_lt (x : BitVec 8) : loN x < 16 := lo_lt x
theorem hiN_lt (x : BitVec 8) : hiN x < 16 := hi_lt x
theorem el_lo (x : BitVec 8) : bits .and .u8 (el x) 15 = (loN x : Int) := el_and x 15#8
theorem el_hi (x : BitVec 8) : el x / (16 : Int) = (hiN x : Int) := by
  unfold el hiN; rw [BitVec.toNat_ushiftRight, Nat.shiftRight_eq_div_pow]; omega
theorem nib : ∀ x : BitVec 8, nb (x &&& 15#8).toNat ^^^ gm (nb (x >>> 4).toNat) 16#8 = x := by decide +kernel
theorem scale_num (x c : BitVec 8) : tb c (loN x) ^^^ tb (gm c 16#8) (hiN x) = gm x c := by
  unfold tb loN hiN
  rw [gm_comm c 16#8, ← gm_assoc, ← gm_xor_l, nib]
theorem Own.other1 {w W : World} {t : TypeId} {g n : Nat} {f : Nat → BitVec 8} (h : Own w t g f n) {p : Addr} {u : Value} (hp : g ≠ p.block) (e : W.heap = (w.setCell p u).heap) : Own W t g f n := by
  unfold Own at h ⊢
  rw [e, heap_setCell_other _ _ _ _ hp]; exact h
theorem abstract_world {P : Program} {cd : Code} {Q : Exit → Act → World → Prop} {a : Act} {w : World} (R : World → Prop) (hR : R w) (h : ∀ W, R W → cd.wp P Q a W) : cd.wp P Q a w := h w hR
theorem two_rows (w w1 : World) (z : Obj) (f g : Nat → BitVec 8) (hz : z = .cells (Array.replicate 16 (.int .u8 0)) 109) (hb : Below w.heap.size w w1) (hs : w.heap.size ≤ w1.heap.size) :
    Own ((((w1.alloc z).alloc z).setRow w1.heap.size (rowC f 16)).setRow (w1.heap.size + 1) (rowC g 16)) 109 w1.heap.size f 16 ∧ Own ((((w1.alloc z).alloc z).setRow w1.heap.size (rowC f 16)).setRow (w1.heap.size + 1) (rowC g 16)) 109 (w1.heap.size + 1) g 16 ∧ Below w.heap.size w ((((w1.alloc z).alloc z).setRow w1.heap.size (rowC f 16)).setRow (w1.heap.size + 1) (rowC g 16)) ∧ w1.heap.size + 1 < ((((w1.alloc z).alloc z).setRow w1.heap.size (rowC f 16)).setRow (w1.heap.size + 1) (rowC g 16)).heap.size := by
  subst hz
  refine ⟨?_, ?_, ?_, ?_⟩
  · unfold Own
    rw [setRow_other _ _ _ _ (by omega)]
    exact setRow_heap _ _ _ _ _ _ (heap_alloc2_old _ _ _)
  · unfold Own
    exact setRow_heap _ _ _ _ _ _ ((setRow_other _ _ _ _ (by omega)).trans (heap_alloc2_new _ _ _))
  · exact Below.row (Below.row ((hb.alloc hs _).alloc (by simp; omega) _) hs _) (by omega) _
  · simp
section
attribute [local irreducible] Calls el gm Own dbl tb loN hiN
set_option maxHeartbeats 8000000 in
set_option maxRecDepth 1000000 in
theorem scale_core (b1 o1 n c1 : Nat) (x : Nat → BitVec 8) (c : BitVec 8) (w : World) (hn : n ≤ 140737488355328)
    (H1 : Hid (∀ i, i < n → w.cell? ⟨b1, o1 + i, none⟩ = some (.int .u8 (el (x i))))) :
    Calls Try.prog 62 #[.slice (some ⟨b1, o1, none⟩) n c1, .int .u8 (el c)] w fun e w' => ∃ g, e = .returned (.slice (some ⟨g, 0, none⟩) n n) ∧ w.heap.size ≤ g ∧ Own w' 5 g (fun i => gm (x i) c) n ∧ Below w.heap.size w w' := by
  have hmk := make_bytes n hn
  have hz1 := hs16 (tb c)
  have hz2 := hs16 (tb (gm c 16#8))
  have HZ1 : Hid ((Try.prog.info? 109).map (·.size) = some (rowC (tb c) 16).size) := hz1
  have HZ2 : Hid ((Try.prog.info? 109).map (·.size) = some (rowC (tb (gm c 16#8)) 16).size) := hz2
  clear hz1 hz2
  go_enter Try.func62, Try.ntmps62
  go_upto_region 2 with (first | (go_at_call 64; refine (multiples_any c _).mono ?_; rintro e w1 ⟨rfl, hb1⟩) | (go_at_call 64; refine (multiples_any (gm c 16#8) _).mono ?_; rintro e w2 ⟨rfl, hb2⟩) | (go_at_call 65; refine (times_16 _ _).mono ?_; rintro e w' ⟨rfl, rfl⟩) | (refine wpList_store_rowTo rfl 109 (.tmp 5) (.tmp 10) rfl rfl w2.heap.size (rowC (tb c) 16) rfl rfl 109 _ (heap_alloc2_old _ _ _) HZ1.out (by rw [rowC_size]; rfl) (rowC_one _ _) ?_) | (refine wpList_store_rowTo rfl 109 (.tmp 6) (.tmp 13) rfl rfl (w2.heap.size + 1) (rowC (tb (gm c 16#8)) 16) rfl rfl 109 _ ((setRow_other _ _ _ _ (by omega)).trans (heap_alloc2_new _ _ _)) HZ2.out (by rw [rowC_size]; rfl) (rowC_one _ _) ?_))
  refine abstract_world (fun W => Own W 109 w2.heap.size (tb c) 16 ∧ Own W 109 (w2.heap.size + 1) (tb (gm c 16#8)) 16 ∧ Below w.heap.size w W ∧ w2.heap.size + 1 < W.heap.size) (two_rows _ _ _ _ _ rfl (hb1.trans (hb2.mono hb1.size)) (Nat.le_trans hb1.size hb2.size)) ?_
  obtain ⟨A, hA⟩ : ∃ A, A = w2.heap.size := ⟨_, rfl⟩
  have hA0 : w.heap.size ≤ A := by rw [hA]; exact Nat.le_trans hb1.size hb2.size
  rw [← hA]
  clear hA hb1 hb2
  rintro W ⟨hR1, hR2, hb0, hlt0⟩
  clear HZ1 HZ2
  go_wp2
  clear hmk
  go_loopw [19] (fun i wr => ∃ k : Nat, k ≤ n ∧ i = .int .i64 k ∧ Own wr 5 W.heap.size (fun i => if i < k then gm (x i) c else 0#8) n ∧ Own wr 109 A (tb c) 16 ∧ Own wr 109 (A + 1) (tb (gm c 16#8)) 16 ∧ Below w.heap.size w wr) (fun i _ => n - (intOf i).toNat)
  case atStart => exact ⟨0, Nat.zero_le _, rfl, own_new W n, hR1.below ((Below.refl _ _).alloc (Nat.le_refl _) _), hR2.below ((Below.refl _ _).alloc (Nat.le_refl _) _), hb0.alloc (Nat.le_trans hA0 (by omega)) _⟩
  case round =>
    obtain ⟨k, hk, rfl, hO, hP1, hP2, hb⟩ := hrel
    by_cases hlt : k < n
    · have g1 := cell_below (H1.out k hlt) hb
      have g3 := hO.cell hlt
      have g4 := hO.frozen k
      have g5 := hP1.cell (loN_lt (x k))
      have g6 := hP2.cell (hiN_lt (x k))
      have i1 := el_lo (x k)
      have i2 := el_hi (x k)
      have i3 : (loN (x k) : Int) < 16 := by have := loN_lt (x k); omega
      have i4 : (hiN (x k) : Int) < 16 := by have := hiN_lt (x k); omega
      have hi : (k : Int) < (n : Int) := by omega
      go_wp2
      go_region_with (first | (go_at_call 63; refine (plus_any _ _ _).mono ?_; rintro e w' ⟨rfl, rfl⟩))
      all_goals
        go_wp2
        go_roundw
        case rel => exact ⟨k + 1, by omega, by go_num, hO.fill (f := fun i => gm (x i) c) hlt (by show _ = (wr.setCell _ (.int .u8 (el (gm (x k) c)))).heap; rw [← scale_num (x k) c]; rfl), hP1.other1 (by simp; omega) rfl, hP2.other1 (by simp; omega) rfl, (hb.setCell (by simp; omega) _).drew⟩
        case measure => simp [intOf]; omega
    · obtain rfl : k = n := by omega
      go_wp2
      go_ret
      exact ⟨W.heap.size, rfl, by omega, hO.congr (fun i hi => by rw [if_pos hi]), hb⟩
set_option maxHeartbeats 1000000 in
set_option maxRecDepth 1000000 in
theorem scale_nil (a1 : Option Addr) (c1 : Nat) (c : BitVec 8) (w : World) :
    Calls Try.prog 62 #[.slice a1 0 c1, .int .u8 (el c)] w fun e w' => ∃ g, e = .returned (.slice (some ⟨g, 0, none⟩) 0 0) ∧ w.heap.size ≤ g ∧ Own w' 5 g (fun _ => 0#8) 0 ∧ Below w.heap.size w w' := by
  have hmk : ∀ w, (Instr.makeSlice 23 (.int .i64 0) (.int .i64 0)).run Try.prog w = .ok (.slice (some ⟨w.heap.size, 0, none⟩) 0 0) (w.alloc (.cells #[] 5)) := fun w => by simpa using make_bytes 0 (by omega) w
  have hz1 := hs16 (tb c)
  have hz2 := hs16 (tb (gm c 16#8))
  have HZ1 : Hid ((Try.prog.info? 109).map (·.size) = some (rowC (tb c) 16).size) := hz1
  have HZ2 : Hid ((Try.prog.info? 109).map (·.size) = some (rowC (tb (gm c 16#8)) 16).size) := hz2
  clear hz1 hz2
  go_enter Try.func62, Try.ntmps62
  go_upto_region 2 with (first | (go_at_call 64; refine (multiples_any c _).mono ?_; rintro e w1 ⟨rfl, hb1⟩) | (go_at_call 64; refine (multiples_any (gm c 16#8) _).mono ?_; rintro e w2 ⟨rfl, hb2⟩) | (go_at_call 65; refine (times_16 _ _).mono ?_; rintro e w' ⟨rfl, rfl⟩) | (refine wpList_store_rowTo rfl 109 (.tmp 5) (.tmp 10) rfl rfl w2.heap.size (rowC (tb c) 16) rfl rfl 109 _ (heap_alloc2_old _ _ _) HZ1.out (by rw [rowC_size]; rfl) (rowC_one _ _) ?_) | (refine wpList_store_rowTo rfl 109 (.tmp 6) (.tmp 13) rfl rfl (w2.heap.size + 1) (rowC (tb (gm c 16#8)) 16) rfl rfl 109 _ ((setRow_other _ _ _ _ (by omega)).trans (heap_alloc2_new _ _ _)) HZ2.out (by rw [rowC_size]; rfl) (rowC_one _ _) ?_))
  refine abstract_world (fun W => Below w.heap.size w W ∧ w2.heap.size + 1 < W.heap.size) (two_rows _ _ _ _ _ rfl (hb1.trans (hb2.mono hb1.size)) (Nat.le_trans hb1.size hb2.size)).2.2 ?_
  have hA0 : w.heap.size ≤ w2.heap.size := Nat.le_trans hb1.size hb2.size
  clear hb1 hb2
  rintro W ⟨hb0, hlt0⟩
  clear HZ1 HZ2
  go_wp2
  refine wp_loop_rounds 1 ?_
  rw [rounds_succ]
  go_wp2
  go_ret
  have ho := own_new W 0
  simp only [Array.replicate_zero] at ho
  exact ⟨W.heap.size, rfl, by omega, ho, hb0.alloc (by omega) _⟩
end
theorem scale_any {w : World} {a1 : Option Addr} {xs : List (BitVec 8)} (h1 : Rd w a1 xs) (c : BitVec 8) (n c1 : Nat) (hn : xs.length = n) (hm : n ≤ 140737488355328) :
    Calls Try.prog 62 #[.slice a1 n c1, .int .u8 (el c)] w fun e w' => ∃ g, e = .returned (.slice (some ⟨g, 0, none⟩) n n) ∧ w.heap.size ≤ g ∧ Own w' 5 g (fun i => gm (xs.getD i 0#8) c) n ∧ Below w.heap.size w w' := by
  rcases h1 with h1 | ⟨b1, o1, rfl, hc1⟩
  · subst h1; subst hn
    refine (scale_nil a1 c1 c w).mono ?_
    rintro e w' ⟨g, rfl, hg, ho, hb⟩
    exact ⟨g, rfl, hg, ho.congr (fun i hi => by simp at hi), hb⟩
  · rw [hn] at hc1
    exact scale_core b1 o1 n c1 (fun i => xs.getD i 0#8) c w hm hc1
end Go.Proofs.Ytgokkppojhokbaa
