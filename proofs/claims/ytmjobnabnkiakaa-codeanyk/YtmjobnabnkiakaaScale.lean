/-
  'multiples' and 'Scale'.
-/
import Derived.Test.YtmjobnabnkiakaaOwn
import Derived.Deep.WholeRow
namespace Go.Proofs.Ytmjobnabnkiakaa
open Go.RowKit

def nb (i : Nat) : BitVec 8 := BitVec.ofNat 8 i
/-- c times the element number i. -/
def tb (c : BitVec 8) (i : Nat) : BitVec 8 := gm (nb i) c
theorem tb_zero (c : BitVec 8) : tb c 0 = 0#8 := gm_zero_l c
theorem nb_even : ∀ i, i < 8 → nb (2 * i) = dbl (nb i) := by
  intro i hi
  have : i = 0 ∨ i = 1 ∨ i = 2 ∨ i = 3 ∨ i = 4 ∨ i = 5 ∨ i = 6 ∨ i = 7 := by omega
  rcases this with rfl | rfl | rfl | rfl | rfl | rfl | rfl | rfl <;> decide
theorem nb_odd : ∀ i, i < 8 → nb (2 * i + 1) = dbl (nb i) ^^^ 1#8 := by
  intro i hi
  have : i = 0 ∨ i = 1 ∨ i = 2 ∨ i = 3 ∨ i = 4 ∨ i = 5 ∨ i = 6 ∨ i = 7 := by omega
  rcases this with rfl | rfl | rfl | rfl | rfl | rfl | rfl | rfl <;> decide
theorem tb_even (c : BitVec 8) {i : Nat} (hi : i < 8) : tb c (2 * i) = dbl (tb c i) := by unfold tb; rw [nb_even i hi, gm_dbl]
theorem tb_odd (c : BitVec 8) {i : Nat} (hi : i < 8) : tb c (2 * i + 1) = dbl (tb c i) ^^^ c := by unfold tb; rw [nb_odd i hi, gm_xor_l, gm_dbl, gm_one_l]
/-- The table behind k rounds. -/
def tk (c : BitVec 8) (k : Nat) (j : Nat) : BitVec 8 := if j < 2 * k then tb c j else 0#8
theorem tk_at (c : BitVec 8) (k : Nat) : tk c k k = tb c k := by
  unfold tk
  by_cases h : k = 0
  · subst h; rw [if_neg (by omega), tb_zero]
  · rw [if_pos (by omega)]

theorem Own.two {w W : World} {t : TypeId} {g k : Nat} {c : BitVec 8} (h : Own w t g (tk c k) 16) (hk : k < 8)
    (e : W.heap = ((w.setCell ⟨g, 2 * k, none⟩ (.int .u8 (el (dbl (tb c k))))).setCell ⟨g, 2 * k + 1, none⟩ (.int .u8 (el (dbl (tb c k) ^^^ c)))).heap) : Own W t g (tk c (k + 1)) 16 := by
  have h1 := ((h.set (k := 2 * k) (by omega) (dbl (tb c k))).set (k := 2 * k + 1) (by omega) (dbl (tb c k) ^^^ c)).congr (f' := tk c (k + 1)) (fun i hi => by
    show (if i = 2 * k + 1 then _ else if i = 2 * k then _ else tk c k i) = _
    unfold tk
    by_cases e1 : i = 2 * k + 1
    · subst e1; rw [if_pos rfl, if_pos (by omega), tb_odd c hk]
    · rw [if_neg e1]
      by_cases e2 : i = 2 * k
      · subst e2; rw [if_pos rfl, if_pos (by omega), tb_even c hk]
      · rw [if_neg e2]
        by_cases e3 : i < 2 * k
        · rw [if_pos e3, if_pos (by omega)]
        · rw [if_neg e3, if_neg (by omega)])
  unfold Own at h1 ⊢
  rw [e]; exact h1

theorem Own.other2 {w W : World} {t : TypeId} {g n : Nat} {f : Nat → BitVec 8} (h : Own w t g f n) {p q : Addr} {u v : Value} (hp : g ≠ p.block) (hq : g ≠ q.block) (e : W.heap = ((w.setCell p u).setCell q v).heap) : Own W t g f n := by
  unfold Own at h ⊢
  rw [e, heap_setCell_other _ _ _ _ hq, heap_setCell_other _ _ _ _ hp]; exact h
theorem Own.whole {w : World} {t : TypeId} {g n : Nat} {f f' : Nat → BitVec 8} (h : Own w t g f n) (e : ∀ i, i < n → f i = f' i) : w.heap[g]? = some (.cells (rowC f' n) t (0, 0)) := h.congr e
theorem rowC_one (f : Nat → BitVec 8) (n : Nat) : (rowC f n).all (·.oneCell') = true := by
  rw [Array.all_eq_true_iff_forall_mem]
  intro x hx
  unfold rowC at hx
  simp only [List.mem_toArray, List.mem_map] at hx
  obtain ⟨i, _, rfl⟩ := hx
  rfl
theorem Below.row {B : Nat} {a w : World} (h : Below B a w) {g : Nat} (hg : B ≤ g) (cs : Array Value) : Below B a (w.setRow g cs) :=
  ⟨h.os, h.tape, h.output, by rw [setRow_size]; exact h.size, fun k hk => by rw [setRow_other w g k cs (by omega)]; exact h.block k hk⟩

theorem info16 : (Try.prog.info? 100).map (fun i => (i.zero, i.size)) = some (some (.agg (Array.replicate 16 (.int .u8 0))), 16) := by kernel_rfl
theorem size16 : (Try.prog.info? 100).map (·.size) = some 16 := (zero_of_info info16).2
theorem own16 (w : World) (c : BitVec 8) : Own (w.alloc (.cells (Array.replicate 16 (.int .u8 0)) 100)) 100 w.heap.size (tk c 0) 16 := by
  unfold Own; rw [heap_alloc_new, ← rowC_zero]
  congr 2
theorem own16a (w : World) (c : BitVec 8) (z : Obj) (hz : z = .cells (Array.replicate 16 (.int .u8 0)) 100) : Own ((w.alloc z).alloc z) 100 (w.heap.size + 1) (tk c 0) 16 := by
  subst hz
  have h := own16 (w.alloc (.cells (Array.replicate 16 (.int .u8 0)) 100)) c
  rwa [World.size_alloc] at h
theorem own16b (w : World) (z : Obj) (hz : z = .cells (Array.replicate 16 (.int .u8 0)) 100) : Own ((w.alloc z).alloc z) 100 w.heap.size (fun _ => 0#8) 16 := by
  subst hz
  have h := own16 w 0#8
  have h2 := h.below ((Below.refl _ _).alloc (Nat.le_refl _) (.cells (Array.replicate 16 (.int .u8 0)) 100))
  exact h2.congr (fun i _ => by unfold tk; rw [if_neg (by omega)])
section
attribute [local irreducible] Calls el gm Own dbl tb
set_option maxRecDepth 1000000 in
theorem multiples_any (c : BitVec 8) (w : World) :
    Calls Try.prog 72 #[.int .u8 (el c)] w fun e w' => e = .returned (.agg (rowC (tb c) 16)) ∧ Below w.heap.size w w' := by
  go_enter Try.func72, Try.ntmps72
  go_wp2
  go_loopw [6] (fun i wr => ∃ k : Nat, k ≤ 8 ∧ i = .int .i64 k ∧ Own wr 100 (w.heap.size + 1) (tk c k) 16 ∧ Own wr 100 w.heap.size (fun _ => 0#8) 16 ∧ Below w.heap.size w wr) (fun i _ => 8 - (intOf i).toNat)
  case atStart => exact ⟨0, Nat.zero_le _, rfl, own16a w c _ rfl, own16b w _ rfl, ((Below.refl _ _).alloc (Nat.le_refl _) _).alloc (by simp) _⟩
  case round =>
    obtain ⟨k, hk, rfl, hO, hZ, hb⟩ := hrel
    by_cases hlt : k < 8
    · have g1 : wr.cell? ⟨w.heap.size + 1, k, none⟩ = some (.int .u8 (el (tb c k))) := by rw [← tk_at c k]; exact hO.cell (by omega)
      have g2 := hO.cell (i := 2 * k) (by omega)
      have g3 := hO.cell (i := 2 * k + 1) (by omega)
      have g4 := hO.frozen (2 * k)
      have g5 := hO.frozen (2 * k + 1)
      have hi : (k : Int) < 8 := by omega
      have i1 : (2 : Int) * (k : Int) < 16 := by omega
      have i2 : (2 : Int) * (k : Int) + 1 < 16 := by omega
      have i3 : (0 : Int) ≤ 2 * (k : Int) := by omega
      have i4 : (0 : Int) ≤ 2 * (k : Int) + 1 := by omega
      have i5 : IntKind.i64.wrap (2 * (k : Int)) = 2 * (k : Int) := by rw [IntKind.wrap_i64]; omega
      have i6 : IntKind.i64.wrap (2 * (k : Int) + 1) = 2 * (k : Int) + 1 := by rw [IntKind.wrap_i64]; omega
      have i7 : (2 * (k : Int)).toNat = 2 * k := by omega
      have i8 : (2 * (k : Int) + 1).toNat = 2 * k + 1 := by omega
      go_wp2_with (go_at_call 76; refine (double_any _ _).mono ?_; rintro e w' ⟨rfl, rfl⟩)
      go_region_with (first | (go_at_call 57; refine (plus_any _ _ _).mono ?_; rintro e w' ⟨rfl, rfl⟩))
      go_wp2
      go_roundw
      case rel => exact ⟨k + 1, by omega, by go_num, hO.two hlt rfl, hZ.other2 (by simp) (by simp) rfl, ((hb.setCell (by simp) _).setCell (by simp) _).drew⟩
      case measure => simp [intOf]; omega
    · obtain rfl : k = 8 := by omega
      have hO2 := hO.whole (f' := tb c) (fun i hi => by unfold tk; rw [if_pos (by omega)])
      have hZ2 := hZ.whole (f' := fun _ => 0#8) (fun i hi => rfl)
      have hsz : (Try.prog.info? 100).map (·.size) = some (rowC (tb c) 16).size := by rw [rowC_size]; exact size16
      have HO : Hid (wr.heap[w.heap.size + 1]? = some (.cells (rowC (tb c) 16) 100 (0, 0))) := hO2
      have HZ : Hid (wr.heap[w.heap.size]? = some (.cells (rowC (fun _ => 0#8) 16) 100 (0, 0))) := hZ2
      have HS : Hid ((Try.prog.info? 100).map (·.size) = some (rowC (tb c) 16).size) := hsz
      clear hO2 hZ2 hsz
      go_wp2_with (first | (refine wpList_load_row rfl 100 _ rfl (w.heap.size + 1) rfl 100 (rowC (tb c) 16) (0, 0) _ HO.out Try.underlying100 rfl HS.out ?_) | (refine wpList_store_row rfl 100 _ _ rfl w.heap.size (rowC (tb c) 16) rfl rfl 100 (rowC (fun _ => 0#8) 16) HZ.out HS.out (by rw [rowC_size, rowC_size]) (rowC_one _ _) ?_))
      refine bodyPost_ret (v := .agg (rowC (tb c) 16)) ?_ rfl ⟨rfl, Below.row hb (Nat.le_refl _) _⟩
      exact results_cell_row rfl _ _ w.heap.size 100 (rowC (tb c) 16) (0, 0) (.array 16 73) (by kernel_rfl) (setRow_heap _ _ _ _ _ _ HZ.out) Try.underlying100 rfl HS.out
end
end Go.Proofs.Ytmjobnabnkiakaa
