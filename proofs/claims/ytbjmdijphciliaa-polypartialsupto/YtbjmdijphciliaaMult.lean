/-
  'multiplesOf' and 'of': the table of one element's products.
-/
import Derived.Test.YtbjmdijphciliaaLst
import Derived.Deep.WholeRow
namespace Go.Proofs.Ytbjmdijphciliaa
open Go.RowKit

def nb (i : Nat) : BitVec 8 := BitVec.ofNat 8 i
/-- c times the element number i. -/
def tb (c : BitVec 8) (i : Nat) : BitVec 8 := gm c (nb i)
theorem tb_zero (c : BitVec 8) : tb c 0 = 0#8 := gm_zero c
/-- The table, so far as it is filled: two rows of 16. -/
def tn (c : BitVec 8) (m n : Nat) (j : Nat) : BitVec 8 := if j < 16 then (if j < m then tb c j else 0#8) else (if j - 16 < n then tb (gm c 16#8) (j - 16) else 0#8)
def tw (c : BitVec 8) (j : Nat) : BitVec 8 := if j < 16 then tb c j else tb (gm c 16#8) (j - 16)
theorem nb_add : ∀ k, k < 4 → ∀ i, i < 2 ^ k → nb (2 ^ k + i) = nb i ^^^ nb (2 ^ k) := by decide +kernel
theorem tb_add (c : BitVec 8) {k i : Nat} (hk : k < 4) (hi : i < 2 ^ k) : tb c (2 ^ k + i) = tb c i ^^^ tb c (2 ^ k) := by
  unfold tb; rw [nb_add k hk i hi, gm_xor_r]
theorem nb_16 : ∀ k, k < 4 → nb (2 ^ k * 16) = gm 16#8 (nb (2 ^ k)) := by decide +kernel
theorem tb_16 (c : BitVec 8) {k : Nat} (hk : k < 4) : gm c (nb (2 ^ k * 16)) = tb (gm c 16#8) (2 ^ k) := by
  unfold tb; rw [nb_16 k hk, gm_assoc]
theorem two_lt {k : Nat} (hk : k < 4) : 2 ^ k ≤ 8 := by
  have : k = 0 ∨ k = 1 ∨ k = 2 ∨ k = 3 := by omega
  rcases this with rfl | rfl | rfl | rfl <;> decide
theorem Own.lo {w W : World} {t : TypeId} {g k i : Nat} {c : BitVec 8} (hk : k < 4) (hi : i < 2 ^ k) (h : Own w t g (tn c (2 ^ k + i) (2 ^ k + i)) 32)
    (e : W.heap = ((w.setCell ⟨g, 2 ^ k + i, none⟩ (.int .u8 (el (tb c i ^^^ tb c (2 ^ k))))).setCell ⟨g, 16 + (2 ^ k + i), none⟩ (.int .u8 (el (tb (gm c 16#8) i ^^^ tb (gm c 16#8) (2 ^ k))))).heap) : Own W t g (tn c (2 ^ k + (i + 1)) (2 ^ k + (i + 1))) 32 := by
  have h8 := two_lt hk
  have h1 := ((h.set (k := 2 ^ k + i) (by omega) (tb c i ^^^ tb c (2 ^ k))).set (k := 16 + (2 ^ k + i)) (by omega) (tb (gm c 16#8) i ^^^ tb (gm c 16#8) (2 ^ k))).congr (f' := tn c (2 ^ k + (i + 1)) (2 ^ k + (i + 1))) (fun j hj => by
    show (if j = 16 + (2 ^ k + i) then _ else if j = 2 ^ k + i then _ else tn c (2 ^ k + i) (2 ^ k + i) j) = _
    unfold tn
    by_cases e1 : j = 16 + (2 ^ k + i)
    · subst e1; rw [if_pos rfl, if_neg (by omega), Nat.add_sub_cancel_left, if_pos (by omega), tb_add _ hk hi]
    · rw [if_neg e1]
      by_cases e2 : j = 2 ^ k + i
      · subst e2; rw [if_pos rfl, if_pos (by omega), if_pos (by omega), tb_add _ hk hi]
      · rw [if_neg e2]
        by_cases e3 : j < 16
        · rw [if_pos e3, if_pos e3]
          by_cases e4 : j < 2 ^ k + i
          · rw [if_pos e4, if_pos (by omega)]
          · rw [if_neg e4, if_neg (by omega)]
        · rw [if_neg e3, if_neg e3]
          by_cases e4 : j - 16 < 2 ^ k + i
          · rw [if_pos e4, if_pos (by omega)]
          · rw [if_neg e4, if_neg (by omega)])
  unfold Own at h1 ⊢
  rw [e]; exact h1
theorem Own.lo2 {w W : World} {t : TypeId} {g k i C : Nat} {c : BitVec 8} (hC : Hid (C = 2 ^ k)) (hk : k < 4) (hi : i < C) (h : Own w t g (tn c (C + i) (C + i)) 32)
    (e : W.heap = ((w.setCell ⟨g, C + i, none⟩ (.int .u8 (el (tb c i ^^^ tb c C)))).setCell ⟨g, 16 + (C + i), none⟩ (.int .u8 (el (tb (gm c 16#8) i ^^^ tb (gm c 16#8) C)))).heap) : Own W t g (tn c (C + (i + 1)) (C + (i + 1))) 32 := by
  have h1 := hC.out
  subst h1
  exact Own.lo hk hi h e
theorem Own.other1 {w W : World} {t : TypeId} {g n : Nat} {f : Nat → BitVec 8} (h : Own w t g f n) {p : Addr} {u : Value} (hp : g ≠ p.block) (e : W.heap = (w.setCell p u).heap) : Own W t g f n := by
  unfold Own at h ⊢
  rw [e, heap_setCell_other _ _ _ _ hp]; exact h
theorem Own.other2 {w W : World} {t : TypeId} {g n : Nat} {f : Nat → BitVec 8} (h : Own w t g f n) {p q : Addr} {u v : Value} (hp : g ≠ p.block) (hq : g ≠ q.block) (e : W.heap = ((w.setCell p u).setCell q v).heap) : Own W t g f n := by
  unfold Own at h ⊢
  rw [e, heap_setCell_other _ _ _ _ hq, heap_setCell_other _ _ _ _ hp]; exact h
theorem Own.whole {w : World} {t : TypeId} {g n : Nat} {f f' : Nat → BitVec 8} (h : Own w t g f n) (e : ∀ i, i < n → f i = f' i) : w.heap[g]? = some (.cells (rowC f' n) t (0, 0)) := h.congr e
theorem rowC_one (f : Nat → BitVec 8) (n : Nat) : (rowC f n).all (·.oneCell') = true := by
  rw [Array.all_eq_true_iff_forall_mem]
  intro x hx
  unfold rowC at hx
  simp only [List.mem_toArray, List.mem_map] at hx
  obtain ⟨i, _, rfl⟩ := hx
  rfl
theorem Below.row {B : Nat} {a w : World} (h : Below B a w) {g : Nat} (hg : B ≤ g) (cs : Array Value) : Below B a (w.setRow g cs) :=
  ⟨h.os, h.tape, h.output, by rw [setRow_size]; exact h.size, fun k hk => by rw [setRow_other w g k cs (by omega)]; exact h.block k hk⟩
theorem info32 : (Try.prog.info? 76).map (fun i => (i.zero, i.size)) = some (some (.agg (Array.replicate 32 (.int .u8 0))), 32) := by kernel_rfl
theorem size32 (f : Nat → BitVec 8) : (Try.prog.info? 76).map (·.size) = some (rowC f 32).size := by rw [rowC_size]; exact (zero_of_info info32).2
theorem own32 (w : World) (c : BitVec 8) : Own (w.alloc (.cells (Array.replicate 32 (.int .u8 0)) 76)) 76 w.heap.size (tn c 1 1) 32 := by
  unfold Own; rw [heap_alloc_new, ← rowC_zero]
  congr 2
  apply rowC_congr
  intro j hj
  unfold tn
  by_cases h : j < 16
  · rw [if_pos h]
    by_cases h1 : j < 1
    · rw [if_pos h1, show j = 0 by omega, tb_zero]
    · rw [if_neg h1]
  · rw [if_neg h]
    by_cases h1 : j - 16 < 1
    · rw [if_pos h1, show j - 16 = 0 by omega, tb_zero]
    · rw [if_neg h1]
theorem own32a (w : World) (c : BitVec 8) (z : Obj) (hz : z = .cells (Array.replicate 32 (.int .u8 0)) 76) : Own ((w.alloc z).alloc z) 76 (w.heap.size + 1) (tn c 1 1) 32 := by
  subst hz
  have h := own32 (w.alloc (.cells (Array.replicate 32 (.int .u8 0)) 76)) c
  rwa [World.size_alloc] at h
theorem own32b (w : World) (z : Obj) (hz : z = .cells (Array.replicate 32 (.int .u8 0)) 76) : Own ((w.alloc z).alloc z) 76 w.heap.size (fun _ => 0#8) 32 := by
  subst hz
  have h : Own (w.alloc (.cells (Array.replicate 32 (.int .u8 0)) 76)) 76 w.heap.size (fun _ => 0#8) 32 := by
    unfold Own; rw [heap_alloc_new, rowC_zero]
  exact h.below ((Below.refl _ _).alloc (Nat.le_refl _) (.cells (Array.replicate 32 (.int .u8 0)) 76))
theorem el_nb (n : Nat) (h : n < 256) : el (nb n) = (n : Int) := by
  unfold el nb; rw [BitVec.toNat_ofNat, Nat.mod_eq_of_lt (by omega)]
theorem times_nb (c : BitVec 8) (n : Nat) (h : n < 256) (w : World) :
    Calls Try.prog 34 #[.int .u8 (el c), .int .u8 (n : Int)] w fun e w' => e = .returned (.int .u8 (el (gm c (nb n)))) ∧ w' = w := by
  rw [← el_nb n h]; exact times_any c (nb n) w
theorem times_lo (c : BitVec 8) (n : Nat) (h : n ≤ 8) (w : World) :
    Calls Try.prog 34 #[.int .u8 (el c), .int .u8 (n : Int)] w fun e w' => e = .returned (.int .u8 (el (tb c n))) ∧ w' = w := times_nb c n (by omega) w
theorem times_hi (c : BitVec 8) (n k : Nat) (h : n ≤ 8) (hk : k < 4) (e : Hid (n = 2 ^ k)) (w : World) :
    Calls Try.prog 34 #[.int .u8 (el c), .int .u8 ((n * 16 : Nat) : Int)] w fun e w' => e = .returned (.int .u8 (el (tb (gm c 16#8) n))) ∧ w' = w := by
  have e' := e.out
  subst e'
  rw [← tb_16 c hk]; exact times_nb c _ (by omega) w
theorem tn_lo {c : BitVec 8} {C j : Nat} (h : j < C) (h8 : C ≤ 8) : tn c (C + j) (C + j) j = tb c j := by
  unfold tn; rw [if_pos (by omega), if_pos (by omega)]
theorem tn_hi {c : BitVec 8} {C j : Nat} (h : j < C) : tn c (C + j) (C + j) (16 + j) = tb (gm c 16#8) j := by
  unfold tn; rw [if_neg (by omega), Nat.add_sub_cancel_left, if_pos (by omega)]
section
attribute [local irreducible] Calls el gm Own dbl tb tn
set_option maxHeartbeats 4000000 in
set_option maxRecDepth 1000000 in
theorem multiplesOf_any (c : BitVec 8) (w : World) :
    Calls Try.prog 47 #[.int .u8 (el c)] w fun e w' => e = .returned (.agg (rowC (tw c) 32)) ∧ Below w.heap.size w w' := by
  go_enter Try.func47, Try.ntmps47
  go_wp2
  go_loopw [9] (fun i wr => ∃ k : Nat, k ≤ 4 ∧ i = .int .i64 k ∧ Own wr 76 (w.heap.size + 1) (tn c (2 ^ k) (2 ^ k)) 32 ∧ Own wr 76 w.heap.size (fun _ => 0#8) 32 ∧ Below w.heap.size w wr) (fun i _ => 4 - (intOf i).toNat)
  case atStart => exact ⟨0, Nat.zero_le _, rfl, own32a w c _ rfl, own32b w _ rfl, ((Below.refl _ _).alloc (Nat.le_refl _) _).alloc (by simp) _⟩
  case round =>
    obtain ⟨k, hk, rfl, hO, hZ, hb⟩ := hrel
    by_cases hlt : k < 4
    · have hi : (k : Int) < 4 := by omega
      have h8 := two_lt hlt
      obtain ⟨C, hC⟩ : ∃ C, C = 2 ^ k := ⟨_, rfl⟩
      rw [← hC] at hO h8
      have HC : Hid (C = 2 ^ k) := hC
      have hw1 : wrap64 (2 ^ k) = (C : Int) := by
        have : ((2 : Int) ^ k) = (C : Int) := by rw [hC]; norm_cast
        rw [this]; unfold wrap64; omega
      have hw2 : (C : Int) % 256 = (C : Int) := by omega
      have hw3 : wrap64 ((C : Int) * 16) = ((C * 16 : Nat) : Int) := by unfold wrap64; omega
      have hw4 : ((C * 16 : Nat) : Int) % 256 = ((C * 16 : Nat) : Int) := by omega
      have h1 : 1 ≤ C := by rw [hC]; exact Nat.one_le_two_pow
      clear hC
      go_wp2_with (first | (go_at_call 34; refine (times_lo c C h8 _).mono ?_; rintro e w' ⟨rfl, h⟩; obtain rfl := h.symm) | (go_at_call 34; refine (times_hi c C k h8 hlt HC _).mono ?_; rintro e w' ⟨rfl, h⟩; obtain rfl := h.symm))
      go_loopw [24] (fun i wq => ∃ j : Nat, j ≤ C ∧ i = .int .i64 j ∧ Own wq 76 (w.heap.size + 1) (tn c (C + j) (C + j)) 32 ∧ Own wq 76 w.heap.size (fun _ => 0#8) 32 ∧ Below w.heap.size w wq) (fun i _ => C - (intOf i).toNat)
      case atStart => exact ⟨0, Nat.zero_le _, rfl, hO, hZ, hb⟩
      case round =>
        clear hO hZ hb
        obtain ⟨j, hj, rfl, hO, hZ, hb⟩ := hrel
        by_cases hlj : j < C
        · have g1 : wr.cell? ⟨w.heap.size + 1, j, none⟩ = some (.int .u8 (el (tb c j))) := by rw [← tn_lo hlj h8]; exact hO.cell (by omega)
          have g2 := hO.cell (i := C + j) (by omega)
          have g3 := hO.frozen (C + j)
          have g4 : wr.cell? ⟨w.heap.size + 1, 16 + j, none⟩ = some (.int .u8 (el (tb (gm c 16#8) j))) := by rw [← tn_hi hlj]; exact hO.cell (by omega)
          have g5 := hO.cell (i := 16 + (C + j)) (by omega)
          have g6 := hO.frozen (16 + (C + j))
          have i1 : (j : Int) < (C : Int) := by omega
          have i2 : (j : Int) < 16 := by omega
          have i3 : (C : Int) + (j : Int) < 16 := by omega
          have i4 : IntKind.i64.wrap ((C : Int) + (j : Int)) = (C : Int) + (j : Int) := by rw [IntKind.wrap_i64]; omega
          have i5 : ((C : Int) + (j : Int)).toNat = C + j := by omega
          have i6 : (0 : Int) ≤ (C : Int) + (j : Int) := by omega
          go_wp2_with (first | (go_at_call 30; refine (plus_any _ _ _).mono ?_; rintro e w' ⟨rfl, h⟩; obtain rfl := h.symm))
          refine ⟨⟨j + 1, by omega, by go_num, hO.lo2 HC hlt hlj rfl, hZ.other2 (by simp) (by simp) rfl, (hb.setCell (by simp) _).setCell (by simp) _⟩, by simp [intOf]; omega⟩
        · obtain rfl : j = C := by omega
          go_wp2
          exact ⟨⟨k + 1, by omega, by go_num, by rw [show 2 ^ (k + 1) = j + j by rw [HC.out, Nat.pow_succ]; omega]; exact hO, hZ, hb⟩, by simp [intOf]; omega⟩
    · obtain rfl : k = 4 := by omega
      have HO : Hid (wr.heap[w.heap.size + 1]? = some (.cells (rowC (tw c) 32) 76 (0, 0))) := hO.whole (f' := tw c) (fun i hi => by
        unfold tn tw
        by_cases e : i < 16
        · rw [if_pos e, if_pos e, if_pos (by omega)]
        · rw [if_neg e, if_neg e, if_pos (by omega)])
      have HZ : Hid (wr.heap[w.heap.size]? = some (.cells (rowC (fun _ => 0#8) 32) 76 (0, 0))) := hZ.whole (f' := fun _ => 0#8) (fun i hi => rfl)
      have HS : Hid ((Try.prog.info? 76).map (·.size) = some (rowC (tw c) 32).size) := size32 _
      clear hO hZ
      go_wp2_with (first | (refine wpList_load_row rfl 76 _ rfl (w.heap.size + 1) rfl 76 (rowC (tw c) 32) (0, 0) _ HO.out Try.underlying76 rfl HS.out ?_) | (refine wpList_store_row rfl 76 _ _ rfl w.heap.size (rowC (tw c) 32) rfl rfl 76 (rowC (fun _ => 0#8) 32) HZ.out HS.out (by rw [rowC_size, rowC_size]) (rowC_one _ _) ?_))
      refine bodyPost_ret (v := .agg (rowC (tw c) 32)) ?_ rfl ⟨rfl, Below.row hb (Nat.le_refl _) _⟩
      exact results_cell_row rfl _ _ w.heap.size 76 (rowC (tw c) 32) (0, 0) _ (by kernel_rfl) (setRow_heap _ _ _ _ _ _ HZ.out) Try.underlying76 rfl HS.out
end
theorem lo_lt (x : BitVec 8) : x.toNat % 16 < 16 := Nat.mod_lt _ (by decide)
theorem hi_lt (x : BitVec 8) : x.toNat / 16 < 16 := by have := x.isLt; omega
def loN (x : BitVec 8) : Nat := x.toNat % 16
def hiN (x : BitVec 8) : Nat := x.toNat / 16
theorem loN_lt (x : BitVec 8) : loN x < 16 := lo_lt x
theorem hiN_lt (x : BitVec 8) : hiN x < 16 := hi_lt x
theorem el_lo (x : BitVec 8) : el x % 16 = (loN x : Int) := by unfold el loN; omega
theorem el_hi (x : BitVec 8) : el x / 16 = (hiN x : Int) := by unfold el hiN; omega
theorem nib : ∀ x : BitVec 8, nb (x.toNat % 16) ^^^ gm 16#8 (nb (x.toNat / 16)) = x := by decide +kernel
theorem of_num (c x : BitVec 8) : tb c (loN x) ^^^ tb (gm c 16#8) (hiN x) = gm c x := by
  unfold tb loN hiN
  rw [gm_assoc, ← gm_xor_r, nib]
theorem tw_lo (c x : BitVec 8) : tw c (loN x) = tb c (loN x) := by unfold tw; rw [if_pos (loN_lt x)]
theorem tw_hi (c x : BitVec 8) : tw c (16 + hiN x) = tb (gm c 16#8) (hiN x) := by unfold tw; rw [if_neg (by omega), Nat.add_sub_cancel_left]
section
attribute [local irreducible] Calls el gm Own dbl tb tw loN hiN
set_option maxRecDepth 1000000 in
theorem of_any (g : Nat) (c x : BitVec 8) (w : World) (hO : Own w 76 g (tw c) 32) :
    Calls Try.prog 48 #[.pointer (some ⟨g, 0, none⟩), .int .u8 (el x)] w fun e w' => e = .returned (.int .u8 (el (gm c x))) ∧ ∃ m, w' = w.drewN m := by
  have g1 : w.cell? ⟨g, loN x, none⟩ = some (.int .u8 (el (tb c (loN x)))) := by rw [← tw_lo]; exact hO.cell (by have := loN_lt x; omega)
  have g2 : w.cell? ⟨g, 16 + hiN x, none⟩ = some (.int .u8 (el (tb (gm c 16#8) (hiN x)))) := by rw [← tw_hi]; exact hO.cell (by have := hiN_lt x; omega)
  have i1 := el_lo x
  have i2 := el_hi x
  have i3 : (loN x : Int) < 16 := by have := loN_lt x; omega
  have i4 : (hiN x : Int) < 16 := by have := hiN_lt x; omega
  have bx := el_bd x
  have i5 : (el x).tmod 16 = (loN x : Int) := by rw [Int.tmod_eq_emod_of_nonneg bx.1, i1]
  have i6 : (el x).tdiv 16 = (hiN x : Int) := by rw [Int.tdiv_eq_ediv_of_nonneg bx.1, i2]
  go_enter Try.func48, Try.ntmps48
  go_wp2
  go_quiet ((first | (go_at_call 30; exact Calls.quiet_of_same (plus_any _ _ _))))
  go_wp2
  go_ret
  exact ⟨by rw [of_num]; rfl, _, rfl⟩
end
end Go.Proofs.Ytbjmdijphciliaa
