/-
  'Scale'.
-/
import Derived.Test.YtmjobnabnkiakaaScale
import Derived.Deep.Cut
import Derived.BigRegion
import Derived.Great.BuildSlice
namespace Go.Proofs.Ytmjobnabnkiakaa
open Go.RowKit

theorem times_16 (c : BitVec 8) (w : World) :
    Calls Try.prog 73 #[.int .u8 (el c), .int .u8 16] w fun e w' => e = .returned (.int .u8 (el (gm c 16#8))) ∧ w' = w := times_any c 16#8 w
theorem hs16 (f : Nat → BitVec 8) : (Try.prog.info? 100).map (·.size) = some (rowC f 16).size := by rw [rowC_size]; exact size16
theorem lo_lt (x : BitVec 8) : (x &&& 15#8).toNat < 16 := by revert x; decide +kernel
theorem hi_lt (x : BitVec 8) : (x >>> 4).toNat < 16 := by revert x; decide +kernel
def loN (x : BitVec 8) : Nat := (x &&& 15#8).toNat
def hiN (x : BitVec 8) : Nat := (x >>> 4).toNat
theorem loN_lt (x : BitVec 8) : loN x < 16 := lo_lt x
theorem hiN_lt (x : BitVec 8) : hiN x < 16 := hi_lt x
theorem el_lo (x : BitVec 8) : bits .and .u8 (el x) 15 = (loN x : Int) := el_and x 15#8
theorem el_hi (x : BitVec 8) : el x / (16 : Int) = (hiN x : Int) := by
  unfold el hiN; rw [BitVec.toNat_ushiftRight, Nat.shiftRight_eq_div_pow]; omega
theorem nib : ∀ x : BitVec 8, nb (x &&& 15#8).toNat ^^^ gm (nb (x >>> 4).toNat) 16#8 = x := by decide +kernel
theorem scale_num (x c : BitVec 8) : tb c (loN x) ^^^ tb (gm c 16#8) (hiN x) = gm x c := by
  unfold tb loN hiN
  rw [gm_comm c 16#8, ← gm_assoc, ← gm_xor_l, nib]
theorem Own.other1 {w W : World} {t : TypeId} {g n : Nat} {f : Nat → BitVec 8} (h : Own w t g f n) {p : Addr} {u : Value} (hp : g ≠ p.block) (e : W.heap = (w.setCell p u).heap) : Own W t g f n := by
  unfold Own at h ⊢
  rw [e, heap_setCell_other _ _ _ _ hp]; exact h
theorem abstract_world {P : Program} {cd : Code} {Q : Exit → Act → World → Prop} {a : Act} {w : World} (R : World → Prop) (hR : R w) (h : ∀ W, R W → cd.wp P Q a W) : cd.wp P Q a w := h w hR
theorem two_rows (w w1 : World) (z : Obj) (f g : Nat → BitVec 8) (hz : z = .cells (Array.replicate 16 (.int .u8 0)) 100) (hb : Below w.heap.size w w1) (hs : w.heap.size ≤ w1.heap.size) :
    Own ((((w1.alloc z).alloc z).setRow w1.heap.size (rowC f 16)).setRow (w1.heap.size + 1) (rowC g 16)) 100 w1.heap.size f 16 ∧ Own ((((w1.alloc z).alloc z).setRow w1.heap.size (rowC f 16)).setRow (w1.heap.size + 1) (rowC g 16)) 100 (w1.heap.size + 1) g 16 ∧ Below w.heap.size w ((((w1.alloc z).alloc z).setRow w1.heap.size (rowC f 16)).setRow (w1.heap.size + 1) (rowC g 16)) ∧ w1.heap.size + 1 < ((((w1.alloc z).alloc z).setRow w1.heap.size (rowC f 16)).setRow (w1.heap.size + 1) (rowC g 16)).heap.size := by
  subst hz
  refine ⟨?_, ?_, ?_, ?_⟩
  · unfold Own
    rw [setRow_other _ _ _ _ (by omega)]
    exact setRow_heap _ _ _ _ _ _ (heap_alloc2_old _ _ _)
  · unfold Own
    exact setRow_heap _ _ _ _ _ _ ((setRow_other _ _ _ _ (by omega)).trans (heap_alloc2_new _ _ _))
  · exact Below.row (Below.row ((hb.alloc hs _).alloc (by simp; omega) _) hs _) (by omega) _
  · simp
section
attribute [local irreducible] Calls el gm Own dbl tb loN hiN
set_option maxHeartbeats 8000000 in
set_option maxRecDepth 1000000 in
theorem scale_core (b1 o1 n c1 : Nat) (x : Nat → BitVec 8) (c : BitVec 8) (w : World) (hn : n ≤ 140737488355328)
    (H1 : Hid (∀ i, i < n → w.cell? ⟨b1, o1 + i, none⟩ = some (.int .u8 (el (x i))))) :
    Calls Try.prog 59 #[.slice (some ⟨b1, o1, none⟩) n c1, .int .u8 (el c)] w fun e w' => ∃ g, e = .returned (.slice (some ⟨g, 0, none⟩) n n) ∧ w.heap.size ≤ g ∧ Own w' 5 g (fun i => gm (x i) c) n ∧ Below w.heap.size w w' := by
  have hmk := make_bytes n hn
  have hz1 := hs16 (tb c)
  have hz2 := hs16 (tb (gm c 16#8))
  have HZ1 : Hid ((Try.prog.info? 100).map (·.size) = some (rowC (tb c) 16).size) := hz1
  have HZ2 : Hid ((Try.prog.info? 100).map (·.size) = some (rowC (tb (gm c 16#8)) 16).size) := hz2
  clear hz1 hz2
  go_enter Try.func59, Try.ntmps59
  go_upto_region 2 with (first | (go_at_call 72; refine (multiples_any c _).mono ?_; rintro e w1 ⟨rfl, hb1⟩) | (go_at_call 72; refine (multiples_any (gm c 16#8) _).mono ?_; rintro e w2 ⟨rfl, hb2⟩) | (go_at_call 73; refine (times_16 _ _).mono ?_; rintro e w' ⟨rfl, rfl⟩) | (refine wpList_store_rowTo rfl 100 (.tmp 5) (.tmp 10) rfl rfl w2.heap.size (rowC (tb c) 16) rfl rfl 100 _ (heap_alloc2_old _ _ _) HZ1.out (by rw [rowC_size]; rfl) (rowC_one _ _) ?_) | (refine wpList_store_rowTo rfl 100 (.tmp 6) (.tmp 13) rfl rfl (w2.heap.size + 1) (rowC (tb (gm c 16#8)) 16) rfl rfl 100 _ ((setRow_other _ _ _ _ (by omega)).trans (heap_alloc2_new _ _ _)) HZ2.out (by rw [rowC_size]; rfl) (rowC_one _ _) ?_))
  refine abstract_world (fun W => Own W 100 w2.heap.size (tb c) 16 ∧ Own W 100 (w2.heap.size + 1) (tb (gm c 16#8)) 16 ∧ Below w.heap.size w W ∧ w2.heap.size + 1 < W.heap.size) (two_rows _ _ _ _ _ rfl (hb1.trans (hb2.mono hb1.size)) (Nat.le_trans hb1.size hb2.size)) ?_
  obtain ⟨A, hA⟩ : ∃ A, A = w2.heap.size := ⟨_, rfl⟩
  have hA0 : w.heap.size ≤ A := by rw [hA]; exact Nat.le_trans hb1.size hb2.size
  rw [← hA]
  clear hA hb1 hb2
  rintro W ⟨hR1, hR2, hb0, hlt0⟩
  clear HZ1 HZ2
  go_wp2
  clear hmk
  go_loopw [19] (fun i wr => ∃ k : Nat, k ≤ n ∧ i = .int .i64 k ∧ Own wr 5 W.heap.size (fun i => if i < k then gm (x i) c else 0#8) n ∧ Own wr 100 A (tb c) 16 ∧ Own wr 100 (A + 1) (tb (gm c 16#8)) 16 ∧ Below w.heap.size w wr) (fun i _ => n - (intOf i).toNat)
  case atStart => exact ⟨0, Nat.zero_le _, rfl, own_new W n, hR1.below ((Below.refl _ _).alloc (Nat.le_refl _) _), hR2.below ((Below.refl _ _).alloc (Nat.le_refl _) _), hb0.alloc (Nat.le_trans hA0 (by omega)) _⟩
  case round =>
    obtain ⟨k, hk, rfl, hO, hP1, hP2, hb⟩ := hrel
    by_cases hlt : k < n
    · have g1 := cell_below (H1.out k hlt) hb
      have g3 := hO.cell hlt
      have g4 := hO.frozen k
      have g5 := hP1.cell (loN_lt (x k))
      have g6 := hP2.cell (hiN_lt (x k))
      have i1 := el_lo (x k)
      have i2 := el_hi (x k)
      have i3 : (loN (x k) : Int) < 16 := by have := loN_lt (x k); omega
      have i4 : (hiN (x k) : Int) < 16 := by have := hiN_lt (x k); omega
      have hi : (k : Int) < (n : Int) := by omega
      go_wp2
      go_region_with (first | (go_at_call 57; refine (plus_any _ _ _).mono ?_; rintro e w' ⟨rfl, rfl⟩))
      all_goals
        go_wp2
        go_roundw
        case rel => exact ⟨k + 1, by omega, by go_num, hO.fill (f := fun i => gm (x i) c) hlt (by show _ = (wr.setCell _ (.int .u8 (el (gm (x k) c)))).heap; rw [← scale_num (x k) c]; rfl), hP1.other1 (by simp; omega) rfl, hP2.other1 (by simp; omega) rfl, (hb.setCell (by simp; omega) _).drew⟩
        case measure => simp [intOf]; omega
    · obtain rfl : k = n := by omega
      go_wp2
      go_ret
      exact ⟨W.heap.size, rfl, by omega, hO.congr (fun i hi => by rw [if_pos hi]), hb⟩
set_option maxHeartbeats 1000000 in
set_option maxRecDepth 1000000 in
theorem scale_nil (a1 : Option Addr) (c1 : Nat) (c : BitVec 8) (w : World) :
    Calls Try.prog 59 #[.slice a1 0 c1, .int .u8 (el c)] w fun e w' => ∃ g, e = .returned (.slice (some ⟨g, 0, none⟩) 0 0) ∧ w.heap.size ≤ g ∧ Own w' 5 g (fun _ => 0#8) 0 ∧ Below w.heap.size w w' := by
  have hmk : ∀ w, (Instr.makeSlice 37 (.int .i64 0) (.int .i64 0)).run Try.prog w = .ok (.slice (some ⟨w.heap.size, 0, none⟩) 0 0) (w.alloc (.cells #[] 5)) := fun w => by simpa using make_bytes 0 (by omega) w
  have hz1 := hs16 (tb c)
  have hz2 := hs16 (tb (gm c 16#8))
  have HZ1 : Hid ((Try.prog.info? 100).map (·.size) = some (rowC (tb c) 16).size) := hz1
  have HZ2 : Hid ((Try.prog.info? 100).map (·.size) = some (rowC (tb (gm c 16#8)) 16).size) := hz2
  clear hz1 hz2
  go_enter Try.func59, Try.ntmps59
  go_upto_region 2 with (first | (go_at_call 72; refine (multiples_any c _).mono ?_; rintro e w1 ⟨rfl, hb1⟩) | (go_at_call 72; refine (multiples_any (gm c 16#8) _).mono ?_; rintro e w2 ⟨rfl, hb2⟩) | (go_at_call 73; refine (times_16 _ _).mono ?_; rintro e w' ⟨rfl, rfl⟩) | (refine wpList_store_rowTo rfl 100 (.tmp 5) (.tmp 10) rfl rfl w2.heap.size (rowC (tb c) 16) rfl rfl 100 _ (heap_alloc2_old _ _ _) HZ1.out (by rw [rowC_size]; rfl) (rowC_one _ _) ?_) | (refine wpList_store_rowTo rfl 100 (.tmp 6) (.tmp 13) rfl rfl (w2.heap.size + 1) (rowC (tb (gm c 16#8)) 16) rfl rfl 100 _ ((setRow_other _ _ _ _ (by omega)).trans (heap_alloc2_new _ _ _)) HZ2.out (by rw [rowC_size]; rfl) (rowC_one _ _) ?_))
  refine abstract_world (fun W => Below w.heap.size w W ∧ w2.heap.size + 1 < W.heap.size) (two_rows _ _ _ _ _ rfl (hb1.trans (hb2.mono hb1.size)) (Nat.le_trans hb1.size hb2.size)).2.2 ?_
  have hA0 : w.heap.size ≤ w2.heap.size := Nat.le_trans hb1.size hb2.size
  clear hb1 hb2
  rintro W ⟨hb0, hlt0⟩
  clear HZ1 HZ2
  go_wp2
  refine wp_loop_rounds 1 ?_
  rw [rounds_succ]
  go_wp2
  go_ret
  have ho := own_new W 0
  simp only [Array.replicate_zero] at ho
  exact ⟨W.heap.size, rfl, by omega, ho, hb0.alloc (by omega) _⟩
end
theorem scale_any {w : World} {a1 : Option Addr} {xs : List (BitVec 8)} (h1 : Rd w a1 xs) (c : BitVec 8) (n c1 : Nat) (hn : xs.length = n) (hm : n ≤ 140737488355328) :
    Calls Try.prog 59 #[.slice a1 n c1, .int .u8 (el c)] w fun e w' => ∃ g, e = .returned (.slice (some ⟨g, 0, none⟩) n n) ∧ w.heap.size ≤ g ∧ Own w' 5 g (fun i => gm (xs.getD i 0#8) c) n ∧ Below w.heap.size w w' := by
  rcases h1 with h1 | ⟨b1, o1, rfl, hc1⟩
  · subst h1; subst hn
    refine (scale_nil a1 c1 c w).mono ?_
    rintro e w' ⟨g, rfl, hg, ho, hb⟩
    exact ⟨g, rfl, hg, ho.congr (fun i hi => by simp at hi), hb⟩
  · rw [hn] at hc1
    exact scale_core b1 o1 n c1 (fun i => xs.getD i 0#8) c w hm hc1
end Go.Proofs.Ytmjobnabnkiakaa
