/-
  Package crc: the register's steps, and its going over bytes.
-/
import Derived.Test.YtjobaeopokfekaaGreatLst
import Derived.Test.YtjobaeopokfekaaGreatLm15
import Derived.Deep.WholeRow
import Derived.Deep.RegionWith
import Derived.Laws.ResultCell
import Derived.Great.BuildSlice
import Derived.Great.Ranges
namespace Go.Proofs.YtjobaeopokfekaaGreat
open Go.RowKit

theorem rg_xor (a b : BitVec 32) : bits .xor .u32 (rg a) (rg b) = rg (a ^^^ b) := by
  unfold rg; rw [u32_xor_nat _ _ a.isLt b.isLt, BitVec.toNat_xor]
theorem rg_and (a b : BitVec 32) : bits .and .u32 (rg a) (rg b) = rg (a &&& b) := by
  unfold rg; rw [u32_and_nat _ _ a.isLt b.isLt, BitVec.toNat_and]
theorem rg_shr1 (a : BitVec 32) : rg a / (2 : Int) = rg (a >>> 1) := by
  unfold rg; rw [BitVec.toNat_ushiftRight, Nat.shiftRight_eq_div_pow]; omega
theorem rg_shr4 (a : BitVec 32) : rg a / (16 : Int) = rg (a >>> 4) := by
  unfold rg; rw [BitVec.toNat_ushiftRight, Nat.shiftRight_eq_div_pow]; omega
theorem rg_neg (a : BitVec 32) : (-(rg a)) % (4294967296 : Int) = rg (-a) := by
  unfold rg; rw [BitVec.toNat_neg]; have := a.isLt; omega
theorem ones_xor (a : BitVec 32) : 4294967295#32 ^^^ a = ~~~ a := by
  have h : (4294967295#32) = BitVec.allOnes 32 := by decide +kernel
  rw [h]; exact BitVec.allOnes_xor
theorem rg_not (a : BitVec 32) : bits .xor .u32 IntKind.u32.max (rg a) = rg (~~~ a) := by
  rw [show IntKind.u32.max = rg 4294967295#32 from rfl, rg_xor, ones_xor]

theorem step_any (r : BitVec 32) (w : World) :
    Calls Tryz.prog 101 #[.int .u32 (rg r)] w fun e w' => e = .returned (.int .u32 (rg (stp r))) ∧ w' = w := by
  go_enter Tryz.func101, Tryz.ntmps101
  go_wp2
  go_ret
  exact ⟨ret_int (by rw [rg_shr1, show (1 : Int) = rg 1#32 from rfl, rg_and, rg_neg, show (2197175160 : Int) = rg P32 from rfl, rg_and, rg_xor, stp_mask]), rfl⟩

section
attribute [local irreducible] Calls rg stps
set_option maxRecDepth 1000000 in
theorem steps_any (r : BitVec 32) (n : Nat) (hn : n ≤ 1000000) (w : World) :
    Calls Tryz.prog 92 #[.int .u32 (rg r), .int .i64 n] w fun e w' => e = .returned (.int .u32 (rg (stps n r))) ∧ w' = w := by
  go_enter Tryz.func92, Tryz.ntmps92
  go_wp2
  go_loop [0, 6] (fun x i => ∃ k : Nat, k ≤ n ∧ i = .int .i64 k ∧ x = .int .u32 (rg (stps k r))) (fun _ i => n - (intOf i).toNat)
  case atStart => exact ⟨0, Nat.zero_le _, rfl, by unfold stps; rfl⟩
  case round =>
    obtain ⟨k, hk, rfl, rfl⟩ := hrel
    by_cases hlt : k < n
    · have hi : (k : Int) < (n : Int) := by omega
      go_wp2_with (go_at_call 101; refine (step_any _ _).mono ?_; rintro e w' ⟨rfl, rfl⟩)
      go_round
      case rel => exact ⟨k + 1, by omega, by go_num, by rw [stps_succ]⟩
      case measure => simp [intOf]; omega
    · obtain rfl : k = n := by omega
      go_wp2
      go_ret
      exact ⟨rfl, rfl⟩
end

/-! ### Arrays of registers -/
def arC (t : Nat → BitVec 32) (n : Nat) : Array Value := ((List.range n).map fun i => Value.int .u32 (rg (t i))).toArray
theorem arC_size (f : Nat → BitVec 32) (n : Nat) : (arC f n).size = n := by simp [arC]
theorem arC_get (f : Nat → BitVec 32) (n i : Nat) (h : i < n) : (arC f n)[i]? = some (.int .u32 (rg (f i))) := by
  unfold arC; rw [List.getElem?_toArray, List.getElem?_map, List.getElem?_range h]; rfl
theorem arC_congr {f g : Nat → BitVec 32} {n : Nat} (h : ∀ i, i < n → f i = g i) : arC f n = arC g n := by
  unfold arC; congr 1
  apply List.map_congr_left
  intro i hi; rw [h i (List.mem_range.1 hi)]
theorem arC_one (f : Nat → BitVec 32) (n : Nat) : (arC f n).all (·.oneCell') = true := by
  rw [Array.all_eq_true]
  intro i hi
  have h := arC_get f n i (by rwa [arC_size] at hi)
  rw [Array.getElem?_eq_getElem hi] at h
  injection h with h
  rw [h]; rfl
theorem arC_set (f : Nat → BitVec 32) (n k : Nat) (v : BitVec 32) (hk : k < n) : (arC f n).setIfInBounds k (.int .u32 (rg v)) = arC (fun i => if i = k then v else f i) n := by
  apply Array.ext_getElem?
  intro i
  rw [Array.getElem?_setIfInBounds, arC_size]
  by_cases hi : i < n
  · rw [arC_get (fun i => if i = k then v else f i) n i hi]
    by_cases e : k = i
    · subst e; simp [hk]
    · rw [if_neg e, arC_get f n i hi, if_neg (fun h => e h.symm)]
  · have h1 : (arC f n)[i]? = none := by rw [Array.getElem?_eq_none]; rw [arC_size]; omega
    have h2 : (arC (fun i => if i = k then v else f i) n)[i]? = none := by rw [Array.getElem?_eq_none]; rw [arC_size]; omega
    rw [h1, h2, if_neg (by omega)]
theorem arC_zero (n : Nat) : arC (fun _ => 0#32) n = Array.replicate n (.int .u32 0) := by
  apply Array.ext_getElem?
  intro i
  by_cases hi : i < n
  · rw [arC_get _ n i hi]; simp [hi]; rfl
  · rw [Array.getElem?_eq_none (by rw [arC_size]; omega), Array.getElem?_eq_none (by simp; omega)]
/-- The block g holds these registers. -/
def Ar (w : World) (t : TypeId) (g : Nat) (f : Nat → BitVec 32) (n : Nat) : Prop := w.heap[g]? = some (.cells (arC f n) t (0, 0))
theorem Ar.cell {w : World} {t : TypeId} {g : Nat} {f : Nat → BitVec 32} {n : Nat} (h : Ar w t g f n) {i : Nat} (hi : i < n) : w.cell? ⟨g, i, none⟩ = some (.int .u32 (rg (f i))) := by
  rw [cell_of_row w g i _ _ _ h, arC_get f n i hi]
theorem Ar.frozen {w : World} {t : TypeId} {g : Nat} {f : Nat → BitVec 32} {n : Nat} (h : Ar w t g f n) (i : Nat) : w.frozen? ⟨g, i, none⟩ = false := frozen_of_row w g i _ _ h
theorem Ar.set {w : World} {t : TypeId} {g : Nat} {f : Nat → BitVec 32} {n : Nat} (h : Ar w t g f n) {k : Nat} (hk : k < n) (v : BitVec 32) : Ar (w.setCell ⟨g, k, none⟩ (.int .u32 (rg v))) t g (fun i => if i = k then v else f i) n := by
  unfold Ar; rw [heap_setCell_same w g k _ _ _ h, arC_set f n k v hk]
theorem Ar.congr {w : World} {t : TypeId} {g : Nat} {f f' : Nat → BitVec 32} {n : Nat} (h : Ar w t g f n) (e : ∀ i, i < n → f i = f' i) : Ar w t g f' n := by
  unfold Ar; rw [← arC_congr e]; exact h
theorem Ar.lt {w : World} {t : TypeId} {g : Nat} {f : Nat → BitVec 32} {n : Nat} (h : Ar w t g f n) : g < w.heap.size := by
  rcases Nat.lt_or_ge g w.heap.size with h1 | h1
  · exact h1
  · unfold Ar at h; rw [Array.getElem?_eq_none h1] at h; cases h
theorem Ar.below {w w' : World} {t : TypeId} {g : Nat} {f : Nat → BitVec 32} {n : Nat} (h : Ar w t g f n) (hb : Below w.heap.size w w') : Ar w' t g f n := by
  unfold Ar; rw [hb.block g h.lt]; exact h
theorem Ar.fill {w W : World} {t : TypeId} {g n k : Nat} {f : Nat → BitVec 32} (h : Ar w t g (fun i => if i < k then f i else 0#32) n) (hk : k < n) (e : W.heap = (w.setCell ⟨g, k, none⟩ (.int .u32 (rg (f k)))).heap) : Ar W t g (fun i => if i < k + 1 then f i else 0#32) n := by
  have h1 := (h.set hk (f k)).congr (f' := fun i => if i < k + 1 then f i else 0#32) (fun i hi => by
    by_cases e : i = k
    · subst e; simp
    · by_cases h2 : i < k
      · rw [if_neg e, if_pos h2, if_pos (by omega)]
      · rw [if_neg e, if_neg h2, if_neg (by omega)])
  unfold Ar at h1 ⊢
  rw [e]; exact h1
theorem Ar.other {w W : World} {t : TypeId} {g n : Nat} {f : Nat → BitVec 32} {p : Addr} {v : Value} (h : Ar w t g f n) (hp : g ≠ p.block) (e : W.heap = (w.setCell p v).heap) : Ar W t g f n := by
  unfold Ar at h ⊢
  rw [e, heap_setCell_other w p g v hp]; exact h
theorem ar_new (w : World) (n : Nat) (t : TypeId) : Ar (w.alloc (.cells (Array.replicate n (.int .u32 0)) t)) t w.heap.size (fun _ => 0#32) n := by
  unfold Ar; rw [heap_alloc_new, arC_zero]
theorem info63 : (Tryz.prog.info? 136).map (fun i => (i.zero, i.size)) = some (some (.agg (Array.replicate 16 (.int .u32 0))), 16) := by kernel_rfl
theorem zero63 : ∀ w, (zeroValue 136).run Tryz.prog w = .ok (.agg (Array.replicate 16 (.int .u32 0))) w := (zero_of_info info63).1
theorem size63 : (Tryz.prog.info? 136).map (·.size) = some 16 := (zero_of_info info63).2
end Go.Proofs.YtjobaeopokfekaaGreat
