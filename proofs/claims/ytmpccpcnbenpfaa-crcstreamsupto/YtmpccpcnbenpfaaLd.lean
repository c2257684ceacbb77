/-
  The laws' own helpers of layer 6: 'laid'.
-/
import Derived.Test.YtmpccpcnbenpfaaBo
namespace Go.Proofs.Ytmpccpcnbenpfaa
open Go.RowKit Go.Great
/-- The block g holds these bytes, and may be written. -/
def Wr (w : World) (g : Nat) (xs : List (BitVec 8)) : Prop := ∃ cur : Array Value, w.heap[g]? = some (.cells cur 5 (0, 0)) ∧ xs.length ≤ cur.size ∧ ∀ i, i < xs.length → cur[i]? = some (.int .u8 (el (fn xs i)))
theorem Wr.cell {w : World} {g : Nat} {xs : List (BitVec 8)} (h : Wr w g xs) {i : Nat} (hi : i < xs.length) : w.cell? ⟨g, i, none⟩ = some (.int .u8 (el (fn xs i))) := by
  obtain ⟨cur, hh, hs, hc⟩ := h
  rw [cell_of_row w g i _ _ _ hh]; exact hc i hi
theorem Wr.frozen {w : World} {g : Nat} {xs : List (BitVec 8)} (h : Wr w g xs) (i : Nat) : w.frozen? ⟨g, i, none⟩ = false := by
  obtain ⟨cur, hh, hs, hc⟩ := h
  exact frozen_of_row w g i _ _ hh
theorem Wr.rd {w : World} {g : Nat} {xs : List (BitVec 8)} (h : Wr w g xs) : Rd w (some ⟨g, 0, none⟩) xs :=
  .inr ⟨g, 0, rfl, fun i hi => by rw [Nat.zero_add]; exact h.cell hi⟩
theorem Wr.set {w W : World} {g : Nat} {xs : List (BitVec 8)} (h : Wr w g xs) {k : Nat} {b : BitVec 8} (hk : k < xs.length) (e : W.heap = (w.setCell ⟨g, k, none⟩ (.int .u8 (el b))).heap) : Wr W g (xs.set k b) := by
  obtain ⟨cur, hh, hs, hc⟩ := h
  refine ⟨cur.setIfInBounds k (.int .u8 (el b)), by rw [e, heap_setCell_same w g k _ _ _ hh], by simpa using hs, fun i hi => ?_⟩
  have hi' : i < xs.length := by simpa using hi
  rw [Array.getElem?_setIfInBounds]
  by_cases e2 : k = i
  · subst e2; rw [if_pos rfl, if_pos (by omega)]; simp [fn, hi']
  · rw [if_neg e2, hc i hi']
    unfold fn; simp [List.getElem?_set_ne e2]
theorem Wr.lt {w : World} {g : Nat} {xs : List (BitVec 8)} (h : Wr w g xs) : g < w.heap.size := by
  obtain ⟨cur, hh, hs, hc⟩ := h
  rcases Nat.lt_or_ge g w.heap.size with h1 | h1
  · exact h1
  · rw [Array.getElem?_eq_none h1] at hh; cases hh
theorem Wr.below {w w' : World} {g : Nat} {xs : List (BitVec 8)} (h : Wr w g xs) (hb : Below w.heap.size w w') : Wr w' g xs := by
  have hl := h.lt
  obtain ⟨cur, hh, hs, hc⟩ := h
  exact ⟨cur, by rw [hb.block g hl]; exact hh, hs, hc⟩
theorem Ow.wr {w : World} {base : Nat} {v : Value} {xs : List (BitVec 8)} (h : Ow w base v xs) (h0 : 0 < xs.length) : ∃ g cap, v = .slice (some ⟨g, 0, none⟩) xs.length cap ∧ base ≤ g ∧ Wr w g xs := by
  rcases h.2 with ⟨hv, h1⟩ | ⟨g, cap, c, hv, hg, hh, hc, hm, hs, ht⟩
  · omega
  · refine ⟨g, cap, hv, hg, c, hh, by omega, fun i hi => ?_⟩
    rw [Nat.mul_one] at ht
    have h1 : (c.toList.take xs.length)[i]? = some (.int .u8 (el (fn xs i))) := by rw [ht, vs_at _ _ i hi]
    rw [List.getElem?_take_of_lt hi] at h1
    simpa using h1
/-- The text with the bit k turned. -/
def tb (xs : List (BitVec 8)) (k : Nat) : List (BitVec 8) := xs.set (k / 8) (fn xs (k / 8) ^^^ 1#8 <<< (k % 8))
theorem tb_len (xs : List (BitVec 8)) (k : Nat) : (tb xs k).length = xs.length := by simp [tb]
theorem ov_tb (xs : List (BitVec 8)) (k : Nat) (hk : k < 8 * xs.length) (r : BitVec 32) : ov r (tb xs k) = ov r xs ^^^ e1 (8 * xs.length - k) := by
  unfold tb fn
  rw [ov_turn xs r (k / 8) (k % 8) (by omega) (by omega)]
  congr 2; omega
theorem el_bitx (x : BitVec 8) (c : Nat) : bits .xor .u8 (el x) ((2 : Int) ^ c % 256) = el (x ^^^ 1#8 <<< c) := by
  have h : (2 : Int) ^ c % 256 = el (1#8 <<< c) := by
    unfold el; rw [BitVec.toNat_shiftLeft, Nat.shiftLeft_eq, Int.natCast_emod]; simp
  rw [h, el_xor]
section
attribute [local irreducible] Calls el Wr tb fn
end
end Go.Proofs.Ytmpccpcnbenpfaa
