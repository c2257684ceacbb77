/-
  A row of the call's own, with room behind it, that is written.
-/
import Derived.Test.YtgienaikcpcpeaaLent
import Derived.Test.YtgienaikcpcpeaaScaleb
namespace Go.Proofs.Ytgienaikcpcpeaa
open Go.RowKit

structure Held (w : World) (g cap n : Nat) (x : Nat → BitVec 8) : Prop where
  cur : ∃ c, w.heap[g]? = some (.cells c 5 (0, 0)) ∧ c.size = cap ∧ c.toList.take n = vs x n
  le : n ≤ cap
theorem held_of {w : World} {base n : Nat} {v : Value} {x : Nat → BitVec 8} (h : w.ownsRow base 5 1 v n (vs x n)) (hn : 0 < n) : ∃ g cap, v = .slice (some ⟨g, 0, none⟩) n cap ∧ base ≤ g ∧ Held w g cap n x := by
  rcases h.2 with ⟨_, h0⟩ | ⟨g, cap, c, hv, hg, hh, hc, hm, hs, ht⟩
  · omega
  · exact ⟨g, cap, hv, hg, ⟨c, hh, by omega, by rw [← ht, Nat.mul_one]⟩, hc⟩
theorem Held.cell {w : World} {g cap n : Nat} {x : Nat → BitVec 8} (h : Held w g cap n x) {i : Nat} (hi : i < n) : w.cell? ⟨g, i, none⟩ = some (.int .u8 (el (x i))) := by
  obtain ⟨c, hh, hs, ht⟩ := h.cur
  rw [cell_of_row w g i _ _ _ hh]
  have h1 : (c.toList.take n)[i]? = some (.int .u8 (el (x i))) := by rw [ht, vs_at x n i hi]
  rw [List.getElem?_take_of_lt hi] at h1
  simpa using h1
theorem Held.frozen {w : World} {g cap n : Nat} {x : Nat → BitVec 8} (h : Held w g cap n x) (i : Nat) : w.frozen? ⟨g, i, none⟩ = false := by
  obtain ⟨c, hh, _⟩ := h.cur
  exact frozen_of_row w g i _ _ hh
theorem Held.lt {w : World} {g cap n : Nat} {x : Nat → BitVec 8} (h : Held w g cap n x) : g < w.heap.size := by
  obtain ⟨c, hh, _⟩ := h.cur
  rcases Nat.lt_or_ge g w.heap.size with h1 | h1
  · exact h1
  · rw [Array.getElem?_eq_none h1] at hh; cases hh
theorem Held.keep {w w' : World} {g cap n : Nat} {x : Nat → BitVec 8} (h : Held w g cap n x) (e : w'.heap[g]? = w.heap[g]?) : Held w' g cap n x := by
  obtain ⟨c, hh, hs⟩ := h.cur
  exact ⟨⟨c, by rw [e]; exact hh, hs⟩, h.le⟩
theorem Held.below {w w' : World} {g cap n : Nat} {x : Nat → BitVec 8} (h : Held w g cap n x) (hb : Below w.heap.size w w') : Held w' g cap n x := h.keep (hb.block g h.lt)
theorem Held.congr {w : World} {g cap n : Nat} {x y : Nat → BitVec 8} (h : Held w g cap n x) (e : ∀ i, i < n → x i = y i) : Held w g cap n y := by
  obtain ⟨c, hh, hs, ht⟩ := h.cur
  exact ⟨⟨c, hh, hs, by rw [ht, vs_congr e]⟩, h.le⟩
theorem Held.rd {w : World} {g cap n m : Nat} {x y : Nat → BitVec 8} (h : Held w g cap n x) (hm : m ≤ n) (e : ∀ i, i < m → x i = y i) : Rd w (some ⟨g, 0, none⟩) (ls y m) := by
  refine .inr ⟨g, 0, rfl, fun i hi => ?_⟩
  have hi' : i < m := by rwa [ls_len] at hi
  rw [Nat.zero_add, h.cell (by omega), ls_get _ _ _ hi', e i hi']
theorem Held.src {w : World} {g cap n m : Nat} {x y : Nat → BitVec 8} (h : Held w g cap n x) (hm : m ≤ n) (e : ∀ i, i < m → x i = y i) : ∀ j u, (vs y m)[j]? = some u → w.cell? ((⟨g, 0, none⟩ : Addr).add j) = some u :=
  vs_src (fun i hi => by rw [Nat.zero_add, h.cell (by omega), e i hi])
theorem vs_set (x : Nat → BitVec 8) (n k : Nat) (v : BitVec 8) : (vs x n).set k (.int .u8 (el v)) = vs (fun i => if i = k then v else x i) n := by
  apply List.ext_getElem?
  intro i
  rw [List.getElem?_set, vs_len]
  by_cases hi : i < n
  · rw [vs_at (fun i => if i = k then v else x i) n i hi]
    by_cases e : k = i
    · subst e; simp [hi]
    · rw [if_neg e, vs_at x n i hi, if_neg (fun h => e h.symm)]
  · have h1 : (vs x n)[i]? = none := by rw [List.getElem?_eq_none]; rw [vs_len]; omega
    have h2 : (vs (fun i => if i = k then v else x i) n)[i]? = none := by rw [List.getElem?_eq_none]; rw [vs_len]; omega
    rw [h1, h2]
    by_cases e : k = i
    · subst e; rw [if_pos rfl, if_neg hi]
    · rw [if_neg e]
theorem Held.set {w W : World} {g cap n k : Nat} {x : Nat → BitVec 8} {v : BitVec 8} (h : Held w g cap n x) (e : W.heap = (w.setCell ⟨g, k, none⟩ (.int .u8 (el v))).heap) : Held W g cap n (fun i => if i = k then v else x i) := by
  obtain ⟨c, hh, hs, ht⟩ := h.cur
  refine ⟨⟨c.setIfInBounds k (.int .u8 (el v)), ?_, by simpa using hs, ?_⟩, h.le⟩
  · rw [e]; exact heap_setCell_same w g k _ _ _ hh
  · rw [Array.toList_setIfInBounds, List.take_set, ht, vs_set]
theorem Held.other {w W : World} {g cap n : Nat} {x : Nat → BitVec 8} {p : Addr} {u : Value} (h : Held w g cap n x) (hp : g ≠ p.block) (e : W.heap = (w.setCell p u).heap) : Held W g cap n x :=
  h.keep (by rw [e]; exact heap_setCell_other _ _ _ _ hp)
theorem bt {u v x : World} (h : Below u.heap.size u v) (k : Below v.heap.size v x) : Below u.heap.size u x := h.trans (k.mono h.size)
theorem el_add1 (a : BitVec 8) : (el a + 1) % 256 = el (a + 1#8) := by
  unfold el; rw [BitVec.toNat_add]; have := a.isLt; show _ = (((a.toNat + 1) % 2 ^ 8 : Nat) : Int); omega
theorem el_xor3 (a : BitVec 8) : bits .xor .u8 (el a) 3 = el (a ^^^ 3#8) := el_xor a 3#8
/-- The rows as they are in turn t. -/
def tx (x : Nat → BitVec 8) : Nat → Nat → BitVec 8
  | 0 => x
  | t + 1 => fun i => tx x t i + 1#8
def ty (x : Nat → BitVec 8) : Nat → Nat → BitVec 8
  | 0 => x
  | t + 1 => fun i => ty x t i ^^^ 3#8
end Go.Proofs.Ytgienaikcpcpeaa
