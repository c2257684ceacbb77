/-
  What 'apart' keeps: slices that were grown.
-/
import Derived.Test.YtgienaikcpcpeabEven
namespace Go.Proofs.Ytgienaikcpcpeab
open Go.RowKit

def tn (d i : Nat) : BitVec 8 := BitVec.ofNat 8 (d + i)
theorem el_tn (d i : Nat) (h : d + i < 256) : el (tn d i) = (d : Int) + (i : Int) := by
  unfold el tn; rw [BitVec.toNat_ofNat]; omega
/-- What the grown slices of row i read as. -/
def mf (ns : Nat → Nat) (i j : Nat) : BitVec 8 := if j < ns i then tn 10 i else tn 100 i
structure Ent where
  i : Nat
  B : Nat
  C : Nat
  L : Nat
def Ent.V (e : Ent) : Value := .slice (some ⟨e.B, 0, none⟩) e.L e.C
def Ent.I (e : Ent) : Value := .int .i64 (e.i : Int)
structure Good (ns : Nat → Nat) (b0 : Nat) (w : World) (e : Ent) : Prop where
  six : e.i < 6
  lo : ns e.i ≤ e.L
  hi : e.L ≤ ns e.i + 64
  new : b0 ≤ e.B
  made : Made w e.B e.C e.L (mf ns e.i)
theorem Made.keep {w w' : World} {g cap n : Nat} {x : Nat → BitVec 8} (h : Made w g cap n x) (e : w'.heap[g]? = w.heap[g]?) : Made w' g cap n x := by
  obtain ⟨c, hh, hs⟩ := h.cur
  exact ⟨⟨c, by rw [e]; exact hh, hs⟩, h.le, h.lim⟩
theorem Made.owns {w : World} {g cap n : Nat} {x : Nat → BitVec 8} (h : Made w g cap n x) : w.ownsRow 0 5 1 (.slice (some ⟨g, 0, none⟩) n cap) n (vals x n) := by
  obtain ⟨c, hh, hs, ht⟩ := h.cur
  exact ⟨by rw [vals_len, Nat.mul_one], .inr ⟨g, cap, c, rfl, Nat.zero_le _, hh, h.le, h.lim, by omega, by rw [Nat.mul_one]; exact ht⟩⟩
theorem made_owns {w : World} {base g cap n : Nat} {x : Nat → BitVec 8} (h : w.ownsRow base 5 1 (.slice (some ⟨g, 0, none⟩) n cap) n (vals x n)) : Made w g cap n x := by
  rcases h.2 with ⟨hv, _⟩ | ⟨g', cap', c, hv, hg, hh, hc, hm, hs, ht⟩
  · cases hv
  · cases hv
    exact ⟨⟨c, hh, by omega, by rw [← ht, Nat.mul_one]⟩, hc, hm⟩
/-- A shorter slice over the same row. -/
theorem Made.short {w : World} {g cap n m : Nat} {x : Nat → BitVec 8} (h : Made w g cap n x) (hm : m ≤ n) : Made w g cap m x := by
  obtain ⟨c, hh, hs, ht⟩ := h.cur
  refine ⟨⟨c, hh, hs, ?_⟩, Nat.le_trans hm h.le, h.lim⟩
  have h1 : (c.toList.take n).take m = (vals x n).take m := by rw [ht]
  rw [List.take_take, Nat.min_eq_left hm] at h1
  rw [h1]
  unfold vals
  rw [← List.map_take, List.take_range, Nat.min_eq_left hm]
theorem vals_succ (x : Nat → BitVec 8) (m : Nat) : vals x (m + 1) = vals x m ++ [.int .u8 (el (x m))] := by
  unfold vals; rw [List.range_succ, List.map_append]; rfl
theorem Good.below {ns : Nat → Nat} {b0 : Nat} {w w' : World} {e : Ent} (h : Good ns b0 w e) (hb : Below w.heap.size w w') : Good ns b0 w' e := ⟨h.six, h.lo, h.hi, h.new, h.made.below hb⟩
/-- An append with room to another row of bytes, or to this one behind its end. -/
theorem Good.room {ns : Nat → Nat} {b0 : Nat} {w w' : World} {e : Ent} {B C L i : Nat} (h : Good ns b0 w e) (hg : w.grownBy w' (some B)) (hm : Made w' B C (L + 1) (mf ns i)) (hs : e.B = B → e.i = i ∧ e.L ≤ L ∧ e.C = C) : Good ns b0 w' e := by
  refine ⟨h.six, h.lo, h.hi, h.new, ?_⟩
  by_cases eb : e.B = B
  · obtain ⟨h1, h2, h3⟩ := hs eb
    rw [eb, h3, h1]; exact hm.short (by omega)
  · exact h.made.keep (hg.block e.B h.made.lt (by simpa using eb))
/-- An append to a row of another element type. -/
theorem made_type {w w' : World} {base T n : Nat} {v : Value} {xs : List Value} {g cap m : Nat} {x : Nat → BitVec 8} (h : Made w g cap m x) (ho : w.ownsRow base T 1 v n xs) (hT : T ≠ 5) (hg : w.grownBy w' v.ownBlock) : Made w' g cap m x := by
  refine h.keep (hg.block g h.lt ?_)
  obtain ⟨c, hh, _⟩ := h.cur
  rcases ho.2 with ⟨rfl, _⟩ | ⟨g', cap', c', rfl, _, hh', _⟩
  · simp [Value.ownBlock]
  · intro e
    have e' : g = g' := by simpa [Value.ownBlock] using e
    rw [e', hh'] at hh
    simp at hh
    exact hT hh.2
theorem Good.other {ns : Nat → Nat} {b0 : Nat} {w w' : World} {base T n : Nat} {v : Value} {xs : List Value} {e : Ent} (h : Good ns b0 w e) (ho : w.ownsRow base T 1 v n xs) (hT : T ≠ 5) (hg : w.grownBy w' v.ownBlock) : Good ns b0 w' e := ⟨h.six, h.lo, h.hi, h.new, made_type h.made ho hT hg⟩
theorem owns_type {w w' : World} {base T n : Nat} {v : Value} {xs : List Value} {base' T' n' : Nat} {v' : Value} {xs' : List Value} (h : w.ownsRow base' T' 1 v' n' xs') (ho : w.ownsRow base T 1 v n xs) (hT : T' ≠ T) (hg : w.grownBy w' v.ownBlock) : w'.ownsRow base' T' 1 v' n' xs' := by
  refine h.kept hg ?_
  rcases h.2 with ⟨rfl, _⟩ | ⟨g', cap', c', rfl, _, hh', _⟩
  · exact .inl rfl
  · right
    rcases ho.2 with ⟨rfl, _⟩ | ⟨g, cap, c, rfl, _, hh, _⟩
    · simp [Value.ownBlock]
    · intro e
      have e' : g' = g := by simpa [Value.ownBlock] using e
      rw [e', hh] at hh'
      simp at hh'
      exact hT hh'.2.symm
theorem owns_byte {w w' : World} {base T n : Nat} {v : Value} {xs : List Value} {B C L : Nat} {x : Nat → BitVec 8} (h : w.ownsRow base T 1 v n xs) (hm : Made w B C L x) (hT : T ≠ 5) (hg : w.grownBy w' (some B)) : w'.ownsRow base T 1 v n xs := by
  refine h.kept hg ?_
  rcases h.2 with ⟨rfl, _⟩ | ⟨g', cap', c', rfl, _, hh', _⟩
  · exact .inl rfl
  · right
    obtain ⟨c, hh, _⟩ := hm.cur
    intro e
    have e' : g' = B := by simpa [Value.ownBlock] using e
    rw [e', hh] at hh'
    simp at hh'
    exact hT hh'.2.symm
theorem one_new' (w : World) (v : Value) (t : TypeId) : ∀ j u, ([v] : List Value)[j]? = some u → (w.alloc (.cells #[v] t)).cell? ((⟨w.heap.size, 0, none⟩ : Addr).add j) = some u := by
  intro j u hj
  match j, hj with
  | 0, hj =>
    simp at hj; subst hj
    rw [add_plain, cell_of_row _ _ _ _ _ (0, 0) (heap_alloc_new w _)]; rfl
end Go.Proofs.Ytgienaikcpcpeab
