/-
  The laws' own helpers: 'elems', 'bits', 'fours', and of matrices.
-/
import Derived.Test.YtmjobnabnkiakaaLr
namespace Go.Proofs.Ytmjobnabnkiakaa
open Go.RowKit
/-- A row of numbers of its own type that reads so. -/
def TrE (w : World) (v : Value) (n : Nat) (f : Nat → BitVec 8) : Prop := St w 73 v n (clE f) n
theorem TrE.below {w w' : World} {v : Value} {n : Nat} {f : Nat → BitVec 8} (h : TrE w v n f) (hb : Below w.heap.size w w') : TrE w' v n f := St.below h hb
theorem TrE.nr {w : World} {v : Value} {n : Nat} {f : Nat → BitVec 8} (h : TrE w v n f) : NrE w v n f := St.sv h
theorem TrE.form {w : World} {v : Value} {n : Nat} {f : Nat → BitVec 8} (h : TrE w v n f) : ∃ p c, v = .slice p n c := (St.sv h).form
/-- A matrix of numbers of its own type that reads so. -/
def TmE (w : World) (v : Value) (r : Nat) (l : Nat → Nat) (N : Nat → Nat → BitVec 8) : Prop := ∃ rows : Nat → Value, St w 69 v r rows r ∧ ∀ i, i < r → TrE w (rows i) (l i) (N i)
theorem TmE.below {w w' : World} {v : Value} {r : Nat} {l : Nat → Nat} {N : Nat → Nat → BitVec 8} (h : TmE w v r l N) (hb : Below w.heap.size w w') : TmE w' v r l N := by
  obtain ⟨rows, h1, h2⟩ := h
  exact ⟨rows, h1.below hb, fun i hi => (h2 i hi).below hb⟩
theorem TmE.nm {w : World} {v : Value} {r : Nat} {l : Nat → Nat} {N : Nat → Nat → BitVec 8} (h : TmE w v r l N) : NmE w v r l N := by
  obtain ⟨rows, h1, h2⟩ := h
  exact ⟨rows, h1.sv, fun i hi => (h2 i hi).nr⟩
theorem push_trE {W W3 : World} {base k : Nat} {v x : Value} {us : List Value} {rows : Nat → Value} {o : Obj} {l : Nat → Nat} {N : Nat → Nat → BitVec 8} (hown : W.ownsRow base 69 1 v k us) (hgrow : (W.alloc o).grownBy W3 v.ownBlock) (hR : ∀ i, i < k → TrE W (rows i) (l i) (N i)) (hx : TrE W x (l k) (N k)) : ∀ i, i < k + 1 → TrE W3 ((fun i => if i = k then x else rows i) i) (l i) (N i) := by
  intro i hi
  have h := push_all (c := fun i => l i) (by decide) hown hgrow hR hx i hi
  exact h
theorem cl_succE (f : Nat → BitVec 8) (k : Nat) : lv (clE f) k ++ [.int .u8 (el (f k))] = lv (clE f) (k + 1) := (lv_succ (clE f) k).symm
section
attribute [local irreducible] Calls lv el nuE
end
section
attribute [local irreducible] Calls lv Ir Jr TrE nuE
end
theorem cl_succB (f : Nat → Bool) (k : Nat) : lv (clB f) k ++ [.bool (f k)] = lv (clB f) (k + 1) := (lv_succ (clB f) k).symm
section
attribute [local irreducible] Calls lv el nuB
end
section
attribute [local irreducible] Calls lv Ir Jr nuB
end
theorem cl_succF (f : Nat → (Bool × Bool)) (k : Nat) : lv (clF f) (k * 2) ++ [.bool (f k).1, .bool (f k).2] = lv (clF f) ((k + 1) * 2) := by
  rw [show (k + 1) * 2 = k * 2 + 1 + 1 by omega, lv_succ, lv_succ, List.append_assoc]
  unfold clF
  rw [if_pos (by omega), if_neg (by omega), show k * 2 / 2 = k by omega, show (k * 2 + 1) / 2 = k by omega]; rfl
theorem two_new (w : World) (a b : Value) (t : TypeId) : ∀ j u, ([a, b] : List Value)[j]? = some u → (w.alloc (.cells #[a, b] t)).cell? ((⟨w.heap.size, 0, none⟩ : Addr).add j) = some u := by
  intro j u hj
  rw [add_pl, cell_of_row _ _ _ _ _ (0, 0) (heap_alloc_new w _), Nat.zero_add]
  simpa using hj
theorem two_cell (a b : Bool) : ∀ u ∈ ([.bool a, .bool b] : List Value), u.oneCell' = true := by
  intro u hu; simp at hu; rcases hu with rfl | rfl <;> rfl
section
attribute [local irreducible] Calls lv el nuF
end
section
attribute [local irreducible] Calls lv Ir Jr nuF
end
end Go.Proofs.Ytmjobnabnkiakaa
