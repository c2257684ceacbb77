/-
  The laws' own helpers: 'list', 'rows', 'elems', 'bits', 'fours', and of matrices.
-/
import Derived.Test.YtmjobnabnkiakaaIdW
namespace Go.Proofs.Ytmjobnabnkiakaa
open Go.RowKit
/-- A row of ints that came in. -/
def Jr (w : World) (v : Value) (n : Nat) (f : Nat → Int) : Prop := Sv w v n (fun j => .int .i64 (f j)) n
theorem Jr.below {w w' : World} {v : Value} {n : Nat} {f : Nat → Int} (h : Jr w v n f) (hb : Below w.heap.size w w') : Jr w' v n f := Sv.below h hb
theorem Ir.jr {w : World} {v : Value} {n : Nat} {f : Nat → Int} (h : Ir w v n f) : Jr w v n f := St.sv h
/-- A matrix of ints that came in. -/
def Jm (w : World) (v : Value) (r : Nat) (l : Nat → Nat) (M : Nat → Nat → Int) : Prop := ∃ rows : Nat → Value, Sv w v r rows r ∧ ∀ i, i < r → Jr w (rows i) (l i) (M i)
theorem Jm.below {w w' : World} {v : Value} {r : Nat} {l : Nat → Nat} {M : Nat → Nat → Int} (h : Jm w v r l M) (hb : Below w.heap.size w w') : Jm w' v r l M := by
  obtain ⟨rows, h1, h2⟩ := h
  exact ⟨rows, h1.below hb, fun i hi => (h2 i hi).below hb⟩
theorem Im.jm {w : World} {v : Value} {r : Nat} {l : Nat → Nat} {M : Nat → Nat → Int} (h : Im w v r l M) : Jm w v r l M := by
  obtain ⟨rows, h1, h2⟩ := h
  exact ⟨rows, h1.sv, fun i hi => (h2 i hi).jr⟩
theorem Sv.form {w : World} {v : Value} {l : Nat} {f : Nat → Value} {n : Nat} (h : Sv w v l f n) : ∃ p c, v = .slice p l c := by
  obtain ⟨p, c, e, _⟩ := h; exact ⟨p, c, e⟩
theorem Ir.form {w : World} {v : Value} {n : Nat} {f : Nat → Int} (h : Ir w v n f) : ∃ p c, v = .slice p n c := h.jr.form
section
attribute [local irreducible] Calls lv
end
theorem push_ir {W W3 : World} {base k : Nat} {v x : Value} {us : List Value} {rows : Nat → Value} {o : Obj} {l : Nat → Nat} {M : Nat → Nat → Int} (hown : W.ownsRow base 50 1 v k us) (hgrow : (W.alloc o).grownBy W3 v.ownBlock) (hR : ∀ i, i < k → Ir W (rows i) (l i) (M i)) (hx : Ir W x (l k) (M k)) : ∀ i, i < k + 1 → Ir W3 ((fun i => if i = k then x else rows i) i) (l i) (M i) :=
  push_all (by decide) hown hgrow hR hx
section
attribute [local irreducible] Calls lv Ir Jr
end
end Go.Proofs.Ytmjobnabnkiakaa
