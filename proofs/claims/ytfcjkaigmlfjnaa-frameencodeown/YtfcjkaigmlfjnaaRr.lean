/-
  Readings: 'reading' and its deferred function.
-/
import Derived.Test.YtfcjkaigmlfjnaaRx
import Derived.Defers
import Derived.Recover
namespace Go.Proofs.Ytfcjkaigmlfjnaa
open Go.RowKit
/-- A reader: what is left, and its fault. -/
def Rdr (w : World) (r : Nat) (bs : List (BitVec 8)) (f : Int) : Prop := ∃ v, w.heap[r]? = some (.cells #[v, .int .i64 f] 94 (0, 0)) ∧ Sq w v bs ∧ ∀ b, v.ownBlock = some b → b < r
theorem Rdr.nb {w : World} {r : Nat} {bs : List (BitVec 8)} {f : Int} (h : Rdr w r bs f) : Nb w r := by
  obtain ⟨v, hg, hs, _⟩ := h
  refine nb_of hg (fun i z e => ?_)
  match i with
  | 0 => simp at e; exact sq_nint hs z e
  | 1 => simp at e
  | i + 2 => simp at e
theorem Nb.heap {w w' : World} {g : Nat} (h : Nb w g) (e : w'.heap[g]? = w.heap[g]?) : Nb w' g := by
  intro i z hc
  exact h i z (by rw [← hc]; exact (World.cell?_of_block (a := ⟨g, i, none⟩) e).symm)
theorem Rdr.lt {w : World} {r : Nat} {bs : List (BitVec 8)} {f : Int} (h : Rdr w r bs f) : r < w.heap.size := by
  obtain ⟨v, hg, hs, _⟩ := h
  rcases Nat.lt_or_ge r w.heap.size with h1 | h1
  · exact h1
  · rw [Array.getElem?_eq_none h1] at hg; cases hg
theorem Rdr.below {w w' : World} {r : Nat} {bs : List (BitVec 8)} {f : Int} (h : Rdr w r bs f) (hb : Below w.heap.size w w') : Rdr w' r bs f := by
  have hl := h.lt
  obtain ⟨v, hg, hs, hv⟩ := h
  exact ⟨v, by rw [hb.block r hl]; exact hg, hs.below hb, hv⟩
theorem Rdr.kept {w w' : World} {r g : Nat} {bs : List (BitVec 8)} {f : Int} (h : Rdr w r bs f) (hne : r ≠ g) (hb : Nb w g) (hg : w.grownBy w' (some g)) : Rdr w' r bs f := by
  have hl := h.lt
  obtain ⟨v, hh, hs, hv⟩ := h
  exact ⟨v, by rw [hg.block r hl (fun e => hne (by injection e))]; exact hh, hs.kept hb hg, hv⟩
/-- What a reading comes to at the reader's face. -/
def Face {α : Type} (w : World) (r : Nat) (bs : List (BitVec 8)) (z : Value) (f : α → World → Value → Prop) (R : Ans α) (e : Ending) (w' : World) : Prop :=
  w.grownBy w' (some r) ∧ match R with
  | .error c => e = .returned z ∧ Rdr w' r bs c
  | .ok (a, l) => ∃ v, e = .returned v ∧ f a w' v ∧ Rdr w' r l 0
theorem alloc_size (w : World) (o : Obj) : (w.alloc o).heap.size = w.heap.size + 1 := Array.size_push ..
theorem two_new (w : World) (o1 o2 : Obj) (W : World) (e : W = (w.alloc o1).alloc o2) : Below w.heap.size w W ∧ W.heap[w.heap.size]? = some o1 ∧ W.heap[w.heap.size + 1]? = some o2 ∧ W.heap.size = w.heap.size + 2 := by
  have al : ∀ (W : World) (o : Obj), Below W.heap.size W (W.alloc o) := fun W o => (Below.refl _ _).alloc (Nat.le_refl _) o
  subst e
  refine ⟨bt (al _ _) (al _ _), ?_, ?_, by rw [alloc_size, alloc_size]⟩
  · rw [(al (w.alloc o1) o2).block w.heap.size (by rw [alloc_size]; omega)]
    exact heap_alloc_new _ _
  · rw [← alloc_size w o1]; exact heap_alloc_new _ _
theorem ta_errno (c : Int) (w : World) : (Instr.typeAssert (.iface 36 (.int .i64 c)) 20 36 true).run Try.prog w = .ok (.tuple #[.int .i64 c, .bool true]) w := by kernel_rfl
theorem ta_nil (w : World) : (Instr.typeAssert .nilIface 20 36 true).run Try.prog w = .ok (.tuple #[.int .i64 0, .bool false]) w := by kernel_rfl
theorem set_fault {w : World} {r : Nat} {v : Value} {f c : Int} {bs : List (BitVec 8)} (hr : w.heap[r]? = some (.cells #[v, .int .i64 f] 94 (0, 0))) (hb : Nb w r) (hs : Sq w v bs) (hv : ∀ b, v.ownBlock = some b → b < r) : Rdr (w.setCell ⟨r, 1, none⟩ (.int .i64 c)) r bs c :=
  ⟨v, heap_setCell_same w r 1 _ _ _ hr, hs.kept hb (grown_set w r 1 _), hv⟩
theorem set_left {w : World} {r : Nat} {u v : Value} {f : Int} {bs : List (BitVec 8)} (hr : w.heap[r]? = some (.cells #[u, .int .i64 f] 94 (0, 0))) (hb : Nb w r) (hs : Sq w v bs) (hv : ∀ b, v.ownBlock = some b → b < r) : Rdr (w.setCell ⟨r, 0, none⟩ v) r bs f :=
  ⟨v, heap_setCell_same w r 0 _ _ _ hr, hs.kept hb (grown_set w r 0 _), hv⟩
/-- Blocks that are new are nothing to what was there. -/
theorem grown_new {w w1 w2 : World} {r g : Nat} (h : w.grownBy w1 (some r)) (hg : w.heap.size ≤ g) (k : w1.grownBy w2 (some g)) : w.grownBy w2 (some r) :=
  ⟨k.os.trans h.os, k.tape.trans h.tape, k.output.trans h.output, Nat.le_trans h.size k.size, fun i hi hne => (k.block i (Nat.lt_of_lt_of_le hi h.size) (fun e => by injection e; omega)).trans (h.block i hi hne)⟩
section
attribute [local irreducible] Calls el
set_option maxRecDepth 1000000 in
theorem fault_any {w : World} {r : Nat} {bs : List (BitVec 8)} {f : Int} (h : Rdr w r bs f) : Calls Try.prog 60 #[.pointer (some ⟨r, 0, none⟩)] w fun e w' => e = .returned (.int .i64 f) ∧ w' = w := by
  obtain ⟨v, hg, hs, _⟩ := h
  have h1 : w.cell? ⟨r, 1, none⟩ = some (.int .i64 f) := cell_of_row w r 1 _ _ (0, 0) hg
  go_enter Try.func60, Try.ntmps60
  go_wp2
  go_ret
  exact ⟨rfl, rfl⟩
set_option maxRecDepth 1000000 in
theorem fault_nil (w : World) : Calls Try.prog 60 #[.pointer none] w fun e w' => e = .returned (.int .i64 1) ∧ w' = w := by
  go_enter Try.func60, Try.ntmps60
  go_wp2
  go_ret
  exact ⟨rfl, rfl⟩
/-- What End answers. -/
def en (n : Nat) (f : Int) : Int := if f = 0 then (if n = 0 then 0 else 72) else f
end
end Go.Proofs.Ytfcjkaigmlfjnaa
