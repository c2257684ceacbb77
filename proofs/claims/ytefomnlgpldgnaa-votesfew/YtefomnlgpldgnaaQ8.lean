/-
  Package frame: what may be: 'within', 'shapeMayBe', 'checkSize', 'Check'.
-/
import Derived.Test.YtefomnlgpldgnaaM8
import Derived.Test.YtefomnlgpldgnaaKs
namespace Go.Proofs.Ytefomnlgpldgnaa
open Go.RowKit
/-- A whole number of 64 bits. -/
def In64 (z : Int) : Prop := -9223372036854775808 ≤ z ∧ z ≤ 9223372036854775807
/-- A shape's cells; a head's. -/
def shC (k m b : Int) : Array Value := #[.int .i64 k, .int .i64 m, .int .i64 b]
def Hd.cs (h : Hd) : Array Value := #[.int .u8 (el h.a0), .int .u8 (el h.a1), .int .u8 (el h.a2), .int .u8 (el h.a3), .int .u8 (el h.a4), .int .u8 (el h.a5), .int .u8 (el h.a6), .int .u8 (el h.a7),
  .int .i64 h.k, .int .i64 h.m, .int .i64 h.b, .string (bstr h.key), .int .i64 h.sz, .int .i64 h.ix, .int .i64 h.ep, .int .i64 h.ct]
structure Hd.In (h : Hd) : Prop where
  k : In64 h.k
  m : In64 h.m
  b : In64 h.b
  sz : In64 h.sz
  ix : In64 h.ix
  ep : In64 h.ep
  ct : In64 h.ct
def shB (k m b : Int) : Bool := decide (1 ≤ m ∧ m ≤ k) && (decide (k ≤ 255 - m) && decide (1 ≤ b ∧ b ≤ 65536))
theorem shB_iff (k m b : Int) : shB k m b = true ↔ shp k m b := by unfold shB shp; simp
/-- A head in memory. -/
def HdAt (w : World) (g : Nat) (h : Hd) : Prop := w.heap[g]? = some (.cells h.cs 33)
theorem HdAt.lt {w : World} {g : Nat} {h : Hd} (H : HdAt w g h) : g < w.heap.size := by
  rcases Nat.lt_or_ge g w.heap.size with h1 | h1
  · exact h1
  · unfold HdAt at H; rw [Array.getElem?_eq_none h1] at H; cases H
theorem HdAt.below {w w' : World} {g : Nat} {h : Hd} (H : HdAt w g h) (hb : Below w.heap.size w w') : HdAt w' g h := by
  have hl := H.lt
  unfold HdAt at H ⊢
  rw [hb.block g hl]; exact H
theorem HdAt.new (w : World) (h : Hd) : HdAt (w.alloc (.cells h.cs 33)) w.heap.size h := heap_alloc_new w _
theorem HdAt.cells {w : World} {g : Nat} {h : Hd} (H : HdAt w g h) : w.cell? ⟨g, 8, none⟩ = some (.int .i64 h.k) ∧ w.cell? ⟨g, 9, none⟩ = some (.int .i64 h.m) ∧ w.cell? ⟨g, 10, none⟩ = some (.int .i64 h.b) ∧ w.cell? ⟨g, 11, none⟩ = some (.string (bstr h.key))
    ∧ w.cell? ⟨g, 12, none⟩ = some (.int .i64 h.sz) ∧ w.cell? ⟨g, 13, none⟩ = some (.int .i64 h.ix) ∧ w.cell? ⟨g, 14, none⟩ = some (.int .i64 h.ep) ∧ w.cell? ⟨g, 15, none⟩ = some (.int .i64 h.ct) := by
  unfold HdAt at H
  have c := fun i => cell_of_row w g i _ _ (0, 0) H
  exact ⟨c 8, c 9, c 10, c 11, c 12, c 13, c 14, c 15⟩
section
attribute [local irreducible] Calls el
theorem kb_bd {k m b : Int} (hs : shp k m b) : 1 ≤ k * b ∧ k * b ≤ 16711680 := by
  unfold shp at hs
  have h1 : 1 * 1 ≤ k * b := Int.mul_le_mul (by omega) (by omega) (by omega) (by omega)
  have h2 : k * b ≤ 255 * 65536 := Int.mul_le_mul (by omega) (by omega) (by omega) (by omega)
  omega
theorem szE_bd (k b sz : Int) : 0 ≤ szE k b sz ∧ szE k b sz ≤ 3 := by unfold szE; split <;> (try split) <;> omega
end
end Go.Proofs.Ytefomnlgpldgnaa
