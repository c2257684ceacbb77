/-
  Rows that are read: 'same', 'Dot'.
-/
import Derived.Test.YtgokkppojhokbaaFld
import Derived.Deep.QuietTactic
import Derived.BigQuiet
namespace Go.Proofs.Ytgokkppojhokbaa
open Go.RowKit

/-- The slice at this address reads as these elements. -/
def Rd (w : World) (a : Option Addr) (xs : List (BitVec 8)) : Prop :=
  xs = [] ∨ ∃ b off, a = some ⟨b, off, none⟩ ∧ ∀ i, i < xs.length → w.cell? ⟨b, off + i, none⟩ = some (.int .u8 (el (xs.getD i 0#8)))
theorem cell_below {w w' : World} {p : Addr} {v : Value} (h : w.cell? p = some v) (hb : Below w.heap.size w w') : w'.cell? p = some v := by
  rw [hb.cell (p := p) (block_lt_of_cell h)]; exact h
theorem Rd.below {w w' : World} {a : Option Addr} {xs : List (BitVec 8)} (h : Rd w a xs) (hb : Below w.heap.size w w') : Rd w' a xs := by
  rcases h with h | ⟨b, off, ha, hc⟩
  · exact .inl h
  · exact .inr ⟨b, off, ha, fun i hi => cell_below (hc i hi) hb⟩

/-- The sum of f 0 to f (k - 1). -/
def xs0 (f : Nat → BitVec 8) : Nat → BitVec 8
  | 0 => 0#8
  | k + 1 => xs0 f k ^^^ f k
theorem xs0_congr {f g : Nat → BitVec 8} {n : Nat} (h : ∀ i, i < n → f i = g i) : xs0 f n = xs0 g n := by
  induction n with
  | zero => rfl
  | succ n ih => unfold xs0; rw [ih (fun i hi => h i (by omega)), h n (by omega)]
theorem xs0_xor (f g : Nat → BitVec 8) (n : Nat) : xs0 (fun i => f i ^^^ g i) n = xs0 f n ^^^ xs0 g n := by
  induction n with
  | zero => simp [xs0]
  | succ n ih => unfold xs0; rw [ih, xor4]
end Go.Proofs.Ytgokkppojhokbaa
