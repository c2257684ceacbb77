/-
  Most of floating-point numbers.
-/
import Derived.Test.YtgconfcijmemmaaFe16
import Derived.Laws.IdiomCopy
namespace Go.Proofs.Ytgconfcijmemmaa
open Go.RowKit Go.Shelf
attribute [local go_sem] Oper.semAt_some
/-- What turns outside of some blocks: nothing. -/
structure TnF (F : Nat → Prop) (w w' : World) : Prop where
  os : w'.os = w.os
  tape : w'.tape = w.tape
  output : w'.output = w.output
  size : w.heap.size ≤ w'.heap.size
  block : ∀ k, k < w.heap.size → ¬ F k → w'.heap[k]? = w.heap[k]?
theorem TnF.refl (F : Nat → Prop) (w : World) : TnF F w w := ⟨rfl, rfl, rfl, Nat.le_refl _, fun _ _ _ => rfl⟩
theorem TnF.trans {F : Nat → Prop} {a b c : World} (h : TnF F a b) (k : TnF F b c) : TnF F a c :=
  ⟨k.os.trans h.os, k.tape.trans h.tape, k.output.trans h.output, Nat.le_trans h.size k.size, fun i hi hF => (k.block i (Nat.lt_of_lt_of_le hi h.size) hF).trans (h.block i hi hF)⟩
theorem TnF.grown {F : Nat → Prop} {w w' : World} {r : Option Nat} (h : w.grownBy w' r) (hr : ∀ g, r = some g → F g) : TnF F w w' := ⟨h.os, h.tape, h.output, h.size, fun k hk hF => h.block k hk (fun e => hF (hr k e.symm))⟩
theorem TnF.setCell {F : Nat → Prop} (w : World) (a : Addr) (h : F a.block) (u : Value) : TnF F w (w.setCell a u) := ⟨rfl, rfl, rfl, by simp [World.setCell], fun k _ hF => Below.heap_setCell _ _ _ _ (fun e => hF (e ▸ h))⟩
/-- What a round keeps. -/
structure Bt3 (N s : Nat) (A B : World) : Prop where
  block : ∀ k, k < N → ¬ (s ≤ k ∧ k < s + 3) → B.heap[k]? = A.heap[k]?
theorem Bt3.trans {N s : Nat} {A B C : World} (h : Bt3 N s A B) (k : Bt3 N s B C) : Bt3 N s A C := ⟨fun i h1 h2 => (k.block i h1 h2).trans (h.block i h1 h2)⟩
theorem Bt3.cell {N s : Nat} {A B : World} (h : Bt3 N s A B) {p : Addr} (h1 : p.block < N) (h2 : ¬ (s ≤ p.block ∧ p.block < s + 3)) : B.cell? p = A.cell? p := World.cell?_of_block (w := A) (h.block p.block h1 h2)
theorem set_row {w : World} {b : Nat} {v : Value} {t : TypeId} (h : w.heap[b]? = some (.cells #[v] t (0, 0))) (u : Value) : (w.setCell ⟨b, 0, none⟩ u).heap[b]? = some (.cells #[u] t (0, 0)) := by
  rw [heap_setCell_same w b 0 _ _ _ h]; rfl
theorem str_one {w : World} {b : Nat} {u v : Value} (hc : w.cell? ⟨b, 0, none⟩ = some u) (hf : w.frozen? ⟨b, 0, none⟩ = false) (h1 : v.oneCell' = true) : (storeCells ⟨b, 0, none⟩ [v]).run Try.prog w = .ok () (w.setCell ⟨b, 0, none⟩ v) :=
  run_storeCells_cells (P := Try.prog) b 0 [v] 0 w (fun j hj => by
    obtain rfl : j = 0 := by simpa using hj
    simp [hc]) (fun j hj => by
    obtain rfl : j = 0 := by simpa using hj
    simpa using hf) (fun u hu => by rw [List.mem_singleton.1 hu]; exact h1)
section
attribute [local irreducible] Calls
end
end Go.Proofs.Ytgconfcijmemmaa
