/-
  MatrixIdentities: the walk.
-/
import Derived.Test.YtmjobnabnkiakaaLk
namespace Go.Proofs.Ytmjobnabnkiakaa
open Go.RowKit
def ic (n : Int) : Int := if n < 0 then 2 else if 255 < n then 3 else 0
def ir (n : Int) : Nat := if n < 0 then 0 else if 255 < n then 0 else n.toNat
theorem ir_le (n : Int) : ir n ≤ 1000 := by unfold ir; split; omega; split <;> omega
theorem nuE_sur (z : Int) : ∃ x, nuE x = z % 256 := by
  obtain ⟨x, hx⟩ := el_of (z % 256) (by omega) (by omega)
  exact ⟨x, hx.symm⟩
theorem nuB_sur (z : Int) : ∃ x, nuB x = z % 2 := by
  have : z % 2 = 0 ∨ z % 2 = 1 := by omega
  rcases this with h | h
  · exact ⟨false, by rw [h]; rfl⟩
  · exact ⟨true, by rw [h]; rfl⟩
theorem nuF_sur (z : Int) : ∃ x, nuF x = z % 4 := by
  have : z % 4 = 0 ∨ z % 4 = 1 ∨ z % 4 = 2 ∨ z % 4 = 3 := by omega
  rcases this with h | h | h | h
  · exact ⟨(false, false), by rw [h]; rfl⟩
  · exact ⟨(true, false), by rw [h]; rfl⟩
  · exact ⟨(false, true), by rw [h]; rfl⟩
  · exact ⟨(true, true), by rw [h]; rfl⟩
theorem Im.congr {w : World} {v : Value} {r : Nat} {l : Nat → Nat} {M M' : Nat → Nat → Int} (h : Im w v r l M) (e : ∀ i, i < r → ∀ j, j < l i → M i j = M' i j) : Im w v r l M' := by
  obtain ⟨rows, h1, h2⟩ := h
  exact ⟨rows, h1, fun i hi => (h2 i hi).congr (e i hi)⟩
theorem ask_cell (w : World) (cs : Array Value) (t : TypeId) (i : Nat) (v : Value) (h : cs[i]? = some v) : (w.alloc (.cells cs t)).cell? ⟨w.heap.size, i, none⟩ = some v := by
  rw [cell_of_row _ _ _ _ _ (0, 0) (heap_alloc_new w _)]; exact h
theorem nuE_o : nuE oE = 0 := by unfold nuE oE; first | rfl | decide
theorem identityE_any (n : Int) (x : BitVec 8) (w : World) : Calls Try.prog 55 #[.int .i64 n, vE x] w fun e w' => ∃ v, e = .returned (.tuple #[v, .int .i64 (ic n)]) ∧ NmE w' v (ir n) (fun _ => ir n) (fun i j => if i = j then x else oE) ∧ Below w.heap.size w w' := by
  by_cases h1 : n < 0
  · have e1 : ic n = 2 := by unfold ic; rw [if_pos h1]
    have e2 : ir n = 0 := by unfold ir; rw [if_pos h1]
    rw [e1, e2]
    exact (identityE_err n 2 x (sizeFault_neg n h1) (by decide) w).mono fun e w' ⟨h, hb⟩ => ⟨_, h, NmE.nil _ _ _, hb⟩
  · by_cases h2 : 255 < n
    · have e1 : ic n = 3 := by unfold ic; rw [if_neg h1, if_pos h2]
      have e2 : ir n = 0 := by unfold ir; rw [if_neg h1, if_pos h2]
      rw [e1, e2]
      exact (identityE_err n 3 x (sizeFault_big n h2) (by decide) w).mono fun e w' ⟨h, hb⟩ => ⟨_, h, NmE.nil _ _ _, hb⟩
    · have e1 : ic n = 0 := by unfold ic; rw [if_neg h1, if_neg h2]
      have e2 : ir n = n.toNat := by unfold ir; rw [if_neg h1, if_neg h2]
      obtain ⟨m, rfl⟩ : ∃ m : Nat, n = m := ⟨n.toNat, by omega⟩
      rw [e1, e2, Int.toNat_natCast]
      exact (identityE_ok m (by omega) x w).mono fun e w' ⟨v, h, hG, hb⟩ => ⟨v, h, hG.nm, hb⟩
theorem im_idE {w : World} {v : Value} {n : Nat} {x : BitVec 8} (h : Im w v n (fun _ => n) (fun i j => if i = j then nuE x else 0)) : Im w v n (fun _ => n) (fun i j => nuE (if i = j then x else oE)) :=
  h.congr (fun i _ j _ => by
    by_cases e : i = j
    · rw [if_pos e, if_pos e]
    · rw [if_neg e, if_neg e, nuE_o])
section
attribute [local irreducible] Calls el nuE NmE Im ic ir
end
theorem nuB_o : nuB oB = 0 := by unfold nuB oB; first | rfl | decide
theorem im_idB {w : World} {v : Value} {n : Nat} {x : Bool} (h : Im w v n (fun _ => n) (fun i j => if i = j then nuB x else 0)) : Im w v n (fun _ => n) (fun i j => nuB (if i = j then x else oB)) :=
  h.congr (fun i _ j _ => by
    by_cases e : i = j
    · rw [if_pos e, if_pos e]
    · rw [if_neg e, if_neg e, nuB_o])
section
attribute [local irreducible] Calls el nuB NmB Im ic ir
end
theorem nuF_o : nuF oF = 0 := by unfold nuF oF; first | rfl | decide
theorem im_idF {w : World} {v : Value} {n : Nat} {x : (Bool × Bool)} (h : Im w v n (fun _ => n) (fun i j => if i = j then nuF x else 0)) : Im w v n (fun _ => n) (fun i j => nuF (if i = j then x else oF)) :=
  h.congr (fun i _ j _ => by
    by_cases e : i = j
    · rw [if_pos e, if_pos e]
    · rw [if_neg e, if_neg e, nuF_o])
section
attribute [local irreducible] Calls el nuF NmF Im ic ir
end
end Go.Proofs.Ytmjobnabnkiakaa
