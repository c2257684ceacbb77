/-
  The laws' own helpers: 'size', 'low', 'elem', 'bit', 'four', 'like..'.
-/
import Derived.Test.YtmjobnabnkiakaaKn
import Derived.Test.YtmjobnabnkiakaaRi
namespace Go.Proofs.Ytmjobnabnkiakaa
open Go.RowKit
theorem low_eq {s : Int} (n : Int) (h : s = 256 ∨ s = 2 ∨ s = 4) : (wrap64 (n.tmod s + s)).tmod s = n % s := by
  have hs : 0 < s := by omega
  have b2 : n.tmod s < s := Int.tmod_lt_of_pos n hs
  have b1 : -s < n.tmod s := Int.lt_tmod_of_pos n hs
  have e1 : wrap64 (n.tmod s + s) = n.tmod s + s := by unfold wrap64; omega
  rw [e1, Int.tmod_eq_emod_of_nonneg (by omega), Int.add_emod_right]
  rcases Int.le_total 0 n with h0 | h0
  · rw [Int.tmod_eq_emod_of_nonneg h0, Int.emod_emod_of_dvd n (Int.dvd_refl s)]
  · have := Int.tmod_add_mul_tdiv n s
    have e : n.tmod s = n + s * (-(n.tdiv s)) := by rw [Int.mul_neg]; omega
    rw [e, Int.add_mul_emod_self_left]
section
attribute [local irreducible] Calls el nuE
end
/-- A row of numbers that reads so. -/
def NrE (w : World) (v : Value) (n : Nat) (f : Nat → BitVec 8) : Prop := Sv w v n (clE f) n
theorem NrE.below {w w' : World} {v : Value} {n : Nat} {f : Nat → BitVec 8} (h : NrE w v n f) (hb : Below w.heap.size w w') : NrE w' v n f := Sv.below h hb
/-- A matrix of numbers that reads so. -/
def NmE (w : World) (v : Value) (r : Nat) (l : Nat → Nat) (N : Nat → Nat → BitVec 8) : Prop := ∃ rows : Nat → Value, Sv w v r rows r ∧ ∀ i, i < r → NrE w (rows i) (l i) (N i)
theorem NmE.below {w w' : World} {v : Value} {r : Nat} {l : Nat → Nat} {N : Nat → Nat → BitVec 8} (h : NmE w v r l N) (hb : Below w.heap.size w w') : NmE w' v r l N := by
  obtain ⟨rows, h1, h2⟩ := h
  exact ⟨rows, h1.below hb, fun i hi => (h2 i hi).below hb⟩
theorem NmE.nil (w : World) (l : Nat → Nat) (N : Nat → Nat → BitVec 8) : NmE w (.slice none 0 0) 0 l N := ⟨fun _ => .bool false, ⟨none, 0, rfl, .inl rfl⟩, fun i hi => by omega⟩
theorem GxE.nm {b : Nat} {w : World} {v : Value} {r l : Nat} {N : Nat → Nat → BitVec 8} (h : GxE b w v r l N) : NmE w v r (fun _ => l) N := by
  obtain ⟨B, ρ, rfl, h, _, _⟩ := h
  exact ⟨_, ((Gr.out h).st r r).sv, fun i hi => ((Gr.row h i hi).st l l).sv⟩
section
attribute [local irreducible] Calls el nuE NrE Ir
end
section
attribute [local irreducible] Calls el nuB
end
/-- A row of numbers that reads so. -/
def NrB (w : World) (v : Value) (n : Nat) (f : Nat → Bool) : Prop := Sv w v n (clB f) n
theorem NrB.below {w w' : World} {v : Value} {n : Nat} {f : Nat → Bool} (h : NrB w v n f) (hb : Below w.heap.size w w') : NrB w' v n f := Sv.below h hb
/-- A matrix of numbers that reads so. -/
def NmB (w : World) (v : Value) (r : Nat) (l : Nat → Nat) (N : Nat → Nat → Bool) : Prop := ∃ rows : Nat → Value, Sv w v r rows r ∧ ∀ i, i < r → NrB w (rows i) (l i) (N i)
theorem NmB.below {w w' : World} {v : Value} {r : Nat} {l : Nat → Nat} {N : Nat → Nat → Bool} (h : NmB w v r l N) (hb : Below w.heap.size w w') : NmB w' v r l N := by
  obtain ⟨rows, h1, h2⟩ := h
  exact ⟨rows, h1.below hb, fun i hi => (h2 i hi).below hb⟩
theorem NmB.nil (w : World) (l : Nat → Nat) (N : Nat → Nat → Bool) : NmB w (.slice none 0 0) 0 l N := ⟨fun _ => .bool false, ⟨none, 0, rfl, .inl rfl⟩, fun i hi => by omega⟩
section
attribute [local irreducible] Calls el nuB NrB Ir
end
section
attribute [local irreducible] Calls el nuF
end
/-- A row of numbers that reads so. -/
def NrF (w : World) (v : Value) (n : Nat) (f : Nat → (Bool × Bool)) : Prop := Sv w v n (clF f) (n * 2)
theorem NrF.below {w w' : World} {v : Value} {n : Nat} {f : Nat → (Bool × Bool)} (h : NrF w v n f) (hb : Below w.heap.size w w') : NrF w' v n f := Sv.below h hb
/-- A matrix of numbers that reads so. -/
def NmF (w : World) (v : Value) (r : Nat) (l : Nat → Nat) (N : Nat → Nat → (Bool × Bool)) : Prop := ∃ rows : Nat → Value, Sv w v r rows r ∧ ∀ i, i < r → NrF w (rows i) (l i) (N i)
theorem NmF.below {w w' : World} {v : Value} {r : Nat} {l : Nat → Nat} {N : Nat → Nat → (Bool × Bool)} (h : NmF w v r l N) (hb : Below w.heap.size w w') : NmF w' v r l N := by
  obtain ⟨rows, h1, h2⟩ := h
  exact ⟨rows, h1.below hb, fun i hi => (h2 i hi).below hb⟩
theorem NmF.nil (w : World) (l : Nat → Nat) (N : Nat → Nat → (Bool × Bool)) : NmF w (.slice none 0 0) 0 l N := ⟨fun _ => .bool false, ⟨none, 0, rfl, .inl rfl⟩, fun i hi => by omega⟩
section
attribute [local irreducible] Calls el nuF NrF Ir
end
end Go.Proofs.Ytmjobnabnkiakaa
