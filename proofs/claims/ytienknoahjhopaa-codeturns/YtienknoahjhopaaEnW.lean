/-
  CodeEncodes: the walk.
-/
import Derived.Test.YtienknoahjhopaaEn
import Derived.Test.YtienknoahjhopaaTy
import Derived.Test.YtienknoahjhopaaNw
namespace Go.Proofs.Ytienknoahjhopaa
open Go.RowKit
theorem nm_none (w : World) : NmE w (.slice none 0 0) 0 (fun _ => 0) (fun _ _ => 0#8) := ⟨fun _ => .bool false, ⟨none, 0, rfl, .inl rfl⟩, fun i hi => by omega⟩
theorem nm_len {w : World} {v : Value} {r n : Nat} {L : Nat → Nat} {N : Nat → Nat → BitVec 8} (h : NmE w v r L N) (e : ∀ i, i < r → L i = n) : NmE w v r (fun _ => n) N := by
  obtain ⟨rows, h1, h2⟩ := h
  exact ⟨rows, h1, fun i hi => by have h3 := h2 i hi; rw [e i hi] at h3; exact h3⟩
section
attribute [local irreducible] Calls NmE NrE Cd Fac mm Bm Lnt Lm
end
section
attribute [local irreducible] Calls
end
end Go.Proofs.Ytienknoahjhopaa
