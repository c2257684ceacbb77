/-
  'Powers': the program's.
-/
import Derived.Test.YtchmggehbajebaaFk
import Derived.Test.YtchmggehbajebaaRp
namespace Go.Proofs.Ytchmggehbajebaa
open Go.RowKit
theorem fill_if {α : Type} (P : Nat → Nat → α) (z : α) (k t i j : Nat) : (if i = k then (if j = t then P k t else (if i < k then P i j else if i = k ∧ j < t then P i j else z)) else (if i < k then P i j else if i = k ∧ j < t then P i j else z)) = (if i < k then P i j else if i = k ∧ j < t + 1 then P i j else z) := by
  by_cases e : i = k
  · subst e
    rw [if_pos rfl, if_neg (Nat.lt_irrefl i), if_neg (Nat.lt_irrefl i)]
    by_cases e2 : j = t
    · subst e2; rw [if_pos rfl, if_pos ⟨rfl, Nat.lt_succ_self j⟩]
    · rw [if_neg e2]
      by_cases e3 : j < t
      · rw [if_pos ⟨rfl, e3⟩, if_pos ⟨rfl, Nat.lt_succ_of_lt e3⟩]
      · rw [if_neg (fun h => e3 h.2), if_neg (fun h => by have := h.2; omega)]
  · rw [if_neg e]
    by_cases e2 : i < k
    · rw [if_pos e2, if_pos e2]
    · rw [if_neg e2, if_neg e2, if_neg (fun h => e h.1), if_neg (fun h => e h.1)]
section
attribute [local irreducible] Calls
end
section
attribute [local irreducible] Calls
end
section
attribute [local irreducible] Calls
end
section
attribute [local irreducible] Calls el Ov GmE pwk
end
section
attribute [local irreducible] Calls el Ov GmB pwk
end
end Go.Proofs.Ytchmggehbajebaa
