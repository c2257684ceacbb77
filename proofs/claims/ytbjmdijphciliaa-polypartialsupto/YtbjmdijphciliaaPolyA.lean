/-
  The calls, at whatever slice: Trim, Degree, At.
-/
import Derived.Test.YtbjmdijphciliaaPAt
namespace Go.Proofs.Ytbjmdijphciliaa
open Go.RowKit

theorem pdegree_any {w : World} {v : Value} {xs : List (BitVec 8)} (h : Sl w v xs) (hn : xs.length ≤ 281474976710656) :
    Calls Try.prog 14 #[v] w fun e w' => e = .returned (.int .i64 (((trim xs).length : Int) - 1)) ∧ w' = w := by
  obtain ⟨p, c, rfl, _, _, hr, _⟩ := h
  exact degree_any hr _ c rfl hn
theorem pat_any {w : World} {v : Value} {xs : List (BitVec 8)} (h : Sl w v xs) (hn : xs.length ≤ 281474976710656) (x : BitVec 8) :
    Calls Try.prog 44 #[v, .int .u8 (el x)] w fun e w' => e = .returned (.int .u8 (el (ev x xs))) ∧ Below w.heap.size w w' := by
  obtain ⟨p, c, rfl, _, _, hr, _⟩ := h
  exact at_any hr _ c rfl hn x
theorem ptrim_own {w : World} {v : Value} {xs : List (BitVec 8)} (h : Sl w v xs) (hn : xs.length ≤ 281474976710656) :
    Calls Try.prog 23 #[v] w fun e w' => e = .returned (.slice (some ⟨w.heap.size, 0, none⟩) (trim xs).length (trim xs).length) ∧ Own w' 48 w.heap.size (co xs) (trim xs).length ∧ Below w.heap.size w w' := by
  obtain ⟨p, c, rfl, _, _, hr, _⟩ := h
  exact trim_core p _ c xs w hr rfl hn
theorem ptrim_any {w : World} {v : Value} {xs : List (BitVec 8)} (h : Sl w v xs) (hn : xs.length ≤ 281474976710656) :
    Calls Try.prog 23 #[v] w fun e w' => ∃ v', e = .returned v' ∧ Rs 48 w.heap.size w' v' (trim xs) ∧ Below w.heap.size w w' := by
  refine (ptrim_own h hn).mono fun e w' ⟨he, ho, hb⟩ => ⟨_, he, ?_, hb⟩
  exact ho.rs (Nat.le_refl _) (Nat.le_trans (trim_len xs) hn) (Nat.le_refl _) (fun i _ => (co_trim xs i).symm)
end Go.Proofs.Ytbjmdijphciliaa
