/-
  NamingOwn: mark.
-/
import Derived.Test.YtkljlfhplnoldaaNx
import Derived.Laws.Concat
namespace Go.Proofs.Ytkljlfhplnoldaa
open Go.RowKit Go.Maps Go.Sort
/-- A mark of the list i: within it, or behind it. -/
def mk (i : Nat) (b : Bool) : Tx := if b then [105, 110, UInt8.ofNat (65 + i % 60)] else [98, 101, 104, 105, 110, 100, UInt8.ofNat (65 + i % 60)]
section
attribute [local irreducible] Calls
set_option maxHeartbeats 4000000 in
set_option maxRecDepth 1000000 in
theorem mark_any (i : Nat) (hi : i < 60) (b : Bool) (w : World) : Calls Try.prog 12 #[.int .i64 (i : Int), .bool b] w fun e w' => e = .returned (encStr (mk i b)) ∧ Below w.heap.size w w' := by
  have hm : ((i : Int) % 60) = (i : Int) := by omega
  have hcv : ∀ w : World, (convert 45 9 (.slice (some ⟨w.heap.size, 0, none⟩) 1 1)).run Try.prog (w.alloc (.cells #[.int .u8 (65 + (i : Int))] 5)) = .ok (encStr [UInt8.ofNat (65 + i % 60)]) (w.alloc (.cells #[.int .u8 (65 + (i : Int))] 5)) := fun w => by
    refine conv_at (fun j hj => ?_) 1 1 rfl
    have : j = 0 := by simp at hj; exact hj
    subst this
    rw [cell_of_row _ _ _ _ _ (0, 0) (heap_alloc_new w _)]
    simp [u8v]
    omega
  have h1 : ∀ w, (Op.stringOp .add ⟨#[105, 110]⟩ ⟨[UInt8.ofNat (65 + i % 60)].toArray⟩).run Try.prog w = .ok (encStr (mk i true)) w := fun w => run_string_add_lists w [105, 110] _ (by simp) (by simp)
  have h2 : ∀ w, (Op.stringOp .add ⟨#[98, 101, 104, 105, 110, 100]⟩ ⟨[UInt8.ofNat (65 + i % 60)].toArray⟩).run Try.prog w = .ok (encStr (mk i false)) w := fun w => run_string_add_lists w [98, 101, 104, 105, 110, 100] _ (by simp) (by simp)
  generalize [UInt8.ofNat (65 + i % 60)] = u at hcv h1 h2
  have hi2 : (i : Int) < 60 := by omega
  cases b with
  | true =>
    go_enter Try.func12, Try.ntmps12
    go_wp2
    go_ret
    exact ⟨rfl, (Below.refl _ _).alloc (Nat.le_refl _) _⟩
  | false =>
    go_enter Try.func12, Try.ntmps12
    go_wp2
    go_ret
    exact ⟨rfl, (Below.refl _ _).alloc (Nat.le_refl _) _⟩
end
end Go.Proofs.Ytkljlfhplnoldaa
