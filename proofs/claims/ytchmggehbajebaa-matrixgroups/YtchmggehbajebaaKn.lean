/-
  'sizeFault', 'Identity'.
-/
import Derived.Test.YtchmggehbajebaaKb
namespace Go.Proofs.Ytchmggehbajebaa
open Go.RowKit
theorem sizeFault_neg (n : Int) (h : n < 0) (w : World) : Calls Try.prog 66 #[.int .i64 n] w fun e w' => e = .returned (.int .i64 2) ∧ w' = w := by
  go_enter Try.func66, Try.ntmps66
  go_wp2
  go_ret
  exact ⟨rfl, rfl⟩
theorem sizeFault_big (n : Int) (h : 255 < n) (w : World) : Calls Try.prog 66 #[.int .i64 n] w fun e w' => e = .returned (.int .i64 3) ∧ w' = w := by
  have h2 : ¬ n < 0 := by omega
  go_enter Try.func66, Try.ntmps66
  go_wp2
  go_ret
  exact ⟨rfl, rfl⟩
theorem sizeFault_ok (n : Nat) (h : n ≤ 255) (w : World) : Calls Try.prog 66 #[.int .i64 (n : Int)] w fun e w' => e = .returned (.int .i64 0) ∧ w' = w := by
  have h2 : ¬ (n : Int) < 0 := by omega
  have h3 : ¬ 255 < (n : Int) := by omega
  go_enter Try.func66, Try.ntmps66
  go_wp2
  go_ret
  exact ⟨rfl, rfl⟩
section
attribute [local irreducible] Calls el Ov GmE
end
section
attribute [local irreducible] Calls el Ov GmB
end
section
attribute [local irreducible] Calls el Ov GmF
end
end Go.Proofs.Ytchmggehbajebaa
