/-
  The bits of a number (seat aa).
-/
import Derived.Test.YtcfjinpjijcheaaFx27
import Derived.Laws.Externs
namespace Go.Proofs.Ytcfjinpjijcheaa
open Go.RowKit
theorem run_bits32 (x : Nat) (W : World) : (callFunc 48 #[.float .f32 x]).run Try.prog W = .ok (.value (.int .u32 (x : Int))) W := by kernel_rfl
theorem run_from32 (x : Int) (W : World) : (callFunc 51 #[.int .u32 x]).run Try.prog W = .ok (.value (.float .f32 x.toNat)) W := by kernel_rfl
theorem run_bits64 (x : Nat) (W : World) : (callFunc 58 #[.float .f64 x]).run Try.prog W = .ok (.value (.int .u64 (x : Int))) W := by kernel_rfl
end Go.Proofs.Ytcfjinpjijcheaa
