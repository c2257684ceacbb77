/-
  'Powers' at whatever points.
-/
import Derived.Test.YtchmggehbajebaaKpF
namespace Go.Proofs.Ytchmggehbajebaa
open Go.RowKit
theorem sizeFault_0 (w : World) : Calls Try.prog 66 #[.int .i64 0] w fun e w' => e = .returned (.int .i64 0) ∧ w' = w := sizeFault_ok 0 (by omega) w
theorem blank0E (c : Nat) (hc : c ≤ 1000) (w : World) : Calls Try.prog 56 #[.int .i64 0, .int .i64 c] w fun e w' => ∃ B, e = .returned (.slice (some ⟨B, 0, none⟩) 0 0) ∧ GmE w' B 0 c (fun i => B + 1 + i) (fun _ _ => oE) ∧ w.heap.size ≤ B ∧ Below w.heap.size w w' := blankxE 0 c (by omega) hc w
section
attribute [local irreducible] Calls GmE
end
theorem blank0B (c : Nat) (hc : c ≤ 1000) (w : World) : Calls Try.prog 60 #[.int .i64 0, .int .i64 c] w fun e w' => ∃ B, e = .returned (.slice (some ⟨B, 0, none⟩) 0 0) ∧ GmB w' B 0 c (fun i => B + 1 + i) (fun _ _ => oB) ∧ w.heap.size ≤ B ∧ Below w.heap.size w w' := blankxB 0 c (by omega) hc w
section
attribute [local irreducible] Calls GmB
end
theorem blank0F (c : Nat) (hc : c ≤ 1000) (w : World) : Calls Try.prog 64 #[.int .i64 0, .int .i64 c] w fun e w' => ∃ B, e = .returned (.slice (some ⟨B, 0, none⟩) 0 0) ∧ GmF w' B 0 c (fun i => B + 1 + i) (fun _ _ => oF) ∧ w.heap.size ≤ B ∧ Below w.heap.size w w' := blankxF 0 c (by omega) hc w
section
attribute [local irreducible] Calls GmF
end
end Go.Proofs.Ytchmggehbajebaa
