/-
  A script that can be read.
-/
import Derived.Test.YtmcbeikgdcgdcaaFld
namespace Go.Proofs.Ytmcbeikgdcgdcaa
open Go.RowKit
/-- A script that can be read. -/
def Scr (w : World) (q0 : Option Addr) (m : Nat) (Q : Nat → Int × Int × Int × Int) : Prop :=
  ∀ i, i < m → ∃ b o, q0 = some ⟨b, o, none⟩ ∧ w.cell? ⟨b, o + i * 4, none⟩ = some (.int .i64 (Q i).1) ∧ w.cell? ⟨b, o + i * 4 + 1, none⟩ = some (.int .i64 (Q i).2.1) ∧ w.cell? ⟨b, o + i * 4 + 2, none⟩ = some (.int .i64 (Q i).2.2.1) ∧ w.cell? ⟨b, o + i * 4 + 3, none⟩ = some (.int .i64 (Q i).2.2.2) ∧ (Q i).2.2.1 ≤ 9223372036854775807 ∧ (Q i).2.2.2 ≤ 9223372036854775807
end Go.Proofs.Ytmcbeikgdcgdcaa
