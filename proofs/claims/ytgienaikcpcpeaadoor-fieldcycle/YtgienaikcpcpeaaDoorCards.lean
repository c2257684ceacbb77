/-
  DERIVED. GIVEN WITH THE SEED: THE CARDS: each row of YtgienaikcpcpeaaDoorRows.lean that lists a variable, with what it lists TIED to the program's text (the seventh form; the later family's looks); each row that meets fmt, with fmt's text TOLD by the authors' own Lean function (tested against real Go, not proved from fmt's source: count such statements apart). THE CARD IS WHAT COUNTS. Prove the row's statement (the work); the ties are given (YtgienaikcpcpeaaDoorTie.lean); close each card by the builder's one call (the guide's Derived/Test/ToyasCard.lean, 'card_holds'). Laid BY PROGRAM, IN A SANDBOX (cutbox-door.mjs). By AI agents, Wed Nov 11 2026. No macro, syntax, notation, axiom, sorry.
-/
import Derived.Test.YtgienaikcpcpeaaDoorRows
import GoSem.ClaimSeven
namespace Go.Proofs.YtgienaikcpcpeaaDoor
namespace Rows

/-- THE TIED CARD OF 'cairnlaw01.FieldPowers'. -/
def fieldPowersCard : Claim7 := { stood := { row := fieldPowersRow, standIns := [], harness := (true, "596a7d8f9f7b9efb55da7cb4199143be5a0b171eb8ee7d64c218b21a261ec6e4"), looks := false }, kinds := [], alts := [], laidByText := true, laidKinds := [.data], laidTests := true, laidLooks := .later }
def FieldPowersCardSaid : Prop := Claim7.holds Tryd.pinned (.plain (OpenSpec.ofChange fieldPowersSpec)) fieldPowersCard

/-- THE TIED CARD OF 'cairnlaw01.FieldCycle'. -/
def fieldCycleCard : Claim7 := { stood := { row := fieldCycleRow, standIns := [], harness := (true, "596a7d8f9f7b9efb55da7cb4199143be5a0b171eb8ee7d64c218b21a261ec6e4"), looks := false }, kinds := [], alts := [], laidByText := true, laidKinds := [.data], laidTests := true, laidLooks := .later }
def FieldCycleCardSaid : Prop := Claim7.holds Tryd.pinned (.plain (OpenSpec.ofChange fieldCycleSpec)) fieldCycleCard

/-- THE SECOND FORM's CARD OF 'cairnlaw01.FieldPowers'. -/
def fieldPowersUptoCard : Claim7 := { stood := { row := fieldPowersUptoRow, standIns := [], harness := (true, "596a7d8f9f7b9efb55da7cb4199143be5a0b171eb8ee7d64c218b21a261ec6e4"), looks := false }, kinds := [], alts := [], laidByText := true, laidKinds := [.data], laidTests := true, laidLooks := .later }
def FieldPowersUptoCardSaid : Prop := Claim7.holds Tryd.pinned (.plain (OpenSpec.upto fieldPowersSpec)) fieldPowersUptoCard

/-- THE SECOND FORM's CARD OF 'cairnlaw01.FieldCycle'. -/
def fieldCycleUptoCard : Claim7 := { stood := { row := fieldCycleUptoRow, standIns := [], harness := (true, "596a7d8f9f7b9efb55da7cb4199143be5a0b171eb8ee7d64c218b21a261ec6e4"), looks := false }, kinds := [], alts := [], laidByText := true, laidKinds := [.data], laidTests := true, laidLooks := .later }
def FieldCycleUptoCardSaid : Prop := Claim7.holds Tryd.pinned (.plain (OpenSpec.upto fieldCycleSpec)) fieldCycleUptoCard
end Rows
end Go.Proofs.YtgienaikcpcpeaaDoor
