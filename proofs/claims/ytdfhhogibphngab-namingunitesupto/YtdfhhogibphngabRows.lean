/-
  No cell of these rows narrows 'for every input' (looked for: loops, veiled, ifaces, maps, wideKeys, modest, calm, conditions, laid).
  DERIVED. THE GIVEN ROWS OF THIS SEAT. 5 by the template 'for every input the law returns true; each argument reads behind the call as it read before'; 0 by the template 'total and deterministic' (their statements: YtdfhhogibphngabTotals.lean).
  GIVEN WITH THE SEED: the statements are not yours to turn. If you find one false, say at which input.
  Laid BY PROGRAM, IN A SANDBOX (cutbox-rows.mjs): the forced cells as the released guide's own fill.sh prints them over the translation 856dbaaf2cd33e9c… (all of the seat's roots in one cut). By AI agents, Wed Nov 11 2026. No macro, syntax, notation, axiom, sorry.
-/
import Derived.Test.YtdfhhogibphngabChecked
import GoSem.Claim
import GoSem.ClaimJoined
import GoSem.ClaimMapViews
import Derived.JoinedTies
import Derived.KernelRfl
namespace Go.Proofs.Ytdfhhogibphngab
/- THE CELL 'sum', in the pinned program and in every row, IS THE sha256 OF THE DUMP (.gsa) THAT YtdfhhogibphngabProg.lean LOADS. Nothing in Lean hashes anything: it is a label: what it is worth is what the hold of that sum in a sandbox is worth. -/
noncomputable def Try.pinned : Pinned := { name := "ytdfhhogibphngab", sum := "856dbaaf2cd33e9c1cc29ad35d6245f9ea81f81e9e1a03fe05f460bd7fdc55e1", checked := Try.checked }
namespace Rows
def none {H : Type} : Left H := { results := [], args := [] }

/-- 'cairnlaw09.NamingOnly': WHATEVER THE INPUT: true; the input reads as it did. -/
def namingOnlySpec : ChangeSpec := { name := "namingOnly", fn := fun _ => fun
  | [d] => { results := [.lit (.bool true)], args := [d] }
  | _ => none }
def namingOnlyRow : OpenClaim := { program := "ytdfhhogibphngab", sum := "856dbaaf2cd33e9c1cc29ad35d6245f9ea81f81e9e1a03fe05f460bd7fdc55e1", func := "cairn/cairnlaw09.NamingOnly", spec := "namingOnly", inPlace := ["internal/bytealg.IndexByteString"], recurses := true, apart := false }
def NamingOnlySaid : Prop := namingOnlyRow.holds Try.pinned (OpenSpec.ofChange namingOnlySpec)

/-- ITS FALSE NEIGHBOUR: 'it returns false'. Refute it at one input. -/
def namingOnlyWrong : ChangeSpec := { name := "namingOnly", fn := fun _ => fun
  | [d] => { results := [.lit (.bool false)], args := [d] }
  | _ => none }
def NamingOnlyWrongFalsely : Prop := namingOnlyRow.holds Try.pinned (OpenSpec.ofChange namingOnlyWrong)

/-- 'cairnlaw09.NamingOrder': WHATEVER THE INPUT: true; the input reads as it did. -/
def namingOrderSpec : ChangeSpec := { name := "namingOrder", fn := fun _ => fun
  | [d1, d2] => { results := [.lit (.bool true)], args := [d1, d2] }
  | _ => none }
def namingOrderRow : OpenClaim := { program := "ytdfhhogibphngab", sum := "856dbaaf2cd33e9c1cc29ad35d6245f9ea81f81e9e1a03fe05f460bd7fdc55e1", func := "cairn/cairnlaw09.NamingOrder", spec := "namingOrder", inPlace := ["internal/bytealg.IndexByteString"], recurses := true, apart := false }
def NamingOrderSaid : Prop := namingOrderRow.holds Try.pinned (OpenSpec.ofChange namingOrderSpec)

/-- ITS FALSE NEIGHBOUR: 'it returns false'. Refute it at one input. -/
def namingOrderWrong : ChangeSpec := { name := "namingOrder", fn := fun _ => fun
  | [d1, d2] => { results := [.lit (.bool false)], args := [d1, d2] }
  | _ => none }
def NamingOrderWrongFalsely : Prop := namingOrderRow.holds Try.pinned (OpenSpec.ofChange namingOrderWrong)

/-- 'cairnlaw09.NamingSorted': WHATEVER THE INPUT: true; the input reads as it did. -/
def namingSortedSpec : ChangeSpec := { name := "namingSorted", fn := fun _ => fun
  | [d1, d2] => { results := [.lit (.bool true)], args := [d1, d2] }
  | _ => none }
def namingSortedRow : OpenClaim := { program := "ytdfhhogibphngab", sum := "856dbaaf2cd33e9c1cc29ad35d6245f9ea81f81e9e1a03fe05f460bd7fdc55e1", func := "cairn/cairnlaw09.NamingSorted", spec := "namingSorted", inPlace := ["internal/bytealg.IndexByteString"], recurses := true, apart := false }
def NamingSortedSaid : Prop := namingSortedRow.holds Try.pinned (OpenSpec.ofChange namingSortedSpec)

/-- ITS FALSE NEIGHBOUR: 'it returns false'. Refute it at one input. -/
def namingSortedWrong : ChangeSpec := { name := "namingSorted", fn := fun _ => fun
  | [d1, d2] => { results := [.lit (.bool false)], args := [d1, d2] }
  | _ => none }
def NamingSortedWrongFalsely : Prop := namingSortedRow.holds Try.pinned (OpenSpec.ofChange namingSortedWrong)

/-- 'cairnlaw09.NamingUnites': WHATEVER THE INPUT: true; the input reads as it did. -/
def namingUnitesSpec : ChangeSpec := { name := "namingUnites", fn := fun _ => fun
  | [d1, d2, d3] => { results := [.lit (.bool true)], args := [d1, d2, d3] }
  | _ => none }
def namingUnitesRow : OpenClaim := { program := "ytdfhhogibphngab", sum := "856dbaaf2cd33e9c1cc29ad35d6245f9ea81f81e9e1a03fe05f460bd7fdc55e1", func := "cairn/cairnlaw09.NamingUnites", spec := "namingUnites", inPlace := ["internal/bytealg.IndexByteString"], recurses := true, apart := false }
def NamingUnitesSaid : Prop := namingUnitesRow.holds Try.pinned (OpenSpec.ofChange namingUnitesSpec)

/-- ITS FALSE NEIGHBOUR: 'it returns false'. Refute it at one input. -/
def namingUnitesWrong : ChangeSpec := { name := "namingUnites", fn := fun _ => fun
  | [d1, d2, d3] => { results := [.lit (.bool false)], args := [d1, d2, d3] }
  | _ => none }
def NamingUnitesWrongFalsely : Prop := namingUnitesRow.holds Try.pinned (OpenSpec.ofChange namingUnitesWrong)

/-- 'cairnlaw09.NamingOwn': WHATEVER THE INPUT: true; the input reads as it did. -/
def namingOwnSpec : ChangeSpec := { name := "namingOwn", fn := fun _ => fun
  | [d1, d2, d3] => { results := [.lit (.bool true)], args := [d1, d2, d3] }
  | _ => none }
def namingOwnRow : OpenClaim := { program := "ytdfhhogibphngab", sum := "856dbaaf2cd33e9c1cc29ad35d6245f9ea81f81e9e1a03fe05f460bd7fdc55e1", func := "cairn/cairnlaw09.NamingOwn", spec := "namingOwn", inPlace := ["internal/bytealg.IndexByteString"], recurses := true, apart := false }
def NamingOwnSaid : Prop := namingOwnRow.holds Try.pinned (OpenSpec.ofChange namingOwnSpec)

/-- ITS FALSE NEIGHBOUR: 'it returns false'. Refute it at one input. -/
def namingOwnWrong : ChangeSpec := { name := "namingOwn", fn := fun _ => fun
  | [d1, d2, d3] => { results := [.lit (.bool false)], args := [d1, d2, d3] }
  | _ => none }
def NamingOwnWrongFalsely : Prop := namingOwnRow.holds Try.pinned (OpenSpec.ofChange namingOwnWrong)

/- THE SECOND FORM. 'bulk': how many values and letters a reading holds, each counted each time it is reached (what is shared counts as often as it is met; a slice's spare places count too). A statement '..UptoSaid' is the law's where the arguments, and the package variables that the reading takes, are together of bulk at most 1048576: NARROWER than '..Said'. Prove '..Said' where nothing that the law and all that it calls make is longer than what came in: it says more and counts as full. Else prove '..UptoSaid'. A law counts once. -/
mutual
def uptoBulk {H : Type} : DataW H → Nat
  | .lit (.string bytes) => bytes.length + 1
  | .lit _ => 1
  | .nil => 1
  | .ptr d => uptoBulk d + 1
  | .slice elems spare => uptoBulkAll elems + uptoBulkAll spare + 1
  | .agg parts => uptoBulkAll parts + 1
  | .iface _ d => uptoBulk d + 1
  | .map entries => uptoBulkEntries entries + 1
  | .held _ => 1
def uptoBulkAll {H : Type} : List (DataW H) → Nat
  | [] => 0
  | d :: r => uptoBulk d + uptoBulkAll r
def uptoBulkEntries {H : Type} : List (Lit × DataW H) → Nat
  | [] => 0
  | x :: r => uptoBulkEntry x + uptoBulkEntries r
def uptoBulkEntry {H : Type} : Lit × DataW H → Nat
  | (.string bytes, d) => bytes.length + uptoBulk d + 1
  | (_, d) => uptoBulk d + 1
 end
def uptoSmall : (H : Type) → List (DataW H) → Bool := fun _ ds => decide (uptoBulkAll ds ≤ 1048576)
def OpenSpec.upto (s : _root_.Go.ChangeSpec) : _root_.Go.OpenSpec := { _root_.Go.OpenSpec.ofChange s with cond := some uptoSmall }

/-- 'cairnlaw09.NamingOnly', WHERE WHAT IT READS IS OF BULK AT MOST 1048576: true; the input reads as it did. -/
def namingOnlyUptoRow : OpenClaim := { program := "ytdfhhogibphngab", sum := "856dbaaf2cd33e9c1cc29ad35d6245f9ea81f81e9e1a03fe05f460bd7fdc55e1", func := "cairn/cairnlaw09.NamingOnly", spec := "namingOnly", inPlace := ["internal/bytealg.IndexByteString"], recurses := true, apart := false, narrowed := true }
def NamingOnlyUptoSaid : Prop := namingOnlyUptoRow.holds Try.pinned (OpenSpec.upto namingOnlySpec)

/-- 'cairnlaw09.NamingOrder', WHERE WHAT IT READS IS OF BULK AT MOST 1048576: true; the input reads as it did. -/
def namingOrderUptoRow : OpenClaim := { program := "ytdfhhogibphngab", sum := "856dbaaf2cd33e9c1cc29ad35d6245f9ea81f81e9e1a03fe05f460bd7fdc55e1", func := "cairn/cairnlaw09.NamingOrder", spec := "namingOrder", inPlace := ["internal/bytealg.IndexByteString"], recurses := true, apart := false, narrowed := true }
def NamingOrderUptoSaid : Prop := namingOrderUptoRow.holds Try.pinned (OpenSpec.upto namingOrderSpec)

/-- 'cairnlaw09.NamingSorted', WHERE WHAT IT READS IS OF BULK AT MOST 1048576: true; the input reads as it did. -/
def namingSortedUptoRow : OpenClaim := { program := "ytdfhhogibphngab", sum := "856dbaaf2cd33e9c1cc29ad35d6245f9ea81f81e9e1a03fe05f460bd7fdc55e1", func := "cairn/cairnlaw09.NamingSorted", spec := "namingSorted", inPlace := ["internal/bytealg.IndexByteString"], recurses := true, apart := false, narrowed := true }
def NamingSortedUptoSaid : Prop := namingSortedUptoRow.holds Try.pinned (OpenSpec.upto namingSortedSpec)

/-- 'cairnlaw09.NamingUnites', WHERE WHAT IT READS IS OF BULK AT MOST 1048576: true; the input reads as it did. -/
def namingUnitesUptoRow : OpenClaim := { program := "ytdfhhogibphngab", sum := "856dbaaf2cd33e9c1cc29ad35d6245f9ea81f81e9e1a03fe05f460bd7fdc55e1", func := "cairn/cairnlaw09.NamingUnites", spec := "namingUnites", inPlace := ["internal/bytealg.IndexByteString"], recurses := true, apart := false, narrowed := true }
def NamingUnitesUptoSaid : Prop := namingUnitesUptoRow.holds Try.pinned (OpenSpec.upto namingUnitesSpec)

/-- 'cairnlaw09.NamingOwn', WHERE WHAT IT READS IS OF BULK AT MOST 1048576: true; the input reads as it did. -/
def namingOwnUptoRow : OpenClaim := { program := "ytdfhhogibphngab", sum := "856dbaaf2cd33e9c1cc29ad35d6245f9ea81f81e9e1a03fe05f460bd7fdc55e1", func := "cairn/cairnlaw09.NamingOwn", spec := "namingOwn", inPlace := ["internal/bytealg.IndexByteString"], recurses := true, apart := false, narrowed := true }
def NamingOwnUptoSaid : Prop := namingOwnUptoRow.holds Try.pinned (OpenSpec.upto namingOwnSpec)

end Rows
end Go.Proofs.Ytdfhhogibphngab
