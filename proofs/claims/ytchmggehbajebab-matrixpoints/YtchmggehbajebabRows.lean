/-
  No cell of these rows narrows 'for every input' (looked for: loops, veiled, ifaces, maps, wideKeys, modest, calm, conditions, laid).
  DERIVED. THE GIVEN ROWS OF THIS SEAT. 4 by the template 'for every input the law returns true; each argument reads behind the call as it read before'; 0 by the template 'total and deterministic' (their statements: YtchmggehbajebabTotals.lean).
  GIVEN WITH THE SEED: the statements are not yours to turn. If you find one false, say at which input.
  Laid BY PROGRAM, IN A SANDBOX (cutbox-rows.mjs): the forced cells as the released guide's own fill.sh prints them over the translation 91da038d487e0dcd… (all of the seat's roots in one cut). By AI agents, Wed Nov 11 2026. No macro, syntax, notation, axiom, sorry.
-/
import Derived.Test.YtchmggehbajebabChecked
import GoSem.Claim
import GoSem.ClaimJoined
import GoSem.ClaimMapViews
import Derived.JoinedTies
import Derived.KernelRfl
namespace Go.Proofs.Ytchmggehbajebab
/- THE CELL 'sum', in the pinned program and in every row, IS THE sha256 OF THE DUMP (.gsa) THAT YtchmggehbajebabProg.lean LOADS. Nothing in Lean hashes anything: it is a label: what it is worth is what the hold of that sum in a sandbox is worth. -/
noncomputable def Try.pinned : Pinned := { name := "ytchmggehbajebab", sum := "91da038d487e0dcd8535f1124071b869ba03f128815590e56d913b48ef0c25ef", checked := Try.checked }
namespace Rows
def none {H : Type} : Left H := { results := [], args := [] }

/-- 'cairnlaw03.MatrixUndoes': WHATEVER THE INPUT: true; the input reads as it did. -/
def matrixUndoesSpec : ChangeSpec := { name := "matrixUndoes", fn := fun _ => fun
  | [d] => { results := [.lit (.bool true)], args := [d] }
  | _ => none }
def matrixUndoesRow : OpenClaim := { program := "ytchmggehbajebab", sum := "91da038d487e0dcd8535f1124071b869ba03f128815590e56d913b48ef0c25ef", func := "cairn/cairnlaw03.MatrixUndoes", spec := "matrixUndoes", unfollowed := true, recurses := true, apart := false }
def MatrixUndoesSaid : Prop := matrixUndoesRow.holds Try.pinned (OpenSpec.ofChange matrixUndoesSpec)

/-- ITS FALSE NEIGHBOUR: 'it returns false'. Refute it at one input. -/
def matrixUndoesWrong : ChangeSpec := { name := "matrixUndoes", fn := fun _ => fun
  | [d] => { results := [.lit (.bool false)], args := [d] }
  | _ => none }
def MatrixUndoesWrongFalsely : Prop := matrixUndoesRow.holds Try.pinned (OpenSpec.ofChange matrixUndoesWrong)

/-- 'cairnlaw03.MatrixPoints': WHATEVER THE INPUT: true; the input reads as it did. -/
def matrixPointsSpec : ChangeSpec := { name := "matrixPoints", fn := fun _ => fun
  | [d] => { results := [.lit (.bool true)], args := [d] }
  | _ => none }
def matrixPointsRow : OpenClaim := { program := "ytchmggehbajebab", sum := "91da038d487e0dcd8535f1124071b869ba03f128815590e56d913b48ef0c25ef", func := "cairn/cairnlaw03.MatrixPoints", spec := "matrixPoints", unfollowed := true, recurses := true, apart := false }
def MatrixPointsSaid : Prop := matrixPointsRow.holds Try.pinned (OpenSpec.ofChange matrixPointsSpec)

/-- ITS FALSE NEIGHBOUR: 'it returns false'. Refute it at one input. -/
def matrixPointsWrong : ChangeSpec := { name := "matrixPoints", fn := fun _ => fun
  | [d] => { results := [.lit (.bool false)], args := [d] }
  | _ => none }
def MatrixPointsWrongFalsely : Prop := matrixPointsRow.holds Try.pinned (OpenSpec.ofChange matrixPointsWrong)

/-- 'cairnlaw03.MatrixApart': WHATEVER THE INPUT: true; the input reads as it did. -/
def matrixApartSpec : ChangeSpec := { name := "matrixApart", fn := fun _ => fun
  | [d] => { results := [.lit (.bool true)], args := [d] }
  | _ => none }
def matrixApartRow : OpenClaim := { program := "ytchmggehbajebab", sum := "91da038d487e0dcd8535f1124071b869ba03f128815590e56d913b48ef0c25ef", func := "cairn/cairnlaw03.MatrixApart", spec := "matrixApart", unfollowed := true, recurses := true, apart := false }
def MatrixApartSaid : Prop := matrixApartRow.holds Try.pinned (OpenSpec.ofChange matrixApartSpec)

/-- ITS FALSE NEIGHBOUR: 'it returns false'. Refute it at one input. -/
def matrixApartWrong : ChangeSpec := { name := "matrixApart", fn := fun _ => fun
  | [d] => { results := [.lit (.bool false)], args := [d] }
  | _ => none }
def MatrixApartWrongFalsely : Prop := matrixApartRow.holds Try.pinned (OpenSpec.ofChange matrixApartWrong)

/-- 'cairnlaw03.MatrixLeaves': WHATEVER THE INPUT: true; the input reads as it did. -/
def matrixLeavesSpec : ChangeSpec := { name := "matrixLeaves", fn := fun _ => fun
  | [d] => { results := [.lit (.bool true)], args := [d] }
  | _ => none }
def matrixLeavesRow : OpenClaim := { program := "ytchmggehbajebab", sum := "91da038d487e0dcd8535f1124071b869ba03f128815590e56d913b48ef0c25ef", func := "cairn/cairnlaw03.MatrixLeaves", spec := "matrixLeaves", unfollowed := true, recurses := true, apart := false }
def MatrixLeavesSaid : Prop := matrixLeavesRow.holds Try.pinned (OpenSpec.ofChange matrixLeavesSpec)

/-- ITS FALSE NEIGHBOUR: 'it returns false'. Refute it at one input. -/
def matrixLeavesWrong : ChangeSpec := { name := "matrixLeaves", fn := fun _ => fun
  | [d] => { results := [.lit (.bool false)], args := [d] }
  | _ => none }
def MatrixLeavesWrongFalsely : Prop := matrixLeavesRow.holds Try.pinned (OpenSpec.ofChange matrixLeavesWrong)

/- THE SECOND FORM. 'bulk': how many values and letters a reading holds, each counted each time it is reached (what is shared counts as often as it is met; a slice's spare places count too). A statement '..UptoSaid' is the law's where the arguments, and the package variables that the reading takes, are together of bulk at most 1048576: NARROWER than '..Said'. Prove '..Said' where nothing that the law and all that it calls make is longer than what came in: it says more and counts as full. Else prove '..UptoSaid'. A law counts once. -/
mutual
def uptoBulk {H : Type} : DataW H → Nat
  | .lit (.string bytes) => bytes.length + 1
  | .lit _ => 1
  | .nil => 1
  | .ptr d => uptoBulk d + 1
  | .slice elems spare => uptoBulkAll elems + uptoBulkAll spare + 1
  | .agg parts => uptoBulkAll parts + 1
  | .iface _ d => uptoBulk d + 1
  | .map entries => uptoBulkEntries entries + 1
  | .held _ => 1
def uptoBulkAll {H : Type} : List (DataW H) → Nat
  | [] => 0
  | d :: r => uptoBulk d + uptoBulkAll r
def uptoBulkEntries {H : Type} : List (Lit × DataW H) → Nat
  | [] => 0
  | x :: r => uptoBulkEntry x + uptoBulkEntries r
def uptoBulkEntry {H : Type} : Lit × DataW H → Nat
  | (.string bytes, d) => bytes.length + uptoBulk d + 1
  | (_, d) => uptoBulk d + 1
 end
def uptoSmall : (H : Type) → List (DataW H) → Bool := fun _ ds => decide (uptoBulkAll ds ≤ 1048576)
def OpenSpec.upto (s : _root_.Go.ChangeSpec) : _root_.Go.OpenSpec := { _root_.Go.OpenSpec.ofChange s with cond := some uptoSmall }

/-- 'cairnlaw03.MatrixUndoes', WHERE WHAT IT READS IS OF BULK AT MOST 1048576: true; the input reads as it did. -/
def matrixUndoesUptoRow : OpenClaim := { program := "ytchmggehbajebab", sum := "91da038d487e0dcd8535f1124071b869ba03f128815590e56d913b48ef0c25ef", func := "cairn/cairnlaw03.MatrixUndoes", spec := "matrixUndoes", unfollowed := true, recurses := true, apart := false, narrowed := true }
def MatrixUndoesUptoSaid : Prop := matrixUndoesUptoRow.holds Try.pinned (OpenSpec.upto matrixUndoesSpec)

/-- 'cairnlaw03.MatrixPoints', WHERE WHAT IT READS IS OF BULK AT MOST 1048576: true; the input reads as it did. -/
def matrixPointsUptoRow : OpenClaim := { program := "ytchmggehbajebab", sum := "91da038d487e0dcd8535f1124071b869ba03f128815590e56d913b48ef0c25ef", func := "cairn/cairnlaw03.MatrixPoints", spec := "matrixPoints", unfollowed := true, recurses := true, apart := false, narrowed := true }
def MatrixPointsUptoSaid : Prop := matrixPointsUptoRow.holds Try.pinned (OpenSpec.upto matrixPointsSpec)

/-- 'cairnlaw03.MatrixApart', WHERE WHAT IT READS IS OF BULK AT MOST 1048576: true; the input reads as it did. -/
def matrixApartUptoRow : OpenClaim := { program := "ytchmggehbajebab", sum := "91da038d487e0dcd8535f1124071b869ba03f128815590e56d913b48ef0c25ef", func := "cairn/cairnlaw03.MatrixApart", spec := "matrixApart", unfollowed := true, recurses := true, apart := false, narrowed := true }
def MatrixApartUptoSaid : Prop := matrixApartUptoRow.holds Try.pinned (OpenSpec.upto matrixApartSpec)

/-- 'cairnlaw03.MatrixLeaves', WHERE WHAT IT READS IS OF BULK AT MOST 1048576: true; the input reads as it did. -/
def matrixLeavesUptoRow : OpenClaim := { program := "ytchmggehbajebab", sum := "91da038d487e0dcd8535f1124071b869ba03f128815590e56d913b48ef0c25ef", func := "cairn/cairnlaw03.MatrixLeaves", spec := "matrixLeaves", unfollowed := true, recurses := true, apart := false, narrowed := true }
def MatrixLeavesUptoSaid : Prop := matrixLeavesUptoRow.holds Try.pinned (OpenSpec.upto matrixLeavesSpec)

end Rows
end Go.Proofs.Ytchmggehbajebab
