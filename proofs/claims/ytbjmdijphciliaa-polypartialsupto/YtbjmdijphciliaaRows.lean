/-
  No cell of these rows narrows 'for every input' (looked for: loops, veiled, ifaces, maps, wideKeys, modest, calm, conditions, laid).
  DERIVED. THE GIVEN ROWS OF THIS SEAT. 3 by the template 'for every input the law returns true; each argument reads behind the call as it read before'; 0 by the template 'total and deterministic' (their statements: YtbjmdijphciliaaTotals.lean).
  GIVEN WITH THE SEED: the statements are not yours to turn. If you find one false, say at which input.
  Laid BY PROGRAM, IN A SANDBOX (cutbox-rows.mjs): the forced cells as the released guide's own fill.sh prints them over the translation 6e59154f8d0f4c15… (all of the seat's roots in one cut). By AI agents, Wed Nov 11 2026. No macro, syntax, notation, axiom, sorry.
-/
import Derived.Test.YtbjmdijphciliaaChecked
import GoSem.Claim
import GoSem.ClaimJoined
import GoSem.ClaimMapViews
import Derived.JoinedTies
import Derived.KernelRfl
namespace Go.Proofs.Ytbjmdijphciliaa
/- THE CELL 'sum', in the pinned program and in every row, IS THE sha256 OF THE DUMP (.gsa) THAT YtbjmdijphciliaaProg.lean LOADS. Nothing in Lean hashes anything: it is a label: what it is worth is what the hold of that sum in a sandbox is worth. -/
noncomputable def Try.pinned : Pinned := { name := "ytbjmdijphciliaa", sum := "6e59154f8d0f4c152861e2cf88f2520c9bba85813841e33e0a4e2df869d48f4a", checked := Try.checked }
namespace Rows
def none {H : Type} : Left H := { results := [], args := [] }

/-- 'cairnlaw02.PolyPartials': WHATEVER THE INPUT: true; the input reads as it did. -/
def polyPartialsSpec : ChangeSpec := { name := "polyPartials", fn := fun _ => fun
  | [d1, d2, d3] => { results := [.lit (.bool true)], args := [d1, d2, d3] }
  | _ => none }
def polyPartialsRow : OpenClaim := { program := "ytbjmdijphciliaa", sum := "6e59154f8d0f4c152861e2cf88f2520c9bba85813841e33e0a4e2df869d48f4a", func := "cairn/cairnlaw02.PolyPartials", spec := "polyPartials", unfollowed := true, recurses := true, apart := false }
def PolyPartialsSaid : Prop := polyPartialsRow.holds Try.pinned (OpenSpec.ofChange polyPartialsSpec)

/-- ITS FALSE NEIGHBOUR: 'it returns false'. Refute it at one input. -/
def polyPartialsWrong : ChangeSpec := { name := "polyPartials", fn := fun _ => fun
  | [d1, d2, d3] => { results := [.lit (.bool false)], args := [d1, d2, d3] }
  | _ => none }
def PolyPartialsWrongFalsely : Prop := polyPartialsRow.holds Try.pinned (OpenSpec.ofChange polyPartialsWrong)

/-- 'cairnlaw02.PolyBezout': WHATEVER THE INPUT: true; the input reads as it did. -/
def polyBezoutSpec : ChangeSpec := { name := "polyBezout", fn := fun _ => fun
  | [d] => { results := [.lit (.bool true)], args := [d] }
  | _ => none }
def polyBezoutRow : OpenClaim := { program := "ytbjmdijphciliaa", sum := "6e59154f8d0f4c152861e2cf88f2520c9bba85813841e33e0a4e2df869d48f4a", func := "cairn/cairnlaw02.PolyBezout", spec := "polyBezout", unfollowed := true, recurses := true, apart := false }
def PolyBezoutSaid : Prop := polyBezoutRow.holds Try.pinned (OpenSpec.ofChange polyBezoutSpec)

/-- ITS FALSE NEIGHBOUR: 'it returns false'. Refute it at one input. -/
def polyBezoutWrong : ChangeSpec := { name := "polyBezout", fn := fun _ => fun
  | [d] => { results := [.lit (.bool false)], args := [d] }
  | _ => none }
def PolyBezoutWrongFalsely : Prop := polyBezoutRow.holds Try.pinned (OpenSpec.ofChange polyBezoutWrong)

/-- 'cairnlaw02.PolyOwn': WHATEVER THE INPUT: true; the input reads as it did. -/
def polyOwnSpec : ChangeSpec := { name := "polyOwn", fn := fun _ => fun
  | [d] => { results := [.lit (.bool true)], args := [d] }
  | _ => none }
def polyOwnRow : OpenClaim := { program := "ytbjmdijphciliaa", sum := "6e59154f8d0f4c152861e2cf88f2520c9bba85813841e33e0a4e2df869d48f4a", func := "cairn/cairnlaw02.PolyOwn", spec := "polyOwn", unfollowed := true, recurses := true, apart := false }
def PolyOwnSaid : Prop := polyOwnRow.holds Try.pinned (OpenSpec.ofChange polyOwnSpec)

/-- ITS FALSE NEIGHBOUR: 'it returns false'. Refute it at one input. -/
def polyOwnWrong : ChangeSpec := { name := "polyOwn", fn := fun _ => fun
  | [d] => { results := [.lit (.bool false)], args := [d] }
  | _ => none }
def PolyOwnWrongFalsely : Prop := polyOwnRow.holds Try.pinned (OpenSpec.ofChange polyOwnWrong)

/- THE SECOND FORM. 'bulk': how many values and letters a reading holds, each counted each time it is reached (what is shared counts as often as it is met; a slice's spare places count too). A statement '..UptoSaid' is the law's where the arguments, and the package variables that the reading takes, are together of bulk at most 1048576: NARROWER than '..Said'. Prove '..Said' where nothing that the law and all that it calls make is longer than what came in: it says more and counts as full. Else prove '..UptoSaid'. A law counts once. -/
mutual
def uptoBulk {H : Type} : DataW H → Nat
  | .lit (.string bytes) => bytes.length + 1
  | .lit _ => 1
  | .nil => 1
  | .ptr d => uptoBulk d + 1
  | .slice elems spare => uptoBulkAll elems + uptoBulkAll spare + 1
  | .agg parts => uptoBulkAll parts + 1
  | .iface _ d => uptoBulk d + 1
  | .map entries => uptoBulkEntries entries + 1
  | .held _ => 1
def uptoBulkAll {H : Type} : List (DataW H) → Nat
  | [] => 0
  | d :: r => uptoBulk d + uptoBulkAll r
def uptoBulkEntries {H : Type} : List (Lit × DataW H) → Nat
  | [] => 0
  | x :: r => uptoBulkEntry x + uptoBulkEntries r
def uptoBulkEntry {H : Type} : Lit × DataW H → Nat
  | (.string bytes, d) => bytes.length + uptoBulk d + 1
  | (_, d) => uptoBulk d + 1
 end
def uptoSmall : (H : Type) → List (DataW H) → Bool := fun _ ds => decide (uptoBulkAll ds ≤ 1048576)
def OpenSpec.upto (s : _root_.Go.ChangeSpec) : _root_.Go.OpenSpec := { _root_.Go.OpenSpec.ofChange s with cond := some uptoSmall }

/-- 'cairnlaw02.PolyPartials', WHERE WHAT IT READS IS OF BULK AT MOST 1048576: true; the input reads as it did. -/
def polyPartialsUptoRow : OpenClaim := { program := "ytbjmdijphciliaa", sum := "6e59154f8d0f4c152861e2cf88f2520c9bba85813841e33e0a4e2df869d48f4a", func := "cairn/cairnlaw02.PolyPartials", spec := "polyPartials", unfollowed := true, recurses := true, apart := false, narrowed := true }
def PolyPartialsUptoSaid : Prop := polyPartialsUptoRow.holds Try.pinned (OpenSpec.upto polyPartialsSpec)

/-- 'cairnlaw02.PolyBezout', WHERE WHAT IT READS IS OF BULK AT MOST 1048576: true; the input reads as it did. -/
def polyBezoutUptoRow : OpenClaim := { program := "ytbjmdijphciliaa", sum := "6e59154f8d0f4c152861e2cf88f2520c9bba85813841e33e0a4e2df869d48f4a", func := "cairn/cairnlaw02.PolyBezout", spec := "polyBezout", unfollowed := true, recurses := true, apart := false, narrowed := true }
def PolyBezoutUptoSaid : Prop := polyBezoutUptoRow.holds Try.pinned (OpenSpec.upto polyBezoutSpec)

/-- 'cairnlaw02.PolyOwn', WHERE WHAT IT READS IS OF BULK AT MOST 1048576: true; the input reads as it did. -/
def polyOwnUptoRow : OpenClaim := { program := "ytbjmdijphciliaa", sum := "6e59154f8d0f4c152861e2cf88f2520c9bba85813841e33e0a4e2df869d48f4a", func := "cairn/cairnlaw02.PolyOwn", spec := "polyOwn", unfollowed := true, recurses := true, apart := false, narrowed := true }
def PolyOwnUptoSaid : Prop := polyOwnUptoRow.holds Try.pinned (OpenSpec.upto polyOwnSpec)

end Rows
end Go.Proofs.Ytbjmdijphciliaa
