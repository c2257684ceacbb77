/-
  No cell of these rows narrows 'for every input' (looked for: loops, veiled, ifaces, maps, wideKeys, modest, calm, conditions, laid).
  DERIVED. THE GIVEN ROWS OF THIS SEAT. 6 by the template 'for every input the law returns true; each argument reads behind the call as it read before'; 0 by the template 'total and deterministic' (their statements: YtpjebfcdjhcfnaaTotals.lean).
  GIVEN WITH THE SEED: the statements are not yours to turn. If you find one false, say at which input.
  Laid BY PROGRAM, IN A SANDBOX (cutbox-rows.mjs): the forced cells as the released guide's own fill.sh prints them over the translation 5149e8908d2288ca… (all of the seat's roots in one cut). By AI agents, Wed Nov 11 2026. No macro, syntax, notation, axiom, sorry.
-/
import Derived.Test.YtpjebfcdjhcfnaaChecked
import GoSem.Claim
import GoSem.ClaimJoined
import GoSem.ClaimMapViews
import Derived.JoinedTies
import Derived.KernelRfl
namespace Go.Proofs.Ytpjebfcdjhcfnaa
/- THE CELL 'sum', in the pinned program and in every row, IS THE sha256 OF THE DUMP (.gsa) THAT YtpjebfcdjhcfnaaProg.lean LOADS. Nothing in Lean hashes anything: it is a label: what it is worth is what the hold of that sum in a sandbox is worth. -/
noncomputable def Try.pinned : Pinned := { name := "ytpjebfcdjhcfnaa", sum := "5149e8908d2288ca9bb7bcca4fbe78a1572aff7674d958e97170faf49425cbd5", checked := Try.checked }
namespace Rows
def none {H : Type} : Left H := { results := [], args := [] }

/-- 'cairnlaw02.PolyTrims': WHATEVER THE INPUT: true; the input reads as it did. -/
def polyTrimsSpec : ChangeSpec := { name := "polyTrims", fn := fun _ => fun
  | [d1, d2] => { results := [.lit (.bool true)], args := [d1, d2] }
  | _ => none }
def polyTrimsRow : OpenClaim := { program := "ytpjebfcdjhcfnaa", sum := "5149e8908d2288ca9bb7bcca4fbe78a1572aff7674d958e97170faf49425cbd5", func := "cairn/cairnlaw02.PolyTrims", spec := "polyTrims", apart := false }
def PolyTrimsSaid : Prop := polyTrimsRow.holds Try.pinned (OpenSpec.ofChange polyTrimsSpec)

/-- ITS FALSE NEIGHBOUR: 'it returns false'. Refute it at one input. -/
def polyTrimsWrong : ChangeSpec := { name := "polyTrims", fn := fun _ => fun
  | [d1, d2] => { results := [.lit (.bool false)], args := [d1, d2] }
  | _ => none }
def PolyTrimsWrongFalsely : Prop := polyTrimsRow.holds Try.pinned (OpenSpec.ofChange polyTrimsWrong)

/-- 'cairnlaw02.PolySums': WHATEVER THE INPUT: true; the input reads as it did. -/
def polySumsSpec : ChangeSpec := { name := "polySums", fn := fun _ => fun
  | [d1, d2, d3] => { results := [.lit (.bool true)], args := [d1, d2, d3] }
  | _ => none }
def polySumsRow : OpenClaim := { program := "ytpjebfcdjhcfnaa", sum := "5149e8908d2288ca9bb7bcca4fbe78a1572aff7674d958e97170faf49425cbd5", func := "cairn/cairnlaw02.PolySums", spec := "polySums", unfollowed := true, recurses := true, apart := false }
def PolySumsSaid : Prop := polySumsRow.holds Try.pinned (OpenSpec.ofChange polySumsSpec)

/-- ITS FALSE NEIGHBOUR: 'it returns false'. Refute it at one input. -/
def polySumsWrong : ChangeSpec := { name := "polySums", fn := fun _ => fun
  | [d1, d2, d3] => { results := [.lit (.bool false)], args := [d1, d2, d3] }
  | _ => none }
def PolySumsWrongFalsely : Prop := polySumsRow.holds Try.pinned (OpenSpec.ofChange polySumsWrong)

/-- 'cairnlaw02.PolyDivides': WHATEVER THE INPUT: true; the input reads as it did. -/
def polyDividesSpec : ChangeSpec := { name := "polyDivides", fn := fun _ => fun
  | [d1, d2] => { results := [.lit (.bool true)], args := [d1, d2] }
  | _ => none }
def polyDividesRow : OpenClaim := { program := "ytpjebfcdjhcfnaa", sum := "5149e8908d2288ca9bb7bcca4fbe78a1572aff7674d958e97170faf49425cbd5", func := "cairn/cairnlaw02.PolyDivides", spec := "polyDivides", apart := false }
def PolyDividesSaid : Prop := polyDividesRow.holds Try.pinned (OpenSpec.ofChange polyDividesSpec)

/-- ITS FALSE NEIGHBOUR: 'it returns false'. Refute it at one input. -/
def polyDividesWrong : ChangeSpec := { name := "polyDivides", fn := fun _ => fun
  | [d1, d2] => { results := [.lit (.bool false)], args := [d1, d2] }
  | _ => none }
def PolyDividesWrongFalsely : Prop := polyDividesRow.holds Try.pinned (OpenSpec.ofChange polyDividesWrong)

/-- 'cairnlaw02.PolyThroughs': WHATEVER THE INPUT: true; the input reads as it did. -/
def polyThroughsSpec : ChangeSpec := { name := "polyThroughs", fn := fun _ => fun
  | [d1, d2] => { results := [.lit (.bool true)], args := [d1, d2] }
  | _ => none }
def polyThroughsRow : OpenClaim := { program := "ytpjebfcdjhcfnaa", sum := "5149e8908d2288ca9bb7bcca4fbe78a1572aff7674d958e97170faf49425cbd5", func := "cairn/cairnlaw02.PolyThroughs", spec := "polyThroughs", apart := false }
def PolyThroughsSaid : Prop := polyThroughsRow.holds Try.pinned (OpenSpec.ofChange polyThroughsSpec)

/-- ITS FALSE NEIGHBOUR: 'it returns false'. Refute it at one input. -/
def polyThroughsWrong : ChangeSpec := { name := "polyThroughs", fn := fun _ => fun
  | [d1, d2] => { results := [.lit (.bool false)], args := [d1, d2] }
  | _ => none }
def PolyThroughsWrongFalsely : Prop := polyThroughsRow.holds Try.pinned (OpenSpec.ofChange polyThroughsWrong)

/-- 'cairnlaw02.PolyRoots': WHATEVER THE INPUT: true; the input reads as it did. -/
def polyRootsSpec : ChangeSpec := { name := "polyRoots", fn := fun _ => fun
  | [d] => { results := [.lit (.bool true)], args := [d] }
  | _ => none }
def polyRootsRow : OpenClaim := { program := "ytpjebfcdjhcfnaa", sum := "5149e8908d2288ca9bb7bcca4fbe78a1572aff7674d958e97170faf49425cbd5", func := "cairn/cairnlaw02.PolyRoots", spec := "polyRoots", apart := false }
def PolyRootsSaid : Prop := polyRootsRow.holds Try.pinned (OpenSpec.ofChange polyRootsSpec)

/-- ITS FALSE NEIGHBOUR: 'it returns false'. Refute it at one input. -/
def polyRootsWrong : ChangeSpec := { name := "polyRoots", fn := fun _ => fun
  | [d] => { results := [.lit (.bool false)], args := [d] }
  | _ => none }
def PolyRootsWrongFalsely : Prop := polyRootsRow.holds Try.pinned (OpenSpec.ofChange polyRootsWrong)

/-- 'cairnlaw02.PolyPartials': WHATEVER THE INPUT: true; the input reads as it did. -/
def polyPartialsSpec : ChangeSpec := { name := "polyPartials", fn := fun _ => fun
  | [d1, d2, d3] => { results := [.lit (.bool true)], args := [d1, d2, d3] }
  | _ => none }
def polyPartialsRow : OpenClaim := { program := "ytpjebfcdjhcfnaa", sum := "5149e8908d2288ca9bb7bcca4fbe78a1572aff7674d958e97170faf49425cbd5", func := "cairn/cairnlaw02.PolyPartials", spec := "polyPartials", unfollowed := true, recurses := true, apart := false }
def PolyPartialsSaid : Prop := polyPartialsRow.holds Try.pinned (OpenSpec.ofChange polyPartialsSpec)

/-- ITS FALSE NEIGHBOUR: 'it returns false'. Refute it at one input. -/
def polyPartialsWrong : ChangeSpec := { name := "polyPartials", fn := fun _ => fun
  | [d1, d2, d3] => { results := [.lit (.bool false)], args := [d1, d2, d3] }
  | _ => none }
def PolyPartialsWrongFalsely : Prop := polyPartialsRow.holds Try.pinned (OpenSpec.ofChange polyPartialsWrong)

/- THE SECOND FORM. 'bulk': how many values and letters a reading holds, each counted each time it is reached (what is shared counts as often as it is met; a slice's spare places count too). A statement '..UptoSaid' is the law's where the arguments, and the package variables that the reading takes, are together of bulk at most 1048576: NARROWER than '..Said'. Prove '..Said' where nothing that the law and all that it calls make is longer than what came in: it says more and counts as full. Else prove '..UptoSaid'. A law counts once. -/
mutual
def uptoBulk {H : Type} : DataW H → Nat
  | .lit (.string bytes) => bytes.length + 1
  | .lit _ => 1
  | .nil => 1
  | .ptr d => uptoBulk d + 1
  | .slice elems spare => uptoBulkAll elems + uptoBulkAll spare + 1
  | .agg parts => uptoBulkAll parts + 1
  | .iface _ d => uptoBulk d + 1
  | .map entries => uptoBulkEntries entries + 1
  | .held _ => 1
def uptoBulkAll {H : Type} : List (DataW H) → Nat
  | [] => 0
  | d :: r => uptoBulk d + uptoBulkAll r
def uptoBulkEntries {H : Type} : List (Lit × DataW H) → Nat
  | [] => 0
  | x :: r => uptoBulkEntry x + uptoBulkEntries r
def uptoBulkEntry {H : Type} : Lit × DataW H → Nat
  | (.string bytes, d) => bytes.length + uptoBulk d + 1
  | (_, d) => uptoBulk d + 1
 end
def uptoSmall : (H : Type) → List (DataW H) → Bool := fun _ ds => decide (uptoBulkAll ds ≤ 1048576)
def OpenSpec.upto (s : _root_.Go.ChangeSpec) : _root_.Go.OpenSpec := { _root_.Go.OpenSpec.ofChange s with cond := some uptoSmall }

/-- 'cairnlaw02.PolyTrims', WHERE WHAT IT READS IS OF BULK AT MOST 1048576: true; the input reads as it did. -/
def polyTrimsUptoRow : OpenClaim := { program := "ytpjebfcdjhcfnaa", sum := "5149e8908d2288ca9bb7bcca4fbe78a1572aff7674d958e97170faf49425cbd5", func := "cairn/cairnlaw02.PolyTrims", spec := "polyTrims", apart := false, narrowed := true }
def PolyTrimsUptoSaid : Prop := polyTrimsUptoRow.holds Try.pinned (OpenSpec.upto polyTrimsSpec)

/-- 'cairnlaw02.PolySums', WHERE WHAT IT READS IS OF BULK AT MOST 1048576: true; the input reads as it did. -/
def polySumsUptoRow : OpenClaim := { program := "ytpjebfcdjhcfnaa", sum := "5149e8908d2288ca9bb7bcca4fbe78a1572aff7674d958e97170faf49425cbd5", func := "cairn/cairnlaw02.PolySums", spec := "polySums", unfollowed := true, recurses := true, apart := false, narrowed := true }
def PolySumsUptoSaid : Prop := polySumsUptoRow.holds Try.pinned (OpenSpec.upto polySumsSpec)

/-- 'cairnlaw02.PolyDivides', WHERE WHAT IT READS IS OF BULK AT MOST 1048576: true; the input reads as it did. -/
def polyDividesUptoRow : OpenClaim := { program := "ytpjebfcdjhcfnaa", sum := "5149e8908d2288ca9bb7bcca4fbe78a1572aff7674d958e97170faf49425cbd5", func := "cairn/cairnlaw02.PolyDivides", spec := "polyDivides", apart := false, narrowed := true }
def PolyDividesUptoSaid : Prop := polyDividesUptoRow.holds Try.pinned (OpenSpec.upto polyDividesSpec)

/-- 'cairnlaw02.PolyThroughs', WHERE WHAT IT READS IS OF BULK AT MOST 1048576: true; the input reads as it did. -/
def polyThroughsUptoRow : OpenClaim := { program := "ytpjebfcdjhcfnaa", sum := "5149e8908d2288ca9bb7bcca4fbe78a1572aff7674d958e97170faf49425cbd5", func := "cairn/cairnlaw02.PolyThroughs", spec := "polyThroughs", apart := false, narrowed := true }
def PolyThroughsUptoSaid : Prop := polyThroughsUptoRow.holds Try.pinned (OpenSpec.upto polyThroughsSpec)

/-- 'cairnlaw02.PolyRoots', WHERE WHAT IT READS IS OF BULK AT MOST 1048576: true; the input reads as it did. -/
def polyRootsUptoRow : OpenClaim := { program := "ytpjebfcdjhcfnaa", sum := "5149e8908d2288ca9bb7bcca4fbe78a1572aff7674d958e97170faf49425cbd5", func := "cairn/cairnlaw02.PolyRoots", spec := "polyRoots", apart := false, narrowed := true }
def PolyRootsUptoSaid : Prop := polyRootsUptoRow.holds Try.pinned (OpenSpec.upto polyRootsSpec)

/-- 'cairnlaw02.PolyPartials', WHERE WHAT IT READS IS OF BULK AT MOST 1048576: true; the input reads as it did. -/
def polyPartialsUptoRow : OpenClaim := { program := "ytpjebfcdjhcfnaa", sum := "5149e8908d2288ca9bb7bcca4fbe78a1572aff7674d958e97170faf49425cbd5", func := "cairn/cairnlaw02.PolyPartials", spec := "polyPartials", unfollowed := true, recurses := true, apart := false, narrowed := true }
def PolyPartialsUptoSaid : Prop := polyPartialsUptoRow.holds Try.pinned (OpenSpec.upto polyPartialsSpec)

end Rows
end Go.Proofs.Ytpjebfcdjhcfnaa
