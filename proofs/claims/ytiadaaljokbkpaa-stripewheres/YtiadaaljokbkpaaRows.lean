/-
  No cell of these rows narrows 'for every input' (looked for: loops, veiled, ifaces, maps, wideKeys, modest, calm, conditions, laid).
  DERIVED. THE GIVEN ROWS OF THIS SEAT. 3 by the template 'for every input the law returns true; each argument reads behind the call as it read before'; 0 by the template 'total and deterministic' (their statements: YtiadaaljokbkpaaTotals.lean).
  GIVEN WITH THE SEED: the statements are not yours to turn. If you find one false, say at which input.
  Laid BY PROGRAM, IN A SANDBOX (cutbox-rows.mjs): the forced cells as the released guide's own fill.sh prints them over the translation 4c93534c4c5e66aa… (all of the seat's roots in one cut). By AI agents, Wed Nov 11 2026. No macro, syntax, notation, axiom, sorry.
-/
import Derived.Test.YtiadaaljokbkpaaChecked
import GoSem.Claim
import GoSem.ClaimJoined
import GoSem.ClaimMapViews
import Derived.JoinedTies
import Derived.KernelRfl
namespace Go.Proofs.Ytiadaaljokbkpaa
/- THE CELL 'sum', in the pinned program and in every row, IS THE sha256 OF THE DUMP (.gsa) THAT YtiadaaljokbkpaaProg.lean LOADS. Nothing in Lean hashes anything: it is a label: what it is worth is what the hold of that sum in a sandbox is worth. -/
noncomputable def Try.pinned : Pinned := { name := "ytiadaaljokbkpaa", sum := "4c93534c4c5e66aa6c26b2afbac0327beb35cc62e822b048f1361d39debb2734", checked := Try.checked }
namespace Rows
def none {H : Type} : Left H := { results := [], args := [] }

/-- 'cairnlaw10.StripeSizes': WHATEVER THE INPUT: true; the input reads as it did. -/
def stripeSizesSpec : ChangeSpec := { name := "stripeSizes", fn := fun _ => fun
  | [d1, d2] => { results := [.lit (.bool true)], args := [d1, d2] }
  | _ => none }
def stripeSizesRow : OpenClaim := { program := "ytiadaaljokbkpaa", sum := "4c93534c4c5e66aa6c26b2afbac0327beb35cc62e822b048f1361d39debb2734", func := "cairn/cairnlaw10.StripeSizes", spec := "stripeSizes", apart := false }
def StripeSizesSaid : Prop := stripeSizesRow.holds Try.pinned (OpenSpec.ofChange stripeSizesSpec)

/-- ITS FALSE NEIGHBOUR: 'it returns false'. Refute it at one input. -/
def stripeSizesWrong : ChangeSpec := { name := "stripeSizes", fn := fun _ => fun
  | [d1, d2] => { results := [.lit (.bool false)], args := [d1, d2] }
  | _ => none }
def StripeSizesWrongFalsely : Prop := stripeSizesRow.holds Try.pinned (OpenSpec.ofChange stripeSizesWrong)

/-- 'cairnlaw10.StripeWheres': WHATEVER THE INPUT: true; the input reads as it did. -/
def stripeWheresSpec : ChangeSpec := { name := "stripeWheres", fn := fun _ => fun
  | [d1, d2, d3, d4] => { results := [.lit (.bool true)], args := [d1, d2, d3, d4] }
  | _ => none }
def stripeWheresRow : OpenClaim := { program := "ytiadaaljokbkpaa", sum := "4c93534c4c5e66aa6c26b2afbac0327beb35cc62e822b048f1361d39debb2734", func := "cairn/cairnlaw10.StripeWheres", spec := "stripeWheres", apart := false }
def StripeWheresSaid : Prop := stripeWheresRow.holds Try.pinned (OpenSpec.ofChange stripeWheresSpec)

/-- ITS FALSE NEIGHBOUR: 'it returns false'. Refute it at one input. -/
def stripeWheresWrong : ChangeSpec := { name := "stripeWheres", fn := fun _ => fun
  | [d1, d2, d3, d4] => { results := [.lit (.bool false)], args := [d1, d2, d3, d4] }
  | _ => none }
def StripeWheresWrongFalsely : Prop := stripeWheresRow.holds Try.pinned (OpenSpec.ofChange stripeWheresWrong)

/-- 'cairnlaw10.StripeCost': WHATEVER THE INPUT: true; the input reads as it did. -/
def stripeCostSpec : ChangeSpec := { name := "stripeCost", fn := fun _ => fun
  | [d1, d2, d3] => { results := [.lit (.bool true)], args := [d1, d2, d3] }
  | _ => none }
def stripeCostRow : OpenClaim := { program := "ytiadaaljokbkpaa", sum := "4c93534c4c5e66aa6c26b2afbac0327beb35cc62e822b048f1361d39debb2734", func := "cairn/cairnlaw10.StripeCost", spec := "stripeCost", unfollowed := true, recurses := true, apart := false }
def StripeCostSaid : Prop := stripeCostRow.holds Try.pinned (OpenSpec.ofChange stripeCostSpec)

/-- ITS FALSE NEIGHBOUR: 'it returns false'. Refute it at one input. -/
def stripeCostWrong : ChangeSpec := { name := "stripeCost", fn := fun _ => fun
  | [d1, d2, d3] => { results := [.lit (.bool false)], args := [d1, d2, d3] }
  | _ => none }
def StripeCostWrongFalsely : Prop := stripeCostRow.holds Try.pinned (OpenSpec.ofChange stripeCostWrong)

/- THE SECOND FORM. 'bulk': how many values and letters a reading holds, each counted each time it is reached (what is shared counts as often as it is met; a slice's spare places count too). A statement '..UptoSaid' is the law's where the arguments, and the package variables that the reading takes, are together of bulk at most 1048576: NARROWER than '..Said'. Prove '..Said' where nothing that the law and all that it calls make is longer than what came in: it says more and counts as full. Else prove '..UptoSaid'. A law counts once. -/
mutual
def uptoBulk {H : Type} : DataW H → Nat
  | .lit (.string bytes) => bytes.length + 1
  | .lit _ => 1
  | .nil => 1
  | .ptr d => uptoBulk d + 1
  | .slice elems spare => uptoBulkAll elems + uptoBulkAll spare + 1
  | .agg parts => uptoBulkAll parts + 1
  | .iface _ d => uptoBulk d + 1
  | .map entries => uptoBulkEntries entries + 1
  | .held _ => 1
def uptoBulkAll {H : Type} : List (DataW H) → Nat
  | [] => 0
  | d :: r => uptoBulk d + uptoBulkAll r
def uptoBulkEntries {H : Type} : List (Lit × DataW H) → Nat
  | [] => 0
  | x :: r => uptoBulkEntry x + uptoBulkEntries r
def uptoBulkEntry {H : Type} : Lit × DataW H → Nat
  | (.string bytes, d) => bytes.length + uptoBulk d + 1
  | (_, d) => uptoBulk d + 1
 end
def uptoSmall : (H : Type) → List (DataW H) → Bool := fun _ ds => decide (uptoBulkAll ds ≤ 1048576)
def OpenSpec.upto (s : _root_.Go.ChangeSpec) : _root_.Go.OpenSpec := { _root_.Go.OpenSpec.ofChange s with cond := some uptoSmall }

/-- 'cairnlaw10.StripeSizes', WHERE WHAT IT READS IS OF BULK AT MOST 1048576: true; the input reads as it did. -/
def stripeSizesUptoRow : OpenClaim := { program := "ytiadaaljokbkpaa", sum := "4c93534c4c5e66aa6c26b2afbac0327beb35cc62e822b048f1361d39debb2734", func := "cairn/cairnlaw10.StripeSizes", spec := "stripeSizes", apart := false, narrowed := true }
def StripeSizesUptoSaid : Prop := stripeSizesUptoRow.holds Try.pinned (OpenSpec.upto stripeSizesSpec)

/-- 'cairnlaw10.StripeWheres', WHERE WHAT IT READS IS OF BULK AT MOST 1048576: true; the input reads as it did. -/
def stripeWheresUptoRow : OpenClaim := { program := "ytiadaaljokbkpaa", sum := "4c93534c4c5e66aa6c26b2afbac0327beb35cc62e822b048f1361d39debb2734", func := "cairn/cairnlaw10.StripeWheres", spec := "stripeWheres", apart := false, narrowed := true }
def StripeWheresUptoSaid : Prop := stripeWheresUptoRow.holds Try.pinned (OpenSpec.upto stripeWheresSpec)

/-- 'cairnlaw10.StripeCost', WHERE WHAT IT READS IS OF BULK AT MOST 1048576: true; the input reads as it did. -/
def stripeCostUptoRow : OpenClaim := { program := "ytiadaaljokbkpaa", sum := "4c93534c4c5e66aa6c26b2afbac0327beb35cc62e822b048f1361d39debb2734", func := "cairn/cairnlaw10.StripeCost", spec := "stripeCost", unfollowed := true, recurses := true, apart := false, narrowed := true }
def StripeCostUptoSaid : Prop := stripeCostUptoRow.holds Try.pinned (OpenSpec.upto stripeCostSpec)

end Rows
end Go.Proofs.Ytiadaaljokbkpaa
