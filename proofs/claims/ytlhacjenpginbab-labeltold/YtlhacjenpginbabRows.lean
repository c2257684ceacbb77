/-
  No cell of these rows narrows 'for every input' (looked for: loops, veiled, ifaces, maps, wideKeys, modest, calm, conditions, laid).
  DERIVED. THE GIVEN ROWS OF THIS SEAT. 3 by the template 'for every input the law returns true; each argument reads behind the call as it read before'; 0 by the template 'total and deterministic' (their statements: YtlhacjenpginbabTotals.lean).
  GIVEN WITH THE SEED: the statements are not yours to turn. If you find one false, say at which input.
  Laid BY PROGRAM, IN A SANDBOX (cutbox-rows.mjs): the forced cells as the released guide's own fill.sh prints them over the translation 792a1e348236eb0e… (all of the seat's roots in one cut). By AI agents, Wed Nov 11 2026. No macro, syntax, notation, axiom, sorry.
-/
import Derived.Test.YtlhacjenpginbabChecked
import GoSem.Claim
import GoSem.ClaimJoined
import GoSem.ClaimMapViews
import Derived.JoinedTies
import Derived.KernelRfl
namespace Go.Proofs.Ytlhacjenpginbab
/- THE CELL 'sum', in the pinned program and in every row, IS THE sha256 OF THE DUMP (.gsa) THAT YtlhacjenpginbabProg.lean LOADS. Nothing in Lean hashes anything: it is a label: what it is worth is what the hold of that sum in a sandbox is worth. -/
noncomputable def Try.pinned : Pinned := { name := "ytlhacjenpginbab", sum := "792a1e348236eb0ea039ee728f94f75bc1f9f2fda91023da1a56322d52c27a11", checked := Try.checked }
namespace Rows
def none {H : Type} : Left H := { results := [], args := [] }

/-- 'cairnlaw15.LabelOne': WHATEVER THE INPUT: true; the input reads as it did. -/
def labelOneSpec : ChangeSpec := { name := "labelOne", fn := fun _ => fun
  | [d] => { results := [.lit (.bool true)], args := [d] }
  | _ => none }
def labelOneRow : OpenClaim := { program := "ytlhacjenpginbab", sum := "792a1e348236eb0ea039ee728f94f75bc1f9f2fda91023da1a56322d52c27a11", func := "cairn/cairnlaw15.LabelOne", spec := "labelOne", unfollowed := true, recurses := true, apart := false }
def LabelOneSaid : Prop := labelOneRow.holds Try.pinned (OpenSpec.ofChange labelOneSpec)

/-- ITS FALSE NEIGHBOUR: 'it returns false'. Refute it at one input. -/
def labelOneWrong : ChangeSpec := { name := "labelOne", fn := fun _ => fun
  | [d] => { results := [.lit (.bool false)], args := [d] }
  | _ => none }
def LabelOneWrongFalsely : Prop := labelOneRow.holds Try.pinned (OpenSpec.ofChange labelOneWrong)

/-- 'cairnlaw15.LabelTold': WHATEVER THE INPUT: true; the input reads as it did. -/
def labelToldSpec : ChangeSpec := { name := "labelTold", fn := fun _ => fun
  | [d1, d2, d3] => { results := [.lit (.bool true)], args := [d1, d2, d3] }
  | _ => none }
def labelToldRow : OpenClaim := { program := "ytlhacjenpginbab", sum := "792a1e348236eb0ea039ee728f94f75bc1f9f2fda91023da1a56322d52c27a11", func := "cairn/cairnlaw15.LabelTold", spec := "labelTold", unfollowed := true, recurses := true, apart := false }
def LabelToldSaid : Prop := labelToldRow.holds Try.pinned (OpenSpec.ofChange labelToldSpec)

/-- ITS FALSE NEIGHBOUR: 'it returns false'. Refute it at one input. -/
def labelToldWrong : ChangeSpec := { name := "labelTold", fn := fun _ => fun
  | [d1, d2, d3] => { results := [.lit (.bool false)], args := [d1, d2, d3] }
  | _ => none }
def LabelToldWrongFalsely : Prop := labelToldRow.holds Try.pinned (OpenSpec.ofChange labelToldWrong)

/-- 'cairnlaw15.LabelOwn': WHATEVER THE INPUT: true; the input reads as it did. -/
def labelOwnSpec : ChangeSpec := { name := "labelOwn", fn := fun _ => fun
  | [d1, d2] => { results := [.lit (.bool true)], args := [d1, d2] }
  | _ => none }
def labelOwnRow : OpenClaim := { program := "ytlhacjenpginbab", sum := "792a1e348236eb0ea039ee728f94f75bc1f9f2fda91023da1a56322d52c27a11", func := "cairn/cairnlaw15.LabelOwn", spec := "labelOwn", unfollowed := true, recurses := true, apart := false }
def LabelOwnSaid : Prop := labelOwnRow.holds Try.pinned (OpenSpec.ofChange labelOwnSpec)

/-- ITS FALSE NEIGHBOUR: 'it returns false'. Refute it at one input. -/
def labelOwnWrong : ChangeSpec := { name := "labelOwn", fn := fun _ => fun
  | [d1, d2] => { results := [.lit (.bool false)], args := [d1, d2] }
  | _ => none }
def LabelOwnWrongFalsely : Prop := labelOwnRow.holds Try.pinned (OpenSpec.ofChange labelOwnWrong)

/- THE SECOND FORM. 'bulk': how many values and letters a reading holds, each counted each time it is reached (what is shared counts as often as it is met; a slice's spare places count too). A statement '..UptoSaid' is the law's where the arguments, and the package variables that the reading takes, are together of bulk at most 1048576: NARROWER than '..Said'. Prove '..Said' where nothing that the law and all that it calls make is longer than what came in: it says more and counts as full. Else prove '..UptoSaid'. A law counts once. -/
mutual
def uptoBulk {H : Type} : DataW H → Nat
  | .lit (.string bytes) => bytes.length + 1
  | .lit _ => 1
  | .nil => 1
  | .ptr d => uptoBulk d + 1
  | .slice elems spare => uptoBulkAll elems + uptoBulkAll spare + 1
  | .agg parts => uptoBulkAll parts + 1
  | .iface _ d => uptoBulk d + 1
  | .map entries => uptoBulkEntries entries + 1
  | .held _ => 1
def uptoBulkAll {H : Type} : List (DataW H) → Nat
  | [] => 0
  | d :: r => uptoBulk d + uptoBulkAll r
def uptoBulkEntries {H : Type} : List (Lit × DataW H) → Nat
  | [] => 0
  | x :: r => uptoBulkEntry x + uptoBulkEntries r
def uptoBulkEntry {H : Type} : Lit × DataW H → Nat
  | (.string bytes, d) => bytes.length + uptoBulk d + 1
  | (_, d) => uptoBulk d + 1
 end
def uptoSmall : (H : Type) → List (DataW H) → Bool := fun _ ds => decide (uptoBulkAll ds ≤ 1048576)
def OpenSpec.upto (s : _root_.Go.ChangeSpec) : _root_.Go.OpenSpec := { _root_.Go.OpenSpec.ofChange s with cond := some uptoSmall }

/-- 'cairnlaw15.LabelOne', WHERE WHAT IT READS IS OF BULK AT MOST 1048576: true; the input reads as it did. -/
def labelOneUptoRow : OpenClaim := { program := "ytlhacjenpginbab", sum := "792a1e348236eb0ea039ee728f94f75bc1f9f2fda91023da1a56322d52c27a11", func := "cairn/cairnlaw15.LabelOne", spec := "labelOne", unfollowed := true, recurses := true, apart := false, narrowed := true }
def LabelOneUptoSaid : Prop := labelOneUptoRow.holds Try.pinned (OpenSpec.upto labelOneSpec)

/-- 'cairnlaw15.LabelTold', WHERE WHAT IT READS IS OF BULK AT MOST 1048576: true; the input reads as it did. -/
def labelToldUptoRow : OpenClaim := { program := "ytlhacjenpginbab", sum := "792a1e348236eb0ea039ee728f94f75bc1f9f2fda91023da1a56322d52c27a11", func := "cairn/cairnlaw15.LabelTold", spec := "labelTold", unfollowed := true, recurses := true, apart := false, narrowed := true }
def LabelToldUptoSaid : Prop := labelToldUptoRow.holds Try.pinned (OpenSpec.upto labelToldSpec)

/-- 'cairnlaw15.LabelOwn', WHERE WHAT IT READS IS OF BULK AT MOST 1048576: true; the input reads as it did. -/
def labelOwnUptoRow : OpenClaim := { program := "ytlhacjenpginbab", sum := "792a1e348236eb0ea039ee728f94f75bc1f9f2fda91023da1a56322d52c27a11", func := "cairn/cairnlaw15.LabelOwn", spec := "labelOwn", unfollowed := true, recurses := true, apart := false, narrowed := true }
def LabelOwnUptoSaid : Prop := labelOwnUptoRow.holds Try.pinned (OpenSpec.upto labelOwnSpec)

end Rows
end Go.Proofs.Ytlhacjenpginbab
