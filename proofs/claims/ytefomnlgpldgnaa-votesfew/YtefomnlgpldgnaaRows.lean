/-
  No cell of these rows narrows 'for every input' (looked for: loops, veiled, ifaces, maps, wideKeys, modest, calm, conditions, laid).
  DERIVED. THE GIVEN ROWS OF THIS SEAT. 3 by the template 'for every input the law returns true; each argument reads behind the call as it read before'; 0 by the template 'total and deterministic' (their statements: YtefomnlgpldgnaaTotals.lean).
  GIVEN WITH THE SEED: the statements are not yours to turn. If you find one false, say at which input.
  Laid BY PROGRAM, IN A SANDBOX (cutbox-rows.mjs): the forced cells as the released guide's own fill.sh prints them over the translation 77fac3d167e42973… (all of the seat's roots in one cut). By AI agents, Wed Nov 11 2026. No macro, syntax, notation, axiom, sorry.
-/
import Derived.Test.YtefomnlgpldgnaaChecked
import GoSem.Claim
import GoSem.ClaimJoined
import GoSem.ClaimMapViews
import Derived.JoinedTies
import Derived.KernelRfl
namespace Go.Proofs.Ytefomnlgpldgnaa
/- THE CELL 'sum', in the pinned program and in every row, IS THE sha256 OF THE DUMP (.gsa) THAT YtefomnlgpldgnaaProg.lean LOADS. Nothing in Lean hashes anything: it is a label: what it is worth is what the hold of that sum in a sandbox is worth. -/
noncomputable def Try.pinned : Pinned := { name := "ytefomnlgpldgnaa", sum := "77fac3d167e429737a626a09b7208f925ea5fa7b74e28483b337e8e5011f42ba", checked := Try.checked }
namespace Rows
def none {H : Type} : Left H := { results := [], args := [] }

/-- 'cairnlaw17.VotesHidden': WHATEVER THE INPUT: true; the input reads as it did. -/
def votesHiddenSpec : ChangeSpec := { name := "votesHidden", fn := fun _ => fun
  | [d1, d2, d3] => { results := [.lit (.bool true)], args := [d1, d2, d3] }
  | _ => none }
def votesHiddenRow : OpenClaim := { program := "ytefomnlgpldgnaa", sum := "77fac3d167e429737a626a09b7208f925ea5fa7b74e28483b337e8e5011f42ba", func := "cairn/cairnlaw17.VotesHidden", spec := "votesHidden", unfollowed := true, recurses := true, plainKeys := false, apart := false }
def VotesHiddenSaid : Prop := votesHiddenRow.holds Try.pinned (OpenSpec.ofChange votesHiddenSpec)

/-- ITS FALSE NEIGHBOUR: 'it returns false'. Refute it at one input. -/
def votesHiddenWrong : ChangeSpec := { name := "votesHidden", fn := fun _ => fun
  | [d1, d2, d3] => { results := [.lit (.bool false)], args := [d1, d2, d3] }
  | _ => none }
def VotesHiddenWrongFalsely : Prop := votesHiddenRow.holds Try.pinned (OpenSpec.ofChange votesHiddenWrong)

/-- 'cairnlaw17.VotesFew': WHATEVER THE INPUT: true; the input reads as it did. -/
def votesFewSpec : ChangeSpec := { name := "votesFew", fn := fun _ => fun
  | [d1, d2] => { results := [.lit (.bool true)], args := [d1, d2] }
  | _ => none }
def votesFewRow : OpenClaim := { program := "ytefomnlgpldgnaa", sum := "77fac3d167e429737a626a09b7208f925ea5fa7b74e28483b337e8e5011f42ba", func := "cairn/cairnlaw17.VotesFew", spec := "votesFew", unfollowed := true, recurses := true, plainKeys := false, apart := false }
def VotesFewSaid : Prop := votesFewRow.holds Try.pinned (OpenSpec.ofChange votesFewSpec)

/-- ITS FALSE NEIGHBOUR: 'it returns false'. Refute it at one input. -/
def votesFewWrong : ChangeSpec := { name := "votesFew", fn := fun _ => fun
  | [d1, d2] => { results := [.lit (.bool false)], args := [d1, d2] }
  | _ => none }
def VotesFewWrongFalsely : Prop := votesFewRow.holds Try.pinned (OpenSpec.ofChange votesFewWrong)

/-- 'cairnlaw17.VotesMoved': WHATEVER THE INPUT: true; the input reads as it did. -/
def votesMovedSpec : ChangeSpec := { name := "votesMoved", fn := fun _ => fun
  | [d] => { results := [.lit (.bool true)], args := [d] }
  | _ => none }
def votesMovedRow : OpenClaim := { program := "ytefomnlgpldgnaa", sum := "77fac3d167e429737a626a09b7208f925ea5fa7b74e28483b337e8e5011f42ba", func := "cairn/cairnlaw17.VotesMoved", spec := "votesMoved", unfollowed := true, recurses := true, plainKeys := false, apart := false }
def VotesMovedSaid : Prop := votesMovedRow.holds Try.pinned (OpenSpec.ofChange votesMovedSpec)

/-- ITS FALSE NEIGHBOUR: 'it returns false'. Refute it at one input. -/
def votesMovedWrong : ChangeSpec := { name := "votesMoved", fn := fun _ => fun
  | [d] => { results := [.lit (.bool false)], args := [d] }
  | _ => none }
def VotesMovedWrongFalsely : Prop := votesMovedRow.holds Try.pinned (OpenSpec.ofChange votesMovedWrong)

/- THE SECOND FORM. 'bulk': how many values and letters a reading holds, each counted each time it is reached (what is shared counts as often as it is met; a slice's spare places count too). A statement '..UptoSaid' is the law's where the arguments, and the package variables that the reading takes, are together of bulk at most 1048576: NARROWER than '..Said'. Prove '..Said' where nothing that the law and all that it calls make is longer than what came in: it says more and counts as full. Else prove '..UptoSaid'. A law counts once. -/
mutual
def uptoBulk {H : Type} : DataW H → Nat
  | .lit (.string bytes) => bytes.length + 1
  | .lit _ => 1
  | .nil => 1
  | .ptr d => uptoBulk d + 1
  | .slice elems spare => uptoBulkAll elems + uptoBulkAll spare + 1
  | .agg parts => uptoBulkAll parts + 1
  | .iface _ d => uptoBulk d + 1
  | .map entries => uptoBulkEntries entries + 1
  | .held _ => 1
def uptoBulkAll {H : Type} : List (DataW H) → Nat
  | [] => 0
  | d :: r => uptoBulk d + uptoBulkAll r
def uptoBulkEntries {H : Type} : List (Lit × DataW H) → Nat
  | [] => 0
  | x :: r => uptoBulkEntry x + uptoBulkEntries r
def uptoBulkEntry {H : Type} : Lit × DataW H → Nat
  | (.string bytes, d) => bytes.length + uptoBulk d + 1
  | (_, d) => uptoBulk d + 1
 end
def uptoSmall : (H : Type) → List (DataW H) → Bool := fun _ ds => decide (uptoBulkAll ds ≤ 1048576)
def OpenSpec.upto (s : _root_.Go.ChangeSpec) : _root_.Go.OpenSpec := { _root_.Go.OpenSpec.ofChange s with cond := some uptoSmall }

/-- 'cairnlaw17.VotesHidden', WHERE WHAT IT READS IS OF BULK AT MOST 1048576: true; the input reads as it did. -/
def votesHiddenUptoRow : OpenClaim := { program := "ytefomnlgpldgnaa", sum := "77fac3d167e429737a626a09b7208f925ea5fa7b74e28483b337e8e5011f42ba", func := "cairn/cairnlaw17.VotesHidden", spec := "votesHidden", unfollowed := true, recurses := true, plainKeys := false, apart := false, narrowed := true }
def VotesHiddenUptoSaid : Prop := votesHiddenUptoRow.holds Try.pinned (OpenSpec.upto votesHiddenSpec)

/-- 'cairnlaw17.VotesFew', WHERE WHAT IT READS IS OF BULK AT MOST 1048576: true; the input reads as it did. -/
def votesFewUptoRow : OpenClaim := { program := "ytefomnlgpldgnaa", sum := "77fac3d167e429737a626a09b7208f925ea5fa7b74e28483b337e8e5011f42ba", func := "cairn/cairnlaw17.VotesFew", spec := "votesFew", unfollowed := true, recurses := true, plainKeys := false, apart := false, narrowed := true }
def VotesFewUptoSaid : Prop := votesFewUptoRow.holds Try.pinned (OpenSpec.upto votesFewSpec)

/-- 'cairnlaw17.VotesMoved', WHERE WHAT IT READS IS OF BULK AT MOST 1048576: true; the input reads as it did. -/
def votesMovedUptoRow : OpenClaim := { program := "ytefomnlgpldgnaa", sum := "77fac3d167e429737a626a09b7208f925ea5fa7b74e28483b337e8e5011f42ba", func := "cairn/cairnlaw17.VotesMoved", spec := "votesMoved", unfollowed := true, recurses := true, plainKeys := false, apart := false, narrowed := true }
def VotesMovedUptoSaid : Prop := votesMovedUptoRow.holds Try.pinned (OpenSpec.upto votesMovedSpec)

end Rows
end Go.Proofs.Ytefomnlgpldgnaa
