/-
  No cell of these rows narrows 'for every input' (looked for: loops, veiled, ifaces, maps, wideKeys, modest, calm, conditions, laid).
  DERIVED. THE GIVEN ROWS OF THIS SEAT. 4 by the template 'for every input the law returns true; each argument reads behind the call as it read before'; 0 by the template 'total and deterministic' (their statements: YtjjncajfljbegaaTotals.lean).
  GIVEN WITH THE SEED: the statements are not yours to turn. If you find one false, say at which input.
  Laid BY PROGRAM, IN A SANDBOX (cutbox-rows.mjs): the forced cells as the released guide's own fill.sh prints them over the translation 3997ac2292a117a8… (all of the seat's roots in one cut). By AI agents, Wed Nov 11 2026. No macro, syntax, notation, axiom, sorry.
-/
import Derived.Test.YtjjncajfljbegaaChecked
import GoSem.Claim
import GoSem.ClaimJoined
import GoSem.ClaimMapViews
import Derived.JoinedTies
import Derived.KernelRfl
namespace Go.Proofs.Ytjjncajfljbegaa
/- THE CELL 'sum', in the pinned program and in every row, IS THE sha256 OF THE DUMP (.gsa) THAT YtjjncajfljbegaaProg.lean LOADS. Nothing in Lean hashes anything: it is a label: what it is worth is what the hold of that sum in a sandbox is worth. -/
noncomputable def Try.pinned : Pinned := { name := "ytjjncajfljbegaa", sum := "3997ac2292a117a8ae5846ddfc1b834cd6335b2c4acf2ce10b765faf4cbb0840", checked := Try.checked }
namespace Rows
def none {H : Type} : Left H := { results := [], args := [] }

/-- 'cairnlaw12.WoundPlain': WHATEVER THE INPUT: true; the input reads as it did. -/
def woundPlainSpec : ChangeSpec := { name := "woundPlain", fn := fun _ => fun
  | [d1, d2] => { results := [.lit (.bool true)], args := [d1, d2] }
  | _ => none }
def woundPlainRow : OpenClaim := { program := "ytjjncajfljbegaa", sum := "3997ac2292a117a8ae5846ddfc1b834cd6335b2c4acf2ce10b765faf4cbb0840", func := "cairn/cairnlaw12.WoundPlain", spec := "woundPlain", inPlace := ["maps.clone"], unfollowed := true, recurses := true, apart := false }
def WoundPlainSaid : Prop := woundPlainRow.holds Try.pinned (OpenSpec.ofChange woundPlainSpec)

/-- ITS FALSE NEIGHBOUR: 'it returns false'. Refute it at one input. -/
def woundPlainWrong : ChangeSpec := { name := "woundPlain", fn := fun _ => fun
  | [d1, d2] => { results := [.lit (.bool false)], args := [d1, d2] }
  | _ => none }
def WoundPlainWrongFalsely : Prop := woundPlainRow.holds Try.pinned (OpenSpec.ofChange woundPlainWrong)

/-- 'cairnlaw12.WoundFuse': WHATEVER THE INPUT: true; the input reads as it did. -/
def woundFuseSpec : ChangeSpec := { name := "woundFuse", fn := fun _ => fun
  | [d] => { results := [.lit (.bool true)], args := [d] }
  | _ => none }
def woundFuseRow : OpenClaim := { program := "ytjjncajfljbegaa", sum := "3997ac2292a117a8ae5846ddfc1b834cd6335b2c4acf2ce10b765faf4cbb0840", func := "cairn/cairnlaw12.WoundFuse", spec := "woundFuse", inPlace := ["maps.clone"], unfollowed := true, recurses := true, apart := false }
def WoundFuseSaid : Prop := woundFuseRow.holds Try.pinned (OpenSpec.ofChange woundFuseSpec)

/-- ITS FALSE NEIGHBOUR: 'it returns false'. Refute it at one input. -/
def woundFuseWrong : ChangeSpec := { name := "woundFuse", fn := fun _ => fun
  | [d] => { results := [.lit (.bool false)], args := [d] }
  | _ => none }
def WoundFuseWrongFalsely : Prop := woundFuseRow.holds Try.pinned (OpenSpec.ofChange woundFuseWrong)

/-- 'cairnlaw12.WoundApart': WHATEVER THE INPUT: true; the input reads as it did. -/
def woundApartSpec : ChangeSpec := { name := "woundApart", fn := fun _ => fun
  | [d] => { results := [.lit (.bool true)], args := [d] }
  | _ => none }
def woundApartRow : OpenClaim := { program := "ytjjncajfljbegaa", sum := "3997ac2292a117a8ae5846ddfc1b834cd6335b2c4acf2ce10b765faf4cbb0840", func := "cairn/cairnlaw12.WoundApart", spec := "woundApart", inPlace := ["maps.clone"], unfollowed := true, recurses := true, apart := false }
def WoundApartSaid : Prop := woundApartRow.holds Try.pinned (OpenSpec.ofChange woundApartSpec)

/-- ITS FALSE NEIGHBOUR: 'it returns false'. Refute it at one input. -/
def woundApartWrong : ChangeSpec := { name := "woundApart", fn := fun _ => fun
  | [d] => { results := [.lit (.bool false)], args := [d] }
  | _ => none }
def WoundApartWrongFalsely : Prop := woundApartRow.holds Try.pinned (OpenSpec.ofChange woundApartWrong)

/-- 'cairnlaw12.WoundReasons': WHATEVER THE INPUT: true; the input reads as it did. -/
def woundReasonsSpec : ChangeSpec := { name := "woundReasons", fn := fun _ => fun
  | [d1, d2] => { results := [.lit (.bool true)], args := [d1, d2] }
  | _ => none }
def woundReasonsRow : OpenClaim := { program := "ytjjncajfljbegaa", sum := "3997ac2292a117a8ae5846ddfc1b834cd6335b2c4acf2ce10b765faf4cbb0840", func := "cairn/cairnlaw12.WoundReasons", spec := "woundReasons", inPlace := ["maps.clone"], unfollowed := true, recurses := true, apart := false }
def WoundReasonsSaid : Prop := woundReasonsRow.holds Try.pinned (OpenSpec.ofChange woundReasonsSpec)

/-- ITS FALSE NEIGHBOUR: 'it returns false'. Refute it at one input. -/
def woundReasonsWrong : ChangeSpec := { name := "woundReasons", fn := fun _ => fun
  | [d1, d2] => { results := [.lit (.bool false)], args := [d1, d2] }
  | _ => none }
def WoundReasonsWrongFalsely : Prop := woundReasonsRow.holds Try.pinned (OpenSpec.ofChange woundReasonsWrong)

/- THE SECOND FORM. 'bulk': how many values and letters a reading holds, each counted each time it is reached (what is shared counts as often as it is met; a slice's spare places count too). A statement '..UptoSaid' is the law's where the arguments, and the package variables that the reading takes, are together of bulk at most 1048576: NARROWER than '..Said'. Prove '..Said' where nothing that the law and all that it calls make is longer than what came in: it says more and counts as full. Else prove '..UptoSaid'. A law counts once. -/
mutual
def uptoBulk {H : Type} : DataW H → Nat
  | .lit (.string bytes) => bytes.length + 1
  | .lit _ => 1
  | .nil => 1
  | .ptr d => uptoBulk d + 1
  | .slice elems spare => uptoBulkAll elems + uptoBulkAll spare + 1
  | .agg parts => uptoBulkAll parts + 1
  | .iface _ d => uptoBulk d + 1
  | .map entries => uptoBulkEntries entries + 1
  | .held _ => 1
def uptoBulkAll {H : Type} : List (DataW H) → Nat
  | [] => 0
  | d :: r => uptoBulk d + uptoBulkAll r
def uptoBulkEntries {H : Type} : List (Lit × DataW H) → Nat
  | [] => 0
  | x :: r => uptoBulkEntry x + uptoBulkEntries r
def uptoBulkEntry {H : Type} : Lit × DataW H → Nat
  | (.string bytes, d) => bytes.length + uptoBulk d + 1
  | (_, d) => uptoBulk d + 1
 end
def uptoSmall : (H : Type) → List (DataW H) → Bool := fun _ ds => decide (uptoBulkAll ds ≤ 1048576)
def OpenSpec.upto (s : _root_.Go.ChangeSpec) : _root_.Go.OpenSpec := { _root_.Go.OpenSpec.ofChange s with cond := some uptoSmall }

/-- 'cairnlaw12.WoundPlain', WHERE WHAT IT READS IS OF BULK AT MOST 1048576: true; the input reads as it did. -/
def woundPlainUptoRow : OpenClaim := { program := "ytjjncajfljbegaa", sum := "3997ac2292a117a8ae5846ddfc1b834cd6335b2c4acf2ce10b765faf4cbb0840", func := "cairn/cairnlaw12.WoundPlain", spec := "woundPlain", inPlace := ["maps.clone"], unfollowed := true, recurses := true, apart := false, narrowed := true }
def WoundPlainUptoSaid : Prop := woundPlainUptoRow.holds Try.pinned (OpenSpec.upto woundPlainSpec)

/-- 'cairnlaw12.WoundFuse', WHERE WHAT IT READS IS OF BULK AT MOST 1048576: true; the input reads as it did. -/
def woundFuseUptoRow : OpenClaim := { program := "ytjjncajfljbegaa", sum := "3997ac2292a117a8ae5846ddfc1b834cd6335b2c4acf2ce10b765faf4cbb0840", func := "cairn/cairnlaw12.WoundFuse", spec := "woundFuse", inPlace := ["maps.clone"], unfollowed := true, recurses := true, apart := false, narrowed := true }
def WoundFuseUptoSaid : Prop := woundFuseUptoRow.holds Try.pinned (OpenSpec.upto woundFuseSpec)

/-- 'cairnlaw12.WoundApart', WHERE WHAT IT READS IS OF BULK AT MOST 1048576: true; the input reads as it did. -/
def woundApartUptoRow : OpenClaim := { program := "ytjjncajfljbegaa", sum := "3997ac2292a117a8ae5846ddfc1b834cd6335b2c4acf2ce10b765faf4cbb0840", func := "cairn/cairnlaw12.WoundApart", spec := "woundApart", inPlace := ["maps.clone"], unfollowed := true, recurses := true, apart := false, narrowed := true }
def WoundApartUptoSaid : Prop := woundApartUptoRow.holds Try.pinned (OpenSpec.upto woundApartSpec)

/-- 'cairnlaw12.WoundReasons', WHERE WHAT IT READS IS OF BULK AT MOST 1048576: true; the input reads as it did. -/
def woundReasonsUptoRow : OpenClaim := { program := "ytjjncajfljbegaa", sum := "3997ac2292a117a8ae5846ddfc1b834cd6335b2c4acf2ce10b765faf4cbb0840", func := "cairn/cairnlaw12.WoundReasons", spec := "woundReasons", inPlace := ["maps.clone"], unfollowed := true, recurses := true, apart := false, narrowed := true }
def WoundReasonsUptoSaid : Prop := woundReasonsUptoRow.holds Try.pinned (OpenSpec.upto woundReasonsSpec)

end Rows
end Go.Proofs.Ytjjncajfljbegaa
