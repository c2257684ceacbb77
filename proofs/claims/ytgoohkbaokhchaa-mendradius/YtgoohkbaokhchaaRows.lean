/-
  No cell of these rows narrows 'for every input' (looked for: loops, veiled, ifaces, maps, wideKeys, modest, calm, conditions, laid).
  DERIVED. THE GIVEN ROWS OF THIS SEAT. 6 by the template 'for every input the law returns true; each argument reads behind the call as it read before'; 0 by the template 'total and deterministic' (their statements: YtgoohkbaokhchaaTotals.lean).
  GIVEN WITH THE SEED: the statements are not yours to turn. If you find one false, say at which input.
  Laid BY PROGRAM, IN A SANDBOX (cutbox-rows.mjs): the forced cells as the released guide's own fill.sh prints them over the translation 8102ec32a4c22339… (all of the seat's roots in one cut). By AI agents, Wed Nov 11 2026. No macro, syntax, notation, axiom, sorry.
-/
import Derived.Test.YtgoohkbaokhchaaChecked
import GoSem.Claim
import GoSem.ClaimJoined
import GoSem.ClaimMapViews
import Derived.JoinedTies
import Derived.KernelRfl
namespace Go.Proofs.Ytgoohkbaokhchaa
/- THE CELL 'sum', in the pinned program and in every row, IS THE sha256 OF THE DUMP (.gsa) THAT YtgoohkbaokhchaaProg.lean LOADS. Nothing in Lean hashes anything: it is a label: what it is worth is what the hold of that sum in a sandbox is worth. -/
noncomputable def Try.pinned : Pinned := { name := "ytgoohkbaokhchaa", sum := "8102ec32a4c2233904aad08794949954ca3460b53e89ec046f7b1bb30597acdd", checked := Try.checked }
namespace Rows
def none {H : Type} : Left H := { results := [], args := [] }

/-- 'cairnlaw05.MendRadius': WHATEVER THE INPUT: true; the input reads as it did. -/
def mendRadiusSpec : ChangeSpec := { name := "mendRadius", fn := fun _ => fun
  | [d1, d2, d3] => { results := [.lit (.bool true)], args := [d1, d2, d3] }
  | _ => none }
def mendRadiusRow : OpenClaim := { program := "ytgoohkbaokhchaa", sum := "8102ec32a4c2233904aad08794949954ca3460b53e89ec046f7b1bb30597acdd", func := "cairn/cairnlaw05.MendRadius", spec := "mendRadius", apart := false }
def MendRadiusSaid : Prop := mendRadiusRow.holds Try.pinned (OpenSpec.ofChange mendRadiusSpec)

/-- ITS FALSE NEIGHBOUR: 'it returns false'. Refute it at one input. -/
def mendRadiusWrong : ChangeSpec := { name := "mendRadius", fn := fun _ => fun
  | [d1, d2, d3] => { results := [.lit (.bool false)], args := [d1, d2, d3] }
  | _ => none }
def MendRadiusWrongFalsely : Prop := mendRadiusRow.holds Try.pinned (OpenSpec.ofChange mendRadiusWrong)

/-- 'cairnlaw05.MendColumns': WHATEVER THE INPUT: true; the input reads as it did. -/
def mendColumnsSpec : ChangeSpec := { name := "mendColumns", fn := fun _ => fun
  | [d] => { results := [.lit (.bool true)], args := [d] }
  | _ => none }
def mendColumnsRow : OpenClaim := { program := "ytgoohkbaokhchaa", sum := "8102ec32a4c2233904aad08794949954ca3460b53e89ec046f7b1bb30597acdd", func := "cairn/cairnlaw05.MendColumns", spec := "mendColumns", unfollowed := true, recurses := true, apart := false }
def MendColumnsSaid : Prop := mendColumnsRow.holds Try.pinned (OpenSpec.ofChange mendColumnsSpec)

/-- ITS FALSE NEIGHBOUR: 'it returns false'. Refute it at one input. -/
def mendColumnsWrong : ChangeSpec := { name := "mendColumns", fn := fun _ => fun
  | [d] => { results := [.lit (.bool false)], args := [d] }
  | _ => none }
def MendColumnsWrongFalsely : Prop := mendColumnsRow.holds Try.pinned (OpenSpec.ofChange mendColumnsWrong)

/-- 'cairnlaw05.MendRows': WHATEVER THE INPUT: true; the input reads as it did. -/
def mendRowsSpec : ChangeSpec := { name := "mendRows", fn := fun _ => fun
  | [d1, d2] => { results := [.lit (.bool true)], args := [d1, d2] }
  | _ => none }
def mendRowsRow : OpenClaim := { program := "ytgoohkbaokhchaa", sum := "8102ec32a4c2233904aad08794949954ca3460b53e89ec046f7b1bb30597acdd", func := "cairn/cairnlaw05.MendRows", spec := "mendRows", unfollowed := true, recurses := true, apart := false }
def MendRowsSaid : Prop := mendRowsRow.holds Try.pinned (OpenSpec.ofChange mendRowsSpec)

/-- ITS FALSE NEIGHBOUR: 'it returns false'. Refute it at one input. -/
def mendRowsWrong : ChangeSpec := { name := "mendRows", fn := fun _ => fun
  | [d1, d2] => { results := [.lit (.bool false)], args := [d1, d2] }
  | _ => none }
def MendRowsWrongFalsely : Prop := mendRowsRow.holds Try.pinned (OpenSpec.ofChange mendRowsWrong)

/-- 'cairnlaw05.MendHalf': WHATEVER THE INPUT: true; the input reads as it did. -/
def mendHalfSpec : ChangeSpec := { name := "mendHalf", fn := fun _ => fun
  | [d] => { results := [.lit (.bool true)], args := [d] }
  | _ => none }
def mendHalfRow : OpenClaim := { program := "ytgoohkbaokhchaa", sum := "8102ec32a4c2233904aad08794949954ca3460b53e89ec046f7b1bb30597acdd", func := "cairn/cairnlaw05.MendHalf", spec := "mendHalf", unfollowed := true, recurses := true, apart := false }
def MendHalfSaid : Prop := mendHalfRow.holds Try.pinned (OpenSpec.ofChange mendHalfSpec)

/-- ITS FALSE NEIGHBOUR: 'it returns false'. Refute it at one input. -/
def mendHalfWrong : ChangeSpec := { name := "mendHalf", fn := fun _ => fun
  | [d] => { results := [.lit (.bool false)], args := [d] }
  | _ => none }
def MendHalfWrongFalsely : Prop := mendHalfRow.holds Try.pinned (OpenSpec.ofChange mendHalfWrong)

/-- 'cairnlaw05.MendNear': WHATEVER THE INPUT: true; the input reads as it did. -/
def mendNearSpec : ChangeSpec := { name := "mendNear", fn := fun _ => fun
  | [d1, d2] => { results := [.lit (.bool true)], args := [d1, d2] }
  | _ => none }
def mendNearRow : OpenClaim := { program := "ytgoohkbaokhchaa", sum := "8102ec32a4c2233904aad08794949954ca3460b53e89ec046f7b1bb30597acdd", func := "cairn/cairnlaw05.MendNear", spec := "mendNear", unfollowed := true, recurses := true, apart := false }
def MendNearSaid : Prop := mendNearRow.holds Try.pinned (OpenSpec.ofChange mendNearSpec)

/-- ITS FALSE NEIGHBOUR: 'it returns false'. Refute it at one input. -/
def mendNearWrong : ChangeSpec := { name := "mendNear", fn := fun _ => fun
  | [d1, d2] => { results := [.lit (.bool false)], args := [d1, d2] }
  | _ => none }
def MendNearWrongFalsely : Prop := mendNearRow.holds Try.pinned (OpenSpec.ofChange mendNearWrong)

/-- 'cairnlaw05.MendFar': WHATEVER THE INPUT: true; the input reads as it did. -/
def mendFarSpec : ChangeSpec := { name := "mendFar", fn := fun _ => fun
  | [d1, d2] => { results := [.lit (.bool true)], args := [d1, d2] }
  | _ => none }
def mendFarRow : OpenClaim := { program := "ytgoohkbaokhchaa", sum := "8102ec32a4c2233904aad08794949954ca3460b53e89ec046f7b1bb30597acdd", func := "cairn/cairnlaw05.MendFar", spec := "mendFar", unfollowed := true, recurses := true, apart := false }
def MendFarSaid : Prop := mendFarRow.holds Try.pinned (OpenSpec.ofChange mendFarSpec)

/-- ITS FALSE NEIGHBOUR: 'it returns false'. Refute it at one input. -/
def mendFarWrong : ChangeSpec := { name := "mendFar", fn := fun _ => fun
  | [d1, d2] => { results := [.lit (.bool false)], args := [d1, d2] }
  | _ => none }
def MendFarWrongFalsely : Prop := mendFarRow.holds Try.pinned (OpenSpec.ofChange mendFarWrong)

/- THE SECOND FORM. 'bulk': how many values and letters a reading holds, each counted each time it is reached (what is shared counts as often as it is met; a slice's spare places count too). A statement '..UptoSaid' is the law's where the arguments, and the package variables that the reading takes, are together of bulk at most 1048576: NARROWER than '..Said'. Prove '..Said' where nothing that the law and all that it calls make is longer than what came in: it says more and counts as full. Else prove '..UptoSaid'. A law counts once. -/
mutual
def uptoBulk {H : Type} : DataW H → Nat
  | .lit (.string bytes) => bytes.length + 1
  | .lit _ => 1
  | .nil => 1
  | .ptr d => uptoBulk d + 1
  | .slice elems spare => uptoBulkAll elems + uptoBulkAll spare + 1
  | .agg parts => uptoBulkAll parts + 1
  | .iface _ d => uptoBulk d + 1
  | .map entries => uptoBulkEntries entries + 1
  | .held _ => 1
def uptoBulkAll {H : Type} : List (DataW H) → Nat
  | [] => 0
  | d :: r => uptoBulk d + uptoBulkAll r
def uptoBulkEntries {H : Type} : List (Lit × DataW H) → Nat
  | [] => 0
  | x :: r => uptoBulkEntry x + uptoBulkEntries r
def uptoBulkEntry {H : Type} : Lit × DataW H → Nat
  | (.string bytes, d) => bytes.length + uptoBulk d + 1
  | (_, d) => uptoBulk d + 1
 end
def uptoSmall : (H : Type) → List (DataW H) → Bool := fun _ ds => decide (uptoBulkAll ds ≤ 1048576)
def OpenSpec.upto (s : _root_.Go.ChangeSpec) : _root_.Go.OpenSpec := { _root_.Go.OpenSpec.ofChange s with cond := some uptoSmall }

/-- 'cairnlaw05.MendRadius', WHERE WHAT IT READS IS OF BULK AT MOST 1048576: true; the input reads as it did. -/
def mendRadiusUptoRow : OpenClaim := { program := "ytgoohkbaokhchaa", sum := "8102ec32a4c2233904aad08794949954ca3460b53e89ec046f7b1bb30597acdd", func := "cairn/cairnlaw05.MendRadius", spec := "mendRadius", apart := false, narrowed := true }
def MendRadiusUptoSaid : Prop := mendRadiusUptoRow.holds Try.pinned (OpenSpec.upto mendRadiusSpec)

/-- 'cairnlaw05.MendColumns', WHERE WHAT IT READS IS OF BULK AT MOST 1048576: true; the input reads as it did. -/
def mendColumnsUptoRow : OpenClaim := { program := "ytgoohkbaokhchaa", sum := "8102ec32a4c2233904aad08794949954ca3460b53e89ec046f7b1bb30597acdd", func := "cairn/cairnlaw05.MendColumns", spec := "mendColumns", unfollowed := true, recurses := true, apart := false, narrowed := true }
def MendColumnsUptoSaid : Prop := mendColumnsUptoRow.holds Try.pinned (OpenSpec.upto mendColumnsSpec)

/-- 'cairnlaw05.MendRows', WHERE WHAT IT READS IS OF BULK AT MOST 1048576: true; the input reads as it did. -/
def mendRowsUptoRow : OpenClaim := { program := "ytgoohkbaokhchaa", sum := "8102ec32a4c2233904aad08794949954ca3460b53e89ec046f7b1bb30597acdd", func := "cairn/cairnlaw05.MendRows", spec := "mendRows", unfollowed := true, recurses := true, apart := false, narrowed := true }
def MendRowsUptoSaid : Prop := mendRowsUptoRow.holds Try.pinned (OpenSpec.upto mendRowsSpec)

/-- 'cairnlaw05.MendHalf', WHERE WHAT IT READS IS OF BULK AT MOST 1048576: true; the input reads as it did. -/
def mendHalfUptoRow : OpenClaim := { program := "ytgoohkbaokhchaa", sum := "8102ec32a4c2233904aad08794949954ca3460b53e89ec046f7b1bb30597acdd", func := "cairn/cairnlaw05.MendHalf", spec := "mendHalf", unfollowed := true, recurses := true, apart := false, narrowed := true }
def MendHalfUptoSaid : Prop := mendHalfUptoRow.holds Try.pinned (OpenSpec.upto mendHalfSpec)

/-- 'cairnlaw05.MendNear', WHERE WHAT IT READS IS OF BULK AT MOST 1048576: true; the input reads as it did. -/
def mendNearUptoRow : OpenClaim := { program := "ytgoohkbaokhchaa", sum := "8102ec32a4c2233904aad08794949954ca3460b53e89ec046f7b1bb30597acdd", func := "cairn/cairnlaw05.MendNear", spec := "mendNear", unfollowed := true, recurses := true, apart := false, narrowed := true }
def MendNearUptoSaid : Prop := mendNearUptoRow.holds Try.pinned (OpenSpec.upto mendNearSpec)

/-- 'cairnlaw05.MendFar', WHERE WHAT IT READS IS OF BULK AT MOST 1048576: true; the input reads as it did. -/
def mendFarUptoRow : OpenClaim := { program := "ytgoohkbaokhchaa", sum := "8102ec32a4c2233904aad08794949954ca3460b53e89ec046f7b1bb30597acdd", func := "cairn/cairnlaw05.MendFar", spec := "mendFar", unfollowed := true, recurses := true, apart := false, narrowed := true }
def MendFarUptoSaid : Prop := mendFarUptoRow.holds Try.pinned (OpenSpec.upto mendFarSpec)

end Rows
end Go.Proofs.Ytgoohkbaokhchaa
