/-
  No cell of these rows narrows 'for every input' (looked for: loops, veiled, ifaces, maps, wideKeys, modest, calm, conditions, laid).
  DERIVED. THE GIVEN ROWS OF THIS SEAT. 3 by the template 'for every input the law returns true; each argument reads behind the call as it read before'; 0 by the template 'total and deterministic' (their statements: YtgienaikcpcpeabTotals.lean).
  GIVEN WITH THE SEED: the statements are not yours to turn. If you find one false, say at which input.
  Laid BY PROGRAM, IN A SANDBOX (cutbox-rows.mjs): the forced cells as the released guide's own fill.sh prints them over the translation 5f2f10ac36c14c50… (all of the seat's roots in one cut). By AI agents, Wed Nov 11 2026. No macro, syntax, notation, axiom, sorry.
-/
import Derived.Test.YtgienaikcpcpeabChecked
import GoSem.Claim
import GoSem.ClaimJoined
import GoSem.ClaimMapViews
import Derived.JoinedTies
import Derived.KernelRfl
namespace Go.Proofs.Ytgienaikcpcpeab
/- THE CELL 'sum', in the pinned program and in every row, IS THE sha256 OF THE DUMP (.gsa) THAT YtgienaikcpcpeabProg.lean LOADS. Nothing in Lean hashes anything: it is a label: what it is worth is what the hold of that sum in a sandbox is worth. -/
noncomputable def Try.pinned : Pinned := { name := "ytgienaikcpcpeab", sum := "5f2f10ac36c14c50f25b9a0d1819a7c6fb41384cd3ae482763f800f6f6f15779", checked := Try.checked }
namespace Rows
def none {H : Type} : Left H := { results := [], args := [] }

/-- 'cairnlaw01.FieldLinear': WHATEVER THE INPUT: true; the input reads as it did. -/
def fieldLinearSpec : ChangeSpec := { name := "fieldLinear", fn := fun _ => fun
  | [d1, d2, d3, d4] => { results := [.lit (.bool true)], args := [d1, d2, d3, d4] }
  | _ => none }
def fieldLinearRow : OpenClaim := { program := "ytgienaikcpcpeab", sum := "5f2f10ac36c14c50f25b9a0d1819a7c6fb41384cd3ae482763f800f6f6f15779", func := "cairn/cairnlaw01.FieldLinear", spec := "fieldLinear", apart := false }
def FieldLinearSaid : Prop := fieldLinearRow.holds Try.pinned (OpenSpec.ofChange fieldLinearSpec)

/-- ITS FALSE NEIGHBOUR: 'it returns false'. Refute it at one input. -/
def fieldLinearWrong : ChangeSpec := { name := "fieldLinear", fn := fun _ => fun
  | [d1, d2, d3, d4] => { results := [.lit (.bool false)], args := [d1, d2, d3, d4] }
  | _ => none }
def FieldLinearWrongFalsely : Prop := fieldLinearRow.holds Try.pinned (OpenSpec.ofChange fieldLinearWrong)

/-- 'cairnlaw01.FieldBits': WHATEVER THE INPUT: true; the input reads as it did. -/
def fieldBitsSpec : ChangeSpec := { name := "fieldBits", fn := fun _ => fun
  | [d1, d2, d3] => { results := [.lit (.bool true)], args := [d1, d2, d3] }
  | _ => none }
def fieldBitsRow : OpenClaim := { program := "ytgienaikcpcpeab", sum := "5f2f10ac36c14c50f25b9a0d1819a7c6fb41384cd3ae482763f800f6f6f15779", func := "cairn/cairnlaw01.FieldBits", spec := "fieldBits", apart := false }
def FieldBitsSaid : Prop := fieldBitsRow.holds Try.pinned (OpenSpec.ofChange fieldBitsSpec)

/-- ITS FALSE NEIGHBOUR: 'it returns false'. Refute it at one input. -/
def fieldBitsWrong : ChangeSpec := { name := "fieldBits", fn := fun _ => fun
  | [d1, d2, d3] => { results := [.lit (.bool false)], args := [d1, d2, d3] }
  | _ => none }
def FieldBitsWrongFalsely : Prop := fieldBitsRow.holds Try.pinned (OpenSpec.ofChange fieldBitsWrong)

/-- 'cairnlaw01.FieldMemory': WHATEVER THE INPUT: true; the input reads as it did. -/
def fieldMemorySpec : ChangeSpec := { name := "fieldMemory", fn := fun _ => fun
  | [d1, d2, d3, d4] => { results := [.lit (.bool true)], args := [d1, d2, d3, d4] }
  | _ => none }
def fieldMemoryRow : OpenClaim := { program := "ytgienaikcpcpeab", sum := "5f2f10ac36c14c50f25b9a0d1819a7c6fb41384cd3ae482763f800f6f6f15779", func := "cairn/cairnlaw01.FieldMemory", spec := "fieldMemory", apart := false }
def FieldMemorySaid : Prop := fieldMemoryRow.holds Try.pinned (OpenSpec.ofChange fieldMemorySpec)

/-- ITS FALSE NEIGHBOUR: 'it returns false'. Refute it at one input. -/
def fieldMemoryWrong : ChangeSpec := { name := "fieldMemory", fn := fun _ => fun
  | [d1, d2, d3, d4] => { results := [.lit (.bool false)], args := [d1, d2, d3, d4] }
  | _ => none }
def FieldMemoryWrongFalsely : Prop := fieldMemoryRow.holds Try.pinned (OpenSpec.ofChange fieldMemoryWrong)

/- THE SECOND FORM. 'bulk': how many values and letters a reading holds, each counted each time it is reached (what is shared counts as often as it is met; a slice's spare places count too). A statement '..UptoSaid' is the law's where the arguments, and the package variables that the reading takes, are together of bulk at most 1048576: NARROWER than '..Said'. Prove '..Said' where nothing that the law and all that it calls make is longer than what came in: it says more and counts as full. Else prove '..UptoSaid'. A law counts once. -/
mutual
def uptoBulk {H : Type} : DataW H → Nat
  | .lit (.string bytes) => bytes.length + 1
  | .lit _ => 1
  | .nil => 1
  | .ptr d => uptoBulk d + 1
  | .slice elems spare => uptoBulkAll elems + uptoBulkAll spare + 1
  | .agg parts => uptoBulkAll parts + 1
  | .iface _ d => uptoBulk d + 1
  | .map entries => uptoBulkEntries entries + 1
  | .held _ => 1
def uptoBulkAll {H : Type} : List (DataW H) → Nat
  | [] => 0
  | d :: r => uptoBulk d + uptoBulkAll r
def uptoBulkEntries {H : Type} : List (Lit × DataW H) → Nat
  | [] => 0
  | x :: r => uptoBulkEntry x + uptoBulkEntries r
def uptoBulkEntry {H : Type} : Lit × DataW H → Nat
  | (.string bytes, d) => bytes.length + uptoBulk d + 1
  | (_, d) => uptoBulk d + 1
 end
def uptoSmall : (H : Type) → List (DataW H) → Bool := fun _ ds => decide (uptoBulkAll ds ≤ 1048576)
def OpenSpec.upto (s : _root_.Go.ChangeSpec) : _root_.Go.OpenSpec := { _root_.Go.OpenSpec.ofChange s with cond := some uptoSmall }

/-- 'cairnlaw01.FieldLinear', WHERE WHAT IT READS IS OF BULK AT MOST 1048576: true; the input reads as it did. -/
def fieldLinearUptoRow : OpenClaim := { program := "ytgienaikcpcpeab", sum := "5f2f10ac36c14c50f25b9a0d1819a7c6fb41384cd3ae482763f800f6f6f15779", func := "cairn/cairnlaw01.FieldLinear", spec := "fieldLinear", apart := false, narrowed := true }
def FieldLinearUptoSaid : Prop := fieldLinearUptoRow.holds Try.pinned (OpenSpec.upto fieldLinearSpec)

/-- 'cairnlaw01.FieldBits', WHERE WHAT IT READS IS OF BULK AT MOST 1048576: true; the input reads as it did. -/
def fieldBitsUptoRow : OpenClaim := { program := "ytgienaikcpcpeab", sum := "5f2f10ac36c14c50f25b9a0d1819a7c6fb41384cd3ae482763f800f6f6f15779", func := "cairn/cairnlaw01.FieldBits", spec := "fieldBits", apart := false, narrowed := true }
def FieldBitsUptoSaid : Prop := fieldBitsUptoRow.holds Try.pinned (OpenSpec.upto fieldBitsSpec)

/-- 'cairnlaw01.FieldMemory', WHERE WHAT IT READS IS OF BULK AT MOST 1048576: true; the input reads as it did. -/
def fieldMemoryUptoRow : OpenClaim := { program := "ytgienaikcpcpeab", sum := "5f2f10ac36c14c50f25b9a0d1819a7c6fb41384cd3ae482763f800f6f6f15779", func := "cairn/cairnlaw01.FieldMemory", spec := "fieldMemory", apart := false, narrowed := true }
def FieldMemoryUptoSaid : Prop := fieldMemoryUptoRow.holds Try.pinned (OpenSpec.upto fieldMemorySpec)

end Rows
end Go.Proofs.Ytgienaikcpcpeab
