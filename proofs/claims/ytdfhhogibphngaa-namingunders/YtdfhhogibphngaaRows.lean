/-
  No cell of these rows narrows 'for every input' (looked for: loops, veiled, ifaces, maps, wideKeys, modest, calm, conditions, laid).
  DERIVED. THE GIVEN ROWS OF THIS SEAT. 6 by the template 'for every input the law returns true; each argument reads behind the call as it read before'; 0 by the template 'total and deterministic' (their statements: YtdfhhogibphngaaTotals.lean).
  GIVEN WITH THE SEED: the statements are not yours to turn. If you find one false, say at which input.
  Laid BY PROGRAM, IN A SANDBOX (cutbox-rows.mjs): the forced cells as the released guide's own fill.sh prints them over the translation ebc9681eda7fd0b2… (all of the seat's roots in one cut). By AI agents, Wed Nov 11 2026. No macro, syntax, notation, axiom, sorry.
-/
import Derived.Test.YtdfhhogibphngaaChecked
import GoSem.Claim
import GoSem.ClaimJoined
import GoSem.ClaimMapViews
import Derived.JoinedTies
import Derived.KernelRfl
namespace Go.Proofs.Ytdfhhogibphngaa
/- THE CELL 'sum', in the pinned program and in every row, IS THE sha256 OF THE DUMP (.gsa) THAT YtdfhhogibphngaaProg.lean LOADS. Nothing in Lean hashes anything: it is a label: what it is worth is what the hold of that sum in a sandbox is worth. -/
noncomputable def Try.pinned : Pinned := { name := "ytdfhhogibphngaa", sum := "ebc9681eda7fd0b2f063703ed2e557d10986ef7a6d2276624f5213538d02ac57", checked := Try.checked }
namespace Rows
def none {H : Type} : Left H := { results := [], args := [] }

/-- 'cairnlaw09.NamingNumbers': WHATEVER THE INPUT: true; the input reads as it did. -/
def namingNumbersSpec : ChangeSpec := { name := "namingNumbers", fn := fun _ => fun
  | [] => { results := [.lit (.bool true)], args := [] }
  | _ => none }
def namingNumbersRow : OpenClaim := { program := "ytdfhhogibphngaa", sum := "ebc9681eda7fd0b2f063703ed2e557d10986ef7a6d2276624f5213538d02ac57", func := "cairn/cairnlaw09.NamingNumbers", spec := "namingNumbers", inPlace := ["internal/bytealg.IndexByteString"], recurses := true, apart := false }
def NamingNumbersSaid : Prop := namingNumbersRow.holds Try.pinned (OpenSpec.ofChange namingNumbersSpec)

/-- ITS FALSE NEIGHBOUR: 'it returns false'. Refute it at one input. -/
def namingNumbersWrong : ChangeSpec := { name := "namingNumbers", fn := fun _ => fun
  | [] => { results := [.lit (.bool false)], args := [] }
  | _ => none }
def NamingNumbersWrongFalsely : Prop := namingNumbersRow.holds Try.pinned (OpenSpec.ofChange namingNumbersWrong)

/-- 'cairnlaw09.NamingObjects': WHATEVER THE INPUT: true; the input reads as it did. -/
def namingObjectsSpec : ChangeSpec := { name := "namingObjects", fn := fun _ => fun
  | [d] => { results := [.lit (.bool true)], args := [d] }
  | _ => none }
def namingObjectsRow : OpenClaim := { program := "ytdfhhogibphngaa", sum := "ebc9681eda7fd0b2f063703ed2e557d10986ef7a6d2276624f5213538d02ac57", func := "cairn/cairnlaw09.NamingObjects", spec := "namingObjects", inPlace := ["internal/bytealg.IndexByteString"], recurses := true, apart := false }
def NamingObjectsSaid : Prop := namingObjectsRow.holds Try.pinned (OpenSpec.ofChange namingObjectsSpec)

/-- ITS FALSE NEIGHBOUR: 'it returns false'. Refute it at one input. -/
def namingObjectsWrong : ChangeSpec := { name := "namingObjects", fn := fun _ => fun
  | [d] => { results := [.lit (.bool false)], args := [d] }
  | _ => none }
def NamingObjectsWrongFalsely : Prop := namingObjectsRow.holds Try.pinned (OpenSpec.ofChange namingObjectsWrong)

/-- 'cairnlaw09.NamingKeys': WHATEVER THE INPUT: true; the input reads as it did. -/
def namingKeysSpec : ChangeSpec := { name := "namingKeys", fn := fun _ => fun
  | [d] => { results := [.lit (.bool true)], args := [d] }
  | _ => none }
def namingKeysRow : OpenClaim := { program := "ytdfhhogibphngaa", sum := "ebc9681eda7fd0b2f063703ed2e557d10986ef7a6d2276624f5213538d02ac57", func := "cairn/cairnlaw09.NamingKeys", spec := "namingKeys", inPlace := ["internal/bytealg.IndexByteString"], recurses := true, apart := false }
def NamingKeysSaid : Prop := namingKeysRow.holds Try.pinned (OpenSpec.ofChange namingKeysSpec)

/-- ITS FALSE NEIGHBOUR: 'it returns false'. Refute it at one input. -/
def namingKeysWrong : ChangeSpec := { name := "namingKeys", fn := fun _ => fun
  | [d] => { results := [.lit (.bool false)], args := [d] }
  | _ => none }
def NamingKeysWrongFalsely : Prop := namingKeysRow.holds Try.pinned (OpenSpec.ofChange namingKeysWrong)

/-- 'cairnlaw09.NamingKinds': WHATEVER THE INPUT: true; the input reads as it did. -/
def namingKindsSpec : ChangeSpec := { name := "namingKinds", fn := fun _ => fun
  | [d] => { results := [.lit (.bool true)], args := [d] }
  | _ => none }
def namingKindsRow : OpenClaim := { program := "ytdfhhogibphngaa", sum := "ebc9681eda7fd0b2f063703ed2e557d10986ef7a6d2276624f5213538d02ac57", func := "cairn/cairnlaw09.NamingKinds", spec := "namingKinds", inPlace := ["internal/bytealg.IndexByteString"], recurses := true, apart := false }
def NamingKindsSaid : Prop := namingKindsRow.holds Try.pinned (OpenSpec.ofChange namingKindsSpec)

/-- ITS FALSE NEIGHBOUR: 'it returns false'. Refute it at one input. -/
def namingKindsWrong : ChangeSpec := { name := "namingKinds", fn := fun _ => fun
  | [d] => { results := [.lit (.bool false)], args := [d] }
  | _ => none }
def NamingKindsWrongFalsely : Prop := namingKindsRow.holds Try.pinned (OpenSpec.ofChange namingKindsWrong)

/-- 'cairnlaw09.NamingUnders': WHATEVER THE INPUT: true; the input reads as it did. -/
def namingUndersSpec : ChangeSpec := { name := "namingUnders", fn := fun _ => fun
  | [d1, d2] => { results := [.lit (.bool true)], args := [d1, d2] }
  | _ => none }
def namingUndersRow : OpenClaim := { program := "ytdfhhogibphngaa", sum := "ebc9681eda7fd0b2f063703ed2e557d10986ef7a6d2276624f5213538d02ac57", func := "cairn/cairnlaw09.NamingUnders", spec := "namingUnders", inPlace := ["internal/bytealg.IndexByteString"], recurses := true, apart := false }
def NamingUndersSaid : Prop := namingUndersRow.holds Try.pinned (OpenSpec.ofChange namingUndersSpec)

/-- ITS FALSE NEIGHBOUR: 'it returns false'. Refute it at one input. -/
def namingUndersWrong : ChangeSpec := { name := "namingUnders", fn := fun _ => fun
  | [d1, d2] => { results := [.lit (.bool false)], args := [d1, d2] }
  | _ => none }
def NamingUndersWrongFalsely : Prop := namingUndersRow.holds Try.pinned (OpenSpec.ofChange namingUndersWrong)

/-- 'cairnlaw09.NamingBack': WHATEVER THE INPUT: true; the input reads as it did. -/
def namingBackSpec : ChangeSpec := { name := "namingBack", fn := fun _ => fun
  | [d] => { results := [.lit (.bool true)], args := [d] }
  | _ => none }
def namingBackRow : OpenClaim := { program := "ytdfhhogibphngaa", sum := "ebc9681eda7fd0b2f063703ed2e557d10986ef7a6d2276624f5213538d02ac57", func := "cairn/cairnlaw09.NamingBack", spec := "namingBack", inPlace := ["internal/bytealg.IndexByteString"], recurses := true, apart := false }
def NamingBackSaid : Prop := namingBackRow.holds Try.pinned (OpenSpec.ofChange namingBackSpec)

/-- ITS FALSE NEIGHBOUR: 'it returns false'. Refute it at one input. -/
def namingBackWrong : ChangeSpec := { name := "namingBack", fn := fun _ => fun
  | [d] => { results := [.lit (.bool false)], args := [d] }
  | _ => none }
def NamingBackWrongFalsely : Prop := namingBackRow.holds Try.pinned (OpenSpec.ofChange namingBackWrong)

/- THE SECOND FORM. 'bulk': how many values and letters a reading holds, each counted each time it is reached (what is shared counts as often as it is met; a slice's spare places count too). A statement '..UptoSaid' is the law's where the arguments, and the package variables that the reading takes, are together of bulk at most 1048576: NARROWER than '..Said'. Prove '..Said' where nothing that the law and all that it calls make is longer than what came in: it says more and counts as full. Else prove '..UptoSaid'. A law counts once. -/
mutual
def uptoBulk {H : Type} : DataW H → Nat
  | .lit (.string bytes) => bytes.length + 1
  | .lit _ => 1
  | .nil => 1
  | .ptr d => uptoBulk d + 1
  | .slice elems spare => uptoBulkAll elems + uptoBulkAll spare + 1
  | .agg parts => uptoBulkAll parts + 1
  | .iface _ d => uptoBulk d + 1
  | .map entries => uptoBulkEntries entries + 1
  | .held _ => 1
def uptoBulkAll {H : Type} : List (DataW H) → Nat
  | [] => 0
  | d :: r => uptoBulk d + uptoBulkAll r
def uptoBulkEntries {H : Type} : List (Lit × DataW H) → Nat
  | [] => 0
  | x :: r => uptoBulkEntry x + uptoBulkEntries r
def uptoBulkEntry {H : Type} : Lit × DataW H → Nat
  | (.string bytes, d) => bytes.length + uptoBulk d + 1
  | (_, d) => uptoBulk d + 1
 end
def uptoSmall : (H : Type) → List (DataW H) → Bool := fun _ ds => decide (uptoBulkAll ds ≤ 1048576)
def OpenSpec.upto (s : _root_.Go.ChangeSpec) : _root_.Go.OpenSpec := { _root_.Go.OpenSpec.ofChange s with cond := some uptoSmall }

/-- 'cairnlaw09.NamingNumbers', WHERE WHAT IT READS IS OF BULK AT MOST 1048576: true; the input reads as it did. -/
def namingNumbersUptoRow : OpenClaim := { program := "ytdfhhogibphngaa", sum := "ebc9681eda7fd0b2f063703ed2e557d10986ef7a6d2276624f5213538d02ac57", func := "cairn/cairnlaw09.NamingNumbers", spec := "namingNumbers", inPlace := ["internal/bytealg.IndexByteString"], recurses := true, apart := false, narrowed := true }
def NamingNumbersUptoSaid : Prop := namingNumbersUptoRow.holds Try.pinned (OpenSpec.upto namingNumbersSpec)

/-- 'cairnlaw09.NamingObjects', WHERE WHAT IT READS IS OF BULK AT MOST 1048576: true; the input reads as it did. -/
def namingObjectsUptoRow : OpenClaim := { program := "ytdfhhogibphngaa", sum := "ebc9681eda7fd0b2f063703ed2e557d10986ef7a6d2276624f5213538d02ac57", func := "cairn/cairnlaw09.NamingObjects", spec := "namingObjects", inPlace := ["internal/bytealg.IndexByteString"], recurses := true, apart := false, narrowed := true }
def NamingObjectsUptoSaid : Prop := namingObjectsUptoRow.holds Try.pinned (OpenSpec.upto namingObjectsSpec)

/-- 'cairnlaw09.NamingKeys', WHERE WHAT IT READS IS OF BULK AT MOST 1048576: true; the input reads as it did. -/
def namingKeysUptoRow : OpenClaim := { program := "ytdfhhogibphngaa", sum := "ebc9681eda7fd0b2f063703ed2e557d10986ef7a6d2276624f5213538d02ac57", func := "cairn/cairnlaw09.NamingKeys", spec := "namingKeys", inPlace := ["internal/bytealg.IndexByteString"], recurses := true, apart := false, narrowed := true }
def NamingKeysUptoSaid : Prop := namingKeysUptoRow.holds Try.pinned (OpenSpec.upto namingKeysSpec)

/-- 'cairnlaw09.NamingKinds', WHERE WHAT IT READS IS OF BULK AT MOST 1048576: true; the input reads as it did. -/
def namingKindsUptoRow : OpenClaim := { program := "ytdfhhogibphngaa", sum := "ebc9681eda7fd0b2f063703ed2e557d10986ef7a6d2276624f5213538d02ac57", func := "cairn/cairnlaw09.NamingKinds", spec := "namingKinds", inPlace := ["internal/bytealg.IndexByteString"], recurses := true, apart := false, narrowed := true }
def NamingKindsUptoSaid : Prop := namingKindsUptoRow.holds Try.pinned (OpenSpec.upto namingKindsSpec)

/-- 'cairnlaw09.NamingUnders', WHERE WHAT IT READS IS OF BULK AT MOST 1048576: true; the input reads as it did. -/
def namingUndersUptoRow : OpenClaim := { program := "ytdfhhogibphngaa", sum := "ebc9681eda7fd0b2f063703ed2e557d10986ef7a6d2276624f5213538d02ac57", func := "cairn/cairnlaw09.NamingUnders", spec := "namingUnders", inPlace := ["internal/bytealg.IndexByteString"], recurses := true, apart := false, narrowed := true }
def NamingUndersUptoSaid : Prop := namingUndersUptoRow.holds Try.pinned (OpenSpec.upto namingUndersSpec)

/-- 'cairnlaw09.NamingBack', WHERE WHAT IT READS IS OF BULK AT MOST 1048576: true; the input reads as it did. -/
def namingBackUptoRow : OpenClaim := { program := "ytdfhhogibphngaa", sum := "ebc9681eda7fd0b2f063703ed2e557d10986ef7a6d2276624f5213538d02ac57", func := "cairn/cairnlaw09.NamingBack", spec := "namingBack", inPlace := ["internal/bytealg.IndexByteString"], recurses := true, apart := false, narrowed := true }
def NamingBackUptoSaid : Prop := namingBackUptoRow.holds Try.pinned (OpenSpec.upto namingBackSpec)

end Rows
end Go.Proofs.Ytdfhhogibphngaa
