/-
  No cell of these rows narrows 'for every input' (looked for: loops, veiled, ifaces, maps, wideKeys, modest, calm, conditions, laid).
  DERIVED. THE GIVEN ROWS OF THIS SEAT. 6 by the template 'for every input the law returns true; each argument reads behind the call as it read before'; 0 by the template 'total and deterministic' (their statements: YtcfjinpjijcheabTotals.lean).
  GIVEN WITH THE SEED: the statements are not yours to turn. If you find one false, say at which input.
  Laid BY PROGRAM, IN A SANDBOX (cutbox-rows.mjs): the forced cells as the released guide's own fill.sh prints them over the translation c75b537bb30a1087… (all of the seat's roots in one cut). By AI agents, Wed Nov 11 2026. No macro, syntax, notation, axiom, sorry.
-/
import Derived.Test.YtcfjinpjijcheabChecked
import GoSem.Claim
import GoSem.ClaimJoined
import GoSem.ClaimMapViews
import Derived.JoinedTies
import Derived.KernelRfl
namespace Go.Proofs.Ytcfjinpjijcheab
/- THE CELL 'sum', in the pinned program and in every row, IS THE sha256 OF THE DUMP (.gsa) THAT YtcfjinpjijcheabProg.lean LOADS. Nothing in Lean hashes anything: it is a label: what it is worth is what the hold of that sum in a sandbox is worth. -/
noncomputable def Try.pinned : Pinned := { name := "ytcfjinpjijcheab", sum := "c75b537bb30a1087e3f99d4313171c94e513cfdaf806156735535a5a4cdb01d9", checked := Try.checked }
namespace Rows
def none {H : Type} : Left H := { results := [], args := [] }

/-- 'cairnlaw27.HealthStays': WHATEVER THE INPUT: true; the input reads as it did. -/
def healthStaysSpec : ChangeSpec := { name := "healthStays", fn := fun _ => fun
  | [d1, d2, d3] => { results := [.lit (.bool true)], args := [d1, d2, d3] }
  | _ => none }
def healthStaysRow : OpenClaim := { program := "ytcfjinpjijcheab", sum := "c75b537bb30a1087e3f99d4313171c94e513cfdaf806156735535a5a4cdb01d9", func := "cairn/cairnlaw27.HealthStays", spec := "healthStays", unfollowed := true, recurses := true, apart := false }
def HealthStaysSaid : Prop := healthStaysRow.holds Try.pinned (OpenSpec.ofChange healthStaysSpec)

/-- ITS FALSE NEIGHBOUR: 'it returns false'. Refute it at one input. -/
def healthStaysWrong : ChangeSpec := { name := "healthStays", fn := fun _ => fun
  | [d1, d2, d3] => { results := [.lit (.bool false)], args := [d1, d2, d3] }
  | _ => none }
def HealthStaysWrongFalsely : Prop := healthStaysRow.holds Try.pinned (OpenSpec.ofChange healthStaysWrong)

/-- 'cairnlaw27.HealthBack': WHATEVER THE INPUT: true; the input reads as it did. -/
def healthBackSpec : ChangeSpec := { name := "healthBack", fn := fun _ => fun
  | [d1, d2, d3] => { results := [.lit (.bool true)], args := [d1, d2, d3] }
  | _ => none }
def healthBackRow : OpenClaim := { program := "ytcfjinpjijcheab", sum := "c75b537bb30a1087e3f99d4313171c94e513cfdaf806156735535a5a4cdb01d9", func := "cairn/cairnlaw27.HealthBack", spec := "healthBack", inPlace := ["math.Float32bits", "math.Float32frombits", "math.Float64bits"], unfollowed := true, recurses := true, apart := false }
def HealthBackSaid : Prop := healthBackRow.holds Try.pinned (OpenSpec.ofChange healthBackSpec)

/-- ITS FALSE NEIGHBOUR: 'it returns false'. Refute it at one input. -/
def healthBackWrong : ChangeSpec := { name := "healthBack", fn := fun _ => fun
  | [d1, d2, d3] => { results := [.lit (.bool false)], args := [d1, d2, d3] }
  | _ => none }
def HealthBackWrongFalsely : Prop := healthBackRow.holds Try.pinned (OpenSpec.ofChange healthBackWrong)

/-- 'cairnlaw27.HealthForm': WHATEVER THE INPUT: true; the input reads as it did. -/
def healthFormSpec : ChangeSpec := { name := "healthForm", fn := fun _ => fun
  | [d] => { results := [.lit (.bool true)], args := [d] }
  | _ => none }
def healthFormRow : OpenClaim := { program := "ytcfjinpjijcheab", sum := "c75b537bb30a1087e3f99d4313171c94e513cfdaf806156735535a5a4cdb01d9", func := "cairn/cairnlaw27.HealthForm", spec := "healthForm", inPlace := ["math.Float32frombits", "math.Float64bits", "math.Float32bits"], unfollowed := true, recurses := true, apart := false }
def HealthFormSaid : Prop := healthFormRow.holds Try.pinned (OpenSpec.ofChange healthFormSpec)

/-- ITS FALSE NEIGHBOUR: 'it returns false'. Refute it at one input. -/
def healthFormWrong : ChangeSpec := { name := "healthForm", fn := fun _ => fun
  | [d] => { results := [.lit (.bool false)], args := [d] }
  | _ => none }
def HealthFormWrongFalsely : Prop := healthFormRow.holds Try.pinned (OpenSpec.ofChange healthFormWrong)

/-- 'cairnlaw27.HealthOrders': WHATEVER THE INPUT: true; the input reads as it did. -/
def healthOrdersSpec : ChangeSpec := { name := "healthOrders", fn := fun _ => fun
  | [d1, d2, d3] => { results := [.lit (.bool true)], args := [d1, d2, d3] }
  | _ => none }
def healthOrdersRow : OpenClaim := { program := "ytcfjinpjijcheab", sum := "c75b537bb30a1087e3f99d4313171c94e513cfdaf806156735535a5a4cdb01d9", func := "cairn/cairnlaw27.HealthOrders", spec := "healthOrders", unfollowed := true, recurses := true, apart := false }
def HealthOrdersSaid : Prop := healthOrdersRow.holds Try.pinned (OpenSpec.ofChange healthOrdersSpec)

/-- ITS FALSE NEIGHBOUR: 'it returns false'. Refute it at one input. -/
def healthOrdersWrong : ChangeSpec := { name := "healthOrders", fn := fun _ => fun
  | [d1, d2, d3] => { results := [.lit (.bool false)], args := [d1, d2, d3] }
  | _ => none }
def HealthOrdersWrongFalsely : Prop := healthOrdersRow.holds Try.pinned (OpenSpec.ofChange healthOrdersWrong)

/-- 'cairnlaw27.HealthRisks': WHATEVER THE INPUT: true; the input reads as it did. -/
def healthRisksSpec : ChangeSpec := { name := "healthRisks", fn := fun _ => fun
  | [d] => { results := [.lit (.bool true)], args := [d] }
  | _ => none }
def healthRisksRow : OpenClaim := { program := "ytcfjinpjijcheab", sum := "c75b537bb30a1087e3f99d4313171c94e513cfdaf806156735535a5a4cdb01d9", func := "cairn/cairnlaw27.HealthRisks", spec := "healthRisks", unfollowed := true, recurses := true, apart := false }
def HealthRisksSaid : Prop := healthRisksRow.holds Try.pinned (OpenSpec.ofChange healthRisksSpec)

/-- ITS FALSE NEIGHBOUR: 'it returns false'. Refute it at one input. -/
def healthRisksWrong : ChangeSpec := { name := "healthRisks", fn := fun _ => fun
  | [d] => { results := [.lit (.bool false)], args := [d] }
  | _ => none }
def HealthRisksWrongFalsely : Prop := healthRisksRow.holds Try.pinned (OpenSpec.ofChange healthRisksWrong)

/-- 'cairnlaw27.HealthSwings': WHATEVER THE INPUT: true; the input reads as it did. -/
def healthSwingsSpec : ChangeSpec := { name := "healthSwings", fn := fun _ => fun
  | [d1, d2, d3] => { results := [.lit (.bool true)], args := [d1, d2, d3] }
  | _ => none }
def healthSwingsRow : OpenClaim := { program := "ytcfjinpjijcheab", sum := "c75b537bb30a1087e3f99d4313171c94e513cfdaf806156735535a5a4cdb01d9", func := "cairn/cairnlaw27.HealthSwings", spec := "healthSwings", unfollowed := true, recurses := true, apart := false }
def HealthSwingsSaid : Prop := healthSwingsRow.holds Try.pinned (OpenSpec.ofChange healthSwingsSpec)

/-- ITS FALSE NEIGHBOUR: 'it returns false'. Refute it at one input. -/
def healthSwingsWrong : ChangeSpec := { name := "healthSwings", fn := fun _ => fun
  | [d1, d2, d3] => { results := [.lit (.bool false)], args := [d1, d2, d3] }
  | _ => none }
def HealthSwingsWrongFalsely : Prop := healthSwingsRow.holds Try.pinned (OpenSpec.ofChange healthSwingsWrong)

/- THE SECOND FORM. 'bulk': how many values and letters a reading holds, each counted each time it is reached (what is shared counts as often as it is met; a slice's spare places count too). A statement '..UptoSaid' is the law's where the arguments, and the package variables that the reading takes, are together of bulk at most 1048576: NARROWER than '..Said'. Prove '..Said' where nothing that the law and all that it calls make is longer than what came in: it says more and counts as full. Else prove '..UptoSaid'. A law counts once. -/
mutual
def uptoBulk {H : Type} : DataW H → Nat
  | .lit (.string bytes) => bytes.length + 1
  | .lit _ => 1
  | .nil => 1
  | .ptr d => uptoBulk d + 1
  | .slice elems spare => uptoBulkAll elems + uptoBulkAll spare + 1
  | .agg parts => uptoBulkAll parts + 1
  | .iface _ d => uptoBulk d + 1
  | .map entries => uptoBulkEntries entries + 1
  | .held _ => 1
def uptoBulkAll {H : Type} : List (DataW H) → Nat
  | [] => 0
  | d :: r => uptoBulk d + uptoBulkAll r
def uptoBulkEntries {H : Type} : List (Lit × DataW H) → Nat
  | [] => 0
  | x :: r => uptoBulkEntry x + uptoBulkEntries r
def uptoBulkEntry {H : Type} : Lit × DataW H → Nat
  | (.string bytes, d) => bytes.length + uptoBulk d + 1
  | (_, d) => uptoBulk d + 1
 end
def uptoSmall : (H : Type) → List (DataW H) → Bool := fun _ ds => decide (uptoBulkAll ds ≤ 1048576)
def OpenSpec.upto (s : _root_.Go.ChangeSpec) : _root_.Go.OpenSpec := { _root_.Go.OpenSpec.ofChange s with cond := some uptoSmall }

/-- 'cairnlaw27.HealthStays', WHERE WHAT IT READS IS OF BULK AT MOST 1048576: true; the input reads as it did. -/
def healthStaysUptoRow : OpenClaim := { program := "ytcfjinpjijcheab", sum := "c75b537bb30a1087e3f99d4313171c94e513cfdaf806156735535a5a4cdb01d9", func := "cairn/cairnlaw27.HealthStays", spec := "healthStays", unfollowed := true, recurses := true, apart := false, narrowed := true }
def HealthStaysUptoSaid : Prop := healthStaysUptoRow.holds Try.pinned (OpenSpec.upto healthStaysSpec)

/-- 'cairnlaw27.HealthBack', WHERE WHAT IT READS IS OF BULK AT MOST 1048576: true; the input reads as it did. -/
def healthBackUptoRow : OpenClaim := { program := "ytcfjinpjijcheab", sum := "c75b537bb30a1087e3f99d4313171c94e513cfdaf806156735535a5a4cdb01d9", func := "cairn/cairnlaw27.HealthBack", spec := "healthBack", inPlace := ["math.Float32bits", "math.Float32frombits", "math.Float64bits"], unfollowed := true, recurses := true, apart := false, narrowed := true }
def HealthBackUptoSaid : Prop := healthBackUptoRow.holds Try.pinned (OpenSpec.upto healthBackSpec)

/-- 'cairnlaw27.HealthForm', WHERE WHAT IT READS IS OF BULK AT MOST 1048576: true; the input reads as it did. -/
def healthFormUptoRow : OpenClaim := { program := "ytcfjinpjijcheab", sum := "c75b537bb30a1087e3f99d4313171c94e513cfdaf806156735535a5a4cdb01d9", func := "cairn/cairnlaw27.HealthForm", spec := "healthForm", inPlace := ["math.Float32frombits", "math.Float64bits", "math.Float32bits"], unfollowed := true, recurses := true, apart := false, narrowed := true }
def HealthFormUptoSaid : Prop := healthFormUptoRow.holds Try.pinned (OpenSpec.upto healthFormSpec)

/-- 'cairnlaw27.HealthOrders', WHERE WHAT IT READS IS OF BULK AT MOST 1048576: true; the input reads as it did. -/
def healthOrdersUptoRow : OpenClaim := { program := "ytcfjinpjijcheab", sum := "c75b537bb30a1087e3f99d4313171c94e513cfdaf806156735535a5a4cdb01d9", func := "cairn/cairnlaw27.HealthOrders", spec := "healthOrders", unfollowed := true, recurses := true, apart := false, narrowed := true }
def HealthOrdersUptoSaid : Prop := healthOrdersUptoRow.holds Try.pinned (OpenSpec.upto healthOrdersSpec)

/-- 'cairnlaw27.HealthRisks', WHERE WHAT IT READS IS OF BULK AT MOST 1048576: true; the input reads as it did. -/
def healthRisksUptoRow : OpenClaim := { program := "ytcfjinpjijcheab", sum := "c75b537bb30a1087e3f99d4313171c94e513cfdaf806156735535a5a4cdb01d9", func := "cairn/cairnlaw27.HealthRisks", spec := "healthRisks", unfollowed := true, recurses := true, apart := false, narrowed := true }
def HealthRisksUptoSaid : Prop := healthRisksUptoRow.holds Try.pinned (OpenSpec.upto healthRisksSpec)

/-- 'cairnlaw27.HealthSwings', WHERE WHAT IT READS IS OF BULK AT MOST 1048576: true; the input reads as it did. -/
def healthSwingsUptoRow : OpenClaim := { program := "ytcfjinpjijcheab", sum := "c75b537bb30a1087e3f99d4313171c94e513cfdaf806156735535a5a4cdb01d9", func := "cairn/cairnlaw27.HealthSwings", spec := "healthSwings", unfollowed := true, recurses := true, apart := false, narrowed := true }
def HealthSwingsUptoSaid : Prop := healthSwingsUptoRow.holds Try.pinned (OpenSpec.upto healthSwingsSpec)

end Rows
end Go.Proofs.Ytcfjinpjijcheab
