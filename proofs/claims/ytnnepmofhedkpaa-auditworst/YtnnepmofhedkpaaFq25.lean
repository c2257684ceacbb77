/-
  Findings compared by ==.
-/
import Derived.Test.YtnnepmofhedkpaaFj25
import Derived.Laws.StructEq
namespace Go.Proofs.Ytnnepmofhedkpaa
open Go.RowKit
def feq (f g : Fi) : Bool := (f.ks.toList == g.ks.toList) && (decide (f.kd = g.kd) && (decide (f.ep = g.ep) && (decide (f.ct = g.ct) && (decide (f.wh = g.wh) && (decide (f.st = g.st) && (decide (f.sp = g.sp) && decide (f.si = g.si)))))))
theorem feq_iff (f g : Fi) : feq f g = true ↔ f = g := by
  unfold feq
  simp only [Bool.and_eq_true, decide_eq_true_eq, beq_iff_eq]
  constructor
  · obtain ⟨⟩ := f
    obtain ⟨⟩ := g
    simp only [Fi.mk.injEq]
    rintro ⟨h0, h1, h2, h3, h4, h5, h6, h7⟩
    exact ⟨ba_ext h0, h1, h2, h3, h4, h5, h6, h7⟩
  · rintro rfl; simp
set_option maxHeartbeats 4000000 in
set_option maxRecDepth 100000 in
theorem eq_fi (f g : Fi) (w : World) : (Op.equalIn 10000 26 (.agg f.cs) (.agg g.cs)).run Try.prog w = .ok (feq f g) w := by
  unfold Fi.cs
  go_simp
  repeat' split
  all_goals simp [feq, *]
theorem neq_fi (f g : Fi) (w : World) : (binOp .neq 26 (.agg f.cs) (.agg g.cs)).run Try.prog w = .ok (.bool (!feq f g)) w := by
  rw [run_neq_struct, eq_fi]; rfl
theorem eql_fi (f g : Fi) (w : World) : (binOp .eql 26 (.agg f.cs) (.agg g.cs)).run Try.prog w = .ok (.bool (feq f g)) w := by
  rw [run_eql_struct, eq_fi]; rfl
end Go.Proofs.Ytnnepmofhedkpaa
