/-
  The numbers' own calls: Plus, Times, IsZero; the document's product is the program's.
-/
import Derived.Test.YtchmggehbajebaaRm
namespace Go.Proofs.Ytchmggehbajebaa
open Go.RowKit
def tiE (a b : BitVec 8) : BitVec 8 := gm a b
def tiB (a b : Bool) : Bool := a && b
def tiF (a b : Bool × Bool) : Bool × Bool := ((a.1 && b.1) != (a.2 && b.2), ((a.1 && b.2) != (a.2 && b.1)) != (a.2 && b.2))
/-- A number as a byte. -/
def emE (x : BitVec 8) : BitVec 8 := x
def emB (x : Bool) : BitVec 8 := if x then 1#8 else 0#8
def emF (x : Bool × Bool) : BitVec 8 := (if x.1 then 1#8 else 0#8) ^^^ (if x.2 then 2#8 else 0#8)
theorem nuE_em (x : BitVec 8) : el (emE x) = nuE x := rfl
theorem nuB_em (x : Bool) : el (emB x) = nuB x := by cases x <;> rfl
theorem nuF_em (x : Bool × Bool) : el (emF x) = nuF x := by obtain ⟨a, b⟩ := x; cases a <;> cases b <;> rfl
theorem refM_E (x y : BitVec 8) : e16 (refM 8 (BitVec.ofNat 16 285) (emE x) (emE y)) = nuE (tiE x y) := refT_eq x y
theorem refM_B (x y : Bool) : e16 (refM 1 (BitVec.ofNat 16 2) (emB x) (emB y)) = nuB (tiB x y) := by cases x <;> cases y <;> decide +kernel
theorem refM_F (x y : Bool × Bool) : e16 (refM 2 (BitVec.ofNat 16 7) (emF x) (emF y)) = nuF (tiF x y) := by
  obtain ⟨a, b⟩ := x
  obtain ⟨c, d⟩ := y
  cases a <;> cases b <;> cases c <;> cases d <;> decide +kernel
theorem refMulE (x y : BitVec 8) (w : World) : Calls Try.prog 53 #[.int .i64 256, .int .i64 (nuE x), .int .i64 (nuE y)] w fun e w' => e = .returned (.int .i64 (nuE (tiE x y))) ∧ w' = w := by
  rw [← refM_E, ← nuE_em x, ← nuE_em y]; exact mul_core (.inl ⟨rfl, rfl, rfl⟩) _ _ w
theorem refMulB (x y : Bool) (w : World) : Calls Try.prog 53 #[.int .i64 2, .int .i64 (nuB x), .int .i64 (nuB y)] w fun e w' => e = .returned (.int .i64 (nuB (tiB x y))) ∧ w' = w := by
  rw [← refM_B, ← nuB_em x, ← nuB_em y]; exact mul_core (.inr (.inr ⟨rfl, rfl, rfl⟩)) _ _ w
theorem refMulF (x y : Bool × Bool) (w : World) : Calls Try.prog 53 #[.int .i64 4, .int .i64 (nuF x), .int .i64 (nuF y)] w fun e w' => e = .returned (.int .i64 (nuF (tiF x y))) ∧ w' = w := by
  rw [← refM_F, ← nuF_em x, ← nuF_em y]; exact mul_core (.inr (.inl ⟨rfl, rfl, rfl⟩)) _ _ w
theorem timesE (x y : BitVec 8) (w : World) : Calls Try.prog 114 #[.int .u8 (el x), .int .u8 (el y)] w fun e w' => e = .returned (.int .u8 (el (tiE x y))) ∧ w' = w := times_any x y w
theorem timesB (x y : Bool) (w : World) : Calls Try.prog 124 #[.bool x, .bool y] w fun e w' => e = .returned (.bool (tiB x y)) ∧ w' = w := by
  cases x
  · go_enter Try.func124, Try.ntmps124
    go_wp2
    go_ret
    exact ⟨rfl, rfl⟩
  · go_enter Try.func124, Try.ntmps124
    go_wp2
    go_ret
    exact ⟨by unfold tiB; simp, rfl⟩
theorem three_allocs (w : World) (o1 o2 o3 : Obj) : Below w.heap.size w (((w.alloc o1).alloc o2).alloc o3) := (((Below.refl _ _).alloc (Nat.le_refl _) _).alloc (by simp) _).alloc (by simp; omega) _
set_option maxHeartbeats 4000000 in
set_option maxRecDepth 1000000 in
theorem timesF4 (a b c d : Bool) (w : World) : Calls Try.prog 128 #[.agg #[.bool a, .bool b], .agg #[.bool c, .bool d]] w fun e w' => e = .returned (.agg #[.bool (tiF (a, b) (c, d)).1, .bool (tiF (a, b) (c, d)).2]) ∧ Below w.heap.size w w' := by
  cases a <;> cases b <;> cases c <;> cases d <;>
    (go_enter Try.func128, Try.ntmps128
     go_wp2
     exact bodyPost_ret (by simp [results, Try.results128, go_sem]; decide) rfl ⟨rfl, three_allocs _ _ _ _⟩)
theorem timesF (x y : Bool × Bool) (w : World) : Calls Try.prog 128 #[.agg #[.bool x.1, .bool x.2], .agg #[.bool y.1, .bool y.2]] w fun e w' => e = .returned (.agg #[.bool (tiF x y).1, .bool (tiF x y).2]) ∧ Below w.heap.size w w' := timesF4 x.1 x.2 y.1 y.2 w
end Go.Proofs.Ytchmggehbajebaa
