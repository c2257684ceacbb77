/-
  The numbers' own calls: Plus, IsZero.
-/
import Derived.Test.YtchmggehbajebaaKq
namespace Go.Proofs.Ytchmggehbajebaa
open Go.RowKit
def plE (a b : BitVec 8) : BitVec 8 := a ^^^ b
def plB (a b : Bool) : Bool := a != b
def plF (a b : Bool × Bool) : Bool × Bool := (a.1 != b.1, a.2 != b.2)
def izE (a : BitVec 8) : Bool := a == 0#8
def izB (a : Bool) : Bool := !a
def izF (a : Bool × Bool) : Bool := !a.1 && !a.2
theorem plusE (x y : BitVec 8) (w : World) : Calls Try.prog 113 #[.int .u8 (el x), .int .u8 (el y)] w fun e w' => e = .returned (.int .u8 (el (plE x y))) ∧ w' = w := plus_any x y w
theorem plusB (x y : Bool) (w : World) : Calls Try.prog 123 #[.bool x, .bool y] w fun e w' => e = .returned (.bool (plB x y)) ∧ w' = w := by
  go_enter Try.func123, Try.ntmps123
  go_wp2
  go_ret
  exact ⟨rfl, rfl⟩
set_option maxHeartbeats 4000000 in
set_option maxRecDepth 1000000 in
theorem plusF4 (a b c d : Bool) (w : World) : Calls Try.prog 127 #[.agg #[.bool a, .bool b], .agg #[.bool c, .bool d]] w fun e w' => e = .returned (.agg #[.bool (a != c), .bool (b != d)]) ∧ Below w.heap.size w w' := by
  cases a <;> cases b <;> cases c <;> cases d <;>
    (go_enter Try.func127, Try.ntmps127
     go_wp2
     exact bodyPost_ret (by simp [results, Try.results127, go_sem]) rfl ⟨rfl, three_allocs _ _ _ _⟩)
theorem plusF (x y : Bool × Bool) (w : World) : Calls Try.prog 127 #[.agg #[.bool x.1, .bool x.2], .agg #[.bool y.1, .bool y.2]] w fun e w' => e = .returned (.agg #[.bool (plF x y).1, .bool (plF x y).2]) ∧ Below w.heap.size w w' := plusF4 x.1 x.2 y.1 y.2 w
theorem isZeroE (x : BitVec 8) (w : World) : Calls Try.prog 112 #[.int .u8 (el x)] w fun e w' => e = .returned (.bool (izE x)) ∧ w' = w := isZero_any x w
theorem isZeroB (x : Bool) (w : World) : Calls Try.prog 122 #[.bool x] w fun e w' => e = .returned (.bool (izB x)) ∧ w' = w := by
  go_enter Try.func122, Try.ntmps122
  go_wp2
  go_ret
  exact ⟨rfl, rfl⟩
set_option maxRecDepth 1000000 in
theorem isZeroF4 (a b : Bool) (w : World) : Calls Try.prog 126 #[.agg #[.bool a, .bool b]] w fun e w' => e = .returned (.bool (!a && !b)) ∧ Below w.heap.size w w' := by
  cases a <;> cases b <;>
    (go_enter Try.func126, Try.ntmps126
     go_wp2
     go_ret
     exact ⟨rfl, (Below.refl _ _).alloc (Nat.le_refl _) _⟩)
theorem isZeroF (x : Bool × Bool) (w : World) : Calls Try.prog 126 #[.agg #[.bool x.1, .bool x.2]] w fun e w' => e = .returned (.bool (izF x)) ∧ Below w.heap.size w w' := isZeroF4 x.1 x.2 w
/-- The numbers are fields in which a thing and itself make zero. -/
theorem plE_o (a b : BitVec 8) (h : izE a = true) (c : BitVec 8) : plE b (tiE a c) = b := by
  have : a = 0#8 := by simpa [izE] using h
  subst this
  unfold plE tiE
  rw [gm_comm, gm_zero]; simp
theorem plB_o (a b : Bool) (h : izB a = true) (c : Bool) : plB b (tiB a c) = b := by
  cases a <;> simp [izB] at h
  cases b <;> cases c <;> rfl
theorem plF_o (a b : Bool × Bool) (h : izF a = true) (c : Bool × Bool) : plF b (tiF a c) = b := by
  obtain ⟨a1, a2⟩ := a
  obtain ⟨b1, b2⟩ := b
  obtain ⟨c1, c2⟩ := c
  cases a1 <;> cases a2 <;> simp [izF] at h
  cases b1 <;> cases b2 <;> cases c1 <;> cases c2 <;> rfl
theorem nuE_pl (x y : BitVec 8) : bits .xor .i64 (nuE x) (nuE y) = nuE (plE x y) := by
  unfold nuE plE el
  rw [i64_xor_nat _ _ (by have := x.isLt; omega) (by have := y.isLt; omega), BitVec.toNat_xor]
theorem nuB_pl (x y : Bool) : bits .xor .i64 (nuB x) (nuB y) = nuB (plB x y) := by cases x <;> cases y <;> decide +kernel
theorem nuF_pl (x y : Bool × Bool) : bits .xor .i64 (nuF x) (nuF y) = nuF (plF x y) := by
  obtain ⟨a, b⟩ := x
  obtain ⟨c, d⟩ := y
  cases a <;> cases b <;> cases c <;> cases d <;> decide +kernel
end Go.Proofs.Ytchmggehbajebaa
