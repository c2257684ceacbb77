/-
  Sums; the errors of a product.
-/
import Derived.Test.YtgokkppojhokbaaKf
import Derived.Test.YtgokkppojhokbaaKq
namespace Go.Proofs.Ytgokkppojhokbaa
/-- f 0 to f (n - 1) together. -/
def skk {K : Type} (pl : K → K → K) (o : K) (f : Nat → K) : Nat → K
  | 0 => o
  | n + 1 => pl (skk pl o f n) (f n)
theorem skk_zero {K : Type} (pl : K → K → K) (o : K) (f : Nat → K) : skk pl o f 0 = o := rfl
theorem skk_succ {K : Type} (pl : K → K → K) (o : K) (f : Nat → K) (n : Nat) : skk pl o f (n + 1) = pl (skk pl o f n) (f n) := rfl
def tc (r1 : Nat) (l1 : Nat → Nat) (r2 : Nat) (l2 : Nat → Nat) : Int := if fc r1 l1 ≠ 0 then fc r1 l1 else if fc r2 l2 ≠ 0 then fc r2 l2 else if cw r1 l1 ≠ r2 then 31 else 0
end Go.Proofs.Ytgokkppojhokbaa
/-
  The numbers' own calls: Plus, IsZero.
-/
namespace Go.Proofs.Ytgokkppojhokbaa
open Go.RowKit
def plE (a b : BitVec 8) : BitVec 8 := a ^^^ b
def plB (a b : Bool) : Bool := a != b
def plF (a b : Bool × Bool) : Bool × Bool := (a.1 != b.1, a.2 != b.2)
def izE (a : BitVec 8) : Bool := a == 0#8
def izB (a : Bool) : Bool := !a
def izF (a : Bool × Bool) : Bool := !a.1 && !a.2
theorem plusE (x y : BitVec 8) (w : World) : Calls Try.prog 63 #[.int .u8 (el x), .int .u8 (el y)] w fun e w' => e = .returned (.int .u8 (el (plE x y))) ∧ w' = w := plus_any x y w
theorem isZeroE (x : BitVec 8) (w : World) : Calls Try.prog 61 #[.int .u8 (el x)] w fun e w' => e = .returned (.bool (izE x)) ∧ w' = w := isZero_any x w
/-- The numbers are fields in which a thing and itself make zero. -/
theorem plE_o (a b : BitVec 8) (h : izE a = true) (c : BitVec 8) : plE b (tiE a c) = b := by
  have : a = 0#8 := by simpa [izE] using h
  subst this
  unfold plE tiE
  rw [gm_comm, gm_zero]; simp
theorem plB_o (a b : Bool) (h : izB a = true) (c : Bool) : plB b (tiB a c) = b := by
  cases a <;> simp [izB] at h
  cases b <;> cases c <;> rfl
theorem plF_o (a b : Bool × Bool) (h : izF a = true) (c : Bool × Bool) : plF b (tiF a c) = b := by
  obtain ⟨a1, a2⟩ := a
  obtain ⟨b1, b2⟩ := b
  obtain ⟨c1, c2⟩ := c
  cases a1 <;> cases a2 <;> simp [izF] at h
  cases b1 <;> cases b2 <;> cases c1 <;> cases c2 <;> rfl
theorem nuE_pl (x y : BitVec 8) : bits .xor .i64 (nuE x) (nuE y) = nuE (plE x y) := by
  unfold nuE plE el
  rw [i64_xor_nat _ _ (by have := x.isLt; omega) (by have := y.isLt; omega), BitVec.toNat_xor]
theorem nuB_pl (x y : Bool) : bits .xor .i64 (nuB x) (nuB y) = nuB (plB x y) := by cases x <;> cases y <;> decide +kernel
theorem nuF_pl (x y : Bool × Bool) : bits .xor .i64 (nuF x) (nuF y) = nuF (plF x y) := by
  obtain ⟨a, b⟩ := x
  obtain ⟨c, d⟩ := y
  cases a <;> cases b <;> cases c <;> cases d <;> decide +kernel
end Go.Proofs.Ytgokkppojhokbaa
