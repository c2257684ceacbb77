/-
  The numbers' own calls: Plus, Times, IsZero; the document's product is the program's.
-/
import Derived.Test.YtmjobnabnkiakaaRm
namespace Go.Proofs.Ytmjobnabnkiakaa
open Go.RowKit
def tiE (a b : BitVec 8) : BitVec 8 := gm a b
def tiB (a b : Bool) : Bool := a && b
def tiF (a b : Bool × Bool) : Bool × Bool := ((a.1 && b.1) != (a.2 && b.2), ((a.1 && b.2) != (a.2 && b.1)) != (a.2 && b.2))
/-- A number as a byte. -/
def emE (x : BitVec 8) : BitVec 8 := x
def emB (x : Bool) : BitVec 8 := if x then 1#8 else 0#8
def emF (x : Bool × Bool) : BitVec 8 := (if x.1 then 1#8 else 0#8) ^^^ (if x.2 then 2#8 else 0#8)
theorem nuE_em (x : BitVec 8) : el (emE x) = nuE x := rfl
theorem nuB_em (x : Bool) : el (emB x) = nuB x := by cases x <;> rfl
theorem nuF_em (x : Bool × Bool) : el (emF x) = nuF x := by obtain ⟨a, b⟩ := x; cases a <;> cases b <;> rfl
theorem refM_E (x y : BitVec 8) : e16 (refM 8 (BitVec.ofNat 16 285) (emE x) (emE y)) = nuE (tiE x y) := refT_eq x y
theorem refM_B (x y : Bool) : e16 (refM 1 (BitVec.ofNat 16 2) (emB x) (emB y)) = nuB (tiB x y) := by cases x <;> cases y <;> decide +kernel
theorem refM_F (x y : Bool × Bool) : e16 (refM 2 (BitVec.ofNat 16 7) (emF x) (emF y)) = nuF (tiF x y) := by
  obtain ⟨a, b⟩ := x
  obtain ⟨c, d⟩ := y
  cases a <;> cases b <;> cases c <;> cases d <;> decide +kernel
theorem timesE (x y : BitVec 8) (w : World) : Calls Try.prog 73 #[.int .u8 (el x), .int .u8 (el y)] w fun e w' => e = .returned (.int .u8 (el (tiE x y))) ∧ w' = w := times_any x y w
theorem three_allocs (w : World) (o1 o2 o3 : Obj) : Below w.heap.size w (((w.alloc o1).alloc o2).alloc o3) := (((Below.refl _ _).alloc (Nat.le_refl _) _).alloc (by simp) _).alloc (by simp; omega) _
end Go.Proofs.Ytmjobnabnkiakaa
