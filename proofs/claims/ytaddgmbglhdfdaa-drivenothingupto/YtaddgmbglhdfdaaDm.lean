/-
  A drive as mathematics: bodies by their numbers, two directories, pending changes.
-/
import Derived.Test.YtaddgmbglhdfdaaDb
import Derived.Maps.OwnSet
namespace Go.Proofs.Ytaddgmbglhdfdaa
open Go.RowKit Go.Maps
/-- A body: its bytes, how many of them are safe. -/
structure Bd where
  data : Tx
  safe : Nat
/-- A lead: a name, and the number of the body to which it leads; none: to none. -/
abbrev Ld := Tx × Option Nat
/-- A directory, as the library reads a map: of a name the number of its body. -/
abbrev Dir := DataW Unit
/-- A drive. -/
structure Ds where
  room : Nat
  used : Int
  st : Dir
  sf : Dir
  pend : List (List Ld)
  bs : List Bd
/-- A body's number as an element. -/
def ip (i : Nat) : DataW Unit := .lit (.int .i64 i)
/-- What an element says. -/
def pi (d : DataW Unit) : Option Nat := match d with
  | .lit (.int _ n) => some n.toNat
  | _ => none
/-- To which body a name leads. -/
def lk (D : Dir) (x : Tx) : Option Nat := pi (D.atKey (.string x) .nil)
theorem pi_ip (i : Nat) : pi (ip i) = some i := by simp [pi, ip]
theorem pi_nil : pi .nil = none := rfl
theorem lk_put_same {D : Dir} (h : IsMap D) (x : Tx) (i : Nat) : lk (D.put (.string x) (ip i)) x = some i := by
  unfold lk; rw [atKey_put_same h (by simp [WideAt.IsKeyLit]), pi_ip]
theorem lk_put_other {D : Dir} {x y : Tx} (h : y ≠ x) (i : Nat) : lk (D.put (.string x) (ip i)) y = lk D y := by
  unfold lk; rw [atKey_put_other (by intro e; injection e with e; exact h e)]
theorem lk_del_same {D : Dir} (x : Tx) : lk (D.del (.string x)) x = none := by
  unfold lk; rw [atKey_del_same]; rfl
theorem lk_del_other {D : Dir} {x y : Tx} (h : y ≠ x) : lk (D.del (.string x)) y = lk D y := by
  unfold lk; rw [atKey_del_other (by intro e; injection e with e; exact h e)]
theorem lk_none (x : Tx) : lk (.map []) x = none := rfl
/-- A lead followed. -/
def fol1 (D : Dir) (l : Ld) : Dir := match l.2 with
  | none => D.del (.string l.1)
  | some i => D.put (.string l.1) (ip i)
/-- A change followed. -/
def fol (D : Dir) (c : List Ld) : Dir := c.foldl fol1 D
theorem fol1_isMap {D : Dir} (h : IsMap D) (l : Ld) : IsMap (fol1 D l) := by
  unfold fol1; split
  · exact h.del _
  · exact h.put _ _
theorem fol_isMap {D : Dir} (h : IsMap D) (c : List Ld) : IsMap (fol D c) := by
  unfold fol
  induction c generalizing D with
  | nil => exact h
  | cons l c ih => exact ih (fol1_isMap h l)
/-- A body's size; none has none. -/
def sz (bs : List Bd) : Option Nat → Nat
  | none => 0
  | some i => (bs.getD i ⟨[], 0⟩).data.length
/-- What is used behind a change. -/
def usd (bs : List Bd) (D : Dir) (u : Int) (c : List Ld) : Int := c.foldl (fun u l => u + ((sz bs l.2 : Int) - (sz bs (lk D l.1) : Int))) u
/-- A change is made in what stands. -/
def Ds.change (σ : Ds) (c : List Ld) : Ds := { σ with used := usd σ.bs σ.st σ.used c, st := fol σ.st c, pend := σ.pend ++ [c] }
/-- Is it a name? -/
def isN (x : Tx) : Bool := decide (1 ≤ x.length) && decide (x.length ≤ 1024)
/-- A body's bytes. -/
def Ds.body (σ : Ds) (i : Nat) : Bd := σ.bs.getD i ⟨[], 0⟩
def Ds.setBody (σ : Ds) (i : Nat) (b : Bd) : Ds := { σ with bs := σ.bs.set i b }
/-- A name's body, or the error: 91 no name, 110 missing. -/
def Ds.find (σ : Ds) (x : Tx) : Nat ⊕ Nat := if isN x then (match lk σ.st x with | none => .inl 110 | some i => .inr i) else .inl 91
def Ds.create (σ : Ds) (x : Tx) : Nat × Ds :=
  if isN x then if lk σ.st x = none ∧ 65536 ≤ Maps.size σ.st then (112, σ) else (0, ({ σ with bs := σ.bs ++ [⟨[], 0⟩] } : Ds).change [(x, some σ.bs.length)]) else (91, σ)
def Ds.append (σ : Ds) (x d : Tx) : Nat × Ds := match σ.find x with
  | .inl e => (e, σ)
  | .inr i => if d = [] then (0, σ) else if (σ.room : Int) < σ.used + d.length then (111, σ) else (0, { (σ.setBody i ⟨(σ.body i).data ++ d, (σ.body i).safe⟩) with used := σ.used + d.length })
def Ds.sync (σ : Ds) (x : Tx) : Nat × Ds := match σ.find x with
  | .inl e => (e, σ)
  | .inr i => (0, σ.setBody i ⟨(σ.body i).data, (σ.body i).data.length⟩)
def Ds.rename (σ : Ds) (x y : Tx) : Nat × Ds := if isN y then (match σ.find x with
  | .inl e => (e, σ)
  | .inr i => if x = y then (0, σ) else (0, σ.change [(x, none), (y, some i)])) else (91, σ)
def Ds.remove (σ : Ds) (x : Tx) : Nat × Ds := match σ.find x with
  | .inl e => (e, σ)
  | .inr _ => (0, σ.change [(x, none)])
def Ds.syncDir (σ : Ds) : Ds := { σ with sf := σ.pend.foldl fol σ.sf, pend := [] }
def Ds.read (σ : Ds) (x : Tx) : Nat × Tx := match σ.find x with
  | .inl e => (e, [])
  | .inr i => (0, (σ.body i).data)
/-- A drive at first. -/
def Ds.new (room : Nat) : Ds := ⟨room, 0, .map [], .map [], [], []⟩
end Go.Proofs.Ytaddgmbglhdfdaa
