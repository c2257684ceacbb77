/-
  The document's 'Powers'.
-/
import Derived.Test.YtmjobnabnkiakaaKf
namespace Go.Proofs.Ytmjobnabnkiakaa
open Go.RowKit
/-- x, x times p, .. -/
def pwk {K : Type} (ti : K → K → K) (p x : K) : Nat → K
  | 0 => x
  | j + 1 => ti (pwk ti p x j) p
theorem pwk_succ {K : Type} (ti : K → K → K) (p x : K) (j : Nat) : pwk ti p x (j + 1) = ti (pwk ti p x j) p := rfl
def pc (cols : Int) (n : Nat) : Int := if cols < 0 then 2 else if 255 < cols then 3 else if 255 < n then 3 else 0
theorem own_ir {w : World} {base n : Nat} {v : Value} {f : Nat → Int} (h : w.ownsRow base 3 1 v n (lv (fun j => .int .i64 (f j)) n)) : Ir w v n f := owns_st1 h
section
attribute [local irreducible] Calls lv Ir pwk
end
/-- How many rows, and how long, are answered. -/
def pn (cols : Int) (n : Nat) : Nat := if pc cols n = 0 then n else 0
end Go.Proofs.Ytmjobnabnkiakaa
