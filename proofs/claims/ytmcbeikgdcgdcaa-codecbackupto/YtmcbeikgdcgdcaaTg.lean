/-
  Things that are put, and their bytes.
-/
import Derived.Test.YtmcbeikgdcgdcaaEn7
namespace Go.Proofs.Ytmcbeikgdcgdcaa
open Go.RowKit
/-- A thing: its kind, and the fields. -/
structure Th where
  K : Nat
  U : Nat
  S : Int
  B : List (BitVec 8)
  T : List (List (BitVec 8))
/-- A thing's bytes. -/
def eth (t : Th) : List (BitVec 8) := match t.K with
  | 0 => lb 1 (t.U % 256)
  | 1 => lb 2 (t.U % 65536)
  | 2 => lb 4 (t.U % 4294967296)
  | 3 => lb 8 t.U
  | 4 => lb 2 (t.U % 65536)
  | 5 => sb 9 t.U
  | 6 => sb 9 (zg t.S).toNat
  | 7 => bl t.B
  | _ => sb 9 t.T.length ++ tl t.T
end Go.Proofs.Ytmcbeikgdcgdcaa
