/-
  A shape that is handed in, opened.
-/
import Derived.Test.YtiadaaljokbkpaaRows
import Derived.Test.YtiadaaljokbkpaaQ8c
import Derived.WalkKit
import Derived.ProofKit
import Derived.SizedLaws
import Derived.OpenShut
import Derived.ChangeOld
import Derived.Below
namespace Go.Proofs.Ytiadaaljokbkpaa
open Go.ChangeShapes Go.WideShapes Go.ChangeAt Go.RowKit
theorem i64_of {n : Int} (h : (Lit.int .i64 n).wf = true) : In64 n := ⟨(bounds_i64 h).1, by have := (bounds_i64 h).2; omega⟩
theorem list3 {α : Type} {l : List α} (h : l.length = 3) : ∃ c0 c1 c2, l = [c0, c1, c2] := by
  match l, h with
  | [c0, c1, c2], _ => exact ⟨_, _, _, rfl⟩
theorem shape_of {H : Type} {enc : TypeId × Value → H} {w : World} {bs : Nat} {spare : Nat → Bool} {held : Bool} {n : Nat} {cs : List Value} {y : DataW H × List MemPlace}
    (h : DataW.trod enc Try.prog w bs spare held n 23 cs = some y) : ∃ k m b : Int, In64 k ∧ In64 m ∧ In64 b ∧ cs = (shC k m b).toList := by
  obtain ⟨xs, m, _, _, hl, hlen, hf⟩ := DataW.trod_struct Try.underlying23 h
  have hl' : cs.length = 3 := hl.trans (by kernel_rfl)
  obtain ⟨c0, c1, c2, rfl⟩ := list3 hl'
  have ni : Try.prog.cellsOf 3 = 1 := by kernel_rfl
  match xs, hlen with
  | [u0, u1, u2], _ =>
    have k0 := hf 0 _ rfl
    have k1 := hf 1 _ rfl
    have k2 := hf 2 _ rfl
    simp [ni] at k0 k1 k2
    obtain ⟨v8, e8, _, w8⟩ := DataW.trod_int Try.underlying3 k0
    obtain ⟨v9, e9, _, w9⟩ := DataW.trod_int Try.underlying3 k1
    obtain ⟨v10, e10, _, w10⟩ := DataW.trod_int Try.underlying3 k2
    simp only [List.cons.injEq, and_true] at e8 e9 e10
    subst e8 e9 e10
    exact ⟨v8, v9, v10, i64_of w8, i64_of w9, i64_of w10, rfl⟩
end Go.Proofs.Ytiadaaljokbkpaa
