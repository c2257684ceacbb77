/-
  What VotesMoved is handed, opened.
-/
import Derived.Test.YtefomnlgpldgnaaVo17
import Derived.Test.YtefomnlgpldgnaaMo17
namespace Go.Proofs.Ytefomnlgpldgnaa
open Go.ChangeShapes Go.WideShapes Go.ChangeAt Go.RowKit
theorem list6 {α : Type} {l : List α} (h : l.length = 6) : ∃ c0 c1 c2 c3 c4 c5, l = [c0, c1, c2, c3, c4, c5] := by
  match l, h with
  | [c0, c1, c2, c3, c4, c5], _ => exact ⟨c0, c1, c2, c3, c4, c5, rfl⟩
theorem mv_ofW {H : Type} {enc : TypeId × Value → H} {W : World} {n : Nat} {cs : List Value} {y : DataW H × List MemPlace}
    (h : DataW.trod enc Try.prog W 0 (fun _ => true) true n 55 cs = some y) (hb : ∀ g ∈ y.1.weights Try.prog 55, g ≤ reachBytes) : ∃ (k m b : Int) (p : Option Addr) (n c : Nat) (ss : Nat → Sn) (bl : Nat → List (List (BitVec 8))) (i j : Int), cs = (mvC k m b (.slice p n c) i j).toList ∧ In64 m ∧ SnL W p n ss ∧ Bls W n ss bl ∧ n ≤ 1172812402926 ∧ ∀ i, i < n → (ss i).hd.In := by
  obtain ⟨xs, m, _, hy, hl, hlen, hf⟩ := DataW.trod_struct Try.underlying55 h
  have hl' : cs.length = 6 := hl.trans (by kernel_rfl)
  have n1 : Try.prog.cellsOf 3 = 1 := by kernel_rfl
  have n3 : Try.prog.cellsOf 23 = 3 := by kernel_rfl
  have nl : Try.prog.cellsOf 24 = 1 := by kernel_rfl
  obtain ⟨c0, c1, c2, c3, c4, c5, rfl⟩ := list6 hl'
  match xs, hlen with
  | [y0, y1, y2, y3], _ =>
    have f0 := hf 0 _ rfl
    have f1 := hf 1 _ rfl
    have f2 := hf 2 _ rfl
    have f3 := hf 3 _ rfl
    simp [n1, n3, nl] at f0 f1 f2 f3
    obtain ⟨i, e2, _, _⟩ := DataW.trod_int Try.underlying3 f2
    obtain ⟨j, e3, _, _⟩ := DataW.trod_int Try.underlying3 f3
    obtain ⟨k, m, b, e0, _, hm, _⟩ := shape_ofW f0
    have hb1 : ∀ g ∈ y1.1.weights Try.prog 24, g ≤ reachBytes := by
      intro g hg
      refine hb g ?_
      rw [hy]
      simp only [List.map_cons, List.map_nil, DataW.weights, Try.underlying55]
      exact DataW.weights_mem_each (j := 1) rfl rfl g hg
    obtain ⟨p, n, c, ss, bl, e1, hS, hB, hn, hI⟩ := seens_ofW f1 hb1
    unfold shC at e0
    simp only [List.cons.injEq, and_true] at e0 e2 e3
    refine ⟨k, m, b, p, n, c, ss, bl, i, j, ?_, hm, hS, hB, hn, hI⟩
    unfold mvC
    simp only [e0, e1, e2, e3]
end Go.Proofs.Ytefomnlgpldgnaa
