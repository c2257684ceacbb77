/-
  A label that is handed in, opened.
-/
import Derived.Test.YtbdkdoeiajfkfaaGreatRows
import Derived.Test.YtbdkdoeiajfkfaaGreatLq15
import Derived.WalkKit
import Derived.ProofKit
import Derived.SizedLaws
import Derived.OpenShut
import Derived.ShutString
import Derived.ChangeOld
import Derived.Below
namespace Go.Proofs.YtbdkdoeiajfkfaaGreat
open Go.ChangeShapes Go.WideShapes Go.ChangeAt Go.RowKit
theorem list13 {α : Type} {l : List α} (h : l.length = 13) : ∃ c0 c1 c2 c3 c4 c5 c6 c7 c8 c9 c10 c11 c12, l = [c0, c1, c2, c3, c4, c5, c6, c7, c8, c9, c10, c11, c12] := by
  match l, h with
  | [c0, c1, c2, c3, c4, c5, c6, c7, c8, c9, c10, c11, c12], _ => exact ⟨c0, c1, c2, c3, c4, c5, c6, c7, c8, c9, c10, c11, c12, rfl⟩
theorem i64_ofL {n : Int} (h : (Lit.int .i64 n).wf = true) : I64 n := ⟨(bounds_i64 h).1, by have := (bounds_i64 h).2; omega⟩
theorem u8_ofL {n : Int} (h : (Lit.int .u8 n).wf = true) : ∃ a : BitVec 8, n = el a := by
  obtain ⟨a, ha⟩ := el_of n (bounds_u8 h).1 (by have := (bounds_u8 h).2; omega)
  exact ⟨a, ha⟩
theorem label_of {H : Type} {enc : TypeId × Value → H} {w : World} {bs : Nat} {spare : Nat → Bool} {held : Bool} {n : Nat} {cs : List Value} {y : DataW H × List MemPlace}
    (h : DataW.trod enc Tryz.prog w bs spare held n 33 cs = some y) : ∃ hd : Lbl, hd.In ∧ cs = hd.cs.toList := by
  obtain ⟨xs, m, _, _, hl, hlen, hf⟩ := DataW.trod_struct Tryz.underlying33 h
  have hl' : cs.length = 13 := hl.trans (by kernel_rfl)
  obtain ⟨c0, c1, c2, c3, c4, c5, c6, c7, c8, c9, c10, c11, c12, rfl⟩ := list13 hl'
  have n1 : Tryz.prog.cellsOf 5 = 1 := by kernel_rfl
  have n8 : Tryz.prog.cellsOf 29 = 8 := by kernel_rfl
  have n3 : Tryz.prog.cellsOf 31 = 3 := by kernel_rfl
  have ni : Tryz.prog.cellsOf 3 = 1 := by kernel_rfl
  match xs, hlen with
  | [y0, y1, y2, y3], _ =>
    have f0 := hf 0 _ rfl
    have f1 := hf 1 _ rfl
    have f2 := hf 2 _ rfl
    have f3 := hf 3 _ rfl
    simp [n8, n3, ni] at f0 f1 f2 f3
    obtain ⟨zs, m0, _, _, _, hz, g⟩ := DataW.trod_array Tryz.underlying29 f0
    match zs, hz with
    | [z0, z1, z2, z3, z4, z5, z6, z7], _ =>
      have g0 := g 0 (by decide)
      have g1 := g 1 (by decide)
      have g2 := g 2 (by decide)
      have g3 := g 3 (by decide)
      have g4 := g 4 (by decide)
      have g5 := g 5 (by decide)
      have g6 := g 6 (by decide)
      have g7 := g 7 (by decide)
      simp [n1] at g0 g1 g2 g3 g4 g5 g6 g7
      obtain ⟨v0, e0, _, w0⟩ := DataW.trod_int Tryz.underlying5 g0
      obtain ⟨v1, e1, _, w1⟩ := DataW.trod_int Tryz.underlying5 g1
      obtain ⟨v2, e2, _, w2⟩ := DataW.trod_int Tryz.underlying5 g2
      obtain ⟨v3, e3, _, w3⟩ := DataW.trod_int Tryz.underlying5 g3
      obtain ⟨v4, e4, _, w4⟩ := DataW.trod_int Tryz.underlying5 g4
      obtain ⟨v5, e5, _, w5⟩ := DataW.trod_int Tryz.underlying5 g5
      obtain ⟨v6, e6, _, w6⟩ := DataW.trod_int Tryz.underlying5 g6
      obtain ⟨v7, e7, _, w7⟩ := DataW.trod_int Tryz.underlying5 g7
      obtain ⟨us, m1, _, _, _, hu, k⟩ := DataW.trod_struct Tryz.underlying31 f1
      match us, hu with
      | [u0, u1, u2], _ =>
        have k0 := k 0 _ rfl
        have k1 := k 1 _ rfl
        have k2 := k 2 _ rfl
        simp [ni] at k0 k1 k2
        obtain ⟨v8, e8, _, w8⟩ := DataW.trod_int Tryz.underlying3 k0
        obtain ⟨v9, e9, _, w9⟩ := DataW.trod_int Tryz.underlying3 k1
        obtain ⟨v10, e10, _, w10⟩ := DataW.trod_int Tryz.underlying3 k2
        obtain ⟨v11, e11, _, w11⟩ := DataW.trod_int Tryz.underlying3 f2
        obtain ⟨v12, e12, _, w12⟩ := DataW.trod_int Tryz.underlying3 f3
        simp only [List.cons.injEq, and_true] at e0 e1 e2 e3 e4 e5 e6 e7 e8 e9 e10 e11 e12
        subst e0 e1 e2 e3 e4 e5 e6 e7 e8 e9 e10 e11 e12
        obtain ⟨a0, rfl⟩ := u8_ofL w0
        obtain ⟨a1, rfl⟩ := u8_ofL w1
        obtain ⟨a2, rfl⟩ := u8_ofL w2
        obtain ⟨a3, rfl⟩ := u8_ofL w3
        obtain ⟨a4, rfl⟩ := u8_ofL w4
        obtain ⟨a5, rfl⟩ := u8_ofL w5
        obtain ⟨a6, rfl⟩ := u8_ofL w6
        obtain ⟨a7, rfl⟩ := u8_ofL w7
        exact ⟨⟨a0, a1, a2, a3, a4, a5, a6, a7, v8, v9, v10, v11, v12⟩, ⟨i64_ofL w8, i64_ofL w9, i64_ofL w10, i64_ofL w11, i64_ofL w12⟩, rfl⟩
end Go.Proofs.YtbdkdoeiajfkfaaGreat
