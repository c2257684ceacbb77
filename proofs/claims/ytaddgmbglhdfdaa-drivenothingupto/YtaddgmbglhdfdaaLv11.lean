/-
  What DriveNothing is handed, opened.
-/
import Derived.Test.YtaddgmbglhdfdaaKu11
namespace Go.Proofs.Ytaddgmbglhdfdaa
open Go.ChangeShapes Go.WideShapes Go.ChangeAt Go.RowKit
theorem list3 {α : Type} {l : List α} (h : l.length = 3) : ∃ a b c, l = [a, b, c] := by
  match l, h with
  | [a, b, c], _ => exact ⟨a, b, c, rfl⟩
set_option maxRecDepth 100000 in
theorem start_of {H : Type} {enc : TypeId × Value → H} {W : World} {n : Nat} {cs : List Value} {y : DataW H × List MemPlace} (h : DataW.trod enc Try.prog W 0 (fun _ => true) true n 24 cs = some y) (hb : Rows.uptoBulk y.1 ≤ 1048576) :
    ∃ (how room : Int) (p : Option Addr) (k c : Nat) (nm' dt : Nat → Tx), cs = (stC how room (.slice p k c)).toList ∧ FlIn W p nm' dt k ∧ fsz (fls nm' dt k) ≤ 1048576 ∧ (∀ i, i < k → (nm' i).length ≤ 134217728) ∧ k ≤ 134217728 := by
  obtain ⟨ts, m8, _, hy0, hl, htl, hs⟩ := DataW.trod_struct Try.underlying24 h
  have hl' : cs.length = 3 := hl.trans (by kernel_rfl)
  have ni : Try.prog.cellsOf 3 = 1 := by kernel_rfl
  have nF : Try.prog.cellsOf 22 = 1 := by kernel_rfl
  obtain ⟨c0, c1, c2, rfl⟩ := list3 hl'
  match ts, htl with
  | [t0, t1, t2], _ =>
    have s0 := hs 0 _ rfl
    have s1 := hs 1 _ rfl
    have s2 := hs 2 _ rfl
    simp [ni, nF] at s0 s1 s2
    have hy01 : y.1 = _ := congrArg Prod.fst hy0
    rw [hy01] at hb
    simp only [List.map_cons, List.map_nil, Rows.uptoBulk, Rows.uptoBulkAll] at hb
    obtain ⟨how, e0, _, _⟩ := DataW.trod_int Try.underlying3 s0
    obtain ⟨room, e1, _, _⟩ := DataW.trod_int Try.underlying3 s1
    obtain ⟨p, k, c, nm', dt, e2, hfl, hfz, hfx, hfn⟩ := files_of s2 (by omega)
    simp only [List.cons.injEq, and_true] at e0 e1
    subst e0 e1 e2
    exact ⟨how, room, p, k, c, nm', dt, by simp [stC], hfl, hfz, hfx, hfn⟩
end Go.Proofs.Ytaddgmbglhdfdaa
