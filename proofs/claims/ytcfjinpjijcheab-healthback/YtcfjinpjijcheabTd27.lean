/-
  Turns that are handed in, opened.
-/
import Derived.Test.YtcfjinpjijcheabFx27
import Derived.Deep.Grids
import Derived.Deep.Matrix
import Derived.Deep.Slices
import Derived.SizedLaws
import Derived.ProofKit
import Derived.OpenShut
import Derived.ChangeOld
namespace Go.Proofs.Ytcfjinpjijcheab
open Go.ChangeShapes Go.WideShapes Go.ChangeAt Go.RowKit
/-- Turns: whether of the second board, the place, whether good. -/
def TdAt (w : World) (p : Option Addr) (T : List (Bool × Int × Bool)) : Prop :=
  T = [] ∨ ∃ b o, p = some ⟨b, o, none⟩ ∧ ∀ j x, T[j]? = some x → w.cell? ⟨b, o + j * 4, none⟩ = some (.bool x.1) ∧ w.cell? ⟨b, o + j * 4 + 2, none⟩ = some (.int .i64 x.2.1) ∧ w.cell? ⟨b, o + j * 4 + 3, none⟩ = some (.bool x.2.2)
theorem TdAt.below {w w' : World} {p : Option Addr} {T : List (Bool × Int × Bool)} (h : TdAt w p T) (hb : Below w.heap.size w w') : TdAt w' p T := by
  rcases h with h | ⟨b, o, e, hc⟩
  · exact .inl h
  · exact .inr ⟨b, o, e, fun j x hj => ⟨cell_below (hc j x hj).1 hb, cell_below (hc j x hj).2.1 hb, cell_below (hc j x hj).2.2 hb⟩⟩
theorem list4T {α : Type} {l : List α} (h : l.length = 4) : ∃ c0 c1 c2 c3, l = [c0, c1, c2, c3] := by
  match l, h with
  | [c0, c1, c2, c3], _ => exact ⟨c0, c1, c2, c3, rfl⟩
theorem tds_of {H : Type} {enc : TypeId × Value → H} {W : World} {n : Nat} {v : Value} {y : DataW H × List MemPlace} (h : DataW.trod enc Try.prog W 0 (fun _ => true) true n 23 [v] = some y) :
    ∃ (p : Option Addr) (n c : Nat), v = .slice p n c ∧ (∃ es sp, n = 0 ∨ y.1 = .slice es sp ∧ es.length = n) ∧ ∃ T, T.length = n ∧ TdAt W p T := by
  rcases Go.Deep.open_slice Try.underlying23 h with ⟨hcs, _⟩ | ⟨a, len, cap, m, n, D, Pl, hcs, hba, hl, hm, hmm, hx, hrow⟩
  · simp at hcs
    subst hcs
    exact ⟨none, 0, 0, rfl, ⟨[], [], .inl rfl⟩, [], rfl, .inl rfl⟩
  · simp at hcs
    subst hcs
    simp only [if_true] at hmm
    subst hmm
    have hx1 : y.1 = _ := congrArg Prod.fst hx
    have each : ∀ i, i < len → ∃ q : Bool × Int × Bool, W.cell? (a.add (i * 4)) = some (.bool q.1) ∧ W.cell? (a.add (i * 4 + 2)) = some (.int .i64 q.2.1) ∧ W.cell? (a.add (i * 4 + 3)) = some (.bool q.2.2) := by
      intro i hi
      obtain ⟨cs', h1, h2⟩ := hrow i (by omega)
      rw [show Try.prog.cellsOf 31 = 4 by kernel_rfl] at h1
      obtain ⟨_, hlen', hcell⟩ := World.cells?_some h1
      obtain ⟨xs, m2, _, _, _, hxl, hf⟩ := DataW.trod_struct Try.underlying31 h2
      have ni : Try.prog.cellsOf 3 = 1 := by kernel_rfl
      have nb : Try.prog.cellsOf 4 = 1 := by kernel_rfl
      obtain ⟨c0, c1, c2, c3, rfl⟩ := list4T hlen'
      match xs, hxl with
      | [y0, y1, y2, y3], _ =>
        have f0 := hf 0 _ rfl
        have f1 := hf 1 _ rfl
        have f2 := hf 2 _ rfl
        have f3 := hf 3 _ rfl
        simp [ni, nb] at f0 f1 f2 f3
        obtain ⟨v0, e0, _⟩ := DataW.trod_bool Try.underlying4 f0
        obtain ⟨v2, e2, _, _⟩ := DataW.trod_int Try.underlying3 f2
        obtain ⟨v3, e3, _⟩ := DataW.trod_bool Try.underlying4 f3
        simp only [List.cons.injEq, and_true] at e0 e2 e3
        subst e0 e2 e3
        have k0 := hcell 0 (by decide)
        have k2 := hcell 2 (by decide)
        have k3 := hcell 3 (by decide)
        rw [Go.Deep.add_add] at k0 k2 k3
        exact ⟨(v0, v2, v3), k0, k2, k3⟩
    obtain ⟨Q, hQ⟩ := Go.Deep.choose_lt each
    refine ⟨some a, len, m, rfl, ⟨_, _, .inr ⟨hx1, by simp⟩⟩, (List.range len).map Q, by simp, ?_⟩
    by_cases h0 : len = 0
    · subst h0; exact .inl rfl
    · have hc0 := (hQ 0 (by omega)).1
      rw [Nat.zero_mul] at hc0
      obtain ⟨b, o, rfl⟩ : ∃ b o, a = ⟨b, o, none⟩ := by
        obtain ⟨b, off, spot⟩ := a
        have hs : spot = none := by simpa [Addr.add] using World.cell?_spot hc0
        subst hs
        exact ⟨b, off, rfl⟩
      refine .inr ⟨b, o, rfl, fun j x hj => ?_⟩
      have hj' : j < len := by
        rcases Nat.lt_or_ge j len with h1 | h1
        · exact h1
        · rw [List.getElem?_eq_none (by simpa using h1)] at hj; cases hj
      have e : Q j = x := by simpa [hj'] using hj
      rw [← e]
      have := hQ j hj'
      rw [add_pl, add_pl, add_pl, ← Nat.add_assoc, ← Nat.add_assoc] at this
      exact this
end Go.Proofs.Ytcfjinpjijcheab
