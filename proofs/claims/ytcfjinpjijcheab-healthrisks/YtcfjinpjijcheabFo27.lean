/-
  Floating-point numbers that are handed in, opened.
-/
import Derived.Test.YtcfjinpjijcheabFx27
import Derived.WalkKit
import Derived.ProofKit
import Derived.OpenShut
import Derived.ChangeOld
import Derived.Below
namespace Go.Proofs.Ytcfjinpjijcheab
open Go.ChangeShapes Go.WideShapes Go.ChangeAt Go.RowKit
theorem trod_float {H : Type} {enc : TypeId × Value → H} {P : Program} {w : World} {base : Nat} {spare : Nat → Bool} {held : Bool} {fuel : Nat} {t : TypeId} {cs : List Value} {x : DataW H × List MemPlace} {k : FloatKind} (ht : P.underlying t = some (.float k)) (h : DataW.trod enc P w base spare held fuel t cs = some x) : ∃ b, cs = [.float k b] := by
  cases fuel with
  | zero => simp [DataW.trod] at h
  | succ n =>
    unfold DataW.trod at h
    rw [ht] at h
    split at h <;> simp_all
theorem fr_of {H : Type} {enc : TypeId × Value → H} {w : World} {base : Nat} {spare : Nat → Bool} {held : Bool} {a : Option Addr} {len cap : Nat} {d : DataW H} {p : List MemPlace} (h : DataW.Trod enc Try.prog w base spare held 28 (.slice a len cap) d p) :
    (∃ es sp, len = 0 ∨ d = .slice es sp ∧ es.length = len) ∧ ∃ xs : List Nat, xs.length = len ∧ Fr w a xs := by
  obtain ⟨fuel, hf⟩ := h
  rcases DataW.trod_slice Try.underlying28 hf with ⟨h0, _⟩ | ⟨a', len', cap', elems, rest, n, _, hcs, hx, hb, hl, hm, hlen, hel, hsp, hns⟩
  · simp [Value.cells] at h0
    obtain ⟨rfl, rfl, rfl⟩ := h0
    exact ⟨⟨[], [], .inl rfl⟩, [], rfl, .inl rfl⟩
  · simp [Value.cells] at hcs
    obtain ⟨rfl, rfl, rfl⟩ := hcs
    refine ⟨⟨_, _, .inr ⟨congrArg Prod.fst hx, by simpa using hlen⟩⟩, ?_⟩
    have each : ∀ i, i < len → ∃ b, w.cell? (a'.add i) = some (.float .f64 b) := by
      intro i hi
      have h1 := hel i hi
      have hx : i < elems.length := by omega
      rw [List.getElem?_eq_getElem hx, show Try.prog.cellsOf 22 = 1 by kernel_rfl, Nat.mul_one, Option.bind_eq_some_iff] at h1
      obtain ⟨cs', hcs, hy'⟩ := h1
      obtain ⟨b, rfl⟩ := trod_float Try.underlying22 hy'
      exact ⟨b, cell_of_cells?_one hcs⟩
    by_cases h0 : len = 0
    · subst h0; exact ⟨[], rfl, .inl rfl⟩
    · obtain ⟨b, off, spot⟩ := a'
      have hs : spot = none := by
        obtain ⟨x, hx⟩ := each 0 (by omega)
        simpa [Addr.add] using World.cell?_spot hx
      subst hs
      have hadd : ∀ i, (⟨b, off, none⟩ : Addr).add i = ⟨b, off + i, none⟩ := fun i => by unfold Addr.add; split <;> simp_all
      refine ⟨(List.range len).map fun i => match w.cell? ⟨b, off + i, none⟩ with | some (.float _ x) => x | _ => 0, by simp, .inr ⟨b, off, rfl, fun i u hu => ?_⟩⟩
      have hi' : i < len := by
        rcases Nat.lt_or_ge i len with h1 | h1
        · exact h1
        · rw [List.getElem?_eq_none (by rw [fc_len]; simpa using h1)] at hu; cases hu
      rw [fc_at _ _ (by simpa using hi')] at hu
      obtain ⟨x, hx⟩ := each i hi'
      rw [hadd] at hx
      rw [hx, ← hu]
      simp [List.getD, hi', hx]
end Go.Proofs.Ytcfjinpjijcheab
