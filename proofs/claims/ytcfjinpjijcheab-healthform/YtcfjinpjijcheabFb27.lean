/-
  Bytes that are handed in, opened.
-/
import Derived.Test.YtcfjinpjijcheabCs27
import Derived.Deep.Slices
import Derived.WalkKit
import Derived.ProofKit
import Derived.OpenShut
import Derived.ChangeOld
import Derived.Below
namespace Go.Proofs.Ytcfjinpjijcheab
open Go.ChangeShapes Go.WideShapes Go.ChangeAt Go.RowKit
theorem by_of {H : Type} {enc : TypeId × Value → H} {w : World} {base : Nat} {spare : Nat → Bool} {held : Bool} {a : Option Addr} {len cap : Nat} {d : DataW H} {p : List MemPlace} (h : DataW.Trod enc Try.prog w base spare held 35 (.slice a len cap) d p) :
    (∃ es sp, len = 0 ∨ d = .slice es sp ∧ es.length = len) ∧ ∃ xs : List Nat, xs.length = len ∧ len ≤ cap ∧ (∀ x ∈ xs, x < 256) ∧ Br w a xs := by
  obtain ⟨fuel, hf⟩ := h
  rcases DataW.trod_slice Try.underlying35 hf with ⟨h0, _⟩ | ⟨a', len', cap', elems, rest, n, _, hcs, hx, hb, hl, hm, hlen, hel, hsp, hns⟩
  · simp [Value.cells] at h0
    obtain ⟨rfl, rfl, rfl⟩ := h0
    exact ⟨⟨[], [], .inl rfl⟩, [], rfl, Nat.le_refl _, by simp, .inl rfl⟩
  · simp [Value.cells] at hcs
    obtain ⟨rfl, rfl, rfl⟩ := hcs
    refine ⟨⟨_, _, .inr ⟨congrArg Prod.fst hx, by simpa using hlen⟩⟩, ?_⟩
    have each : ∀ i, i < len → ∃ b : Nat, b < 256 ∧ w.cell? (a'.add i) = some (.int .u8 (b : Int)) := by
      intro i hi
      have h1 := hel i hi
      have hx : i < elems.length := by omega
      rw [List.getElem?_eq_getElem hx, show Try.prog.cellsOf 5 = 1 by kernel_rfl, Nat.mul_one, Option.bind_eq_some_iff] at h1
      obtain ⟨cs', hcs, hy'⟩ := h1
      obtain ⟨b, rfl, _, hwf⟩ := DataW.trod_int Try.underlying5 hy'
      have hr : 0 ≤ b ∧ b < 256 := by
        simp [Lit.wf, IntKind.min, IntKind.max, IntKind.signed, IntKind.bits] at hwf
        omega
      obtain ⟨z, rfl⟩ : ∃ z : Nat, b = (z : Int) := ⟨b.toNat, by omega⟩
      exact ⟨z, by omega, cell_of_cells?_one hcs⟩
    obtain ⟨Q, hQ⟩ := Go.Deep.choose_lt each
    have hlt : ∀ x ∈ (List.range len).map Q, x < 256 := fun x hx => by
      obtain ⟨i, hi, rfl⟩ := List.mem_map.1 hx
      exact (hQ i (List.mem_range.1 hi)).1
    refine ⟨(List.range len).map Q, by simp, hl, hlt, ?_⟩
    by_cases h0 : len = 0
    · subst h0; exact .inl rfl
    · obtain ⟨b, off, spot⟩ := a'
      have hs : spot = none := by
        have hx := (hQ 0 (by omega)).2
        simpa [Addr.add] using World.cell?_spot hx
      subst hs
      refine .inr ⟨b, off, rfl, fun i u hu => ?_⟩
      have hi' : i < len := by
        rcases Nat.lt_or_ge i len with h1 | h1
        · exact h1
        · rw [List.getElem?_eq_none (by rw [bc_len]; simpa using h1)] at hu; cases hu
      rw [bc_at _ _ (by simpa using hi')] at hu
      have hx := (hQ i hi').2
      rw [add_pl] at hx
      rw [hx, ← hu]
      simp [List.getD, hi']
end Go.Proofs.Ytcfjinpjijcheab
