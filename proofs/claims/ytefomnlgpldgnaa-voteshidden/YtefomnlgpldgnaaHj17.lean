/-
  What VotesHidden is handed, opened: a list of whole numbers.
-/
import Derived.Test.YtefomnlgpldgnaaVo17
namespace Go.Proofs.Ytefomnlgpldgnaa
open Go.ChangeShapes Go.WideShapes Go.ChangeAt Go.RowKit
theorem ints_ofW {H : Type} {enc : TypeId × Value → H} {W : World} {n : Nat} {v : Value} {y : DataW H × List MemPlace} (h : DataW.trod enc Try.prog W 0 (fun _ => true) true n 25 [v] = some y)
    (hb : ∀ g ∈ y.1.weights Try.prog 25, g ≤ reachBytes) : ∃ (p : Option Addr) (n c : Nat) (zs : List Int), v = .slice p n c ∧ zs.length = n ∧ n ≤ 17592186043904 ∧ Rz W p zs ∧ ∀ z ∈ zs, In64 z := by
  rcases open_ints Try.underlying25 Try.underlying3 (by kernel_rfl) h with ⟨hcs, hx⟩ | ⟨x, l, c, zs, hcs, _, hl, hm, hz, hx, hcell, hwz⟩
  · simp at hcs
    subst hcs
    exact ⟨none, 0, 0, [], rfl, rfl, by decide, .inl rfl, fun z hz => absurd hz (List.not_mem_nil)⟩
  · simp at hcs
    subst hcs
    simp only [if_true] at hz
    have hx1 : y.1 = _ := congrArg Prod.fst hx
    rw [hx1] at hb
    have hw := hb _ (by simp only [DataW.weights, Try.underlying25]; exact List.mem_cons_self ..)
    rw [show Try.prog.bytesOf 3 = 8 by kernel_rfl] at hw
    simp only [lits, List.length_map, List.length_take, List.length_drop, reachBytes] at hw
    refine ⟨some x, l, c, zs.take l, rfl, by rw [List.length_take]; omega, by omega, ?_, fun z hz => i64_of (hwz z (List.mem_of_mem_take hz))⟩
    by_cases h0 : l = 0
    · left; rw [h0]; rfl
    · obtain ⟨b, o, rfl⟩ := spot_no (hcell 0 (by omega))
      refine .inr ⟨b, o, rfl, fun i hi => ?_⟩
      rw [List.length_take] at hi
      have := hcell i (by omega)
      rw [add_pl] at this
      rw [this]
      simp [List.getD, show i < l by omega]
end Go.Proofs.Ytefomnlgpldgnaa
