/-
  begins.
-/
import Derived.Test.YtkljlfhplnoldaaNw
namespace Go.Proofs.Ytkljlfhplnoldaa
open Go.RowKit Go.Maps Go.Sort
theorem cut_enc (t : Tx) (n : Nat) : (⟨t.toArray⟩ : ByteArray).extract 0 n = ⟨(t.take n).toArray⟩ := by
  rw [ByteArray.extract_mk]
  congr 1
theorem pre_take (t p : Tx) : (t.take p.length == p) = decide (p <+: t) := by
  rw [Bool.eq_iff_iff]
  simp only [beq_iff_eq, decide_eq_true_eq]
  constructor
  · intro e; rw [← e]; exact List.take_prefix _ _
  · intro e; exact (List.prefix_iff_eq_take.1 e).symm
section
attribute [local irreducible] Calls
set_option maxRecDepth 1000000 in
theorem begins_any (t p : Tx) (w : World) : Calls Try.prog 11 #[encStr t, encStr p] w fun e w' => e = .returned (.bool (decide (p <+: t))) ∧ w' = w := by
  by_cases h : p.length ≤ t.length
  · have h1 : (p.length : Int) ≤ (t.length : Int) := by omega
    have hc := cut_enc t p.length
    have F : Hid ((t.take p.length == p) = decide (p <+: t)) := pre_take t p
    obtain ⟨u, hu⟩ : ∃ u, u = t.take p.length := ⟨_, rfl⟩
    rw [← hu] at hc F
    clear hu h
    go_enter Try.func11, Try.ntmps11
    go_wp2
    go_ret
    exact ⟨ret_bool F.out, rfl⟩
  · have h1 : ¬ (p.length : Int) ≤ (t.length : Int) := by omega
    have F : Hid (false = decide (p <+: t)) := (decide_eq_false fun e => h e.length_le).symm
    clear h
    go_enter Try.func11, Try.ntmps11
    go_wp2
    go_ret
    exact ⟨ret_bool F.out, rfl⟩
end
end Go.Proofs.Ytkljlfhplnoldaa
