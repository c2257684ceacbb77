/-
  The document's 'Product', whatever it is asked.
-/
import Derived.Test.YtmjobnabnkiakaaRq
namespace Go.Proofs.Ytmjobnabnkiakaa
open Go.RowKit
def tn (r1 : Nat) (l1 : Nat → Nat) (r2 : Nat) (l2 : Nat → Nat) : Nat := if tc r1 l1 r2 l2 = 0 then r1 else 0
theorem tc_a {r1 : Nat} {l1 : Nat → Nat} (r2 : Nat) (l2 : Nat → Nat) (h : ¬ fc r1 l1 = 0) : tc r1 l1 r2 l2 = fc r1 l1 := by unfold tc; rw [if_pos h]
theorem tc_b {r1 : Nat} {l1 : Nat → Nat} {r2 : Nat} {l2 : Nat → Nat} (h : fc r1 l1 = 0) (h2 : ¬ fc r2 l2 = 0) : tc r1 l1 r2 l2 = fc r2 l2 := by unfold tc; rw [if_neg (by simp [h]), if_pos h2]
theorem tc_c {r1 : Nat} {l1 : Nat → Nat} {r2 : Nat} {l2 : Nat → Nat} (h : fc r1 l1 = 0) (h2 : fc r2 l2 = 0) (h3 : ¬ cw r1 l1 = r2) : tc r1 l1 r2 l2 = 31 := by unfold tc; rw [if_neg (by simp [h]), if_neg (by simp [h2]), if_pos h3]
theorem tc_ok {r1 : Nat} {l1 : Nat → Nat} {r2 : Nat} {l2 : Nat → Nat} (h : fc r1 l1 = 0) (h2 : fc r2 l2 = 0) (h3 : cw r1 l1 = r2) : tc r1 l1 r2 l2 = 0 := by unfold tc; rw [if_neg (by simp [h]), if_neg (by simp [h2]), if_neg (by simp [h3])]
theorem tn_err {r1 : Nat} {l1 : Nat → Nat} {r2 : Nat} {l2 : Nat → Nat} (h : ¬ tc r1 l1 r2 l2 = 0) : tn r1 l1 r2 l2 = 0 := by unfold tn; rw [if_neg h]
theorem tn_ok {r1 : Nat} {l1 : Nat → Nat} {r2 : Nat} {l2 : Nat → Nat} (h : tc r1 l1 r2 l2 = 0) : tn r1 l1 r2 l2 = r1 := by unfold tn; rw [if_pos h]
theorem tn_le (r1 : Nat) (l1 : Nat → Nat) (r2 : Nat) (l2 : Nat → Nat) : tn r1 l1 r2 l2 ≤ 255 := by
  by_cases h : tc r1 l1 r2 l2 = 0
  · rw [tn_ok h]
    by_cases h1 : fc r1 l1 = 0
    · exact (fc_zero h1).1
    · rw [tc_a r2 l2 h1] at h; exact absurd h h1
  · rw [tn_err h]; omega
theorem tn_cw {r1 : Nat} {l1 : Nat → Nat} {r2 : Nat} {l2 : Nat → Nat} {i : Nat} (h : i < tn r1 l1 r2 l2) : cw r2 l2 ≤ 255 := by
  by_cases h1 : tc r1 l1 r2 l2 = 0
  · by_cases h2 : fc r1 l1 = 0
    · by_cases h3 : fc r2 l2 = 0
      · unfold cw
        by_cases e : r2 = 0
        · rw [if_pos e]; omega
        · rw [if_neg e]; exact (fc_zero h3).2.1 0 (by omega)
      · rw [tc_b h2 h3] at h1; exact absurd h1 h3
    · rw [tc_a r2 l2 h2] at h1; exact absurd h1 h2
  · rw [tn_err h1] at h; omega
section
attribute [local irreducible] Calls fc cw tc
end
end Go.Proofs.Ytmjobnabnkiakaa
