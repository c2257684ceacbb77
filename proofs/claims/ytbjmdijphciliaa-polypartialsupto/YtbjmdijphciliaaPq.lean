/-
  Quotients put together and taken apart: plain mathematics.
-/
import Derived.Test.YtbjmdijphciliaaPe
namespace Go.Proofs.Ytbjmdijphciliaa

theorem div_lens {p q s r : List (BitVec 8)} (h : IsDiv p q s r) : s.length ≤ p.length ∧ r.length ≤ q.length ∧ (s = [] ∨ s.length + (trim q).length ≤ p.length + 1) := by
  have hq : trim q ≠ [] := by intro e; have := h.lt; rw [e] at this; simp at this
  by_cases hs : trim s = []
  · have e : s = [] := by rw [← h.ts, hs]
    exact ⟨by rw [e]; simp, Nat.le_trans (Nat.le_of_lt h.lt) (trim_len q), .inl e⟩
  · have h1 := trim_mul_len hs hq
    have hl : 0 < (trim q).length := List.length_pos_iff.2 hq
    have hl2 : 0 < (trim s).length := List.length_pos_iff.2 hs
    have ht := trim_top (mul s q) (by intro e; rw [e] at h1; simp at h1; omega)
    have h2 := h.eq ((trim (mul s q)).length - 1)
    rw [co_ge (p := r) (by have := h.lt; omega)] at h2
    have h3 : co p ((trim (mul s q)).length - 1) ≠ 0#8 := by rw [h2]; simpa using ht
    have h4 := co_lt h3
    rw [h.ts] at h1 hl2 
    exact ⟨by omega, Nat.le_trans (Nat.le_of_lt h.lt) (trim_len q), .inr (by omega)⟩
theorem quo_eq {p q s r : List (BitVec 8)} (h : IsDiv p q s r) : trim (add (trim (mul s q)) r) = trim p :=
  trim_congr (fun i => by rw [co_add, co_trim, h.eq i])
theorem quo_back {p q s r z : List (BitVec 8)} (h : IsDiv p q s r) : IsDiv (trim (add (trim (mul z q)) r)) q (trim z) r :=
  ⟨trim_trim _, h.tr, fun i => by rw [co_trim, co_add, co_trim, mul_congr (co_trim z) (fun _ => rfl)], h.lt⟩
end Go.Proofs.Ytbjmdijphciliaa
