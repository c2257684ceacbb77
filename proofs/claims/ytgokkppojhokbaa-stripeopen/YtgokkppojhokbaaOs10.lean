/-
  StripeOpen: any rows are those of an object whose size K divides.
-/
import Derived.Test.YtgokkppojhokbaaAl10
namespace Go.Proofs.Ytgokkppojhokbaa
open Go.RowKit
/-- Rows that are put together and laid down again are as they were. -/
theorem dm_obm (k : Nat) (L : List Nat) (D : Nat → Nat → BitVec 8) {t i c : Nat} (ht : t < L.length) (hi : i < k) (hc : c < L.getD t 0) : dm k L (obm k L D) i ((L.take t).sum + c) = D i ((L.take t).sum + c) := by
  rw [dm_at k L _ t i c ht hc, obm_at k L D t i c ht hi hc]
theorem bls_full (k b : Nat) (hk : 1 ≤ k) (hb : 1 ≤ b) : ∀ f l, l ≤ f → l % k = 0 → k * (bls k (k * b) f l).sum = l
  | 0, l, h, _ => by
    obtain rfl : l = 0 := by omega
    rfl
  | f + 1, l, hf, hm => by
    have hs : 1 ≤ k * b := Nat.mul_le_mul hk hb
    unfold bls
    by_cases h : l = 0
    · subst h; rfl
    · rw [if_neg h, List.sum_cons, Nat.mul_add]
      have h1 : (l - k * b) % k = 0 := by
        rcases Nat.lt_or_ge (k * b) l with h2 | h2
        · obtain ⟨q, rfl⟩ := Nat.dvd_of_mod_eq_zero hm
          rw [← Nat.mul_sub]; exact Nat.mul_mod_right _ _
        · rw [show l - k * b = 0 by omega]; exact Nat.zero_mod _
      rw [bls_full k b hk hb f (l - k * b) (by omega) h1]
      have h2 : k * ((min l (k * b) + k - 1) / k) = min l (k * b) := by
        obtain ⟨q, hq⟩ : ∃ q, min l (k * b) = k * q := by
          rcases Nat.lt_or_ge (k * b) l with h3 | h3
          · exact ⟨b, by omega⟩
          · obtain ⟨q, hq⟩ := Nat.dvd_of_mod_eq_zero hm
            exact ⟨q, by omega⟩
        rw [hq, kbk k q hk]
      rw [h2]
      omega
/-- An object whose size K divides has no zeros behind it. -/
theorem nu_full {h : Hd} {N K M B : Nat} {L : List Nat} (u : h.Nu N K M B L) (hm : N % K = 0) : K * L.sum = N := by
  rw [u.l]
  exact bls_full K B u.k1 u.b1 N N (Nat.le_refl _) hm
/-- The rows of data D are those of an object. -/
theorem nu_obj {h : Hd} {N K M B : Nat} {L : List Nat} (u : h.Nu N K M B L) (hm : N % K = 0) (F D : Nat → Nat → BitVec 8) {t c : Nat} (i : Nat) (ht : t < L.length) (hc : c < L.getD t 0) : mm fdE K F (dm K L (pad N (obm K L D))) i ((L.take t).sum + c) = mm fdE K F D i ((L.take t).sum + c) := by
  refine mm_congr (fun _ _ => rfl) (fun s hs => ?_)
  rw [← dm_obm K L D ht hs hc, dm_pl u _ ht hc, dm_pl u _ ht hc, pad_in]
  have h1 := nu_full u hm
  obtain ⟨_, g2, _, _, _, _⟩ := nu_get u ht
  have h2 := lin_lt hs hc
  have h3 : (L.take (t + 1)).sum ≤ L.sum := sum_take_le L (t + 1)
  rw [sum_take_succ L t ht] at h3
  have h4 : K * ((L.take t).sum + L.getD t 0) ≤ K * L.sum := Nat.mul_le_mul_left K h3
  rw [Nat.mul_add, g2, Nat.mul_left_comm] at h4
  omega
end Go.Proofs.Ytgokkppojhokbaa
