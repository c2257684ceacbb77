/-
  StripeCost: the numbers.
-/
import Derived.Test.YtkngfeciobalmaaAo10
import Derived.Test.YtkngfeciobalmaaPr10
namespace Go.Proofs.Ytkngfeciobalmaa
open Go.RowKit
theorem bls_le (k b : Nat) (hk : 1 ≤ k) : ∀ f l t, (bls k (k * b) f l).getD t 0 ≤ b
  | 0, _, t => by simp [bls]
  | f + 1, l, t => by
    unfold bls
    by_cases h : l = 0
    · rw [if_pos h]; simp
    · rw [if_neg h]
      cases t with
      | zero =>
        show (min l (k * b) + k - 1) / k ≤ b
        have h1 : (min l (k * b) + k - 1) / k ≤ (k * b + k - 1) / k := Nat.div_le_div_right (by omega)
        rw [kbk k b hk] at h1
        exact h1
      | succ t => exact bls_le k b hk f (l - k * b) t
theorem bls_sum (k b : Nat) (hk : 1 ≤ k) (hb : 1 ≤ b) : ∀ f l, l ≤ f → (bls k (k * b) f l).sum = (l + k - 1) / k
  | 0, l, h => by
    obtain rfl : l = 0 := by omega
    rw [Nat.div_eq_of_lt (by omega)]
    rfl
  | f + 1, l, hf => by
    have hs : 1 ≤ k * b := Nat.mul_le_mul hk hb
    unfold bls
    by_cases h : l = 0
    · subst h
      rw [if_pos rfl, Nat.div_eq_of_lt (by omega)]
      rfl
    · rw [if_neg h, List.sum_cons, bls_sum k b hk hb f (l - k * b) (by omega)]
      rcases Nat.lt_or_ge (k * b) l with h1 | h1
      · rw [show min l (k * b) = k * b by omega, kbk k b hk]
        have e : l + k - 1 = (l - k * b + k - 1) + k * b := by omega
        rw [e, Nat.add_mul_div_left _ _ (by omega)]
        omega
      · rw [show min l (k * b) = l by omega, show l - k * b = 0 by omega, Nat.div_eq_of_lt (show 0 + k - 1 < k by omega)]
        rfl
theorem cost_len {h : Hd} {N K M B : Nat} {L : List Nat} (u : h.Nu N K M B L) (i : Nat) (hi : i < L.length) : 1 ≤ L.getD i 0 ∧ L.getD i 0 ≤ B ∧ (i + 1 < L.length → L.getD i 0 = B) := by
  have hk := u.k1
  have hb := u.b1
  have hs : 1 ≤ K * B := Nat.mul_le_mul hk hb
  refine ⟨?_, ?_, fun h1 => ?_⟩
  · rw [u.l] at hi ⊢
    exact bls_pos K (K * B) hk hs N N i hi
  · rw [u.l]; exact bls_le K B hk N N i
  · have h2 := (bls_take K B hk hb N N i (Nat.le_refl _) (by rw [← u.l]; exact hi)).1
    have h3 := (bls_take K B hk hb N N (i + 1) (Nat.le_refl _) (by rw [← u.l]; exact h1)).1
    rw [← u.l] at h2 h3
    rw [sum_take_succ L i hi, h2, Nat.succ_mul] at h3
    omega
theorem cost_sum {h : Hd} {N K M B : Nat} {L : List Nat} (u : h.Nu N K M B L) : L.sum = (N + K - 1) / K := by
  rw [u.l]; exact bls_sum K B u.k1 u.b1 N N (Nat.le_refl _)
theorem cost_quo {h : Hd} {N K M B : Nat} {L : List Nat} (u : h.Nu N K M B L) : ((N : Int) + (K : Int) - 1).tdiv (K : Int) = (L.sum : Int) := by
  have hk := u.k1
  rw [cost_sum u, show (N : Int) + (K : Int) - 1 = ((N + K - 1 : Nat) : Int) by omega, ← Int.ofNat_tdiv]
/-- What Where says, and what is asked of it. -/
theorem cost_where {h : Hd} {N K M B : Nat} {L : List Nat} (u : h.Nu N K M B L) (hz : szC h.k h.m h.b N = 0) (o n : Nat) (hn : 1 ≤ n) (ho : o < N) : ∃ f t t1 s x fS uS tS S en : Nat, x = min n (N - o) ∧
    whR (K : Int) (M : Int) (B : Int) (N : Int) (o : Int) (n : Int) = ⟨(f : Int), (t : Int), (s : Int), 0⟩ ∧ wrap64 ((K : Int) * (B : Int)) = (S : Int) ∧ wrap64 ((f : Int) * (S : Int)) = (fS : Int) ∧ wrap64 ((fS : Int) + (s : Int)) = (o : Int) ∧ wrap64 ((t : Int) - 1) = (t1 : Int) ∧ wrap64 ((t1 : Int) * (S : Int)) = (uS : Int) ∧ wrap64 ((t : Int) * (S : Int)) = (tS : Int) ∧ wrap64 ((o : Int) + (x : Int)) = (en : Int)
      ∧ s < S ∧ uS < en ∧ en ≤ tS ∧ t ≤ L.length ∧ o < en := by
  have hk := u.k1
  have hb := u.b1
  have hb2 := u.b2
  have km := u.km
  have m1 := u.m1
  have n1 := u.n1
  have p := pc_of u o (min n (N - o)) (by omega) (by omega)
  have w1 := wh_nat (m := h.m) u.k u.b hz o n hn ho
  rw [u.k, u.m, u.b] at w1
  have hS2 : K * B ≤ 255 * 65536 := Nat.mul_le_mul (by omega) hb2
  have hs : 1 ≤ K * B := Nat.mul_le_mul hk hb
  have e2 : ((o + min n (N - o) - 1) / (K * B)) * (K * B) ≤ o + min n (N - o) - 1 := Nat.div_mul_le_self _ _
  have e3 : o + min n (N - o) - 1 < ((o + min n (N - o) - 1) / (K * B) + 1) * (K * B) := by
    rw [Nat.mul_comm]
    exact Nat.lt_mul_div_succ _ (by omega)
  obtain ⟨x, hx⟩ : ∃ x, x = min n (N - o) := ⟨_, rfl⟩
  rw [← hx] at p w1 e2 e3
  obtain ⟨S, hS⟩ : ∃ S, S = K * B := ⟨_, rfl⟩
  rw [← hS] at p w1 e2 e3 hS2 hs
  obtain ⟨u0, hu⟩ : ∃ u0, u0 = (o + x - 1) / S := ⟨_, rfl⟩
  rw [← hu] at p w1 e2 e3
  have hos := p.os
  have hsz := p.sz
  have htl := p.tl
  rw [← hS] at hos hsz
  clear p
  obtain ⟨f, hf⟩ : ∃ f, f = o / S := ⟨_, rfl⟩
  obtain ⟨s, hs2⟩ : ∃ s, s = o % S := ⟨_, rfl⟩
  rw [← hf, ← hs2] at w1 hos
  rw [← hs2] at hsz
  have e4 : (u0 + 1) * S = u0 * S + S := Nat.succ_mul _ _
  have hul : u0 ≤ u0 * S := Nat.le_mul_of_pos_right _ hs
  obtain ⟨uS, huS⟩ : ∃ uS, uS = u0 * S := ⟨_, rfl⟩
  obtain ⟨fS, hfS⟩ : ∃ fS, fS = f * S := ⟨_, rfl⟩
  obtain ⟨tS, htS⟩ : ∃ tS, tS = (u0 + 1) * S := ⟨_, rfl⟩
  refine ⟨f, u0 + 1, u0, s, x, fS, uS, tS, S, o + x, hx, w1, ?_, ?_, ?_, ?_, ?_, ?_, ?_, hsz, ?_, ?_, htl, ?_⟩
  · rw [← Int.natCast_mul, ← hS]; clear e4 hos; unfold wrap64; omega
  · rw [← Int.natCast_mul, ← hfS]; rw [← hfS] at hos; clear e4; unfold wrap64; omega
  · rw [← hfS] at hos; clear e4; unfold wrap64; omega
  · rw [← huS] at hul e2; clear e4 hos; unfold wrap64; omega
  · rw [← Int.natCast_mul, ← huS]; rw [← huS] at e2; clear e4 hos hul; unfold wrap64; omega
  · rw [← Int.natCast_mul, ← htS]; rw [← huS] at e2 e4; rw [← htS] at e4; clear hos hul; unfold wrap64; omega
  · clear e4 hos; unfold wrap64; omega
  · rw [← huS] at e2; omega
  · rw [← htS] at e3; omega
  · omega
theorem beq_no {o en : Nat} (h : o < en) : ((en : Int) == (o : Int)) = false := by simp; omega
theorem wrap_pred {t t1 : Nat} (h : t ≤ 1048576) (e : wrap64 ((t : Int) - 1) = (t1 : Int)) : (t : Int) - 1 = (t1 : Int) := by
  unfold wrap64 at e
  omega
theorem cost_all {h : Hd} {N K M B : Nat} {L : List Nat} (u : h.Nu N K M B L) (hz : szC h.k h.m h.b N = 0) (o n x : Nat) (hx : x = min n (N - o)) :
    (x = 0 ∧ whR (K : Int) (M : Int) (B : Int) (N : Int) (o : Int) (n : Int) = ⟨0, 0, 0, 0⟩) ∨ ∃ f t s fS uS tS S en : Nat,
    whR (K : Int) (M : Int) (B : Int) (N : Int) (o : Int) (n : Int) = ⟨(f : Int), (t : Int), (s : Int), 0⟩ ∧ wrap64 ((K : Int) * (B : Int)) = (S : Int) ∧ wrap64 ((f : Int) * (S : Int)) = (fS : Int) ∧ wrap64 ((fS : Int) + (s : Int)) = (o : Int) ∧ wrap64 (((t : Int) - 1) * (S : Int)) = (uS : Int) ∧ wrap64 ((t : Int) * (S : Int)) = (tS : Int) ∧ wrap64 ((o : Int) + (x : Int)) = (en : Int)
      ∧ (s : Int) < (S : Int) ∧ (uS : Int) < (en : Int) ∧ (en : Int) ≤ (tS : Int) ∧ (t : Int) ≤ (L.length : Int) ∧ ((en : Int) == (o : Int)) = false := by
  have NUr : L.length ≤ 1048576 := Nat.le_trans u.r u.n1
  by_cases h0 : n = 0 ∨ N ≤ o
  · have w1 := wh_none (m := h.m) hz o n h0
    rw [u.k, u.m, u.b] at w1
    exact .inl ⟨by omega, w1⟩
  · obtain ⟨f, t, t1, s, x', fS, uS, tS, S, en, hx', e1, e2, e3, e4, e5, e6, e7, e8, e9, e10, e11, e12, e13⟩ := cost_where u hz o n (by omega) (by omega)
    obtain rfl : x' = x := by rw [hx, hx']
    have e56 : wrap64 (((t : Int) - 1) * (S : Int)) = (uS : Int) := by
      have e : (t : Int) - 1 = (t1 : Int) := wrap_pred (Nat.le_trans e12 NUr) e5
      rw [e]; exact e6
    refine .inr ⟨f, t, s, fS, uS, tS, S, en, e1, e2, e3, e4, e56, e7, e8, Int.ofNat_lt.2 e9, Int.ofNat_lt.2 e10, Int.ofNat_le.2 e11, Int.ofNat_le.2 e12, beq_no e13⟩
end Go.Proofs.Ytkngfeciobalmaa
