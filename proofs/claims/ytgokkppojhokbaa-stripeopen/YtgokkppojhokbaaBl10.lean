/-
  Stripe: the blocks' lengths, mathematics.
-/
import Derived.Test.YtgokkppojhokbaaQ8e
namespace Go.Proofs.Ytgokkppojhokbaa
theorem cdk_le (d k : Nat) (hk : 1 ≤ k) (hd : 1 ≤ d) : (d + k - 1) / k ≤ d ∧ 1 ≤ (d + k - 1) / k ∧ d ≤ k * ((d + k - 1) / k) := by
  refine ⟨?_, ?_, ?_⟩
  · apply Nat.div_le_of_le_mul
    have : k * d ≥ d := Nat.le_mul_of_pos_left d hk
    have h2 : k * d ≥ k := Nat.le_mul_of_pos_right k hd
    rcases Nat.lt_or_ge 1 k with h | h
    · have h3 : k * d = (k - 1) * d + d := by rw [← Nat.succ_mul]; congr 1; omega
      have h4 : (k - 1) * d ≥ k - 1 := Nat.le_mul_of_pos_right _ hd
      omega
    · obtain rfl : k = 1 := by omega
      omega
  · exact (Nat.le_div_iff_mul_le hk).2 (by omega)
  · have := Nat.div_add_mod (d + k - 1) k
    have := Nat.mod_lt (d + k - 1) hk
    omega
theorem bls_sum_le (k s : Nat) (hk : 1 ≤ k) (hs : 1 ≤ s) : ∀ f l, (bls k s f l).sum ≤ l
  | 0, _ => Nat.zero_le _
  | f + 1, l => by
    unfold bls
    by_cases h : l = 0
    · rw [if_pos h]; exact Nat.zero_le _
    · rw [if_neg h, List.sum_cons]
      have ih := bls_sum_le k s hk hs f (l - s)
      have h1 := (cdk_le (min l s) k hk (by omega)).1
      omega
/-- The blocks of k places hold the object. -/
theorem bls_cover (k s : Nat) (hk : 1 ≤ k) (hs : 1 ≤ s) : ∀ f l, l ≤ f → l ≤ k * (bls k s f l).sum
  | 0, l, h => by omega
  | f + 1, l, hf => by
    unfold bls
    by_cases h : l = 0
    · rw [if_pos h]; omega
    · rw [if_neg h, List.sum_cons, Nat.mul_add]
      have ih := bls_cover k s hk hs f (l - s) (by omega)
      have h1 := (cdk_le (min l s) k hk (by omega)).2.2
      omega
theorem bls_pos (k s : Nat) (hk : 1 ≤ k) (hs : 1 ≤ s) : ∀ f l t, t < (bls k s f l).length → 1 ≤ (bls k s f l).getD t 0
  | 0, l, t, h => by simp [bls] at h
  | f + 1, l, t, ht => by
    unfold bls at ht ⊢
    by_cases h : l = 0
    · rw [if_pos h] at ht; simp at ht
    · rw [if_neg h] at ht ⊢
      cases t with
      | zero => exact (cdk_le (min l s) k hk (by omega)).2.1
      | succ t => exact bls_pos k s hk hs f (l - s) t (by simpa using ht)
/-- All blocks but the last have the same length. -/
theorem bls_take (k b : Nat) (hk : 1 ≤ k) (hb : 1 ≤ b) : ∀ f l t, l ≤ f → t < (bls k (k * b) f l).length → ((bls k (k * b) f l).take t).sum = t * b ∧ t * (k * b) < l
  | 0, l, t, _, h => by simp [bls] at h
  | f + 1, l, t, hf, ht => by
    have hs : 1 ≤ k * b := Nat.mul_le_mul hk hb
    unfold bls at ht ⊢
    by_cases h : l = 0
    · rw [if_pos h] at ht; simp at ht
    · rw [if_neg h] at ht ⊢
      cases t with
      | zero => simp; omega
      | succ t =>
        obtain ⟨h1, h2⟩ := bls_take k b hk hb f (l - k * b) t (by omega) (by simpa using ht)
        have h3 : min l (k * b) = k * b := by
          rcases Nat.lt_or_ge l (k * b) with h4 | h4
          · rw [show l - k * b = 0 by omega] at h2; omega
          · omega
        have h5 : (k * b + k - 1) / k = b := kbk k b hk
        rw [List.take_succ_cons, List.sum_cons, h3, h5, h1, Nat.succ_mul, Nat.succ_mul]
        omega
theorem bls_count (k s : Nat) (hs : 1 ≤ s) : ∀ f l, l ≤ f → l ≤ (bls k s f l).length * s
  | 0, l, h => by omega
  | f + 1, l, hf => by
    unfold bls
    by_cases h : l = 0
    · rw [if_pos h]; omega
    · rw [if_neg h, List.length_cons, Nat.succ_mul]
      have ih := bls_count k s hs f (l - s) (by omega)
      omega
/-- A head that may be, in plain numbers. -/
structure Hd.Nu (h : Hd) (n : Nat) (K M B : Nat) (L : List Nat) : Prop where
  k : h.k = (K : Int)
  m : h.m = (M : Int)
  b : h.b = (B : Int)
  k1 : 1 ≤ K
  m1 : 1 ≤ M
  mle : M ≤ K
  km : K + M ≤ 255
  b1 : 1 ≤ B
  b2 : B ≤ 65536
  n1 : n ≤ 1048576
  l : L = bls K (K * B) n n
  s : L.sum ≤ n
  c : n ≤ K * L.sum
  r : L.length ≤ n
theorem Hd.Nu.shp {h : Hd} {n K M B : Nat} {L : List Nat} (u : h.Nu n K M B L) : Go.Proofs.Ytgokkppojhokbaa.shp h.k h.m h.b := by
  obtain ⟨⟩ := u
  unfold Go.Proofs.Ytgokkppojhokbaa.shp
  omega
theorem Hd.nu (h : Hd) (n : Nat) (hz : h.sz = (n : Int)) (ok : h.Ok) : ∃ K M B L, h.Nu n K M B L ∧ szC h.k h.m h.b n = 0 ∧ szL h.k h.m h.b n = L := by
  obtain ⟨c1, c2⟩ := h.ls_eq ok
  rw [hz] at c1 c2
  obtain ⟨K, hK⟩ : ∃ K : Nat, h.k = (K : Int) := ⟨h.k.toNat, by have := ok.k1; omega⟩
  obtain ⟨M, hM⟩ : ∃ K : Nat, h.m = (K : Int) := ⟨h.m.toNat, by have := ok.m1; omega⟩
  obtain ⟨B, hB⟩ : ∃ K : Nat, h.b = (K : Int) := ⟨h.b.toNat, by have := ok.b1; omega⟩
  have e : h.ls = bls K (K * B) n n := by
    unfold Hd.ls
    rw [hK, hB, hz, ← Int.natCast_mul]
    simp only [Int.toNat_natCast]
  have k1 := ok.k1
  have m1 := ok.m1
  have m3 := ok.m3
  have km := ok.km
  have b1 := ok.b1
  have b2 := ok.b2
  have s2 := ok.s2
  rw [hK] at k1 m3 km
  rw [hM] at m1 m3 km
  rw [hB] at b1 b2
  rw [hz] at s2
  have hs : 1 ≤ K * B := Nat.mul_pos (show 0 < K by omega) (show 0 < B by omega)
  refine ⟨K, M, B, h.ls, ⟨hK, hM, hB, by omega, by omega, by omega, by omega, by omega, by omega, by omega, e, ?_, ?_, ?_⟩, c1, c2⟩
  · rw [e]; exact bls_sum_le K (K * B) (by omega) hs n n
  · rw [e]; exact bls_cover K (K * B) (by omega) hs n n (Nat.le_refl _)
  · rw [e, bls_len K (K * B) hs n n (Nat.le_refl _)]
    rcases Nat.eq_zero_or_pos n with h0 | h0
    · subst h0; rw [Nat.div_eq_of_lt (by omega)]; exact Nat.zero_le _
    · apply Nat.div_le_of_le_mul
      have := Nat.le_mul_of_pos_left n hs
      have := Nat.le_mul_of_pos_right (K * B) h0
      rcases Nat.lt_or_ge 1 (K * B) with h1 | h1
      · have h3 : K * B * n = (K * B - 1) * n + n := by rw [← Nat.succ_mul]; congr 1; omega
        have h4 : (K * B - 1) * n ≥ K * B - 1 := Nat.le_mul_of_pos_right _ h0
        omega
      · have e1 : K * B = 1 := by omega
        rw [e1]; omega
end Go.Proofs.Ytgokkppojhokbaa
