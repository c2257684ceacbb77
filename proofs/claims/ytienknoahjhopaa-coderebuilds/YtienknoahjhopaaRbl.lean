/-
  Shares at any points, and what takes the code's rows back.
-/
import Derived.Test.YtienknoahjhopaaEn
namespace Go.Proofs.Ytienknoahjhopaa
open Go.RowKit
/-- What is left-inverse on the right, too. -/
theorem inv_right {n : Nat} {P X : Nat → Nat → BitVec 8} (hX : ∀ i, i < n → ∀ j, j < n → mm fdE n X P i j = dl fdE i j) (i : Nat) (hi : i < n) (j : Nat) (hj : j < n) : mm fdE n P X i j = dl fdE i j := by
  have h := left_oo (D := fdE) hX (e := fun t => fdE.pl (mm fdE n P X i t) (dl fdE i t)) (fun j hj => by
    rw [sm_congr (g := fun t => fdE.pl (fdE.ti (mm fdE n P X i t) (P t j)) (fdE.ti (dl fdE i t) (P t j))) (fun t _ => pl_ti _ _ _), sm_pl]
    have e1 : sm fdE (fun t => fdE.ti (mm fdE n P X i t) (P t j)) n = P i j := by
      have h1 : mm fdE n (mm fdE n P X) P i j = P i j := by
        rw [mm_assoc, mm_congr (A' := P) (B' := dl fdE) (fun _ _ => rfl) (fun t ht => hX t ht j hj), mm_dl_r hj]
      exact h1
    have e2 : sm fdE (fun t => fdE.ti (dl fdE i t) (P t j)) n = P i j := mm_dl_l (D := fdE) (A := P) hi
    rw [e1, e2, fdE.pl_self]) j hj
  exact pl_eq h
theorem reb_shr {k : Nat} {F Z : Nat → Nat → BitVec 8} {p : Nat → Nat} (hF : Fac k F) (hp : ∀ i, i < k → p i < 256) (hd : ∀ i, i < k → ∀ j, j < k → i ≠ j → p i ≠ p j) (hZ : ∀ i, i < k → ∀ j, j < k → mm fdE k Z (fun i j => F (p i) j) i j = dl fdE i j) {t : Nat} (ht : t < k) (i : Nat) : mm fdE k F Z i t = shr p k i t := by
  have hr := inv_right hZ
  by_cases hs : ∃ s, s < k ∧ p s = i
  · obtain ⟨s, hsk, hsi⟩ := hs
    rw [shr_in hsk hsi, ← hsi]
    have h1 : mm fdE k F Z (p s) t = dl fdE s t := hr s hsk t ht
    rw [h1]
    unfold dl
    by_cases e : s = t
    · rw [if_pos e, e, if_pos rfl]; rfl
    · rw [if_neg e, if_neg (fun e2 => hd t ht s hsk (fun e3 => e e3.symm) e2)]; rfl
  · rw [shr_out (fun s hsk hsi => hs ⟨s, hsk, hsi⟩)]
    obtain ⟨X, _, _, h3⟩ := hF
    have hX : ∀ i, i < k → ∀ j, j < k → mm fdE k (fun i t => po fdE (pt (p i)) t) (mm fdE k X Z) i j = dl fdE i j := fun i hi j hj => by
      rw [← mm_assoc, ← hr i hi j hj]
      exact mm_congr (fun s _ => (h3 (p i) s).symm) (fun _ _ => rfl)
    have hpd : ∀ i, i < k → ∀ j, j < k → i ≠ j → pt (p i) ≠ pt (p j) := fun i hi j hj hne => pt_ne (hp i hi) (hp j hj) (hd i hi j hj hne)
    have h := lag (p := fun s => pt (p s)) hpd hX ht (pt i)
    have e1 : sm fdE (fun s => fdE.ti (po fdE (pt i) s) (mm fdE k X Z s t)) k = mm fdE k F Z i t := by
      have e2 : mm fdE k vm (mm fdE k X Z) i t = mm fdE k F Z i t := by
        rw [← mm_assoc]
        exact mm_congr (fun s _ => (h3 i s).symm) (fun _ _ => rfl)
      exact e2
    rw [e1] at h
    have hne : lup (fun s => pt (p s)) t (pt (p t)) k ≠ 0#8 := lup_ne (fun s hs hne => hpd t ht s hs (Ne.symm hne))
    unfold sha
    rw [← h, gm_assoc, gm_inv hne, gm_one]
/-- The program's word and the document's, out of the rows that stand. -/
theorem reb_word {k : Nat} {F Z R : Nat → Nat → BitVec 8} {p : Nat → Nat} (hF : Fac k F) (hp : ∀ i, i < k → p i < 256) (hd : ∀ i, i < k → ∀ j, j < k → i ≠ j → p i ≠ p j) (hZ : ∀ i, i < k → ∀ j, j < k → mm fdE k Z (fun i j => F (p i) j) i j = dl fdE i j) (i c : Nat) :
    (if i < k then skk plE oE (fun t => tiE (Z i t) (R (p t) c)) k else skk plE oE (fun j => tiE (F i j) (skk plE oE (fun t => tiE (Z j t) (R (p t) c)) k)) k) = acc (shr p k) (fun t => R (p t)) i k c := by
  have hacc : acc (shr p k) (fun t => R (p t)) i k c = mm fdE k (mm fdE k F Z) (fun t c => R (p t) c) i c := by
    unfold acc
    rw [skk_mm k (shr p k) (fun t c => R (p t) c) i c]
    exact mm_congr (fun t ht => (reb_shr hF hp hd hZ ht i).symm) (fun _ _ => rfl)
  rw [hacc]
  by_cases e : i < k
  · rw [if_pos e, skk_mm k Z (fun t c => R (p t) c) i c]
    exact mm_congr (fun t _ => by rw [hF.data e]) (fun _ _ => rfl)
  · rw [if_neg e, skk_mm k F (fun j c => skk plE oE (fun t => tiE (Z j t) (R (p t) c)) k) i c, mm_assoc]
    exact mm_congr (fun _ _ => rfl) (fun j _ => skk_mm k Z (fun t c => R (p t) c) j c)
end Go.Proofs.Ytienknoahjhopaa
