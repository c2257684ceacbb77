/-
  The document's Fits, Sizes, Check, Length.
-/
import Derived.Test.YtgokkppojhokbaaQ8c
namespace Go.Proofs.Ytgokkppojhokbaa
open Go.RowKit
theorem bls_len (k s : Nat) (hs : 1 ≤ s) : ∀ f l, l ≤ f → (bls k s f l).length = (l + s - 1) / s := by
  intro f
  induction f with
  | zero =>
    intro l hl
    have : l = 0 := by omega
    subst this
    show 0 = _
    rw [Nat.div_eq_of_lt (by omega)]
  | succ f ih =>
    intro l hl
    unfold bls
    split
    · rename_i h; subst h; rw [Nat.div_eq_of_lt (by omega)]; rfl
    · rename_i h
      rw [List.length_cons, ih (l - s) (by omega)]
      by_cases hls : l ≤ s
      · rw [show l - s + s - 1 = s - 1 by omega, Nat.div_eq_of_lt (by omega)]
        have : (l + s - 1) / s = 1 := by
          rw [show l + s - 1 = (l - 1) + s by omega, Nat.add_div_right _ (by omega), Nat.div_eq_of_lt (by omega)]
        omega
      · rw [show l - s + s - 1 = l - 1 by omega, show l + s - 1 = (l - 1) + s by omega, Nat.add_div_right _ (by omega)]
theorem dvk (d k : Nat) (hk : 1 ≤ k) : ∃ q : Nat, (d : Int) / (k : Int) = (q : Int) ∧ q ≤ d ∧ (((q : Int) * (k : Int) < (d : Int) ∧ 0 ≤ (q : Int) * (k : Int) ∧ (d + k - 1) / k = q + 1) ∨ ((q : Int) * (k : Int) = (d : Int) ∧ (d + k - 1) / k = q)) := by
  refine ⟨d / k, by rw [Int.natCast_ediv], Nat.div_le_self _ _, ?_⟩
  have hd := Nat.div_add_mod d k
  have hm := Nat.mod_lt d hk
  have hle : d / k ≤ d := Nat.div_le_self _ _
  generalize d / k = q at hd hle ⊢
  generalize d % k = r at hd hm
  rw [← Int.natCast_mul]
  by_cases h0 : r = 0
  · refine .inr ⟨by rw [Nat.mul_comm]; omega, ?_⟩
    have : d + k - 1 = k * q + (k - 1) := by omega
    rw [this, Nat.mul_add_div (by omega), Nat.div_eq_of_lt (by omega), Nat.add_zero]
  · refine .inl ⟨by rw [Nat.mul_comm]; omega, by omega, ?_⟩
    have : d + k - 1 = k * (q + 1) + (r - 1) := by rw [Nat.mul_add]; omega
    rw [this, Nat.mul_add_div (by omega), Nat.div_eq_of_lt (by omega), Nat.add_zero]
theorem kbk (k b : Nat) (hk : 1 ≤ k) : (k * b + k - 1) / k = b := by
  have : k * b + k - 1 = k * b + (k - 1) := by omega
  rw [this, Nat.mul_add_div (by omega), Nat.div_eq_of_lt (by omega), Nat.add_zero]
theorem ShAt.grown {w w' : World} {o : Obj} {g base n : Nat} {k m b : Int} {v : Value} {xs : List Value} (hb : Below w.heap.size w (w.alloc o)) (hg : (w.alloc o).grownBy w' v.ownBlock) (ho : w.ownsRow base 3 1 v n xs) (H : ShAt w g k m b) : ShAt w' g k m b := by
  have H' := H.below hb
  unfold ShAt at H' ⊢
  rw [hg.block g (Hm.lt H') (fun e => ?_)]
  · exact H'
  · obtain ⟨cs, hcs⟩ := (own_lt (own_below ho hb) e.symm).2.2
    rw [H'] at hcs
    injection hcs with hcs
    injection hcs with _ hcs
    cases hcs
section
attribute [local irreducible] Calls el Hd.cs
end
end Go.Proofs.Ytgokkppojhokbaa
/-
  The document's Check, Length.
-/
namespace Go.Proofs.Ytgokkppojhokbaa
open Go.RowKit
section
attribute [local irreducible] Calls el Hd.cs
end
end Go.Proofs.Ytgokkppojhokbaa
