/-
  'Divide'.
-/
import Derived.Test.YtbjmdijphciliaaPTimes
import Derived.Test.YtbjmdijphciliaaPow
namespace Go.Proofs.Ytbjmdijphciliaa
open Go.RowKit

theorem mul_zeros (k : Nat) (q : List (BitVec 8)) (i : Nat) : co (mul (List.replicate k 0#8) q) i = 0#8 := by
  rw [mul_congr (p' := []) (q' := q) (fun j => by rw [co_nil]; unfold co; rw [List.getD_eq_getElem?_getD, List.getElem?_replicate]; split <;> rfl) (fun _ => rfl)]
  exact co_nil i
theorem mul_mono (k : Nat) (c : BitVec 8) (q : List (BitVec 8)) (i : Nat) : co (mul (sh k [c]) q) i = adq k c q i := by
  unfold sh
  rw [mul_append, mul_zeros, co_sh, List.length_replicate]
  unfold adq
  by_cases h : i < k
  · rw [if_pos h, if_pos h]; rfl
  · rw [if_neg h, if_neg h, mul_single]; simp
/-- What Divide keeps: quotient and rest so far. -/
structure DivInv (xs qs : List (BitVec 8)) (n m h k : Nat) (F G : Nat → BitVec 8) : Prop where
  eq : ∀ i, co xs i = co (mul (ls F m) qs) i ^^^ co (ls G n) i
  top : ∀ j, m - k + h ≤ j → j < n → G j = 0#8
  low : ∀ i, i < m - k → F i = 0#8
theorem DivInv.start {xs qs : List (BitVec 8)} {n m h : Nat} (hx : ∀ i, n ≤ i → co xs i = 0#8) (hm : n ≤ m + h) : DivInv xs qs n m h 0 (fun _ => 0#8) (co xs) := by
  refine ⟨fun i => ?_, fun j h1 h2 => by omega, fun _ _ => rfl⟩
  rw [mul_congr (p' := []) (q' := qs) (fun j => by rw [co_ls, co_nil]; split <;> rfl) (fun _ => rfl), show co (mul [] qs) i = 0#8 from co_nil i, co_ls]
  by_cases hi : i < n
  · rw [if_pos hi]; simp
  · rw [if_neg hi, hx i (by omega)]; rfl
theorem DivInv.step {xs qs : List (BitVec 8)} {n m h k : Nat} {F G : Nat → BitVec 8} (H : DivInv xs qs n m h k F G) (hk : k < m) (hn : n = m + h) (hq : ∀ i, h < i → co qs i = 0#8) {l : BitVec 8} (hl : co qs h = l) (hl0 : l ≠ 0#8) :
    DivInv xs qs n m h (k + 1) (fun i => if i = m - 1 - k then gm (G (m - 1 - k + h)) (inv l) else F i) (fun i => G i ^^^ adq (m - 1 - k) (gm (G (m - 1 - k + h)) (inv l)) qs i) := by
  generalize hc : gm (G (m - 1 - k + h)) (inv l) = c
  generalize hp : m - 1 - k = p
  rw [hp] at hc
  refine ⟨fun i => ?_, fun j h1 h2 => ?_, fun i hi => ?_⟩
  · rw [H.eq i]
    have e1 : co (mul (ls (fun i => if i = p then c else F i) m) qs) i = co (mul (ls F m) qs) i ^^^ adq p c qs i := by
      rw [mul_congr (p' := add (ls F m) (sh p [c])) (q' := qs) (fun j => ?_) (fun _ => rfl), mul_add_l, mul_mono]
      rw [co_add, co_ls, co_ls, co_sh]
      by_cases hj : j < m
      · rw [if_pos hj, if_pos hj]
        by_cases e : j = p
        · subst e; rw [if_pos rfl, H.low j (by omega), if_neg (by omega), Nat.sub_self, co_zero]; simp
        · rw [if_neg e]
          by_cases e2 : j < p
          · rw [if_pos e2]; simp
          · rw [if_neg e2, co_cons, if_neg (by omega), co_nil]; simp
      · rw [if_neg hj, if_neg hj, if_neg (by omega), co_cons, if_neg (by omega), co_nil]; rfl
    have e2 : co (ls (fun i => G i ^^^ adq p c qs i) n) i = co (ls G n) i ^^^ adq p c qs i := by
      rw [co_ls, co_ls]
      by_cases hi : i < n
      · rw [if_pos hi, if_pos hi]
      · rw [if_neg hi, if_neg hi]
        unfold adq
        rw [if_neg (by omega), hq _ (by omega), gm_zero]; rfl
    rw [e1, e2, xr3, BitVec.xor_self]; simp
  · show G j ^^^ adq p c qs j = 0#8
    unfold adq
    rw [if_neg (by omega)]
    by_cases e : j = p + h
    · subst e
      rw [Nat.add_sub_cancel_left, hl, ← hc, gm_assoc, gm_comm (inv l), gm_inv hl0, gm_one, BitVec.xor_self]
    · rw [H.top j (by omega) h2, hq _ (by omega), gm_zero]; rfl
  · show (if i = p then c else F i) = 0#8
    rw [if_neg (by omega), H.low i (by omega)]
theorem DivInv.done {xs qs : List (BitVec 8)} {n m h : Nat} {F G : Nat → BitVec 8} (H : DivInv xs qs n m h m F G) (hn : n = (trim xs).length) (hm : m = n - h) (hq : ∀ i, h < i → co qs i = 0#8) (hl0 : co qs h ≠ 0#8) : IsDiv xs qs (ls F m) (trim (ls G n)) := by
  refine ⟨?_, trim_trim _, fun i => by rw [co_trim]; exact H.eq i, ?_⟩
  · refine trim_self (fun hne => ?_)
    rw [ls_len, co_ls]
    have hm0 : 0 < m := by
      rcases Nat.eq_zero_or_pos m with e | e
      · subst e; exact absurd rfl hne
      · exact e
    rw [if_pos (by omega)]
    intro e
    have h1 := mul_top (p := ls F m) (q := qs) (m := m - 1) (n := h) (fun i hi => co_ge (by rw [ls_len]; omega)) hq
    rw [co_ls, if_pos (by omega), e, gm_zero_l] at h1
    have h2 := H.eq (m - 1 + h)
    rw [h1, co_ls, if_pos (by omega), H.top _ (by omega) (by omega)] at h2
    have h3 : trim xs ≠ [] := by intro e; rw [e] at hn; simp at hn; omega
    have h4 := trim_top xs h3
    rw [← hn, show n - 1 = m - 1 + h by omega] at h4
    exact h4 h2
  · rw [trim_len_of hl0 hq]
    have : (trim (ls G n)).length ≤ h := trim_len_le (fun i hi => by
      rw [co_ls]
      by_cases e : i < n
      · rw [if_pos e, H.top i (by omega) e]
      · rw [if_neg e])
    omega
end Go.Proofs.Ytbjmdijphciliaa
