/-
  Counting by a test that is symmetric and transitive (not everything need be like itself): which element is there most often; floating-point numbers compared.
-/
import Derived.Test.YtgconfcijmemmaaRows
import Derived.WalkKit
namespace Go.Proofs.Ytgconfcijmemmaa
/-- Symmetric and transitive. -/
structure Per {α : Type} (q : α → α → Bool) : Prop where
  symm : ∀ a b, q a b = true → q b a = true
  trans : ∀ a b c, q a b = true → q b c = true → q a c = true
theorem Per.same {α : Type} {q : α → α → Bool} (h : Per q) {a b : α} (e : q a b = true) (c : α) : q a c = q b c := by
  cases h1 : q a c with
  | true => exact (h.trans b a c (h.symm a b e) h1).symm
  | false =>
    cases h2 : q b c with
    | false => rfl
    | true => rw [h.trans a b c e h2] at h1; cases h1
theorem Per.countP {α : Type} {q : α → α → Bool} (h : Per q) {a b : α} (e : q a b = true) (l : List α) : l.countP (q a) = l.countP (q b) := by
  have : q a = q b := funext fun c => h.same e c
  rw [this]
/-- The element that is there most often, the first of these; how often. -/
def mst {α : Type} (q : α → α → Bool) (z : α) : List α → α × Nat
  | [] => (z, 0)
  | x :: r => if (mst q z r).2 ≤ (x :: r).countP (q x) then (x, (x :: r).countP (q x)) else mst q z r
theorem mst_spec {α : Type} {q : α → α → Bool} (h : Per q) (z : α) : ∀ l : List α, l ≠ [] → ∃ p, ∃ hp : p < l.length, (mst q z l).1 = l[p] ∧ l.countP (q l[p]) = (mst q z l).2 ∧ (∀ i (hi : i < l.length), i < p → l.countP (q l[i]) < (mst q z l).2) ∧ ∀ i (hi : i < l.length), l.countP (q l[i]) ≤ (mst q z l).2
  | [], hne => absurd rfl hne
  | x :: r, _ => by
    by_cases hc : (mst q z r).2 ≤ (x :: r).countP (q x)
    · have e : mst q z (x :: r) = (x, (x :: r).countP (q x)) := by rw [mst, if_pos hc]
      rw [e]
      refine ⟨0, by simp, rfl, rfl, fun i _ hi => by omega, fun i hi => ?_⟩
      rcases i with _ | i
      · exact Nat.le_refl _
      · simp only [List.getElem_cons_succ]
        have hi' : i < r.length := by simpa using hi
        by_cases hx : q r[i] x = true
        · rw [h.countP hx]; exact Nat.le_refl _
        · rw [List.countP_cons_of_neg (by simpa using hx)]
          have hr : r ≠ [] := by intro e; subst e; simp at hi'
          obtain ⟨_, _, _, _, _, h5⟩ := mst_spec h z r hr
          exact Nat.le_trans (h5 i hi') hc
    · have e : mst q z (x :: r) = mst q z r := by rw [mst, if_neg hc]
      rw [e]
      have hr : r ≠ [] := by intro e; subst e; simp [mst] at hc
      obtain ⟨p, hp, h1, h2, h3, h4⟩ := mst_spec h z r hr
      have key : ∀ i (hi : i < r.length), (x :: r).countP (q r[i]) = (x :: r).countP (q x) ∨ (x :: r).countP (q r[i]) = r.countP (q r[i]) := by
        intro i hi
        by_cases hx : q r[i] x = true
        · exact .inl (h.countP hx _)
        · exact .inr (List.countP_cons_of_neg (by simpa using hx))
      refine ⟨p + 1, by simpa using hp, by simpa using h1, ?_, fun i hi hip => ?_, fun i hi => ?_⟩
      · simp only [List.getElem_cons_succ]
        by_cases hx : q r[p] x = true
        · have e1 := h.countP hx r
          have e2 : r.countP (q x) ≤ (x :: r).countP (q x) := by rw [List.countP_cons]; omega
          omega
        · rw [List.countP_cons_of_neg (by simpa using hx), h2]
      · rcases i with _ | i
        · simp only [List.getElem_cons_zero]; omega
        · simp only [List.getElem_cons_succ]
          have hi' : i < r.length := by simpa using hi
          rcases key i hi' with k | k
          · rw [k]; omega
          · rw [k]; exact h3 i hi' (by omega)
      · rcases i with _ | i
        · simp only [List.getElem_cons_zero]; omega
        · simp only [List.getElem_cons_succ]
          have hi' : i < r.length := by simpa using hi
          rcases key i hi' with k | k
          · rw [k]; omega
          · rw [k]; exact h4 i hi'
theorem mst_le {α : Type} {q : α → α → Bool} (z : α) : ∀ l : List α, (mst q z l).2 ≤ l.length
  | [] => Nat.le_refl _
  | x :: r => by
    rw [mst]
    split
    · exact List.countP_le_length
    · exact Nat.le_trans (mst_le z r) (by simp)
/-! Floating-point numbers -/
def feq (x y : Nat) : Bool := Op.floatEq .f64 x y
theorem shl_add (s : Bool) (m a b : Nat) : Ieee.signed s m (a + b) = Ieee.signed s m a * 2 ^ b := by
  unfold Ieee.signed
  simp only [Nat.shiftLeft_eq, Nat.pow_add]
  split <;> push_cast
  · rw [Int.neg_mul, Int.mul_assoc]
  · rw [Int.mul_assoc]
theorem num_base (s t : Bool) (m n : Nat) (i j b : Int) (hb : b ≤ min i j) : (Ieee.signed s m (i - b).toNat = Ieee.signed t n (j - b).toNat) ↔ (Ieee.signed s m (i - min i j).toNat = Ieee.signed t n (j - min i j).toNat) := by
  obtain ⟨c, hc⟩ : ∃ c : Nat, (c : Int) = min i j - b := ⟨(min i j - b).toNat, by omega⟩
  have e1 : (i - b).toNat = (i - min i j).toNat + c := by omega
  have e2 : (j - b).toNat = (j - min i j).toNat + c := by omega
  rw [e1, e2, shl_add, shl_add]
  have hp : (2 : Int) ^ c ≠ 0 := by
    have : (0 : Int) < 2 ^ c := Int.pow_pos (by decide)
    omega
  exact ⟨fun h => Int.eq_of_mul_eq_mul_right hp h, fun h => by rw [h]⟩
/-- Two data are the same number. -/
def dsame : Ieee.Datum → Ieee.Datum → Prop
  | .nan .., _ => False
  | _, .nan .. => False
  | .infinity s, .infinity t => s = t
  | .infinity _, .number .. => False
  | .number .., .infinity _ => False
  | .number s m i, .number t n j => Ieee.signed s m (i - min i j).toNat = Ieee.signed t n (j - min i j).toNat
theorem order_eq (d e : Ieee.Datum) : (d.order e == some Ordering.eq) = true ↔ dsame d e := by
  rcases d with ⟨s, m, i⟩ | ⟨s⟩ | ⟨s, f⟩ <;> rcases e with ⟨t, n, j⟩ | ⟨t⟩ | ⟨t, g⟩ <;> simp [Ieee.Datum.order, dsame]
  · cases t <;> simp
  · cases s <;> simp
  · cases s <;> cases t <;> simp
theorem dsame_symm : ∀ d e, dsame d e → dsame e d := by
  rintro (⟨s, m, i⟩ | ⟨s⟩ | ⟨s, f⟩) (⟨t, n, j⟩ | ⟨t⟩ | ⟨t, g⟩) <;> simp only [dsame, imp_self]
  · intro h; rw [Int.min_comm j i]; exact h.symm
  · exact fun h => h.symm
theorem dsame_trans : ∀ d e f, dsame d e → dsame e f → dsame d f := by
  rintro (⟨s, m, i⟩ | ⟨s⟩ | ⟨s, f⟩) (⟨t, n, j⟩ | ⟨t⟩ | ⟨t, g⟩) (⟨u, o, k⟩ | ⟨u⟩ | ⟨u, h⟩) <;> simp only [dsame, imp_self, false_implies, implies_true]
  · intro h1 h2
    rw [← num_base s t m n i j (min (min i j) k) (by omega)] at h1
    rw [← num_base t u n o j k (min (min i j) k) (by omega)] at h2
    rw [← num_base s u m o i k (min (min i j) k) (by omega)]
    exact h1.trans h2
  · exact fun h1 h2 => h1.trans h2
theorem feq_iff (x y : Nat) : feq x y = true ↔ dsame (Ieee.double.read x) (Ieee.double.read y) := order_eq _ _
theorem feq_per : Per feq := ⟨fun a b h => (feq_iff b a).2 (dsame_symm _ _ ((feq_iff a b).1 h)), fun a b c h k => (feq_iff a c).2 (dsame_trans _ _ _ ((feq_iff a b).1 h) ((feq_iff b c).1 k))⟩
end Go.Proofs.Ytgconfcijmemmaa
