/-
  Least recently used is a stack: what less room holds more room holds.
-/
import Derived.Test.YtjefciioaebbeaaCiS28
namespace Go.Proofs.Ytjefciioaebbeaa
open SS
/-- All weigh 1. -/
def W1 (L : List SS.Ent) : Prop := ∀ e ∈ L, e.wt = 1
theorem wsum_one {L : List SS.Ent} (h : W1 L) : wsum L = (L.length : Int) := by
  induction L with
  | nil => rfl
  | cons e L ih =>
    rw [wsum_cons, ih (fun x hx => h x (by simp [hx])), h e (by simp)]
    simp; omega
theorem evc_take {c : Nat} : ∀ (n : Nat) (L : List SS.Ent), L.length = n → W1 L → evc (c : Int) L = L.take c
  | n, L, hn, h => by
    by_cases hl : L.length ≤ c
    · rw [evc_fits (by rw [wsum_one h]; omega), List.take_of_length_le hl]
    · have h0 : L ≠ [] := by rintro rfl; simp at hl
      have hp := List.length_pos_iff.2 h0
      rw [evc_more h0 (by rw [wsum_one h]; omega), evc_take (n - 1) L.dropLast (by simp; omega) (fun e he => h e (List.dropLast_subset _ he)), List.dropLast_eq_take, List.take_take, Nat.min_eq_left (by omega)]
theorem take_sub {α : Type} {S T : List α} (h : S.Sublist T) : ∀ {D a : Nat}, T.length ≤ S.length + D → (S.take a).Sublist (T.take (a + D)) := by
  induction h with
  | slnil => intro D a _; simp
  | cons y h ih =>
    rename_i S' T'
    intro D a hl
    have h1 := h.length_le
    simp at hl
    obtain ⟨D', rfl⟩ : ∃ D', D = D' + 1 := ⟨D - 1, by omega⟩
    have := ih (D := D') (a := a) (by omega)
    rw [show a + (D' + 1) = (a + D') + 1 from by omega, List.take_succ_cons]
    exact this.cons _
  | cons_cons y h ih =>
    intro D a hl
    cases a with
    | zero => simp
    | succ a =>
      rw [show a + 1 + D = (a + D) + 1 from by omega, List.take_succ_cons, List.take_succ_cons]
      exact (ih (by simp at hl; omega)).cons_cons _
/-- What holds of the two, D more room. -/
structure Stk (D : Nat) (S T : List SS.Ent) : Prop where
  sub : S.Sublist T
  one : W1 T
  len : T.length ≤ S.length + D
theorem Stk.nil (D : Nat) : Stk D [] [] := ⟨List.Sublist.refl _, (fun _ h => by cases h), Nat.zero_le _⟩
theorem drp_len {x : Tx} {S T : List SS.Ent} {D : Nat} (hs : S.Sublist T) (hu : Unl txq (S.map En.key)) (hl : T.length ≤ S.length + D) : (drp txq x T).length ≤ (drp txq x S).length + D := by
  cases hf : fnd txq x S with
  | none =>
    rw [drp_none hf]
    exact Nat.le_trans (List.length_filter_le _ _) hl
  | some e =>
    obtain ⟨A, B, rfl⟩ := fnd_at hf
    have he := (fnd_some hf).2
    rw [drp_at tkind.per hu he]
    have hm : e ∈ T := hs.subset (by simp)
    have : (drp txq x T).length < T.length := by
      unfold drp
      exact List.length_filter_lt_length_iff_exists.2 ⟨e, hm, by simp [he]⟩
    simp at hl ⊢
    omega
theorem Stk.drop {D : Nat} {S T : List SS.Ent} (h : Stk D S T) (hu : Unl txq (S.map En.key)) (x : Tx) : Stk D (drp txq x S) (drp txq x T) :=
  ⟨h.sub.filter _, fun e he => h.one e (List.mem_filter.1 he).1, drp_len h.sub hu h.len⟩
theorem stk_put {r D : Nat} {S T : List SS.Ent} (h : Stk D S T) (hu : Unl txq (S.map En.key)) (hr : wsum S ≤ (r : Int)) (x v : Tx) : Stk D (cput txq (r : Int) ⟨0, x, v, 1⟩ S).1 (cput txq ((r + D : Nat) : Int) ⟨0, x, v, 1⟩ T).1 := by
  have h1 := h.drop hu x
  have hS1 : W1 (drp txq x S) := fun e he => h1.one e (h1.sub.subset he)
  unfold cput
  simp only
  by_cases hr0 : r = 0
  · subst hr0
    rw [if_pos (by right; decide)]
    have hS : S = [] := by
      have h2 : W1 S := fun e he => h.one e (h.sub.subset he)
      rw [wsum_one h2] at hr
      cases S with
      | nil => rfl
      | cons a l => simp at hr; omega
    subst hS
    have hdn : drp txq x ([] : List SS.Ent) = [] := rfl
    rw [hdn] at h1 ⊢
    by_cases hD : D = 0
    · subst hD
      rw [if_pos (by right; decide)]
      exact h1
    · rw [if_neg (by simp; omega)]
      have e1 : (((0 + D : Nat) : Int) - 1) = ((D - 1 : Nat) : Int) := by omega
      rw [e1, evc_take _ _ rfl h1.one]
      refine ⟨List.nil_sublist _, fun e he => ?_, ?_⟩
      · rcases List.mem_cons.1 he with rfl | he
        · rfl
        · exact h1.one e (List.take_subset _ _ he)
      · simp; omega
  · rw [if_neg (by simp; omega), if_neg (by simp; omega)]
    have e1 : ((r : Int) - 1) = ((r - 1 : Nat) : Int) := by omega
    have e2 : (((r + D : Nat) : Int) - 1) = ((r - 1 + D : Nat) : Int) := by omega
    rw [e1, e2, evc_take _ _ rfl hS1, evc_take _ _ rfl h1.one]
    refine ⟨(take_sub h1.sub h1.len).cons_cons _, fun e he => ?_, ?_⟩
    · rcases List.mem_cons.1 he with rfl | he
      · rfl
      · exact h1.one e (List.take_subset _ _ he)
    · have := h1.len
      simp; omega
theorem stk_fnd {D : Nat} {S T : List SS.Ent} (h : Stk D S T) (hu : Unl txq (T.map En.key)) {x : Tx} {e : SS.Ent} (hf : fnd txq x S = some e) : fnd txq x T = some e := by
  obtain ⟨h1, h2⟩ := fnd_some hf
  cases hg : fnd txq x T with
  | none => have := fnd_none hg e (h.sub.subset h1); rw [h2] at this; cases this
  | some e' =>
    obtain ⟨k1, k2⟩ := fnd_some hg
    have h3 : e = e' := by
      have hu2 : Unl (fun a b : SS.Ent => txq a.key b.key) T := List.pairwise_map.1 hu
      have P2 : Per (fun a b : SS.Ent => txq a.key b.key) := ⟨fun a b h => tkind.per.symm _ _ h, fun a b c h k => tkind.per.trans _ _ _ h k⟩
      exact Unl.one P2 hu2 (h.sub.subset h1) k1 (tkind.per.trans _ _ _ (tkind.per.symm _ _ h2) k2)
    rw [h3]
theorem stk_get {D : Nat} {S T : List SS.Ent} (h : Stk D S T) (hu : Unl txq (S.map En.key)) (hv : Unl txq (T.map En.key)) (x : Tx) : Stk D (cget txq x S) (cget txq x T) := by
  have h1 := h.drop hu x
  unfold cget
  cases hf : fnd txq x S with
  | some e =>
    rw [stk_fnd h hv hf]
    refine ⟨h1.sub.cons_cons _, fun y hy => ?_, by have := h1.len; simp; omega⟩
    rcases List.mem_cons.1 hy with rfl | hy
    · exact h.one _ (h.sub.subset (fnd_some hf).1)
    · exact h1.one y hy
  | none =>
    rw [drp_none hf] at h1
    cases hg : fnd txq x T with
    | none => exact h
    | some e =>
      refine ⟨h1.sub.cons _, fun y hy => ?_, ?_⟩
      · rcases List.mem_cons.1 hy with rfl | hy
        · exact h.one _ (fnd_some hg).1
        · exact h1.one y hy
      · obtain ⟨A, B, rfl⟩ := fnd_at hg
        have h2 := h.len
        show (e :: drp txq x (A ++ e :: B)).length ≤ _
        rw [drp_at tkind.per hv (fnd_some hg).2]
        simp at h2 ⊢; omega
end Go.Proofs.Ytjefciioaebbeaa
