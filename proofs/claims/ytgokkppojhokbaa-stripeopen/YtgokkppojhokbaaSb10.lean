/-
  Stripe: parts of lists; blocks put together; the code's matrix is one alone.
-/
import Derived.Test.YtgokkppojhokbaaGw10
import Derived.Test.YtgokkppojhokbaaOb10
namespace Go.Proofs.Ytgokkppojhokbaa
open Go.RowKit
/-- The lengths from one stripe to another. -/
def sub (L : List Nat) (f t : Nat) : List Nat := (L.drop f).take (t - f)
theorem sub_len (L : List Nat) (f t : Nat) (ht : t ≤ L.length) : (sub L f t).length = t - f := by
  unfold sub; rw [List.length_take, List.length_drop]; omega
theorem sub_at (L : List Nat) (f t j : Nat) (hj : j < t - f) : (sub L f t).getD j 0 = L.getD (f + j) 0 := by
  unfold sub
  rw [List.getD_eq_getElem?_getD, List.getElem?_take, if_pos hj, List.getElem?_drop, List.getD_eq_getElem?_getD]
theorem take_sub (L : List Nat) (f t j : Nat) (hj : j ≤ t - f) : (L.take (f + j)).sum = (L.take f).sum + ((sub L f t).take j).sum := by
  unfold sub
  rw [List.take_take, Nat.min_eq_left hj, List.take_add, List.sum_append]
theorem sub_sum_le (L : List Nat) (f t : Nat) : (sub L f t).sum ≤ L.sum := by
  unfold sub
  refine Nat.le_trans (sum_take_le _ _) ?_
  have h := List.take_append_drop f L
  have := congrArg List.sum h
  rw [List.sum_append] at this
  omega
theorem sub_all (L : List Nat) : sub L 0 L.length = L := by unfold sub; simp
theorem ls_add (f : Nat → BitVec 8) (a b : Nat) : ls f (a + b) = ls f a ++ ls (fun x => f (a + x)) b := by
  unfold ls
  rw [List.range_add, List.map_append, List.map_map]
  rfl
/-- Blocks of one row, put together, are the row. -/
theorem cls_row (L : List Nat) (N : Nat → Nat → BitVec 8) (g : Nat → BitVec 8) : ∀ t, t ≤ L.length → (∀ j, j < t → ∀ x, x < L.getD j 0 → N j x = g ((L.take j).sum + x)) → cls L N t = ls g (L.take t).sum
  | 0, _, _ => rfl
  | t + 1, ht, h => by
    rw [cls_succ, cls_row L N g t (by omega) (fun j hj => h j (by omega)), sum_take_succ L t (by omega), ls_add, ls_congr (fun x hx => h t (by omega) x hx)]
theorem run_sub {ty et : TypeId} (p : Option Addr) (s c f t : Nat) (hf : f < t) (ht : t ≤ s) (hc : s ≤ c) (hu : Try.prog.underlying ty = some (.slice (Try.prog.elem ty))) (hz : (Try.prog.info? (Try.prog.elem ty)).map (·.size) = some 1) (_ : et = et) : ∃ p' c', (∀ w', (Instr.slice ty (.slice p s c) (some (.int .i64 (f : Int))) (some (.int .i64 (t : Int))) none).run Try.prog w' = .ok (.slice p' (t - f) c') w') ∧ t - f ≤ c' ∧ ∀ b o, p = some ⟨b, o, none⟩ → p' = some ⟨b, o + f, none⟩ := by
  have hz' : ∀ w', (sizeOf (Try.prog.elem ty)).run Try.prog w' = .ok 1 w' := fun w' => by
    cases hq : Try.prog.info? (Try.prog.elem ty) with
    | none => rw [hq] at hz; cases hz
    | some i =>
      rw [hq] at hz
      simp at hz
      simp [sizeOf, typeInfo, hq, hz]
  obtain ⟨p', c', e', h1, hs⟩ : ∃ p' c', sliced p f t c 1 = .slice p' (t - f) c' ∧ t - f ≤ c' ∧ ∀ b o, p = some ⟨b, o, none⟩ → p' = some ⟨b, o + f, none⟩ := by
    unfold sliced
    refine ⟨_, _, rfl, by omega, fun b o e => ?_⟩
    subst e
    rw [if_neg (by omega), Nat.mul_one]
    exact congrArg some (add_pl b o f)
  refine ⟨p', c', fun w' => ?_, h1, hs⟩
  rw [run_slice_lh w' ty p s c hu .i64 .i64 (f : Int) (t : Int) (by omega) (by omega) (by omega), hz']
  exact congrArg (fun v => Result.ok v w') e'
theorem nm_sub {w : World} {p p' : Option Addr} {s c c' f t : Nat} {l : Nat → Nat} {N : Nat → Nat → BitVec 8} (h : NmE w (.slice p s c) s l N) (hf : f < t) (ht : t ≤ s) (hp : ∀ b o, p = some ⟨b, o, none⟩ → p' = some ⟨b, o + f, none⟩) : NmE w (.slice p' (t - f) c') (t - f) (fun j => l (f + j)) (fun j => N (f + j)) := by
  obtain ⟨b, o, rows, e, hc, hr⟩ := nm_at h (by omega)
  refine ⟨fun j => rows (f + j), ⟨p', c', rfl, .inr ⟨b, o + f, hp b o e, fun i hi => ?_⟩⟩, fun i hi => hr (f + i) (by omega)⟩
  rw [Nat.add_assoc]
  exact hc (f + i) (by omega)
theorem vr_sub {w : World} {p p' : Option Addr} {L : List Nat} {f t : Nat} (h : Vr w p (icN L)) (hf : f < t) (ht : t ≤ L.length) (hp : ∀ b o, p = some ⟨b, o, none⟩ → p' = some ⟨b, o + f, none⟩) : Vr w p' (icN (sub L f t)) := by
  rcases h with h | ⟨b, o, e, hc⟩
  · have h3 : L.length = 0 := by rw [← ic_len L, h]; rfl
    omega
  · refine .inr ⟨b, o + f, hp b o e, fun i u hi => ?_⟩
    rw [Nat.add_assoc]
    refine hc (f + i) u ?_
    unfold icN at hi ⊢
    unfold sub at hi
    rw [List.getElem?_map, List.getElem?_take] at hi
    by_cases h2 : i < t - f
    · rw [if_pos h2, List.getElem?_drop] at hi
      rw [List.getElem?_map]; exact hi
    · rw [if_neg h2] at hi; cases hi
/-- There is one such matrix alone. -/
theorem Fac.one {k : Nat} {F F' : Nat → Nat → BitVec 8} (h : Fac k F) (h' : Fac k F') (i j : Nat) (hj : j < k) : F i j = F' i j := by
  obtain ⟨X, a1, a2, a3⟩ := h
  obtain ⟨Y, b1, b2, b3⟩ := h'
  have e : ∀ a, a < k → ∀ b, b < k → X a b = Y a b := fun a ha b hb => by
    have h1 : mm fdE k X (mm fdE k vm Y) a b = X a b := by
      rw [mm_congr (A' := X) (B' := dl fdE) (fun _ _ => rfl) (fun t ht => b2 t ht b hb)]
      exact mm_dl_r hb
    have h2 : mm fdE k X (mm fdE k vm Y) a b = Y a b := by
      rw [← mm_assoc, mm_congr (A' := dl fdE) (B' := Y) (fun t ht => a1 a ha t ht) (fun _ _ => rfl), mm_dl_l ha]
    rw [← h1, h2]
  rw [a3, b3]
  exact mm_congr (fun _ _ => rfl) (fun t ht => e t ht j hj)
theorem Fac.word_one {k : Nat} {F F' D : Nat → Nat → BitVec 8} (h : Fac k F) (h' : Fac k F') (i c : Nat) : mm fdE k F D i c = mm fdE k F' D i c := mm_congr (fun t ht => h.one h' i t ht) (fun _ _ => rfl)
theorem Fac.low {k : Nat} {F D : Nat → Nat → BitVec 8} (h : Fac k F) {i : Nat} (hi : i < k) (c : Nat) : mm fdE k F D i c = D i c := by
  rw [mm_congr (A' := dl fdE) (B' := D) (fun t ht => h.id hi ht) (fun _ _ => rfl), mm_dl_l hi]
end Go.Proofs.Ytgokkppojhokbaa
