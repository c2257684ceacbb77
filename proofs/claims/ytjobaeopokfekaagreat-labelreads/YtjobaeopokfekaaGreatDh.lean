/-
  change, in the drive's own words; Create.
-/
import Derived.Test.YtjobaeopokfekaaGreatDg
namespace Go.Proofs.YtjobaeopokfekaaGreat
open Go.RowKit Go.Maps
/-- A drive that is far from every bound of the machine. -/
structure Okd (σ : Ds) : Prop where
  u0 : -1152921504606846976 ≤ σ.used
  u1 : σ.used ≤ 1152921504606846976
  sz : ∀ o, sz σ.bs o ≤ 288230376151711744
  sm : Maps.size σ.st ≤ 10000000000
  sp : σ.pend.length ≤ 100000000000
theorem usd_bd {σ : Ds} (h : Okd σ) (bs : List Bd) (hz : ∀ o, Go.Proofs.YtjobaeopokfekaaGreat.sz bs o ≤ 288230376151711744) (c : List Ld) (hc : c.length ≤ 2) (k : Nat) : -4611686018427387904 ≤ usd bs σ.st σ.used (c.take k) ∧ usd bs σ.st σ.used (c.take k) ≤ 4611686018427387904 := by
  have h0 := h.u0
  have h1 := h.u1
  have hl : (c.take k).length ≤ 2 := by simp; omega
  generalize c.take k = d at hl
  match d, hl with
  | [], _ => simp only [usd, List.foldl_nil]; omega
  | [a], _ =>
    simp only [usd, List.foldl_cons, List.foldl_nil]
    have := hz a.2
    have := hz (lk σ.st a.1)
    omega
  | [a, b], _ =>
    simp only [usd, List.foldl_cons, List.foldl_nil]
    have := hz a.2
    have := hz (lk σ.st a.1)
    have := hz b.2
    have := hz (lk σ.st b.1)
    omega
theorem change_any {w : World} {db : Nat} {F : Nat → Prop} {σ : Ds} {m : List Nat} {rv : Nat → Value} {st sf : Option Nat} {pv : Value} (S : StAt w db σ.room σ.used st sf pv) (R : Rest w F σ m rv st sf pv) (hFd : F db) (hFw : ∀ b, F b → b < w.heap.size) (ok : Okd σ)
    (c : List Ld) (g cap n : Nat) (hcn : c.length = n) (hb : w.heap[g]? = some (.cells (ldc m c).toArray 190 (0, 0))) (ids : ∀ l ∈ c, ∀ i, l.2 = some i → i < σ.bs.length) (txt : ∀ l ∈ c, l.1.length ≤ 1024) (hn : n ≤ 2) :
    Calls Tryz.prog 140 #[.pointer (some ⟨db, 0, none⟩), .slice (some ⟨g, 0, none⟩) n cap] w fun e w' => (∃ v, e = .returned v) ∧ DrAt w' db (σ.change c) (fun b => F b ∨ b = g ∨ (w.heap.size ≤ b ∧ b < w'.heap.size)) ∧ Tn F w w' := by
  subst hcn
  have hu := fun k (_ : k ≤ c.length) => usd_bd ok σ.bs ok.sz c hn k
  have hz : ∀ o, sz σ.bs o ≤ 1152921504606846976 := fun o => Nat.le_trans (ok.sz o) (by decide)
  have fin : ∀ (w' : World) (s f : Nat) (pv' : Value), StAt w' db σ.room (usd σ.bs σ.st σ.used c) (some s) (some f) pv' → Rest w' (fun b => F b ∨ b = g ∨ (w.heap.size ≤ b ∧ b < w'.heap.size)) (σ.change c) m rv (some s) (some f) pv' → Tn F w w' → DrAt w' db (σ.change c) (fun b => F b ∨ b = g ∨ (w.heap.size ≤ b ∧ b < w'.heap.size)) := by
    intro w' s f pv' h1 h2 h3
    refine ⟨.inl hFd, ?_, m, rv, some s, some f, pv', h1, h2⟩
    have := h3.size
    have hg := blt hb
    rintro b (h4 | rfl | ⟨_, h4⟩)
    · have := hFw b h4; omega
    · omega
    · exact h4
  rcases R.dirs with ⟨rfl, rfl, _⟩ | ⟨s, f, rfl, rfl, _⟩
  · refine (change_nil S R hFd c g cap hb ids txt (by omega) hu hz (Nat.le_trans ok.sp (by decide))).mono ?_
    rintro e w' ⟨h1, s, f, pv', h2, h3, h4⟩
    exact ⟨h1, fin w' s f pv' h2 h3 h4, h4⟩
  · refine (change_ok S R hFd c g cap hb ids txt (by omega) hu hz (Nat.le_trans ok.sm (by decide)) (Nat.le_trans ok.sp (by decide))).mono ?_
    rintro e w' ⟨h1, pv', h2, h3, h4⟩
    exact ⟨h1, fin w' s f pv' h2 h3 h4, h4⟩
theorem getD_app {α : Type} (xs ys : List α) (d : α) {i : Nat} (h : i < xs.length) : (xs ++ ys).getD i d = xs.getD i d := by
  simp [h, List.getElem?_append_left h]
theorem ldc_more {m : List Nat} {c : List Ld} (ids : ∀ l ∈ c, ∀ i, l.2 = some i → i < m.length) (more : List Nat) : ldc (m ++ more) c = ldc m c := by
  have key : ∀ l ∈ c, ptv (m ++ more) l.2 = ptv m l.2 := by
    intro l hl
    cases h : l.2 with
    | none => rfl
    | some i =>
      have hi := ids l hl i h
      unfold ptv pta
      simp only
      rw [getD_app _ _ _ hi]
  clear ids
  unfold ldc
  induction c with
  | nil => rfl
  | cons l c ih =>
    rw [List.flatMap_cons, List.flatMap_cons, key l (by simp), ih (fun l' hl' => key l' (by simp [hl']))]
/-- A new body. -/
theorem Rest.addBody {w : World} {F : Nat → Prop} {σ : Ds} {m : List Nat} {rv : Nat → Value} {st sf : Option Nat} {pv : Value} (h : Rest w F σ m rv st sf pv) (hFw : ∀ b, F b → b < w.heap.size) :
    Rest (w.alloc (.cells #[.slice none 0 0, .int .i64 0] 103)) (fun b => F b ∨ b = w.heap.size) { σ with bs := σ.bs ++ [⟨[], 0⟩] } (m ++ [w.heap.size]) (fun i => if i < σ.bs.length then rv i else .slice none 0 0) st sf pv := by
  have h1 := (h.alloc (.cells #[.slice none 0 0, .int .i64 0] 103)).more (G := fun b => F b ∨ b = w.heap.size) (fun b hb => .inl hb)
  refine ⟨?_, by simp [h1.len], ?_, fun i hi => ?_, ?_, ?_, h1.pvF⟩
  · rcases h1.dirs with h2 | ⟨s, f, e1, e2, hne, f1, f2, m1, m2⟩
    · exact .inl h2
    · exact .inr ⟨s, f, e1, e2, hne, f1, f2, om_more m1 _, om_more m2 _⟩
  · rw [List.nodup_append]
    refine ⟨h1.nodup, by simp, fun a ha b hb e => ?_⟩
    obtain ⟨i, hi, rfl⟩ := List.getElem_of_mem ha
    have hb' : b = w.heap.size := by simpa using hb
    have hi' : i < σ.bs.length := by rw [← h.len]; exact hi
    have := hFw _ (h.bod i hi').inF
    have e3 : m.getD i 0 = m[i] := by simp [hi]
    omega
  · by_cases hlt : i < σ.bs.length
    · have hb := h1.bod i hlt
      have e1 : (m ++ [w.heap.size]).getD i 0 = m.getD i 0 := getD_app _ _ _ (by rw [h.len]; exact hlt)
      have e2 : Ds.body { σ with bs := σ.bs ++ [⟨[], 0⟩] } i = σ.body i := by unfold Ds.body; exact getD_app _ _ _ hlt
      simp only [e1, e2, if_pos hlt]
      exact hb
    · have hi' : i = σ.bs.length := by simp at hi; omega
      subst hi'
      have e1 : (m ++ [w.heap.size]).getD σ.bs.length 0 = w.heap.size := by rw [← h.len]; simp
      have e2 : Ds.body { σ with bs := σ.bs ++ [⟨[], 0⟩] } σ.bs.length = ⟨[], 0⟩ := by simp [Ds.body]
      simp only [e1, e2, if_neg hlt]
      exact ⟨heap_alloc_new w _, World.ownsRow_nil _ _ _ _, .inr rfl, fun g hg => by cases hg⟩
  · intro i j g hi hj hne e1 e2
    by_cases h3 : i < σ.bs.length
    · rw [if_pos h3] at e1
      by_cases h4 : j < σ.bs.length
      · rw [if_pos h4] at e2
        exact h.sep i j g h3 h4 hne e1 e2
      · rw [if_neg h4] at e2; cases e2
    · rw [if_neg h3] at e1; cases e1
  · obtain ⟨cv, p1, p2, p3⟩ := h1.pnd
    refine ⟨cv, p1, p2, fun j hj => ?_⟩
    obtain ⟨⟨g, cap, e1, hF, hg⟩, i1, i2⟩ := p3 j hj
    refine ⟨⟨g, cap, e1, hF, ?_⟩, fun l hl i e => ?_, i2⟩
    · rw [ldc_more i1]; exact hg
    · have := i1 l hl i e
      simp; omega
end Go.Proofs.YtjobaeopokfekaaGreat
