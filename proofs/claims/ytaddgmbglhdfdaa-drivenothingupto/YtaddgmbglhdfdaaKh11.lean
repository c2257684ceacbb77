/-
  A drive that is loaded: the mathematics, and what its memory is while it is filled.
-/
import Derived.Test.YtaddgmbglhdfdaaKe11
namespace Go.Proofs.Ytaddgmbglhdfdaa
open Go.RowKit Go.Maps Go.Sort
/-- A file is laid on a drive that is being loaded. -/
def ld1 (σ : Ds) (f : Tx × Tx) : Ds := { σ with st := σ.st.put (.string f.1) (ip σ.bs.length), bs := σ.bs ++ [⟨f.2, f.2.length⟩], used := σ.used + f.2.length }
/-- What is loaded, or that it is refused. -/
def ldr (σ : Ds) : List (Tx × Tx) → Option Ds
  | [] => some { σ with sf := σ.st }
  | f :: L => if isN f.1 = true ∧ lk σ.st f.1 = none then ldr (ld1 σ f) L else none
def Ds.load (room : Int) (L : List (Tx × Tx)) : Option Ds := if 0 ≤ room ∧ room ≤ 1073741824 then ldr (Ds.new room.toNat) L else none
/-- Behind the first k files. -/
def ldn (r : Nat) (L : List (Tx × Tx)) (k : Nat) : Ds := (L.take k).foldl ld1 (Ds.new r)
theorem ldn_succ (r : Nat) (L : List (Tx × Tx)) (k : Nat) (h : k < L.length) : ldn r L (k + 1) = ld1 (ldn r L k) (L.getD k ([], [])) := by
  unfold ldn
  rw [List.take_add_one, List.getElem?_eq_getElem h, List.foldl_append]
  simp [List.getD, h]
theorem ldr_step {σ : Ds} {L : List (Tx × Tx)} {k : Nat} (h : k < L.length) : ldr σ (L.drop k) = if isN (L.getD k ([], [])).1 = true ∧ lk σ.st (L.getD k ([], [])).1 = none then ldr (ld1 σ (L.getD k ([], []))) (L.drop (k + 1)) else none := by
  rw [List.drop_eq_getElem_cons h]
  simp [ldr, List.getD, h]
theorem ld_keeps : ∀ (l : List (Tx × Tx)) (σ : Ds), (l.foldl ld1 σ).room = σ.room ∧ (l.foldl ld1 σ).sf = σ.sf ∧ (l.foldl ld1 σ).pend = σ.pend
  | [], _ => ⟨rfl, rfl, rfl⟩
  | f :: l, σ => ld_keeps l (ld1 σ f)
theorem ldn_room (r : Nat) (L : List (Tx × Tx)) (k : Nat) : (ldn r L k).room = r ∧ (ldn r L k).sf = .map [] ∧ (ldn r L k).pend = [] := ld_keeps (L.take k) (Ds.new r)
theorem ldn_len (r : Nat) (L : List (Tx × Tx)) (k : Nat) (h : k ≤ L.length) : (ldn r L k).bs.length = k := by
  induction k with
  | zero => rfl
  | succ k ih =>
    rw [ldn_succ r L k h]
    simp [ld1, ih (by omega)]
/-- How much files hold. -/
def fsz (L : List (Tx × Tx)) : Nat := (L.map fun f => 1 + f.2.length).sum
theorem fsz_take (L : List (Tx × Tx)) (k : Nat) (h : k < L.length) : fsz (L.take (k + 1)) = fsz (L.take k) + 1 + (L.getD k ([], [])).2.length := by
  unfold fsz
  rw [List.take_add_one, List.getElem?_eq_getElem h, List.map_append, List.sum_append]
  simp [List.getD, h, Nat.add_assoc]
theorem fsz_le (L : List (Tx × Tx)) (k : Nat) : fsz (L.take k) ≤ fsz L := by
  unfold fsz
  conv => rhs; rw [← List.take_append_drop k L]
  rw [List.map_append, List.sum_append]
  omega
theorem body_app (σ : Ds) (b : Bd) (i : Nat) : Ds.body { σ with bs := σ.bs ++ [b] } i = if i = σ.bs.length then b else σ.body i := by
  simp only [Ds.body, List.getD]
  rcases Nat.lt_trichotomy i σ.bs.length with h | h | h
  · rw [List.getElem?_append_left h, if_neg (by omega)]
  · subst h; simp
  · rw [if_neg (by omega), List.getElem?_eq_none (by simp; omega), List.getElem?_eq_none (by omega)]
/-- How much a drive that is being loaded may have come to. -/
structure Okl (k : Nat) (σ : Ds) : Prop where
  u0 : 0 ≤ σ.used
  u1 : σ.used ≤ (k : Int)
  bl : ∀ i, (σ.body i).data.length ≤ k
  sa : ∀ i, (σ.body i).safe ≤ (σ.body i).data.length
  ts : Tidy σ.st
  ss : Maps.size σ.st ≤ k
  nn : NN σ.st
theorem nn_put {D : Dir} (ht : Tidy D) (h : NN D) (x : Tx) (i : Nat) : NN (D.put (.string x) (ip i)) := fol1_nn ht h (x, some i)
theorem tidy_put {D : Dir} (ht : Tidy D) (x : Tx) (i : Nat) : Tidy (D.put (.string x) (ip i)) ∧ Maps.size (D.put (.string x) (ip i)) ≤ Maps.size D + 1 := fol1_tidy ht (x, some i)
theorem Okl.new (r : Nat) : Okl 0 (Ds.new r) := ⟨Int.le_refl _, Int.le_refl _, fun i => by simp [Ds.new, Ds.body], fun i => by simp [Ds.new, Ds.body], tidy_empty, Nat.le_refl _, nn_nil⟩
theorem Okl.step {k : Nat} {σ : Ds} (h : Okl k σ) (f : Tx × Tx) : Okl (k + 1 + f.2.length) (ld1 σ f) := by
  obtain ⟨t1, t2⟩ := tidy_put h.ts f.1 σ.bs.length
  have h0 := h.u0
  have h1 := h.u1
  have h2 := h.ss
  refine ⟨?_, ?_, fun i => ?_, fun i => ?_, t1, ?_, nn_put h.ts h.nn _ _⟩
  · show 0 ≤ σ.used + (f.2.length : Int); omega
  · show σ.used + (f.2.length : Int) ≤ _; omega
  · show (Ds.body { σ with bs := σ.bs ++ [⟨f.2, f.2.length⟩] } i).data.length ≤ _
    rw [body_app]
    split
    · show f.2.length ≤ k + 1 + f.2.length; omega
    · have := h.bl i; omega
  · show (Ds.body { σ with bs := σ.bs ++ [⟨f.2, f.2.length⟩] } i).safe ≤ (Ds.body { σ with bs := σ.bs ++ [⟨f.2, f.2.length⟩] } i).data.length
    rw [body_app]
    split
    · exact Nat.le_refl _
    · exact h.sa i
  · show Maps.size (σ.st.put _ _) ≤ _; omega
theorem ldn_okl (r : Nat) (L : List (Tx × Tx)) : ∀ k, k ≤ L.length → Okl (fsz (L.take k)) (ldn r L k)
  | 0, _ => by
    have := Okl.new r
    simpa [fsz, ldn] using this
  | k + 1, h => by
    rw [ldn_succ r L k h, fsz_take L k h]
    exact (ldn_okl r L k (by omega)).step _
theorem Okl.okk {k : Nat} {σ : Ds} (h : Okl k σ) (hp : σ.pend = []) : Okk k { σ with sf := σ.st } := by
  have h0 := h.u0
  have h1 := h.u1
  have h2 := h.ss
  refine ⟨?_, ?_, h.bl, h.sa, h.ts, h.ts, ?_, ?_, fun c hc => ?_, h.nn, h.nn⟩
  · show _ ≤ σ.used; omega
  · show σ.used ≤ _; omega
  · show Maps.size σ.st ≤ _; omega
  · show Maps.size σ.st + 2 * σ.pend.length ≤ _; rw [hp]; simp; omega
  · have : c ∈ σ.pend := hc
    rw [hp] at this; cases this
/-- What is loaded is in bounds. -/
theorem ldr_okk (r : Nat) (L : List (Tx × Tx)) : ∀ k, k ≤ L.length → ∀ σ, ldr (ldn r L k) (L.drop k) = some σ → Okk (fsz L) σ ∧ σ.room = r := by
  intro k hk
  induction h : L.length - k generalizing k with
  | zero =>
    intro σ e
    have hk' : k = L.length := by omega
    subst hk'
    rw [List.drop_length] at e
    simp only [ldr, Option.some.injEq] at e
    subst e
    have ho := ldn_okl r L L.length (Nat.le_refl _)
    rw [List.take_length] at ho
    exact ⟨ho.okk (ldn_room r L _).2.2, (ldn_room r L _).1⟩
  | succ n ih =>
    intro σ e
    have hlt : k < L.length := by omega
    rw [ldr_step hlt] at e
    split at e
    · rw [← ldn_succ r L k hlt] at e
      exact ih (k + 1) (by omega) (by omega) σ e
    · cases e
theorem load_okk {room : Int} {L : List (Tx × Tx)} {σ : Ds} (h : Ds.load room L = some σ) : Okk (fsz L) σ ∧ σ.room ≤ 1073741824 := by
  unfold Ds.load at h
  split at h
  · obtain ⟨h1, h2⟩ := ldr_okk room.toNat L 0 (Nat.zero_le _) σ (by simpa [ldn] using h)
    exact ⟨h1, by omega⟩
  · cases h
end Go.Proofs.Ytaddgmbglhdfdaa
