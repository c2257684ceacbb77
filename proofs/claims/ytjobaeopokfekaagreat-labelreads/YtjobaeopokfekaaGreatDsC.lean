/-
  How much a drive may have come to, behind a number of calls and bytes.
-/
import Derived.Test.YtjobaeopokfekaaGreatDsA
namespace Go.Proofs.YtjobaeopokfekaaGreat
open Go.RowKit Go.Maps
/-- A name that is there leads to a body. -/
def NN (D : Dir) : Prop := ∀ x, has D (.string x) = true → ∃ i, lk D x = some i
theorem fol1_nn {D : Dir} (ht : Tidy D) (h : NN D) (l : Ld) : NN (fol1 D l) := by
  intro x hx
  unfold fol1 at hx ⊢
  split at hx
  · by_cases e : x = l.1
    · subst e
      rw [has_del_same] at hx
      cases hx
    · rw [has_del_other (fun e2 => e (by injection e2))] at hx
      rw [lk_del_other e]
      exact h x hx
  · rename_i i h9
    by_cases e : x = l.1
    · subst e
      exact ⟨i, lk_put_same ht.isMap _ _⟩
    · rw [lk_put_other e]
      rw [has_put_other (fun e2 => e (by injection e2))] at hx
      exact h x hx
theorem fol_nn {D : Dir} (ht : Tidy D) (h : NN D) (c : List Ld) : NN (fol D c) := by
  unfold fol
  induction c generalizing D with
  | nil => exact h
  | cons l c ih => exact ih (fol1_tidy ht l).1 (fol1_nn ht h l)
theorem fols_nn {D : Dir} (ht : Tidy D) (h : NN D) : ∀ cs : List (List Ld), NN (cs.foldl fol D)
  | [] => h
  | c :: cs => fols_nn (fol_tidy ht c).1 (fol_nn ht h c) cs
theorem fols_tidy' {D : Dir} (ht : Tidy D) : ∀ cs : List (List Ld), Tidy (cs.foldl fol D)
  | [] => ht
  | c :: cs => fols_tidy' (fol_tidy ht c).1 cs
/-- A drive behind k calls and bytes. -/
structure Okk (k : Nat) (σ : Ds) : Prop where
  u0 : -((k : Int) * 268435456) ≤ σ.used
  u1 : σ.used ≤ (k : Int) * 268435456
  bl : ∀ i, (σ.body i).data.length ≤ k
  sa : ∀ i, (σ.body i).safe ≤ (σ.body i).data.length
  ts : Tidy σ.st
  tf : Tidy σ.sf
  ss : Maps.size σ.st ≤ 2 * k
  sp : Maps.size σ.sf + 2 * σ.pend.length ≤ 2 * k
  pl : ∀ c ∈ σ.pend, c.length ≤ 2
  nn : NN σ.st
  nf : NN σ.sf
theorem Okk.mono {k k' : Nat} {σ : Ds} (h : Okk k σ) (hk : k ≤ k') : Okk k' σ := by
  obtain ⟨u0, u1, bl, sa, ts, tf, ss, sp, pl, nn, nf⟩ := h
  exact ⟨by omega, by omega, fun i => Nat.le_trans (bl i) hk, sa, ts, tf, by omega, by omega, pl, nn, nf⟩
theorem nn_nil : NN (.map []) := fun x hx => by simp [has] at hx
theorem Okk.new (n : Nat) : Okk 0 (Ds.new n) := ⟨by simp [Ds.new], by simp [Ds.new], fun i => by simp [Ds.new, Ds.body], fun i => by simp [Ds.new, Ds.body], tidy_empty, tidy_empty, Nat.le_refl _, Nat.le_refl _, fun c hc => by simp [Ds.new] at hc, nn_nil, nn_nil⟩
theorem Okk.sz {k : Nat} {σ : Ds} (h : Okk k σ) (o : Option Nat) : sz σ.bs o ≤ k := by
  cases o with
  | none => exact Nat.zero_le _
  | some i => exact h.bl i
theorem Okk.okd {k : Nat} {σ : Ds} (h : Okk k σ) (hk : k ≤ 134217728) : Okd σ := by
  have := h.u0
  have := h.u1
  have := h.ss
  have := h.sp
  exact ⟨by omega, by omega, fun o => by have := h.sz o; omega, by omega, by omega⟩
theorem Okk.okp {k : Nat} {σ : Ds} (h : Okk k σ) (hk : k ≤ 134217728) : Okp σ := by
  have := h.sp
  exact ⟨by omega, h.pl, by omega⟩
theorem usd_near {bs : List Bd} {D : Dir} {k : Nat} (hz : ∀ o, sz bs o ≤ k) (u : Int) (c : List Ld) (hc : c.length ≤ 2) : u - 2 * (k : Int) ≤ usd bs D u c ∧ usd bs D u c ≤ u + 2 * (k : Int) := by
  match c, hc with
  | [], _ => simp only [usd, List.foldl_nil]; omega
  | [a], _ =>
    simp only [usd, List.foldl_cons, List.foldl_nil]
    have := hz a.2
    have := hz (lk D a.1)
    omega
  | [a, b], _ =>
    simp only [usd, List.foldl_cons, List.foldl_nil]
    have := hz a.2
    have := hz (lk D a.1)
    have := hz b.2
    have := hz (lk D b.1)
    omega
theorem Okk.change {k : Nat} {σ : Ds} (h : Okk k σ) (hk : k ≤ 134217728) (c : List Ld) (hc : c.length ≤ 2) : Okk (k + 1) (σ.change c) := by
  obtain ⟨n1, n2⟩ := usd_near (D := σ.st) h.sz σ.used c hc
  obtain ⟨t1, t2⟩ := fol_tidy h.ts c
  have h0 := h.u0
  have h1 := h.u1
  have h2 := h.ss
  have h3 := h.sp
  refine ⟨?_, ?_, fun i => Nat.le_succ_of_le (h.bl i), h.sa, t1, h.tf, ?_, ?_, ?_, fol_nn h.ts h.nn c, h.nf⟩
  · show _ ≤ usd _ _ _ _; omega
  · show usd _ _ _ _ ≤ _; omega
  · show Maps.size (fol σ.st c) ≤ _; omega
  · show Maps.size σ.sf + 2 * (σ.pend ++ [c]).length ≤ _
    rw [List.length_append]
    simp
    omega
  · intro d hd
    have : d ∈ σ.pend ∨ d = c := by simpa [Ds.change] using hd
    rcases this with h9 | rfl
    · exact h.pl d h9
    · exact hc
theorem body_add (σ : Ds) (i : Nat) : Ds.body { σ with bs := σ.bs ++ [⟨[], 0⟩] } i = σ.body i := by
  simp only [Ds.body, List.getD]
  rcases Nat.lt_or_ge i σ.bs.length with h | h
  · rw [List.getElem?_append_left h]
  · rw [List.getElem?_append_right h, List.getElem?_eq_none h]
    rcases Nat.lt_or_ge (i - σ.bs.length) 1 with h2 | h2
    · have : i - σ.bs.length = 0 := by omega
      rw [this]; rfl
    · rw [List.getElem?_eq_none (by simpa using h2)]
theorem Okk.create {k : Nat} {σ : Ds} (h : Okk k σ) (hk : k ≤ 134217728) (x : Tx) : Okk (k + 1) (σ.create x).2 := by
  unfold Ds.create
  split
  · split
    · exact h.mono (Nat.le_succ _)
    · have h9 : Okk k { σ with bs := σ.bs ++ [⟨[], 0⟩] } := ⟨h.u0, h.u1, fun i => by rw [body_add]; exact h.bl i, fun i => by rw [body_add]; exact h.sa i, h.ts, h.tf, h.ss, h.sp, h.pl, h.nn, h.nf⟩
      exact h9.change hk _ (by simp)
  · exact h.mono (Nat.le_succ _)
theorem body_set (σ : Ds) (i j : Nat) (b : Bd) : (σ.setBody i b).body j = if j = i ∧ i < σ.bs.length then b else σ.body j := by
  simp only [Ds.body, Ds.setBody, List.getD, List.getElem?_set]
  by_cases e : i = j
  · subst e
    by_cases h : i < σ.bs.length
    · simp [h]
    · simp [h]
  · rw [if_neg e, if_neg (fun h => e h.1.symm)]
theorem Okk.append {k : Nat} {σ : Ds} (h : Okk k σ) (x d : Tx) : Okk (k + 1 + d.length) (σ.append x d).2 := by
  unfold Ds.append
  split
  · exact h.mono (by omega)
  · split
    · exact h.mono (by omega)
    · split
      · exact h.mono (by omega)
      · rename_i i _ _ _
        have h0 := h.u0
        have h1 := h.u1
        have h2 := h.ss
        have h3 := h.sp
        refine ⟨?_, ?_, fun j => ?_, fun j => ?_, h.ts, h.tf, ?_, ?_, h.pl, h.nn, h.nf⟩
        · show _ ≤ σ.used + (d.length : Int); omega
        · show σ.used + (d.length : Int) ≤ _; omega
        · show ((σ.setBody i _).body j).data.length ≤ _
          rw [body_set]
          split
          · have := h.bl i
            simp
            omega
          · have := h.bl j
            omega
        · show ((σ.setBody i _).body j).safe ≤ ((σ.setBody i _).body j).data.length
          rw [body_set]
          split
          · have := h.sa i
            simp
            omega
          · exact h.sa j
        · show Maps.size σ.st ≤ _; omega
        · show Maps.size σ.sf + 2 * σ.pend.length ≤ _; omega
theorem Okk.sync {k : Nat} {σ : Ds} (h : Okk k σ) (x : Tx) : Okk (k + 1) (σ.sync x).2 := by
  unfold Ds.sync
  split
  · exact h.mono (by omega)
  · rename_i i _
    have h' := h.mono (Nat.le_succ k)
    refine ⟨h'.u0, h'.u1, fun j => ?_, fun j => ?_, h'.ts, h'.tf, h'.ss, h'.sp, h'.pl, h'.nn, h'.nf⟩
    · rw [body_set]
      split
      · exact h'.bl i
      · exact h'.bl j
    · rw [body_set]
      split
      · exact Nat.le_refl _
      · exact h'.sa j
theorem Okk.rename {k : Nat} {σ : Ds} (h : Okk k σ) (hk : k ≤ 134217728) (x y : Tx) : Okk (k + 1) (σ.rename x y).2 := by
  unfold Ds.rename
  split
  · split
    · exact h.mono (by omega)
    · split
      · exact h.mono (by omega)
      · exact h.change hk _ (by simp)
  · exact h.mono (by omega)
theorem Okk.remove {k : Nat} {σ : Ds} (h : Okk k σ) (hk : k ≤ 134217728) (x : Tx) : Okk (k + 1) (σ.remove x).2 := by
  unfold Ds.remove
  split
  · exact h.mono (by omega)
  · exact h.change hk _ (by simp)
theorem Okk.syncDir {k : Nat} {σ : Ds} (h : Okk k σ) : Okk (k + 1) σ.syncDir := by
  have h' := h.mono (Nat.le_succ k)
  obtain ⟨t1, t2⟩ := fols_tidy h.tf σ.pend h.pl
  have h3 := h.sp
  refine ⟨h'.u0, h'.u1, h'.bl, h'.sa, h'.ts, t1, h'.ss, ?_, fun c hc => by simp [Ds.syncDir] at hc, h'.nn, fols_nn h.tf h.nf _⟩
  show Maps.size (σ.pend.foldl fol σ.sf) + 2 * ([] : List (List Ld)).length ≤ _
  simp only [List.length_nil]
  omega
end Go.Proofs.YtjobaeopokfekaaGreat
