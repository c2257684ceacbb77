/-
  A list of findings that is handed in, opened.
-/
import Derived.Test.YtnnepmofhedkpaaRows
import Derived.Test.YtnnepmofhedkpaaFm25
import Derived.Deep.Matrix
import Derived.Deep.Slices
import Derived.SizedLaws
import Derived.WalkKit
import Derived.ProofKit
import Derived.OpenShut
import Derived.ShutString
import Derived.ChangeOld
import Derived.Below
namespace Go.Proofs.Ytnnepmofhedkpaa
open Go.ChangeShapes Go.WideShapes Go.ChangeAt Go.RowKit
theorem spot_no {w : World} {a : Addr} {v : Value} (h : w.cell? (a.add 0) = some v) : ∃ b o, a = ⟨b, o, none⟩ := by
  obtain ⟨b, off, spot⟩ := a
  have hs : spot = none := by simpa [Addr.add] using World.cell?_spot h
  subst hs
  exact ⟨b, off, rfl⟩
theorem weights_in {H : Type} {P : Program} {e : TypeId} {d : DataW H} : ∀ {l : List (DataW H)}, d ∈ l → ∀ n ∈ d.weights P e, n ∈ DataW.weightsAll P e l
  | x :: l, hd, n, hn => by
    simp only [DataW.weightsAll, List.mem_append]
    rcases List.mem_cons.1 hd with rfl | h
    · exact .inl hn
    · exact .inr (weights_in h n hn)
theorem list8 {α : Type} {l : List α} (h : l.length = 8) : ∃ c0 c1 c2 c3 c4 c5 c6 c7, l = [c0, c1, c2, c3, c4, c5, c6, c7] := by
  match l, h with
  | [c0, c1, c2, c3, c4, c5, c6, c7], _ => exact ⟨c0, c1, c2, c3, c4, c5, c6, c7, rfl⟩
theorem fi_ofW {H : Type} {enc : TypeId × Value → H} {W : World} {n : Nat} {cs : List Value} {y : DataW H × List MemPlace}
    (h : DataW.trod enc Try.prog W 0 (fun _ => true) true n 26 cs = some y) (hb : ∀ g ∈ y.1.weights Try.prog 26, g ≤ reachBytes) : ∃ f : Fi, cs = f.cs.toList ∧ f.ks.size ≤ 140737488351232 := by
  obtain ⟨xs, m, _, hy, hl, hlen, hf⟩ := DataW.trod_struct Try.underlying26 h
  have hl' : cs.length = 8 := hl.trans (by kernel_rfl)
  obtain ⟨c0, c1, c2, c3, c4, c5, c6, c7, rfl⟩ := list8 hl'
  have ns : Try.prog.cellsOf 9 = 1 := by kernel_rfl
  have ni : Try.prog.cellsOf 3 = 1 := by kernel_rfl
  have n2 : Try.prog.cellsOf 24 = 2 := by kernel_rfl
  match xs, hlen with
  | [y0, y1, y2, y3, y4, y5, y6], _ =>
    have f0 := hf 0 _ rfl
    have f1 := hf 1 _ rfl
    have f2 := hf 2 _ rfl
    have f3 := hf 3 _ rfl
    have f4 := hf 4 _ rfl
    have f5 := hf 5 _ rfl
    have f6 := hf 6 _ rfl
    simp [ns, ni, n2] at f0 f1 f2 f3 f4 f5 f6
    obtain ⟨sk, e0, x0, _⟩ := DataW.trod_string Try.underlying9 f0
    obtain ⟨v1, e1, _, _⟩ := DataW.trod_int Try.underlying3 f1
    obtain ⟨v4, e4, _, _⟩ := DataW.trod_int Try.underlying3 f3
    obtain ⟨v5, e5, _, _⟩ := DataW.trod_int Try.underlying3 f4
    obtain ⟨v6, e6, _, _⟩ := DataW.trod_int Try.underlying3 f5
    obtain ⟨v7, e7, _, _⟩ := DataW.trod_int Try.underlying3 f6
    obtain ⟨ts, m2, _, _, _, ht, q⟩ := DataW.trod_struct Try.underlying24 f2
    match ts, ht with
    | [t0, t1], _ =>
      have q0 := q 0 _ rfl
      have q1 := q 1 _ rfl
      simp [ni] at q0 q1
      obtain ⟨v2, e2, _, _⟩ := DataW.trod_int Try.underlying3 q0
      obtain ⟨v3, e3, _, _⟩ := DataW.trod_int Try.underlying3 q1
      simp only [List.cons.injEq, and_true] at e0 e1 e2 e3 e4 e5 e6 e7
      subst e0 e1 e2 e3 e4 e5 e6 e7
      refine ⟨⟨sk, v1, v2, v3, v4, v5, v6, v7⟩, rfl, ?_⟩
      have hw := hb sk.data.toList.length (by
        rw [hy]
        simp only [List.map_cons, List.map_nil, DataW.weights, Try.underlying26]
        exact DataW.weights_mem_each (j := 0) rfl rfl _ (by rw [x0]; simp [DataW.weights]))
      simpa [reachBytes] using hw
/-- Findings that are handed in. -/
theorem fins_ofW {H : Type} {enc : TypeId × Value → H} {W : World} {n : Nat} {v : Value} {y : DataW H × List MemPlace} (h : DataW.trod enc Try.prog W 0 (fun _ => true) true n 22 [v] = some y)
    (hb : ∀ g ∈ y.1.weights Try.prog 22, g ≤ reachBytes) : ∃ (p : Option Addr) (n c : Nat) (f : Nat → Fi), v = .slice p n c ∧ FL W p n f ∧ n ≤ c ∧ n * 72 ≤ 140737488351232 ∧ ∀ i, i < n → (f i).ks.size ≤ 140737488351232 := by
  rcases Go.Deep.open_slice Try.underlying22 h with ⟨hcs, _⟩ | ⟨a, len, cap, m, n, D, Pl, hcs, hba, hl, hm, hmm, hx, hrow⟩
  · simp at hcs
    subst hcs
    exact ⟨none, 0, 0, fun _ => fi0, rfl, .inl rfl, Nat.le_refl _, by omega, fun i hi => absurd hi (Nat.not_lt_zero i)⟩
  · simp at hcs
    subst hcs
    simp only [if_true] at hmm
    subst hmm
    have hx1 : y.1 = _ := congrArg Prod.fst hx
    rw [hx1] at hb
    have b72 : Try.prog.bytesOf 26 = 72 := by kernel_rfl
    have hlen := hb ((len + (m - len)) * Try.prog.bytesOf 26) (by simp [DataW.weights, Try.underlying22])
    rw [b72] at hlen
    simp only [reachBytes] at hlen
    have each : ∀ i, i < len → ∃ q : Fi, (∀ j u, q.cs.toList[j]? = some u → W.cell? (a.add (i * 8 + j)) = some u) ∧ q.ks.size ≤ 140737488351232 := by
      intro i hi
      obtain ⟨cs', h1, h2⟩ := hrow i (by omega)
      rw [show Try.prog.cellsOf 26 = 8 by kernel_rfl] at h1
      obtain ⟨_, hlen', hcell⟩ := World.cells?_some h1
      have hbi : ∀ g ∈ (D i).weights Try.prog 26, g ≤ reachBytes := fun g hg => hb g (by
        simp only [DataW.weights, Try.underlying22, List.mem_cons, List.mem_append]
        exact .inr (.inl (weights_in (List.mem_map.mpr ⟨i, List.mem_range.mpr hi, rfl⟩) _ hg)))
      obtain ⟨s, hcs', hss⟩ := fi_ofW h2 hbi
      refine ⟨s, fun j u hj => ?_, hss⟩
      have hj8 : j < 8 := by
        rcases Nat.lt_or_ge j 8 with h | h
        · exact h
        · rw [List.getElem?_eq_none (by exact h)] at hj; cases hj
      have e := hcell j hj8
      rw [Go.Deep.add_add] at e
      rw [e, hcs']
      exact hj
    haveI : Inhabited Fi := ⟨fi0⟩
    obtain ⟨Q, hQ⟩ := Go.Deep.choose_lt each
    refine ⟨some a, len, m, Q, rfl, ?_, by omega, by omega, fun i hi => (hQ i hi).2⟩
    by_cases h0 : len = 0
    · exact .inl h0
    · have hc0 := (hQ 0 (by omega)).1 0 _ rfl
      rw [Nat.zero_mul, Nat.zero_add] at hc0
      obtain ⟨b, o, rfl⟩ := spot_no hc0
      refine .inr ⟨b, o, rfl, fun i hi j u hj => ?_⟩
      have := (hQ i hi).1 j u hj
      rw [add_pl] at this
      rw [Nat.add_assoc]; exact this
end Go.Proofs.Ytnnepmofhedkpaa
