/-
  The laws' own struct: one call of a cache; lists of these that are handed in.
-/
import Derived.Test.YtjefciioaebbeaaKy28
import Derived.Deep.Matrix
import Derived.Deep.Slices
import Derived.SizedLaws
import Derived.WalkKit
import Derived.ProofKit
import Derived.OpenShut
import Derived.ShutString
import Derived.ChangeOld
import Derived.Below
namespace Go.Proofs.Ytjefciioaebbeaa
open Go.ChangeShapes Go.WideShapes Go.ChangeAt Go.RowKit
/-- One call. -/
structure Us where
  sec : Bool
  dk : Int
  key : Tx
  val : Tx
  wt : Int
def Us.cs (x : Us) : Array Value := #[.bool x.sec, .int .i64 x.dk, encStr x.key, encStr x.val, .int .i64 x.wt]
def us0 : Us := ⟨false, 0, [], [], 0⟩
def In64 (z : Int) : Prop := -9223372036854775808 ≤ z ∧ z ≤ 9223372036854775807
/-- A list of these that is read. -/
def UL (w : World) (p : Option Addr) (n : Nat) (f : Nat → Us) : Prop := n = 0 ∨ ∃ b o, p = some ⟨b, o, none⟩ ∧ ∀ i, i < n → ∀ j u, (f i).cs.toList[j]? = some u → w.cell? ⟨b, o + i * 5 + j, none⟩ = some u
theorem us_size : (Try.prog.info? 34).map (·.size) = some 5 := by kernel_rfl
theorem us_one (x : Us) : (x.cs.all fun v => v.oneCell') = true := by simp [Us.cs, Value.oneCell']
theorem us_zero (w : World) : (zeroValue 34).run Try.prog w = .ok (.agg us0.cs) w := by kernel_rfl
theorem UL.load {w w' : World} {p : Option Addr} {n : Nat} {f : Nat → Us} (h : UL w p n f) (hb : Below w.heap.size w w') {i : Nat} (hi : i < n) : ∃ b o, p = some ⟨b, o, none⟩ ∧ (loadVar 34 ⟨b, o + i * 5, none⟩).run Try.prog w' = .ok (.agg (f i).cs) w' := by
  rcases h with h | ⟨b, o, rfl, h⟩
  · omega
  · refine ⟨b, o, rfl, run_loadVar_at w' b (o + i * 5) 34 (f i).cs _ (fun j v hv => ?_) Try.underlying34 rfl us_size⟩
    have h1 := h i hi j v hv
    rw [hb.cell (p := ⟨b, o + i * 5 + j, none⟩) (block_lt_of_cell h1)]
    exact h1
/-- The law's variable. -/
def UV (w : World) (u : Nat) (x : Us) : Prop := GB w u 34 x.cs
theorem UV.cells {w : World} {u : Nat} {x : Us} (h : UV w u x) : w.cell? ⟨u, 1, none⟩ = some (.int .i64 x.dk) ∧ w.cell? ⟨u, 2, none⟩ = some (encStr x.key) ∧ w.cell? ⟨u, 3, none⟩ = some (encStr x.val) ∧ w.cell? ⟨u, 4, none⟩ = some (.int .i64 x.wt) ∧ w.cell? ⟨u, 0, none⟩ = some (.bool x.sec) := by
  have h1 := fun i => GB.cell (show GB w u 34 x.cs from h) i
  exact ⟨h1 1, h1 2, h1 3, h1 4, h1 0⟩
theorem UV.keep {w w' : World} {u : Nat} {x : Us} (h : UV w u x) (e : w'.heap[u]? = w.heap[u]?) : UV w' u x := by
  unfold UV GB at h ⊢
  rw [e]; exact h
theorem spot_no {w : World} {a : Addr} {v : Value} (h : w.cell? (a.add 0) = some v) : ∃ b o, a = ⟨b, o, none⟩ := by
  obtain ⟨b, off, spot⟩ := a
  have hs : spot = none := by simpa [Addr.add] using World.cell?_spot h
  subst hs
  exact ⟨b, off, rfl⟩
theorem weights_in {H : Type} {P : Program} {e : TypeId} {d : DataW H} : ∀ {l : List (DataW H)}, d ∈ l → ∀ n ∈ d.weights P e, n ∈ DataW.weightsAll P e l
  | x :: l, hd, n, hn => by
    simp only [DataW.weightsAll, List.mem_append]
    rcases List.mem_cons.1 hd with rfl | h
    · exact .inl hn
    · exact .inr (weights_in h n hn)
theorem list5 {α : Type} {l : List α} (h : l.length = 5) : ∃ c0 c1 c2 c3 c4, l = [c0, c1, c2, c3, c4] := by
  match l, h with
  | [c0, c1, c2, c3, c4], _ => exact ⟨c0, c1, c2, c3, c4, rfl⟩
theorem use_ofW {H : Type} {enc : TypeId × Value → H} {W : World} {n : Nat} {cs : List Value} {y : DataW H × List MemPlace}
    (h : DataW.trod enc Try.prog W 0 (fun _ => true) true n 34 cs = some y) (hb : ∀ g ∈ y.1.weights Try.prog 34, g ≤ reachBytes) : ∃ f : Us, cs = f.cs.toList ∧ f.key.length ≤ 140737488351232 ∧ f.val.length ≤ 140737488351232 ∧ In64 f.wt ∧ In64 f.dk := by
  obtain ⟨xs, m, _, hy, hl, hlen, hf⟩ := DataW.trod_struct Try.underlying34 h
  have hl' : cs.length = 5 := hl.trans (by kernel_rfl)
  obtain ⟨c0, c1, c2, c3, c4, rfl⟩ := list5 hl'
  have ns : Try.prog.cellsOf 9 = 1 := by kernel_rfl
  have ni : Try.prog.cellsOf 3 = 1 := by kernel_rfl
  have nb : Try.prog.cellsOf 4 = 1 := by kernel_rfl
  match xs, hlen with
  | [y0, y1, y2, y3, y4], _ =>
    have f0 := hf 0 _ rfl
    have f1 := hf 1 _ rfl
    have f2 := hf 2 _ rfl
    have f3 := hf 3 _ rfl
    have f4 := hf 4 _ rfl
    simp [ns, ni, nb] at f0 f1 f2 f3 f4
    obtain ⟨z0, e0, _⟩ := DataW.trod_bool Try.underlying4 f0
    obtain ⟨z1, e1, _, b1⟩ := DataW.trod_int Try.underlying3 f1
    obtain ⟨sk, e2, x2, _⟩ := DataW.trod_string Try.underlying9 f2
    obtain ⟨sv, e3, x3, _⟩ := DataW.trod_string Try.underlying9 f3
    obtain ⟨z4, e4, _, b4⟩ := DataW.trod_int Try.underlying3 f4
    simp only [List.cons.injEq, and_true] at e0 e1 e2 e3 e4
    subst e0 e1 e2 e3 e4
    have hk := hb sk.data.toList.length (by
      rw [hy]
      simp only [List.map_cons, List.map_nil, DataW.weights, Try.underlying34]
      exact DataW.weights_mem_each (j := 2) rfl rfl _ (by rw [x2]; simp [DataW.weights]))
    have hv := hb sv.data.toList.length (by
      rw [hy]
      simp only [List.map_cons, List.map_nil, DataW.weights, Try.underlying34]
      exact DataW.weights_mem_each (j := 3) rfl rfl _ (by rw [x3]; simp [DataW.weights]))
    refine ⟨⟨z0, z1, sk.data.toList, sv.data.toList, z4⟩, by simp [Us.cs, encStr], by simpa [reachBytes] using hk, by simpa [reachBytes] using hv, by have := bounds_i64 b4; unfold In64; dsimp only; omega, by have := bounds_i64 b1; unfold In64; dsimp only; omega⟩
theorem uses_ofW {H : Type} {enc : TypeId × Value → H} {W : World} {n : Nat} {v : Value} {y : DataW H × List MemPlace} (h : DataW.trod enc Try.prog W 0 (fun _ => true) true n 32 [v] = some y)
    (hb : ∀ g ∈ y.1.weights Try.prog 32, g ≤ reachBytes) : ∃ (p : Option Addr) (n c : Nat) (f : Nat → Us), v = .slice p n c ∧ UL W p n f ∧ n * 56 ≤ 140737488351232 ∧ ∀ i, i < n → (f i).key.length ≤ 140737488351232 ∧ (f i).val.length ≤ 140737488351232 ∧ In64 (f i).wt ∧ In64 (f i).dk := by
  rcases Go.Deep.open_slice Try.underlying32 h with ⟨hcs, _⟩ | ⟨a, len, cap, m, n, D, Pl, hcs, hba, hl, hm, hmm, hx, hrow⟩
  · simp at hcs
    subst hcs
    exact ⟨none, 0, 0, fun _ => us0, rfl, .inl rfl, by omega, fun i hi => absurd hi (Nat.not_lt_zero i)⟩
  · simp at hcs
    subst hcs
    simp only [if_true] at hmm
    subst hmm
    have hx1 : y.1 = _ := congrArg Prod.fst hx
    rw [hx1] at hb
    have b56 : Try.prog.bytesOf 34 = 56 := by kernel_rfl
    have hlen := hb ((len + (m - len)) * Try.prog.bytesOf 34) (by simp [DataW.weights, Try.underlying32])
    rw [b56] at hlen
    simp only [reachBytes] at hlen
    have each : ∀ i, i < len → ∃ q : Us, (∀ j u, q.cs.toList[j]? = some u → W.cell? (a.add (i * 5 + j)) = some u) ∧ q.key.length ≤ 140737488351232 ∧ q.val.length ≤ 140737488351232 ∧ In64 q.wt ∧ In64 q.dk := by
      intro i hi
      obtain ⟨cs', h1, h2⟩ := hrow i (by omega)
      rw [show Try.prog.cellsOf 34 = 5 by kernel_rfl] at h1
      obtain ⟨_, hlen', hcell⟩ := World.cells?_some h1
      have hbi : ∀ g ∈ (D i).weights Try.prog 34, g ≤ reachBytes := fun g hg => hb g (by
        simp only [DataW.weights, Try.underlying32, List.mem_cons, List.mem_append]
        exact .inr (.inl (weights_in (List.mem_map.mpr ⟨i, List.mem_range.mpr hi, rfl⟩) _ hg)))
      obtain ⟨s, hcs', hss⟩ := use_ofW h2 hbi
      refine ⟨s, fun j u hj => ?_, hss⟩
      have hj8 : j < 5 := by
        rcases Nat.lt_or_ge j 5 with h | h
        · exact h
        · rw [List.getElem?_eq_none (by exact h)] at hj; cases hj
      have e := hcell j hj8
      rw [Go.Deep.add_add] at e
      rw [e, hcs']
      exact hj
    haveI : Inhabited Us := ⟨us0⟩
    obtain ⟨Q, hQ⟩ := Go.Deep.choose_lt each
    refine ⟨some a, len, m, Q, rfl, ?_, by omega, fun i hi => (hQ i hi).2⟩
    by_cases h0 : len = 0
    · exact .inl h0
    · have hc0 := (hQ 0 (by omega)).1 0 _ rfl
      rw [Nat.zero_mul, Nat.zero_add] at hc0
      obtain ⟨b, o, rfl⟩ := spot_no hc0
      refine .inr ⟨b, o, rfl, fun i hi j u hj => ?_⟩
      have := (hQ i hi).1 j u hj
      rw [add_pl] at this
      rw [Nat.add_assoc]; exact this
end Go.Proofs.Ytjefciioaebbeaa
