/-
  Turns that are handed in, opened.
-/
import Derived.Test.YtbdkdoeiajfkfaaGreatRows
import Derived.Test.YtbdkdoeiajfkfaaGreatJw26
import Derived.Test.YtbdkdoeiajfkfaaGreatHl15
import Derived.Deep.Grids
import Derived.Deep.Matrix
import Derived.Deep.Slices
import Derived.SizedLaws
import Derived.WalkKit
import Derived.ProofKit
import Derived.OpenShut
import Derived.ShutString
import Derived.ChangeOld
import Derived.Below
namespace Go.Proofs.YtbdkdoeiajfkfaaGreat
open Go.ChangeShapes Go.WideShapes Go.ChangeAt Go.RowKit
theorem spot_noT {w : World} {a : Addr} {v : Value} (h : w.cell? (a.add 0) = some v) : ∃ b o, a = ⟨b, o, none⟩ := by
  obtain ⟨b, off, spot⟩ := a
  have hs : spot = none := by simpa [Addr.add] using World.cell?_spot h
  subst hs
  exact ⟨b, off, rfl⟩
theorem weights_inT {H : Type} {P : Program} {e : TypeId} {d : DataW H} : ∀ {l : List (DataW H)}, d ∈ l → ∀ n ∈ d.weights P e, n ∈ DataW.weightsAll P e l
  | x :: l, hd, n, hn => by
    simp only [DataW.weightsAll, List.mem_append]
    rcases List.mem_cons.1 hd with rfl | h
    · exact .inl hn
    · exact .inr (weights_inT h n hn)
/-- A row of numbers that is handed in. -/
theorem ils_ofW {H : Type} {enc : TypeId × Value → H} {W : World} {n : Nat} {v : Value} {y : DataW H × List MemPlace} (h : DataW.trod enc Tryz.prog W 0 (fun _ => true) true n 36 [v] = some y) (hb : ∀ g ∈ y.1.weights Tryz.prog 36, g ≤ reachBytes) : ∃ (p : Option Addr) (n c : Nat) (d : List Int), v = .slice p n c ∧ d.length = n ∧ Ils W p d ∧ n ≤ 17592186043904 ∧ (p = none → n = 0 ∧ c = 0) := by
  rcases open_ints Tryz.underlying36 Tryz.underlying3 (by kernel_rfl) h with ⟨hcs, hx⟩ | ⟨x, l, c, zs, hcs, _, hl, hm, hz, hx, hcell, hwz⟩
  · simp at hcs
    subst hcs
    exact ⟨none, 0, 0, [], rfl, rfl, fun i hi => absurd hi (Nat.not_lt_zero _), Nat.zero_le _, fun _ => ⟨rfl, rfl⟩⟩
  · simp at hcs
    subst hcs
    simp only [if_true] at hz
    have hx1 : y.1 = _ := congrArg Prod.fst hx
    rw [hx1] at hb
    have hw := hb _ (by simp only [DataW.weights, Tryz.underlying36]; exact List.mem_cons_self ..)
    rw [show Tryz.prog.bytesOf 3 = 8 by kernel_rfl] at hw
    simp only [lits, List.length_map, List.length_take, List.length_drop, reachBytes] at hw
    have htl : (zs.take l).length = l := by rw [List.length_take]; omega
    refine ⟨some x, l, c, zs.take l, rfl, htl, fun i hi => ?_, by omega, fun e => by cases e⟩
    rw [htl] at hi
    obtain ⟨b, o, rfl⟩ := spot_noT (hcell 0 (by omega))
    refine ⟨b, o, rfl, ?_⟩
    rw [← add_pl, hcell i (by omega)]
    have hiz : i < zs.length := by omega
    simp [hiz, hi]
/-- A row of truths that is handed in. -/
theorem bls_ofW {H : Type} {enc : TypeId × Value → H} {W : World} {n : Nat} {v : Value} {y : DataW H × List MemPlace} (h : DataW.trod enc Tryz.prog W 0 (fun _ => true) true n 35 [v] = some y) (hb : ∀ g ∈ y.1.weights Tryz.prog 35, g ≤ reachBytes) : ∃ (p : Option Addr) (n c : Nat) (d : List Bool), v = .slice p n c ∧ d.length = n ∧ Bls W p d ∧ n ≤ 140737488351232 ∧ (p = none → n = 0 ∧ c = 0) := by
  rcases Go.Deep.open_bools Tryz.underlying35 Tryz.underlying4 (by kernel_rfl) h with ⟨hcs, hx⟩ | ⟨x, l, c, B, hcs, _, hl, hm, hx, hcell⟩
  · simp at hcs
    subst hcs
    exact ⟨none, 0, 0, [], rfl, rfl, fun i hi => absurd hi (Nat.not_lt_zero _), Nat.zero_le _, fun _ => ⟨rfl, rfl⟩⟩
  · simp at hcs
    subst hcs
    have hx1 : y.1 = _ := congrArg Prod.fst hx
    rw [hx1] at hb
    have hw := hb _ (by simp only [Go.Deep.boolRow, DataW.weights, Tryz.underlying35]; exact List.mem_cons_self ..)
    rw [show Tryz.prog.bytesOf 4 = 1 by kernel_rfl] at hw
    simp only [List.length_map, List.length_range, reachBytes] at hw
    refine ⟨some x, l, c, (List.range l).map B, rfl, by simp, fun i hi => ?_, by omega, fun e => by cases e⟩
    have hi' : i < l := by simpa using hi
    obtain ⟨b, o, rfl⟩ := spot_noT (hcell 0 (by omega))
    refine ⟨b, o, rfl, ?_⟩
    rw [← add_pl, hcell i (by omega)]
    simp [hi']
theorem list2T {α : Type} {l : List α} (h : l.length = 2) : ∃ c0 c1, l = [c0, c1] := by
  match l, h with
  | [c0, c1], _ => exact ⟨c0, c1, rfl⟩
/-- A plan that is handed in. -/
theorem fts_ofW {H : Type} {enc : TypeId × Value → H} {W : World} {n : Nat} {v : Value} {y : DataW H × List MemPlace} (h : DataW.trod enc Tryz.prog W 0 (fun _ => true) true n 34 [v] = some y) (hb : ∀ g ∈ y.1.weights Tryz.prog 34, g ≤ reachBytes) : ∃ (p : Option Addr) (n c : Nat), v = .slice p n c ∧ n ≤ 10000000000000 ∧ ∃ fs : List Ft, fs.length = n ∧ (0 < n → ∃ b o, p = some ⟨b, o, none⟩ ∧ FtO W b o fs ∧ b < W.heap.size) := by
  rcases Go.Deep.open_slice Tryz.underlying34 h with ⟨hcs, _⟩ | ⟨a, len, cap, m, n, D, Pl, hcs, hba, hl, hm, hmm, hx, hrow⟩
  · simp at hcs
    subst hcs
    exact ⟨none, 0, 0, rfl, Nat.zero_le _, [], rfl, fun h0 => absurd h0 (Nat.lt_irrefl _)⟩
  · simp at hcs
    subst hcs
    simp only [if_true] at hmm
    subst hmm
    have hx1 : y.1 = _ := congrArg Prod.fst hx
    rw [hx1] at hb
    have b16 : Tryz.prog.bytesOf 73 = 16 := by kernel_rfl
    have hlen := hb ((len + (m - len)) * Tryz.prog.bytesOf 73) (by simp [DataW.weights, Tryz.underlying34])
    rw [b16] at hlen
    simp only [reachBytes] at hlen
    have each : ∀ i, i < len → ∃ q : Ft, W.cell? (a.add (i * 2)) = some (.int .i64 q.1.1) ∧ W.cell? (a.add (i * 2 + 1)) = some (.int .i64 q.1.2) := by
      intro i hi
      obtain ⟨cs', h1, h2⟩ := hrow i (by omega)
      rw [show Tryz.prog.cellsOf 73 = 2 by kernel_rfl] at h1
      obtain ⟨_, hlen', hcell⟩ := World.cells?_some h1
      obtain ⟨xs, m2, _, _, _, hxl, hf⟩ := DataW.trod_struct Tryz.underlying73 h2
      have ni : Tryz.prog.cellsOf 3 = 1 := by kernel_rfl
      obtain ⟨c0, c1, rfl⟩ := list2T hlen'
      match xs, hxl with
      | [y0, y1], _ =>
        have f0 := hf 0 _ rfl
        have f1 := hf 1 _ rfl
        simp [ni] at f0 f1
        obtain ⟨v0, e0, _, w0⟩ := DataW.trod_int Tryz.underlying3 f0
        obtain ⟨v1, e1, _, w1⟩ := DataW.trod_int Tryz.underlying3 f1
        simp only [List.cons.injEq, and_true] at e0 e1
        subst e0 e1
        have k0 := hcell 0 (by decide)
        have k1 := hcell 1 (by decide)
        rw [Go.Deep.add_add] at k0 k1
        exact ⟨⟨(v0, v1), w0, w1⟩, k0, k1⟩
    haveI : Inhabited Ft := ⟨⟨(0, 0), rfl, rfl⟩⟩
    obtain ⟨Q, hQ⟩ := Go.Deep.choose_lt each
    refine ⟨some a, len, m, rfl, by omega, (List.range len).map Q, by simp, fun h0 => ?_⟩
    have hc0 := (hQ 0 h0).1
    rw [Nat.zero_mul] at hc0
    obtain ⟨b, o, rfl⟩ := spot_noT hc0
    refine ⟨b, o, rfl, fun j hj => ?_, block_lt_of_cell hc0⟩
    have hj' : j < len := by simpa using hj
    have e : ((List.range len).map Q)[j] = Q j := by simp
    rw [e]
    have := hQ j hj'
    rw [add_pl, add_pl, ← Nat.add_assoc] at this
    exact this
theorem list21 {α : Type} {l : List α} (h : l.length = 21) : ∃ c0 c1 c2 c3 c4 c5 c6 c7 c8 c9 c10 c11 c12 c13 c14 c15 c16 c17 c18 c19 c20, l = [c0, c1, c2, c3, c4, c5, c6, c7, c8, c9, c10, c11, c12, c13, c14, c15, c16, c17, c18, c19, c20] := by
  match l, h with
  | [c0, c1, c2, c3, c4, c5, c6, c7, c8, c9, c10, c11, c12, c13, c14, c15, c16, c17, c18, c19, c20], _ => exact ⟨c0, c1, c2, c3, c4, c5, c6, c7, c8, c9, c10, c11, c12, c13, c14, c15, c16, c17, c18, c19, c20, rfl⟩
theorem turn_ofW {H : Type} {enc : TypeId × Value → H} {W : World} {n : Nat} {cs : List Value} {y : DataW H × List MemPlace}
    (h : DataW.trod enc Tryz.prog W 0 (fun _ => true) true n 40 cs = some y) (hb : ∀ g ∈ y.1.weights Tryz.prog 40, g ≤ reachBytes) : ∃ x : Tu, cs = x.cs.toList ∧ TuIn W x := by
  obtain ⟨xs, m, _, hy, hl, hlen, hf⟩ := DataW.trod_struct Tryz.underlying40 h
  have hl' : cs.length = 21 := hl.trans (by kernel_rfl)
  obtain ⟨c0, c1, c2, c3, c4, c5, c6, c7, c8, c9, c10, c11, c12, c13, c14, c15, c16, c17, c18, c19, c20, rfl⟩ := list21 hl'
  have nl : Tryz.prog.cellsOf 33 = 13 := by kernel_rfl
  have np : Tryz.prog.cellsOf 34 = 1 := by kernel_rfl
  have nb : Tryz.prog.cellsOf 4 = 1 := by kernel_rfl
  have ni : Tryz.prog.cellsOf 3 = 1 := by kernel_rfl
  have nf : Tryz.prog.cellsOf 38 = 2 := by kernel_rfl
  match xs, hlen with
  | [y0, y1, y2, y3, y4, y5, y6, y7], _ =>
    have f0 := hf 0 _ rfl
    have f1 := hf 1 _ rfl
    have f2 := hf 2 _ rfl
    have f3 := hf 3 _ rfl
    have f4 := hf 4 _ rfl
    have f5 := hf 5 _ rfl
    have f6 := hf 6 _ rfl
    have f7 := hf 7 _ rfl
    simp [nl, np, nb, ni, nf] at f0 f1 f2 f3 f4 f5 f6 f7
    have hw : ∀ (k : Nat) (z : DataW H × List MemPlace) (t : TypeId), [y0, y1, y2, y3, y4, y5, y6, y7][k]? = some z → [33, 34, 4, 4, 3, 3, 4, 38][k]? = some t → ∀ g ∈ z.1.weights Tryz.prog t, g ≤ reachBytes := by
      intro k z t hz ht g hg
      refine hb g ?_
      rw [hy]
      simp only [DataW.weights, Tryz.underlying40]
      exact DataW.weights_mem_each (j := k) (by simpa using ht) (by have h9 := congrArg (Option.map Prod.fst) hz; rw [← List.getElem?_map] at h9; exact h9) g hg
    obtain ⟨l, hli, e0⟩ := label_of f0
    obtain ⟨pp, nn, cp, e1, hnp, fs, hfs, hfi⟩ := fts_ofW f1 (hw 1 y1 _ rfl rfl)
    obtain ⟨aw, e2, _⟩ := DataW.trod_bool Tryz.underlying4 f2
    obtain ⟨fu, e3, _⟩ := DataW.trod_bool Tryz.underlying4 f3
    obtain ⟨ca, e4, _, _⟩ := DataW.trod_int Tryz.underlying3 f4
    obtain ⟨ins, e5, _, _⟩ := DataW.trod_int Tryz.underlying3 f5
    obtain ⟨lo, e6, _⟩ := DataW.trod_bool Tryz.underlying4 f6
    obtain ⟨zs, m9, _, hz9, _, hzl, hg⟩ := DataW.trod_struct Tryz.underlying38 f7
    match zs, hzl with
    | [z0, z1], _ =>
      have nd : Tryz.prog.cellsOf 35 = 1 := by kernel_rfl
      have nc : Tryz.prog.cellsOf 36 = 1 := by kernel_rfl
      have g0 := hg 0 _ rfl
      have g1 := hg 1 _ rfl
      simp [nd, nc] at g0 g1
      have hw7 := hw 7 y7 _ rfl rfl
      have hwf : ∀ (k : Nat) (z : DataW H × List MemPlace) (t : TypeId), [z0, z1][k]? = some z → [35, 36][k]? = some t → ∀ g ∈ z.1.weights Tryz.prog t, g ≤ reachBytes := by
        intro k z t hz ht g hg
        refine hw7 g ?_
        rw [hz9]
        simp only [DataW.weights, Tryz.underlying38]
        exact DataW.weights_mem_each (j := k) (by simpa using ht) (by have h9 := congrArg (Option.map Prod.fst) hz; rw [← List.getElem?_map] at h9; exact h9) g hg
      obtain ⟨pd, nd', cd, dirs, e7, hdl, hdi, hdn, hdz⟩ := bls_ofW g0 (hwf 0 z0 _ rfl rfl)
      obtain ⟨pc, nc', cc, cuts, e8, hcl, hci, hcn, hcz⟩ := ils_ofW g1 (hwf 1 z1 _ rfl rfl)
      simp only [List.cons.injEq, and_true] at e2 e3 e4 e5 e6
      subst e1 e2 e3 e4 e5 e6 e7 e8
      refine ⟨⟨l, pp, nn, cp, aw, fu, ca, ins, lo, pd, nd', cd, pc, nc', cc⟩, ?_, ⟨hli, hnp, ⟨fs, hfs, hfi⟩, hdz, hdn, ⟨dirs, hdl, hdi⟩, hcz, hcn, ⟨cuts, hcl, hci⟩⟩⟩
      have e9 : [c0, c1, c2, c3, c4, c5, c6, c7, c8, c9, c10, c11, c12] = l.cs.toList := by simpa using e0
      unfold Lbl.cs at e9
      simp only [List.cons.injEq, and_true] at e9
      obtain ⟨q0, q1, q2, q3, q4, q5, q6, q7, q8, q9, q10, q11, q12⟩ := e9
      subst q0 q1 q2 q3 q4 q5 q6 q7 q8 q9 q10 q11 q12
      rfl
/-- Turns that are handed in. -/
theorem turns_ofW {H : Type} {enc : TypeId × Value → H} {W : World} {n : Nat} {v : Value} {y : DataW H × List MemPlace} (h : DataW.trod enc Tryz.prog W 0 (fun _ => true) true n 22 [v] = some y)
    (hb : ∀ g ∈ y.1.weights Tryz.prog 22, g ≤ reachBytes) : ∃ (p : Option Addr) (n c : Nat) (f : Nat → Tu), v = .slice p n c ∧ (∀ i, i < n → ∃ b o, p = some ⟨b, o, none⟩ ∧ b < W.heap.size ∧ TuAt W b (o + i * 21) (f i)) ∧ (∀ i, i < n → TuIn W (f i)) ∧ n ≤ 140737488351232 := by
  rcases Go.Deep.open_slice Tryz.underlying22 h with ⟨hcs, _⟩ | ⟨a, len, cap, m, n, D, Pl, hcs, hba, hl, hm, hmm, hx, hrow⟩
  · simp at hcs
    subst hcs
    exact ⟨none, 0, 0, fun _ => tu0, rfl, fun i hi => absurd hi (Nat.not_lt_zero i), fun i hi => absurd hi (Nat.not_lt_zero i), Nat.zero_le _⟩
  · simp at hcs
    subst hcs
    simp only [if_true] at hmm
    subst hmm
    have hx1 : y.1 = _ := congrArg Prod.fst hx
    rw [hx1] at hb
    have bT : Tryz.prog.bytesOf 40 = 152 := by kernel_rfl
    have hlen := hb ((len + (m - len)) * Tryz.prog.bytesOf 40) (by simp [DataW.weights, Tryz.underlying22])
    rw [bT] at hlen
    simp only [reachBytes] at hlen
    have each : ∀ i, i < len → ∃ q : Tu, (∀ j u, q.cs.toList[j]? = some u → W.cell? (a.add (i * 21 + j)) = some u) ∧ TuIn W q := by
      intro i hi
      obtain ⟨cs', h1, h2⟩ := hrow i (by omega)
      rw [show Tryz.prog.cellsOf 40 = 21 by kernel_rfl] at h1
      obtain ⟨_, hlen', hcell⟩ := World.cells?_some h1
      have hbi : ∀ g ∈ (D i).weights Tryz.prog 40, g ≤ reachBytes := fun g hg => hb g (by
        simp only [DataW.weights, Tryz.underlying22, List.mem_cons, List.mem_append]
        exact .inr (.inl (weights_inT (List.mem_map.mpr ⟨i, List.mem_range.mpr hi, rfl⟩) _ hg)))
      obtain ⟨s, hcs', hss⟩ := turn_ofW h2 hbi
      refine ⟨s, fun j u hj => ?_, hss⟩
      have hj8 : j < 21 := by
        rcases Nat.lt_or_ge j 21 with h | h
        · exact h
        · rw [List.getElem?_eq_none (by exact h)] at hj; cases hj
      have e := hcell j hj8
      rw [Go.Deep.add_add] at e
      rw [e, hcs']
      exact hj
    haveI : Inhabited Tu := ⟨tu0⟩
    obtain ⟨Q, hQ⟩ := Go.Deep.choose_lt each
    refine ⟨some a, len, m, Q, rfl, fun i hi => ?_, fun i hi => (hQ i hi).2, by omega⟩
    have hc0 := (hQ 0 (by omega)).1 0 _ rfl
    rw [Nat.zero_mul, Nat.zero_add] at hc0
    obtain ⟨b, o, rfl⟩ := spot_noT hc0
    refine ⟨b, o, rfl, block_lt_of_cell hc0, fun j u hj => ?_⟩
    have := (hQ i hi).1 j u hj
    rw [add_pl] at this
    rw [Nat.add_assoc]; exact this
end Go.Proofs.YtbdkdoeiajfkfaaGreat
