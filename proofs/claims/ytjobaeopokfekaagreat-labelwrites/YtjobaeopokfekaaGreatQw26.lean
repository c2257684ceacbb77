/-
  A label that is handed in, opened.
-/
import Derived.Test.YtjobaeopokfekaaGreatRows
import Derived.Test.YtjobaeopokfekaaGreatLq15
import Derived.WalkKit
import Derived.ProofKit
import Derived.SizedLaws
import Derived.OpenShut
import Derived.ShutString
import Derived.ChangeOld
import Derived.Below
import Derived.Test.YtjobaeopokfekaaGreatPw26
import Derived.Deep.Grids
import Derived.Deep.Matrix
import Derived.Deep.Slices
namespace Go.Proofs.YtjobaeopokfekaaGreat
open Go.ChangeShapes Go.WideShapes Go.ChangeAt Go.RowKit
theorem list13 {α : Type} {l : List α} (h : l.length = 13) : ∃ c0 c1 c2 c3 c4 c5 c6 c7 c8 c9 c10 c11 c12, l = [c0, c1, c2, c3, c4, c5, c6, c7, c8, c9, c10, c11, c12] := by
  match l, h with
  | [c0, c1, c2, c3, c4, c5, c6, c7, c8, c9, c10, c11, c12], _ => exact ⟨c0, c1, c2, c3, c4, c5, c6, c7, c8, c9, c10, c11, c12, rfl⟩
theorem i64_ofL {n : Int} (h : (Lit.int .i64 n).wf = true) : I64 n := ⟨(bounds_i64 h).1, by have := (bounds_i64 h).2; omega⟩
theorem u8_ofL {n : Int} (h : (Lit.int .u8 n).wf = true) : ∃ a : BitVec 8, n = el a := by
  obtain ⟨a, ha⟩ := el_of n (bounds_u8 h).1 (by have := (bounds_u8 h).2; omega)
  exact ⟨a, ha⟩
theorem label_of {H : Type} {enc : TypeId × Value → H} {w : World} {bs : Nat} {spare : Nat → Bool} {held : Bool} {n : Nat} {cs : List Value} {y : DataW H × List MemPlace}
    (h : DataW.trod enc Tryz.prog w bs spare held n 27 cs = some y) : ∃ hd : Lbl, hd.In ∧ cs = hd.cs.toList := by
  obtain ⟨xs, m, _, _, hl, hlen, hf⟩ := DataW.trod_struct Tryz.underlying27 h
  have hl' : cs.length = 13 := hl.trans (by kernel_rfl)
  obtain ⟨c0, c1, c2, c3, c4, c5, c6, c7, c8, c9, c10, c11, c12, rfl⟩ := list13 hl'
  have n1 : Tryz.prog.cellsOf 5 = 1 := by kernel_rfl
  have n8 : Tryz.prog.cellsOf 23 = 8 := by kernel_rfl
  have n3 : Tryz.prog.cellsOf 25 = 3 := by kernel_rfl
  have ni : Tryz.prog.cellsOf 3 = 1 := by kernel_rfl
  match xs, hlen with
  | [y0, y1, y2, y3], _ =>
    have f0 := hf 0 _ rfl
    have f1 := hf 1 _ rfl
    have f2 := hf 2 _ rfl
    have f3 := hf 3 _ rfl
    simp [n8, n3, ni] at f0 f1 f2 f3
    obtain ⟨zs, m0, _, _, _, hz, g⟩ := DataW.trod_array Tryz.underlying23 f0
    match zs, hz with
    | [z0, z1, z2, z3, z4, z5, z6, z7], _ =>
      have g0 := g 0 (by decide)
      have g1 := g 1 (by decide)
      have g2 := g 2 (by decide)
      have g3 := g 3 (by decide)
      have g4 := g 4 (by decide)
      have g5 := g 5 (by decide)
      have g6 := g 6 (by decide)
      have g7 := g 7 (by decide)
      simp [n1] at g0 g1 g2 g3 g4 g5 g6 g7
      obtain ⟨v0, e0, _, w0⟩ := DataW.trod_int Tryz.underlying5 g0
      obtain ⟨v1, e1, _, w1⟩ := DataW.trod_int Tryz.underlying5 g1
      obtain ⟨v2, e2, _, w2⟩ := DataW.trod_int Tryz.underlying5 g2
      obtain ⟨v3, e3, _, w3⟩ := DataW.trod_int Tryz.underlying5 g3
      obtain ⟨v4, e4, _, w4⟩ := DataW.trod_int Tryz.underlying5 g4
      obtain ⟨v5, e5, _, w5⟩ := DataW.trod_int Tryz.underlying5 g5
      obtain ⟨v6, e6, _, w6⟩ := DataW.trod_int Tryz.underlying5 g6
      obtain ⟨v7, e7, _, w7⟩ := DataW.trod_int Tryz.underlying5 g7
      obtain ⟨us, m1, _, _, _, hu, k⟩ := DataW.trod_struct Tryz.underlying25 f1
      match us, hu with
      | [u0, u1, u2], _ =>
        have k0 := k 0 _ rfl
        have k1 := k 1 _ rfl
        have k2 := k 2 _ rfl
        simp [ni] at k0 k1 k2
        obtain ⟨v8, e8, _, w8⟩ := DataW.trod_int Tryz.underlying3 k0
        obtain ⟨v9, e9, _, w9⟩ := DataW.trod_int Tryz.underlying3 k1
        obtain ⟨v10, e10, _, w10⟩ := DataW.trod_int Tryz.underlying3 k2
        obtain ⟨v11, e11, _, w11⟩ := DataW.trod_int Tryz.underlying3 f2
        obtain ⟨v12, e12, _, w12⟩ := DataW.trod_int Tryz.underlying3 f3
        simp only [List.cons.injEq, and_true] at e0 e1 e2 e3 e4 e5 e6 e7 e8 e9 e10 e11 e12
        subst e0 e1 e2 e3 e4 e5 e6 e7 e8 e9 e10 e11 e12
        obtain ⟨a0, rfl⟩ := u8_ofL w0
        obtain ⟨a1, rfl⟩ := u8_ofL w1
        obtain ⟨a2, rfl⟩ := u8_ofL w2
        obtain ⟨a3, rfl⟩ := u8_ofL w3
        obtain ⟨a4, rfl⟩ := u8_ofL w4
        obtain ⟨a5, rfl⟩ := u8_ofL w5
        obtain ⟨a6, rfl⟩ := u8_ofL w6
        obtain ⟨a7, rfl⟩ := u8_ofL w7
        exact ⟨⟨a0, a1, a2, a3, a4, a5, a6, a7, v8, v9, v10, v11, v12⟩, ⟨i64_ofL w8, i64_ofL w9, i64_ofL w10, i64_ofL w11, i64_ofL w12⟩, rfl⟩
end Go.Proofs.YtjobaeopokfekaaGreat
/-
  What the laws of reading and writing are handed, opened.
-/
namespace Go.Proofs.YtjobaeopokfekaaGreat
open Go.ChangeShapes Go.WideShapes Go.ChangeAt Go.RowKit
theorem spot_noT {w : World} {a : Addr} {v : Value} (h : w.cell? (a.add 0) = some v) : ∃ b o, a = ⟨b, o, none⟩ := by
  obtain ⟨b, off, spot⟩ := a
  have hs : spot = none := by simpa [Addr.add] using World.cell?_spot h
  subst hs
  exact ⟨b, off, rfl⟩
theorem list2T {α : Type} {l : List α} (h : l.length = 2) : ∃ c0 c1, l = [c0, c1] := by
  match l, h with
  | [c0, c1], _ => exact ⟨c0, c1, rfl⟩
/-- A plan that is handed in. -/
theorem fts_ofW {H : Type} {enc : TypeId × Value → H} {W : World} {n : Nat} {v : Value} {y : DataW H × List MemPlace} (h : DataW.trod enc Tryz.prog W 0 (fun _ => true) true n 28 [v] = some y) (hb : ∀ g ∈ y.1.weights Tryz.prog 28, g ≤ reachBytes) : ∃ (p : Option Addr) (n c : Nat), v = .slice p n c ∧ n ≤ 10000000000000 ∧ ∃ fs : List Ft, fs.length = n ∧ (0 < n → ∃ b o, p = some ⟨b, o, none⟩ ∧ FtO W b o fs ∧ b < W.heap.size) := by
  rcases Go.Deep.open_slice Tryz.underlying28 h with ⟨hcs, _⟩ | ⟨a, len, cap, m, n, D, Pl, hcs, hba, hl, hm, hmm, hx, hrow⟩
  · simp at hcs
    subst hcs
    exact ⟨none, 0, 0, rfl, Nat.zero_le _, [], rfl, fun h0 => absurd h0 (Nat.lt_irrefl _)⟩
  · simp at hcs
    subst hcs
    simp only [if_true] at hmm
    subst hmm
    have hx1 : y.1 = _ := congrArg Prod.fst hx
    rw [hx1] at hb
    have b16 : Tryz.prog.bytesOf 66 = 16 := by kernel_rfl
    have hlen := hb ((len + (m - len)) * Tryz.prog.bytesOf 66) (by simp [DataW.weights, Tryz.underlying28])
    rw [b16] at hlen
    simp only [reachBytes] at hlen
    have each : ∀ i, i < len → ∃ q : Ft, W.cell? (a.add (i * 2)) = some (.int .i64 q.1.1) ∧ W.cell? (a.add (i * 2 + 1)) = some (.int .i64 q.1.2) := by
      intro i hi
      obtain ⟨cs', h1, h2⟩ := hrow i (by omega)
      rw [show Tryz.prog.cellsOf 66 = 2 by kernel_rfl] at h1
      obtain ⟨_, hlen', hcell⟩ := World.cells?_some h1
      obtain ⟨xs, m2, _, _, _, hxl, hf⟩ := DataW.trod_struct Tryz.underlying66 h2
      have ni : Tryz.prog.cellsOf 3 = 1 := by kernel_rfl
      obtain ⟨c0, c1, rfl⟩ := list2T hlen'
      match xs, hxl with
      | [y0, y1], _ =>
        have f0 := hf 0 _ rfl
        have f1 := hf 1 _ rfl
        simp [ni] at f0 f1
        obtain ⟨v0, e0, _, w0⟩ := DataW.trod_int Tryz.underlying3 f0
        obtain ⟨v1, e1, _, w1⟩ := DataW.trod_int Tryz.underlying3 f1
        simp only [List.cons.injEq, and_true] at e0 e1
        subst e0 e1
        have k0 := hcell 0 (by decide)
        have k1 := hcell 1 (by decide)
        rw [Go.Deep.add_add] at k0 k1
        exact ⟨⟨(v0, v1), w0, w1⟩, k0, k1⟩
    haveI : Inhabited Ft := ⟨⟨(0, 0), rfl, rfl⟩⟩
    obtain ⟨Q, hQ⟩ := Go.Deep.choose_lt each
    refine ⟨some a, len, m, rfl, by omega, (List.range len).map Q, by simp, fun h0 => ?_⟩
    have hc0 := (hQ 0 h0).1
    rw [Nat.zero_mul] at hc0
    obtain ⟨b, o, rfl⟩ := spot_noT hc0
    refine ⟨b, o, rfl, fun j hj => ?_, block_lt_of_cell hc0⟩
    have hj' : j < len := by simpa using hj
    have e : ((List.range len).map Q)[j] = Q j := by simp
    rw [e]
    have := hQ j hj'
    rw [add_pl, add_pl, ← Nat.add_assoc] at this
    exact this

/-- A row of bytes that is handed in. -/
theorem bts_ofW {H : Type} {enc : TypeId × Value → H} {W : World} {n : Nat} {v : Value} {y : DataW H × List MemPlace} (h : DataW.trod enc Tryz.prog W 0 (fun _ => true) true n 22 [v] = some y) (hb : ∀ g ∈ y.1.weights Tryz.prog 22, g ≤ reachBytes) : ∃ (p : Option Addr) (n c : Nat) (xs : List (BitVec 8)), v = .slice p n c ∧ xs.length = n ∧ Rd W p xs ∧ n ≤ 140737488351232 := by
  rcases open_ints Tryz.underlying22 Tryz.underlying5 (by kernel_rfl) h with ⟨hcs, hx⟩ | ⟨x, l, c, zs, hcs, _, hl, hm, hz, hx, hcell, hwz⟩
  · simp at hcs
    subst hcs
    exact ⟨none, 0, 0, [], rfl, rfl, .inl rfl, Nat.zero_le _⟩
  · simp at hcs
    subst hcs
    simp only [if_true] at hz
    have hx1 : y.1 = _ := congrArg Prod.fst hx
    rw [hx1] at hb
    have hw := hb _ (by simp only [DataW.weights, Tryz.underlying22]; exact List.mem_cons_self ..)
    rw [show Tryz.prog.bytesOf 5 = 1 by kernel_rfl] at hw
    simp only [lits, List.length_map, List.length_take, List.length_drop, reachBytes] at hw
    by_cases h0 : l = 0
    · subst h0; exact ⟨some x, 0, c, [], rfl, rfl, .inl rfl, Nat.zero_le _⟩
    obtain ⟨b, off, rfl⟩ := spot_noT (hcell 0 (by omega))
    refine ⟨some ⟨b, off, none⟩, l, c, (zs.take l).map (fun z => BitVec.ofNat 8 z.toNat), rfl, by simp; omega, .inr ⟨b, off, rfl, fun i hi => ?_⟩, by omega⟩
    have hi' : i < l := by simp at hi; omega
    have h1 := hcell i (by omega)
    have hq := range_u8 hwz i
    have e : (⟨b, off, none⟩ : Addr).add i = ⟨b, off + i, none⟩ := add_pl b off i
    rw [e] at h1
    rw [h1]
    congr 2
    have h2 : ((zs.take l).map (fun z => BitVec.ofNat 8 z.toNat)).getD i 0#8 = BitVec.ofNat 8 (zs.getD i 0).toNat := by
      have h3 : i < zs.length := by omega
      simp [List.getD, List.getElem?_take_of_lt hi', List.getElem?_eq_getElem h3]
    rw [h2]
    unfold el
    rw [BitVec.toNat_ofNat]
    have e2 : zs.getD i 0 = zs[i]?.getD 0 := rfl
    rw [e2]
    omega
theorem list17 {α : Type} {l : List α} (h : l.length = 17) : ∃ c0 c1 c2 c3 c4 c5 c6 c7 c8 c9 c10 c11 c12 c13 c14 c15 c16, l = [c0, c1, c2, c3, c4, c5, c6, c7, c8, c9, c10, c11, c12, c13, c14, c15, c16] := by
  match l, h with
  | [c0, c1, c2, c3, c4, c5, c6, c7, c8, c9, c10, c11, c12, c13, c14, c15, c16], _ => exact ⟨c0, c1, c2, c3, c4, c5, c6, c7, c8, c9, c10, c11, c12, c13, c14, c15, c16, rfl⟩
theorem stand_ofW {H : Type} {enc : TypeId × Value → H} {W : World} {n : Nat} {cs : List Value} {y : DataW H × List MemPlace}
    (h : DataW.trod enc Tryz.prog W 0 (fun _ => true) true n 30 cs = some y) (hb : ∀ g ∈ y.1.weights Tryz.prog 30, g ≤ reachBytes) : ∃ (x : Stn) (bs : List (BitVec 8)), cs = x.cs.toList ∧ SnIn W x bs := by
  obtain ⟨xs, m, _, hy, hl, hlen, hf⟩ := DataW.trod_struct Tryz.underlying30 h
  have hl' : cs.length = 17 := hl.trans (by kernel_rfl)
  obtain ⟨c0, c1, c2, c3, c4, c5, c6, c7, c8, c9, c10, c11, c12, c13, c14, c15, c16, rfl⟩ := list17 hl'
  have nl : Tryz.prog.cellsOf 27 = 13 := by kernel_rfl
  have np : Tryz.prog.cellsOf 28 = 1 := by kernel_rfl
  have nb : Tryz.prog.cellsOf 4 = 1 := by kernel_rfl
  have nd : Tryz.prog.cellsOf 22 = 1 := by kernel_rfl
  match xs, hlen with
  | [y0, y1, y2, y3, y4], _ =>
    have f0 := hf 0 _ rfl
    have f1 := hf 1 _ rfl
    have f2 := hf 2 _ rfl
    have f3 := hf 3 _ rfl
    have f4 := hf 4 _ rfl
    simp [nl, np, nb, nd] at f0 f1 f2 f3 f4
    have hw : ∀ (k : Nat) (z : DataW H × List MemPlace) (t : TypeId), [y0, y1, y2, y3, y4][k]? = some z → [4, 22, 27, 28, 4][k]? = some t → ∀ g ∈ z.1.weights Tryz.prog t, g ≤ reachBytes := by
      intro k z t hz ht g hg
      refine hb g ?_
      rw [hy]
      simp only [DataW.weights, Tryz.underlying30]
      exact DataW.weights_mem_each (j := k) (by simpa using ht) (by have h9 := congrArg (Option.map Prod.fst) hz; rw [← List.getElem?_map] at h9; exact h9) g hg
    obtain ⟨has, e0, _⟩ := DataW.trod_bool Tryz.underlying4 f0
    obtain ⟨pd, nn, cd, bs, e1, hbl, hrd, hbn⟩ := bts_ofW f1 (hw 1 y1 _ rfl rfl)
    obtain ⟨l, hli, e2⟩ := label_of f2
    obtain ⟨pp, np', cp, e3, hnp, fs, hfs, hfi⟩ := fts_ofW f3 (hw 3 y3 _ rfl rfl)
    obtain ⟨aw, e4, _⟩ := DataW.trod_bool Tryz.underlying4 f4
    simp only [List.cons.injEq, and_true] at e0 e4
    subst e0 e1 e3 e4
    refine ⟨⟨has, pd, nn, cd, l, pp, np', cp, aw⟩, bs, ?_, ⟨hli, hrd, hbl, by show nn ≤ _; omega, hnp, ⟨fs, hfs, hfi⟩⟩⟩
    have e9 : [c2, c3, c4, c5, c6, c7, c8, c9, c10, c11, c12, c13, c14] = l.cs.toList := by simpa using e2
    unfold Lbl.cs at e9
    simp only [List.cons.injEq, and_true] at e9
    obtain ⟨q0, q1, q2, q3, q4, q5, q6, q7, q8, q9, q10, q11, q12⟩ := e9
    subst q0 q1 q2 q3 q4 q5 q6 q7 q8 q9 q10 q11 q12
    rfl
end Go.Proofs.YtjobaeopokfekaaGreat
