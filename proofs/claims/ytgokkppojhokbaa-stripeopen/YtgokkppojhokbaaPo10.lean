/-
  The laws' pick, places, cut.
-/
import Derived.Test.YtgokkppojhokbaaSb10
import Derived.Test.YtgokkppojhokbaaJd10
import Derived.Deep.RegionHeld3
import Derived.Test.YtgokkppojhokbaaRows
import Derived.WalkKit
import Derived.ProofKit
import Derived.SizedLaws
import Derived.OpenShut
import Derived.ShutString
import Derived.Deep.Matrix
import Derived.ChangeOld
import Derived.Below
namespace Go.Proofs.Ytgokkppojhokbaa
open Go.RowKit
section
attribute [local irreducible] Calls
set_option maxRecDepth 1000000 in
theorem pick10 (k : Int) (n : Nat) (h1 : 1 ≤ n) (h2 : n ≤ 1099511627776) (w : World) : Calls Try.prog 11 #[.int .i64 k, .int .i64 (n : Int)] w fun e w' => ∃ t : Nat, e = .returned (.int .i64 (t : Int)) ∧ t < n ∧ w' = w := by
  have hq := pick_num k n h1
  have j1 : ¬ (n : Int) < 1 := by omega
  have j2 : ¬ (n : Int) = 0 := by omega
  have j3 : ¬ n = 0 := by omega
  by_cases h0 : k.tmod n < 0
  · go_enter Try.func11, Try.ntmps11
    go_wp2
    go_ret
    refine ⟨(k.tmod n + n).toNat, ret_int ?_, by omega, rfl⟩
    rw [Int.toNat_of_nonneg (by omega)]
  · go_enter Try.func11, Try.ntmps11
    go_wp2
    go_ret
    exact ⟨(k.tmod n).toNat, ret_int (by rw [Int.toNat_of_nonneg (by omega)]), by omega, rfl⟩
end
section
attribute [local irreducible] Calls Jr Ov bm
set_option maxHeartbeats 8000000 in
set_option maxRecDepth 1000000 in
theorem places10 (p : Option Addr) (q c N m : Nat) (f : Nat → Int) (w : World) (hN : 1 ≤ N) (hN2 : N ≤ 255) (hm : m ≤ 255) (HX : Hid (0 < q → ∃ b o, p = some ⟨b, o, none⟩ ∧ ∀ i, i < q → w.cell? ⟨b, o + i, none⟩ = some (.int .i64 (f i)))) :
    Calls Try.prog 7 #[.slice p q c, .int .i64 (N : Int), .int .i64 (m : Int)] w fun e w' => ∃ P : List Nat, e = .returned (.slice (some ⟨w.heap.size, 0, none⟩) N N) ∧ P.length ≤ m ∧ Ov w' 4 w.heap.size (bm P) N ∧ Below w.heap.size w w' := by
  have hm1 := makeBo N (by omega)
  rw [Nat.mul_one] at hm1
  have HO0 : Hid (Ov (w.alloc (.cells (Array.replicate N (.bool false)) 4)) 4 w.heap.size (bm []) N) := (ov_new w 4 (.bool false) N).congr (fun i _ => (bm_nil i).symm)
  have HB0 : Hid (Below w.heap.size w (w.alloc (.cells (Array.replicate N (.bool false)) 4))) := (Below.refl _ _).alloc (Nat.le_refl _) _
  go_enter Try.func7, Try.ntmps7
  go_wp2
  clear hm1
  go_loopw [8] (fun i wr => ∃ (k : Nat) (P : List Nat), k ≤ m ∧ i = .int .i64 k ∧ Hid (P.length = k) ∧ Ov wr 4 w.heap.size (bm P) N ∧ Below w.heap.size w wr) (fun i _ => m - (intOf i).toNat)
  case atStart => exact ⟨0, [], Nat.zero_le _, rfl, rfl, HO0.out, HB0.out⟩
  case round =>
    clear HO0 HB0
    obtain ⟨k, P, hk, rfl, hP, hO, hb⟩ := hrel
    by_cases hlt : k < q
    · have j1 : (k : Int) < (q : Int) := by omega
      by_cases hlm : k < m
      · have j2 : (k : Int) < (m : Int) := by omega
        obtain ⟨b1, o1, ep, hc1⟩ := HX.out (by omega)
        subst ep
        have g1 := cell_below (hc1 k hlt) hb
        have PK := (show Hid _ from pick10 (f k) N hN (by omega) wr)
        clear hc1
        go_wp2_with (first
          | (go_at_call 11; refine PK.out.mono ?_; rintro e w1 ⟨t, rfl, ht, h⟩; obtain rfl := h.symm; have c1 := hO.cell ht; have c2 := hO.frozen t; have x1 : (t : Int) < (N : Int) := (by omega)))
        go_roundw
        case rel => exact ⟨k + 1, t :: P, by omega, by go_num, by show _ = _; rw [List.length_cons, hP.out], (hO.set ht (.bool true)).congr (fun i _ => bm_cons P t i), hb.setCell (Nat.le_refl _) _⟩
        case measure => simp [intOf]; omega
      · have j2 : ¬ (k : Int) < (m : Int) := by omega
        go_wp2
        go_ret
        exact ⟨rfl, P, by have := hP.out; omega, hO, hb⟩
    · have j1 : ¬ (k : Int) < (q : Int) := by omega
      go_wp2
      go_ret
      exact ⟨rfl, P, by have := hP.out; omega, hO, hb⟩
end
theorem nr_nl (w : World) (f : Nat → BitVec 8) : NrE w (.slice none 0 0) 0 f := ⟨none, 0, rfl, .inl rfl⟩
section
attribute [local irreducible] Calls NrE
end
end Go.Proofs.Ytgokkppojhokbaa
/-
  The laws' some, fit: what is handed in.
-/
namespace Go.Proofs.Ytgokkppojhokbaa
open Go.RowKit
/-- The head of 'some'. -/
def soH : Hd := ⟨0#8, 0#8, 0#8, 0#8, 0#8, 0#8, 0#8, 0#8, 2, 1, 4, [97#8], 0, 0, 1, 1⟩
section
attribute [local irreducible] Calls
set_option maxRecDepth 1000000 in
theorem some_any (w : World) : Calls Try.prog 10 #[] w fun e w' => e = .returned (.agg soH.cs) ∧ Below w.heap.size w w' := by
  go_enter Try.func10, Try.ntmps10
  go_wp2_with (first
    | (refine wpList_alHd rfl rfl ?_; intro wa Za hba hsa)
    | (refine wpList_stHd soH rfl _ _ rfl rfl w.heap.size rfl (by rfl) Za ?_; intro w2 H2 hBu2))
  refine bodyPost_ret (v := .agg soH.cs) ?_ rfl ⟨rfl, hba.trans hBu2.bl⟩
  exact results_cell_row rfl _ _ w.heap.size 33 soH.cs (0, 0) _ (by kernel_rfl) H2 Try.underlying33 rfl sizeHd
end
/-- What the laws are handed: numbers, eight bytes, a text, two lists (a head's size and index stand for nothing here). -/
def plC (x : Hd) (vd vp : Value) : Array Value := #[.int .i64 x.k, .int .i64 x.m, .int .i64 x.b, .int .u8 (el x.a0), .int .u8 (el x.a1), .int .u8 (el x.a2), .int .u8 (el x.a3), .int .u8 (el x.a4), .int .u8 (el x.a5), .int .u8 (el x.a6), .int .u8 (el x.a7),
  .string (bstr x.key), .int .i64 x.ep, .int .i64 x.ct, vd, vp]
def PlAt (w : World) (g : Nat) (x : Hd) (vd vp : Value) : Prop := w.heap[g]? = some (.cells (plC x vd vp) 26)
theorem PlAt.new (w : World) (x : Hd) (vd vp : Value) : PlAt (w.alloc (.cells (plC x vd vp) 26)) w.heap.size x vd vp := heap_alloc_new w _
theorem PlAt.lt {w : World} {g : Nat} {x : Hd} {vd vp : Value} (H : PlAt w g x vd vp) : g < w.heap.size := by
  rcases Nat.lt_or_ge g w.heap.size with h1 | h1
  · exact h1
  · unfold PlAt at H; rw [Array.getElem?_eq_none h1] at H; cases H
theorem PlAt.below {w w' : World} {g : Nat} {x : Hd} {vd vp : Value} (H : PlAt w g x vd vp) (hb : Below w.heap.size w w') : PlAt w' g x vd vp := by
  have hl := H.lt
  unfold PlAt at H ⊢
  rw [hb.block g hl]; exact H
theorem PlAt.cell {w : World} {g : Nat} {x : Hd} {vd vp : Value} (H : PlAt w g x vd vp) (i : Nat) (v : Value) (h : (plC x vd vp)[i]? = some v) : w.cell? ⟨g, i, none⟩ = some v := by
  unfold PlAt at H
  rw [cell_of_row _ _ _ _ _ (0, 0) H]; exact h
theorem PlAt.nums {w : World} {g : Nat} {x : Hd} {vd vp : Value} (H : PlAt w g x vd vp) : w.cell? ⟨g, 0, none⟩ = some (.int .i64 x.k) ∧ w.cell? ⟨g, 1, none⟩ = some (.int .i64 x.m) ∧ w.cell? ⟨g, 14, none⟩ = some vd ∧ w.cell? ⟨g, 15, none⟩ = some vp :=
  ⟨H.cell 0 _ rfl, H.cell 1 _ rfl, H.cell 14 _ rfl, H.cell 15 _ rfl⟩
/-- What the head is made of. -/
def PlS (X : World) (g : Nat) (x : Hd) : Prop := X.cell? ⟨g, 2, none⟩ = some (.int .i64 x.b) ∧ X.cell? ⟨g, 3, none⟩ = some (.int .u8 (el x.a0)) ∧ X.cell? ⟨g, 4, none⟩ = some (.int .u8 (el x.a1)) ∧ X.cell? ⟨g, 5, none⟩ = some (.int .u8 (el x.a2)) ∧ X.cell? ⟨g, 6, none⟩ = some (.int .u8 (el x.a3)) ∧ X.cell? ⟨g, 7, none⟩ = some (.int .u8 (el x.a4)) ∧ X.cell? ⟨g, 8, none⟩ = some (.int .u8 (el x.a5)) ∧ X.cell? ⟨g, 9, none⟩ = some (.int .u8 (el x.a6)) ∧ X.cell? ⟨g, 10, none⟩ = some (.int .u8 (el x.a7)) ∧ X.cell? ⟨g, 11, none⟩ = some (.string (bstr x.key)) ∧ X.cell? ⟨g, 12, none⟩ = some (.int .i64 x.ep) ∧ X.cell? ⟨g, 13, none⟩ = some (.int .i64 x.ct)
theorem PlAt.pls {w : World} {g : Nat} {x : Hd} {vd vp : Value} (H : PlAt w g x vd vp) : PlS w g x :=
  ⟨H.cell 2 _ rfl, H.cell 3 _ rfl, H.cell 4 _ rfl, H.cell 5 _ rfl, H.cell 6 _ rfl, H.cell 7 _ rfl, H.cell 8 _ rfl, H.cell 9 _ rfl, H.cell 10 _ rfl, H.cell 11 _ rfl, H.cell 12 _ rfl, H.cell 13 _ rfl⟩
theorem sizePl : (Try.prog.info? 26).map (·.size) = some 16 := by kernel_rfl
theorem PlAt.run {w : World} {g : Nat} {x : Hd} {vd vp : Value} (H : PlAt w g x vd vp) : (loadVar 26 ⟨g, 0, none⟩).run Try.prog w = .ok (.agg (plC x vd vp)) w :=
  run_loadVar_at w g 0 26 (plC x vd vp) _ (fun j v hj => by unfold PlAt at H; rw [Nat.zero_add, cell_of_row _ _ _ _ _ (0, 0) H]; simpa using hj) Try.underlying26 rfl sizePl
theorem wpList_ldPl {w : World} {ops : Array Oper} {rest : List Oper} {o : Oper} {a : Act} {Q : Exit → Act → World → Prop} {h : Hd} {vd vp : Value} (hgd : o.guard = none) (x : Operand) (ho : o.op = .load 26 x) (g : Nat) (hx : a.eval x = .pointer (some ⟨g, 0, none⟩)) (H : PlAt w g h vd vp)
    (k : wpList Try.prog ops Q rest (a.put o.dst (.agg (plC h vd vp))) w) : wpList Try.prog ops Q (o :: rest) a w :=
  wpList_ldAt hgd 26 x ho g 0 hx (plC h vd vp) H.run k
theorem bstr_size (xs : List (BitVec 8)) : (bstr xs).size = xs.length := by
  show (us xs).toArray.size = _
  simp [us]
theorem bstr_cut (xs : List (BitVec 8)) (n : Nat) : (bstr xs).extract 0 n = bstr (xs.take n) := by
  apply ByteArray.ext
  rw [ByteArray.data_extract]
  unfold bstr us
  simp
/-- What fit makes of the numbers. -/
theorem min2_of (a b : Nat) (ts : Array TypeId) (t : TypeId) (W : World) : (Builtin.min_ ts t #[.int .i64 (a : Int), .int .i64 (b : Int)]).run Try.prog W = .ok (.int .i64 ((min a b : Nat) : Int)) W := by
  rw [run_min_int2]
  congr 2
  split <;> omega
theorem min3_of (a b c : Nat) (ts : Array TypeId) (t : TypeId) (W : World) : (Builtin.min_ ts t #[.int .i64 (a : Int), .int .i64 (b : Int), .int .i64 (c : Int)]).run Try.prog W = .ok (.int .i64 ((min a (min b c) : Nat) : Int)) W := by
  rw [run_min_int3]
  congr 2
  repeat' split
  all_goals omega
end Go.Proofs.Ytgokkppojhokbaa
/-
  What the laws of stripe are handed, opened.
-/
namespace Go.Proofs.Ytgokkppojhokbaa
open Go.ChangeShapes Go.WideShapes Go.ChangeAt Go.RowKit
/-- A string's bytes. -/
def unb (s : ByteArray) : List (BitVec 8) := s.data.toList.map (fun u => BitVec.ofNat 8 u.toNat)
theorem bstr_unb (s : ByteArray) : bstr (unb s) = s := by
  unfold bstr us unb
  rw [List.map_map]
  have e : s.data.toList.map ((fun b : BitVec 8 => UInt8.ofNat b.toNat) ∘ fun u => BitVec.ofNat 8 u.toNat) = s.data.toList := by
    conv => rhs; rw [← List.map_id s.data.toList]
    apply List.map_congr_left
    intro u _
    show UInt8.ofNat (BitVec.ofNat 8 u.toNat).toNat = u
    rw [BitVec.toNat_ofNat]
    have := u.toNat_lt
    rw [Nat.mod_eq_of_lt (by omega)]
    simp
  rw [e]
theorem list16 {α : Type} {l : List α} (h : l.length = 16) : ∃ c0 c1 c2 c3 c4 c5 c6 c7 c8 c9 c10 c11 c12 c13 c14 c15, l = [c0, c1, c2, c3, c4, c5, c6, c7, c8, c9, c10, c11, c12, c13, c14, c15] := by
  match l, h with
  | [c0, c1, c2, c3, c4, c5, c6, c7, c8, c9, c10, c11, c12, c13, c14, c15], _ => exact ⟨c0, c1, c2, c3, c4, c5, c6, c7, c8, c9, c10, c11, c12, c13, c14, c15, rfl⟩
theorem i64_of {n : Int} (h : (Lit.int .i64 n).wf = true) : In64 n := ⟨(bounds_i64 h).1, by have := (bounds_i64 h).2; omega⟩
theorem u8_of {n : Int} (h : (Lit.int .u8 n).wf = true) : ∃ a : BitVec 8, n = el a := by
  obtain ⟨a, ha⟩ := el_of n (bounds_u8 h).1 (by have := (bounds_u8 h).2; omega)
  exact ⟨a, ha⟩
theorem spot_no {w : World} {a : Addr} {v : Value} (h : w.cell? (a.add 0) = some v) : ∃ b o, a = ⟨b, o, none⟩ := by
  obtain ⟨b, off, spot⟩ := a
  have hs : spot = none := by simpa [Addr.add] using World.cell?_spot h
  subst hs
  exact ⟨b, off, rfl⟩
theorem row_of {w : World} {a : Addr} {len cap : Nat} {zs : List Int} (hl : len ≤ cap) (hc : ∀ i, i < cap → w.cell? (a.add i) = some (.int .u8 (zs.getD i 0))) (hw : ∀ n ∈ zs, (Lit.int .u8 n).wf = true) : NrE w (.slice (some a) len cap) len (fun i => BitVec.ofNat 8 (zs.getD i 0).toNat) := by
  refine ⟨_, cap, rfl, ?_⟩
  by_cases h0 : len = 0
  · exact .inl h0
  · obtain ⟨b, o, rfl⟩ := spot_no (hc 0 (by omega))
    refine .inr ⟨b, o, rfl, fun i hi => ?_⟩
    rw [← add_pl, hc i (by omega)]
    have hb : 0 ≤ zs.getD i 0 ∧ zs.getD i 0 < 256 := by
      rw [List.getD_eq_getElem?_getD]
      cases e : zs[i]? with
      | none => simp
      | some z =>
        have h1 := bounds_u8 (hw z (List.mem_of_getElem? e))
        exact ⟨h1.1, by have := h1.2; simp only [Option.getD_some]; omega⟩
    obtain ⟨z, hz⟩ : ∃ z, z = zs.getD i 0 := ⟨_, rfl⟩
    rw [← hz] at hb ⊢
    unfold clE el
    rw [BitVec.toNat_ofNat]
    congr 2
    omega
/-- A row of bytes that is handed in. -/
theorem bytes_of {H : Type} {enc : TypeId × Value → H} {W : World} {n : Nat} {v : Value} {y : DataW H × List MemPlace} (h : DataW.trod enc Try.prog W 0 (fun _ => true) true n 23 [v] = some y) : ∃ (p : Option Addr) (n c : Nat) (d : Nat → BitVec 8), v = .slice p n c ∧ n ≤ c ∧ NrE W (.slice p n c) n d := by
  rcases open_ints Try.underlying23 Try.underlying5 (by kernel_rfl) h with ⟨hcs, _⟩ | ⟨x, l, c, zs, hcs, _, hl, hm, hz, hx, hcell, hwz⟩
  · simp at hcs
    subst hcs
    exact ⟨none, 0, 0, fun _ => 0#8, rfl, Nat.le_refl _, ⟨none, 0, rfl, .inl rfl⟩⟩
  · simp at hcs
    subst hcs
    simp only [if_true] at hz
    exact ⟨some x, l, c, _, rfl, hl, row_of hl (fun i hi => hcell i (by rw [hz]; exact hi)) hwz⟩
/-- A row of numbers that is handed in. -/
theorem ints_of {H : Type} {enc : TypeId × Value → H} {W : World} {n : Nat} {v : Value} {y : DataW H × List MemPlace} (h : DataW.trod enc Try.prog W 0 (fun _ => true) true n 24 [v] = some y) : ∃ (p : Option Addr) (n c : Nat) (f : Nat → Int), v = .slice p n c ∧ (0 < n → ∃ b o, p = some ⟨b, o, none⟩ ∧ ∀ i, i < n → W.cell? ⟨b, o + i, none⟩ = some (.int .i64 (f i))) := by
  rcases open_ints Try.underlying24 Try.underlying3 (by kernel_rfl) h with ⟨hcs, _⟩ | ⟨x, l, c, zs, hcs, _, hl, hm, hz, hx, hcell, hwz⟩
  · simp at hcs
    subst hcs
    exact ⟨none, 0, 0, fun _ => 0, rfl, fun h => by omega⟩
  · simp at hcs
    subst hcs
    simp only [if_true] at hz
    refine ⟨some x, l, c, fun i => zs.getD i 0, rfl, fun h0 => ?_⟩
    have hc := fun i (hi : i < c) => hcell i (by rw [hz]; exact hi)
    obtain ⟨b, o, rfl⟩ := spot_no (hc 0 (by omega))
    exact ⟨b, o, rfl, fun i hi => by rw [← add_pl]; exact hc i (by omega)⟩
theorem plain_of {H : Type} {enc : TypeId × Value → H} {W : World} {n : Nat} {cs : List Value} {y : DataW H × List MemPlace}
    (h : DataW.trod enc Try.prog W 0 (fun _ => true) true n 26 cs = some y) : ∃ (x : Hd) (pd : Option Addr) (n c : Nat) (d : Nat → BitVec 8) (pp : Option Addr) (np cp : Nat) (f : Nat → Int), cs = (plC x (.slice pd n c) (.slice pp np cp)).toList ∧ n ≤ c ∧ NrE W (.slice pd n c) n d ∧ (0 < np → ∃ b o, pp = some ⟨b, o, none⟩ ∧ ∀ i, i < np → W.cell? ⟨b, o + i, none⟩ = some (.int .i64 (f i))) := by
  obtain ⟨xs, m, _, _, hl, hlen, hf⟩ := DataW.trod_struct Try.underlying26 h
  have hl' : cs.length = 16 := hl.trans (by kernel_rfl)
  obtain ⟨c0, c1, c2, c3, c4, c5, c6, c7, c8, c9, c10, c11, c12, c13, c14, c15, rfl⟩ := list16 hl'
  have n1 : Try.prog.cellsOf 5 = 1 := by kernel_rfl
  have n8 : Try.prog.cellsOf 22 = 8 := by kernel_rfl
  have ns : Try.prog.cellsOf 9 = 1 := by kernel_rfl
  have ni : Try.prog.cellsOf 3 = 1 := by kernel_rfl
  have nb : Try.prog.cellsOf 23 = 1 := by kernel_rfl
  have nn : Try.prog.cellsOf 24 = 1 := by kernel_rfl
  match xs, hlen with
  | [y0, y1, y2, y3, y4, y5, y6, y7, y8], _ =>
    have f0 := hf 0 _ rfl
    have f1 := hf 1 _ rfl
    have f2 := hf 2 _ rfl
    have f3 := hf 3 _ rfl
    have f4 := hf 4 _ rfl
    have f5 := hf 5 _ rfl
    have f6 := hf 6 _ rfl
    have f7 := hf 7 _ rfl
    have f8 := hf 8 _ rfl
    simp [n8, ns, ni, nb, nn] at f0 f1 f2 f3 f4 f5 f6 f7 f8
    obtain ⟨zs, m0, _, _, _, hz, g⟩ := DataW.trod_array Try.underlying22 f3
    match zs, hz with
    | [z0, z1, z2, z3, z4, z5, z6, z7], _ =>
      have g0 := g 0 (by decide)
      have g1 := g 1 (by decide)
      have g2 := g 2 (by decide)
      have g3 := g 3 (by decide)
      have g4 := g 4 (by decide)
      have g5 := g 5 (by decide)
      have g6 := g 6 (by decide)
      have g7 := g 7 (by decide)
      simp [n1] at g0 g1 g2 g3 g4 g5 g6 g7
      obtain ⟨v0, e0, _, w0⟩ := DataW.trod_int Try.underlying5 g0
      obtain ⟨v1, e1, _, w1⟩ := DataW.trod_int Try.underlying5 g1
      obtain ⟨v2, e2, _, w2⟩ := DataW.trod_int Try.underlying5 g2
      obtain ⟨v3, e3, _, w3⟩ := DataW.trod_int Try.underlying5 g3
      obtain ⟨v4, e4, _, w4⟩ := DataW.trod_int Try.underlying5 g4
      obtain ⟨v5, e5, _, w5⟩ := DataW.trod_int Try.underlying5 g5
      obtain ⟨v6, e6, _, w6⟩ := DataW.trod_int Try.underlying5 g6
      obtain ⟨v7, e7, _, w7⟩ := DataW.trod_int Try.underlying5 g7
      obtain ⟨v8, e8, _, w8⟩ := DataW.trod_int Try.underlying3 f0
      obtain ⟨v9, e9, _, w9⟩ := DataW.trod_int Try.underlying3 f1
      obtain ⟨v10, e10, _, w10⟩ := DataW.trod_int Try.underlying3 f2
      obtain ⟨sk, e11, _, w11⟩ := DataW.trod_string Try.underlying9 f4
      obtain ⟨v14, e14, _, w14⟩ := DataW.trod_int Try.underlying3 f5
      obtain ⟨v15, e15, _, w15⟩ := DataW.trod_int Try.underlying3 f6
      obtain ⟨pd, nd, cd, d, ed, hd, hD⟩ := bytes_of f7
      obtain ⟨pp, np, cp, f, ep, hP⟩ := ints_of f8
      simp only [List.cons.injEq, and_true] at e0 e1 e2 e3 e4 e5 e6 e7 e8 e9 e10 e11 e14 e15
      subst e0 e1 e2 e3 e4 e5 e6 e7 e8 e9 e10 e11 e14 e15 ed ep
      obtain ⟨a0, rfl⟩ := u8_of w0
      obtain ⟨a1, rfl⟩ := u8_of w1
      obtain ⟨a2, rfl⟩ := u8_of w2
      obtain ⟨a3, rfl⟩ := u8_of w3
      obtain ⟨a4, rfl⟩ := u8_of w4
      obtain ⟨a5, rfl⟩ := u8_of w5
      obtain ⟨a6, rfl⟩ := u8_of w6
      obtain ⟨a7, rfl⟩ := u8_of w7
      refine ⟨⟨a0, a1, a2, a3, a4, a5, a6, a7, v8, v9, v10, unb sk, 0, 0, v14, v15⟩, pd, nd, cd, d, pp, np, cp, f, ?_, hd, hD, hP⟩
      unfold plC
      rw [bstr_unb]
end Go.Proofs.Ytgokkppojhokbaa
