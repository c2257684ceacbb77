/-
  Package frame: 'readHead'.
-/
import Derived.Test.YtfcjkaigmlfjnaaP8
import Derived.Deep.RegionWith
namespace Go.Proofs.Ytfcjkaigmlfjnaa
open Go.RowKit
def Rn (R : Act → World → Prop) : Exit → Act → World → Prop
  | .normal, a, W => R a W
  | _, _, _ => False
/-- A head with its eight bytes and its key alone. -/
def hd1 (B key : List (BitVec 8)) : Hd := ⟨fn B 0, fn B 1, fn B 2, fn B 3, fn B 4, fn B 5, fn B 6, fn B 7, 0, 0, 0, key, 0, 0, 0, 0⟩
theorem arrayAt8 (X : World) (g c : Nat) : (Instr.arrayAt 22 (.slice (some ⟨g, 0, none⟩) 8 c)).run Try.prog X = .ok (.pointer (some ⟨g, 0, none⟩)) X := by
  simp [Instr.arrayAt, run_underlying Try.underlying22]
theorem ow8 {w : World} {base : Nat} {v : Value} {xs : List (BitVec 8)} (h : Ow w base v xs) (hl : xs.length = 8) : ∃ g cap, v = .slice (some ⟨g, 0, none⟩) 8 cap ∧ 8 ≤ cap ∧ base ≤ g
    ∧ w.cell? ⟨g, 0, none⟩ = some (.int .u8 (el (fn xs 0))) ∧ w.cell? ⟨g, 1, none⟩ = some (.int .u8 (el (fn xs 1))) ∧ w.cell? ⟨g, 2, none⟩ = some (.int .u8 (el (fn xs 2))) ∧ w.cell? ⟨g, 3, none⟩ = some (.int .u8 (el (fn xs 3))) ∧ w.cell? ⟨g, 4, none⟩ = some (.int .u8 (el (fn xs 4))) ∧ w.cell? ⟨g, 5, none⟩ = some (.int .u8 (el (fn xs 5))) ∧ w.cell? ⟨g, 6, none⟩ = some (.int .u8 (el (fn xs 6))) ∧ w.cell? ⟨g, 7, none⟩ = some (.int .u8 (el (fn xs 7))) := by
  rcases h.2 with ⟨hv, h0⟩ | ⟨g, cap, c, hv, hg, hh, hc, hm, hs, ht⟩
  · omega
  · rw [hl] at hv hc
    have H := fun i (hi : i < 8) => h.cells (g := g) (by rw [hv]; rfl) i _ (vs_at (fn xs) xs.length i (by omega))
    have H' : ∀ i, i < 8 → w.cell? ⟨g, i, none⟩ = some (.int .u8 (el (fn xs i))) := fun i hi => by
      have := H i hi
      rw [add_pl, Nat.zero_add] at this
      exact this
    exact ⟨g, cap, hv, hc, hg, H' 0 (by omega), H' 1 (by omega), H' 2 (by omega), H' 3 (by omega), H' 4 (by omega), H' 5 (by omega), H' 6 (by omega), H' 7 (by omega)⟩
theorem hd16 {w : World} {g : Nat} {h0 : Hd} (H : HdAt w g h0) (h : Hd) : HdAt ((((((((((((((((w.setCell ⟨g, 0, none⟩ (.int .u8 (el h.a0))).setCell ⟨g, 1, none⟩ (.int .u8 (el h.a1))).setCell ⟨g, 2, none⟩ (.int .u8 (el h.a2))).setCell ⟨g, 3, none⟩ (.int .u8 (el h.a3))).setCell ⟨g, 4, none⟩ (.int .u8 (el h.a4))).setCell ⟨g, 5, none⟩ (.int .u8 (el h.a5))).setCell ⟨g, 6, none⟩ (.int .u8 (el h.a6))).setCell ⟨g, 7, none⟩ (.int .u8 (el h.a7))).setCell ⟨g, 8, none⟩ (.int .i64 h.k)).setCell ⟨g, 9, none⟩ (.int .i64 h.m)).setCell ⟨g, 10, none⟩ (.int .i64 h.b)).setCell ⟨g, 11, none⟩ (.string (bstr h.key))).setCell ⟨g, 12, none⟩ (.int .i64 h.sz)).setCell ⟨g, 13, none⟩ (.int .i64 h.ix)).setCell ⟨g, 14, none⟩ (.int .i64 h.ep)).setCell ⟨g, 15, none⟩ (.int .i64 h.ct)) g h := by
  unfold HdAt Hd.cs at *
  have x0 : (w.setCell ⟨g, 0, none⟩ (.int .u8 (el h.a0))).heap[g]? = some (.cells #[.int .u8 (el h.a0), .int .u8 (el h0.a1), .int .u8 (el h0.a2), .int .u8 (el h0.a3), .int .u8 (el h0.a4), .int .u8 (el h0.a5), .int .u8 (el h0.a6), .int .u8 (el h0.a7), .int .i64 h0.k, .int .i64 h0.m, .int .i64 h0.b, .string (bstr h0.key), .int .i64 h0.sz, .int .i64 h0.ix, .int .i64 h0.ep, .int .i64 h0.ct] 28) := heap_setCell_same _ g 0 _ _ _ H
  generalize (w.setCell ⟨g, 0, none⟩ (.int .u8 (el h.a0))) = W0 at x0 ⊢
  have x1 : (W0.setCell ⟨g, 1, none⟩ (.int .u8 (el h.a1))).heap[g]? = some (.cells #[.int .u8 (el h.a0), .int .u8 (el h.a1), .int .u8 (el h0.a2), .int .u8 (el h0.a3), .int .u8 (el h0.a4), .int .u8 (el h0.a5), .int .u8 (el h0.a6), .int .u8 (el h0.a7), .int .i64 h0.k, .int .i64 h0.m, .int .i64 h0.b, .string (bstr h0.key), .int .i64 h0.sz, .int .i64 h0.ix, .int .i64 h0.ep, .int .i64 h0.ct] 28) := heap_setCell_same _ g 1 _ _ _ x0
  clear x0
  generalize (W0.setCell ⟨g, 1, none⟩ (.int .u8 (el h.a1))) = W1 at x1 ⊢
  have x2 : (W1.setCell ⟨g, 2, none⟩ (.int .u8 (el h.a2))).heap[g]? = some (.cells #[.int .u8 (el h.a0), .int .u8 (el h.a1), .int .u8 (el h.a2), .int .u8 (el h0.a3), .int .u8 (el h0.a4), .int .u8 (el h0.a5), .int .u8 (el h0.a6), .int .u8 (el h0.a7), .int .i64 h0.k, .int .i64 h0.m, .int .i64 h0.b, .string (bstr h0.key), .int .i64 h0.sz, .int .i64 h0.ix, .int .i64 h0.ep, .int .i64 h0.ct] 28) := heap_setCell_same _ g 2 _ _ _ x1
  clear x1
  generalize (W1.setCell ⟨g, 2, none⟩ (.int .u8 (el h.a2))) = W2 at x2 ⊢
  have x3 : (W2.setCell ⟨g, 3, none⟩ (.int .u8 (el h.a3))).heap[g]? = some (.cells #[.int .u8 (el h.a0), .int .u8 (el h.a1), .int .u8 (el h.a2), .int .u8 (el h.a3), .int .u8 (el h0.a4), .int .u8 (el h0.a5), .int .u8 (el h0.a6), .int .u8 (el h0.a7), .int .i64 h0.k, .int .i64 h0.m, .int .i64 h0.b, .string (bstr h0.key), .int .i64 h0.sz, .int .i64 h0.ix, .int .i64 h0.ep, .int .i64 h0.ct] 28) := heap_setCell_same _ g 3 _ _ _ x2
  clear x2
  generalize (W2.setCell ⟨g, 3, none⟩ (.int .u8 (el h.a3))) = W3 at x3 ⊢
  have x4 : (W3.setCell ⟨g, 4, none⟩ (.int .u8 (el h.a4))).heap[g]? = some (.cells #[.int .u8 (el h.a0), .int .u8 (el h.a1), .int .u8 (el h.a2), .int .u8 (el h.a3), .int .u8 (el h.a4), .int .u8 (el h0.a5), .int .u8 (el h0.a6), .int .u8 (el h0.a7), .int .i64 h0.k, .int .i64 h0.m, .int .i64 h0.b, .string (bstr h0.key), .int .i64 h0.sz, .int .i64 h0.ix, .int .i64 h0.ep, .int .i64 h0.ct] 28) := heap_setCell_same _ g 4 _ _ _ x3
  clear x3
  generalize (W3.setCell ⟨g, 4, none⟩ (.int .u8 (el h.a4))) = W4 at x4 ⊢
  have x5 : (W4.setCell ⟨g, 5, none⟩ (.int .u8 (el h.a5))).heap[g]? = some (.cells #[.int .u8 (el h.a0), .int .u8 (el h.a1), .int .u8 (el h.a2), .int .u8 (el h.a3), .int .u8 (el h.a4), .int .u8 (el h.a5), .int .u8 (el h0.a6), .int .u8 (el h0.a7), .int .i64 h0.k, .int .i64 h0.m, .int .i64 h0.b, .string (bstr h0.key), .int .i64 h0.sz, .int .i64 h0.ix, .int .i64 h0.ep, .int .i64 h0.ct] 28) := heap_setCell_same _ g 5 _ _ _ x4
  clear x4
  generalize (W4.setCell ⟨g, 5, none⟩ (.int .u8 (el h.a5))) = W5 at x5 ⊢
  have x6 : (W5.setCell ⟨g, 6, none⟩ (.int .u8 (el h.a6))).heap[g]? = some (.cells #[.int .u8 (el h.a0), .int .u8 (el h.a1), .int .u8 (el h.a2), .int .u8 (el h.a3), .int .u8 (el h.a4), .int .u8 (el h.a5), .int .u8 (el h.a6), .int .u8 (el h0.a7), .int .i64 h0.k, .int .i64 h0.m, .int .i64 h0.b, .string (bstr h0.key), .int .i64 h0.sz, .int .i64 h0.ix, .int .i64 h0.ep, .int .i64 h0.ct] 28) := heap_setCell_same _ g 6 _ _ _ x5
  clear x5
  generalize (W5.setCell ⟨g, 6, none⟩ (.int .u8 (el h.a6))) = W6 at x6 ⊢
  have x7 : (W6.setCell ⟨g, 7, none⟩ (.int .u8 (el h.a7))).heap[g]? = some (.cells #[.int .u8 (el h.a0), .int .u8 (el h.a1), .int .u8 (el h.a2), .int .u8 (el h.a3), .int .u8 (el h.a4), .int .u8 (el h.a5), .int .u8 (el h.a6), .int .u8 (el h.a7), .int .i64 h0.k, .int .i64 h0.m, .int .i64 h0.b, .string (bstr h0.key), .int .i64 h0.sz, .int .i64 h0.ix, .int .i64 h0.ep, .int .i64 h0.ct] 28) := heap_setCell_same _ g 7 _ _ _ x6
  clear x6
  generalize (W6.setCell ⟨g, 7, none⟩ (.int .u8 (el h.a7))) = W7 at x7 ⊢
  have x8 : (W7.setCell ⟨g, 8, none⟩ (.int .i64 h.k)).heap[g]? = some (.cells #[.int .u8 (el h.a0), .int .u8 (el h.a1), .int .u8 (el h.a2), .int .u8 (el h.a3), .int .u8 (el h.a4), .int .u8 (el h.a5), .int .u8 (el h.a6), .int .u8 (el h.a7), .int .i64 h.k, .int .i64 h0.m, .int .i64 h0.b, .string (bstr h0.key), .int .i64 h0.sz, .int .i64 h0.ix, .int .i64 h0.ep, .int .i64 h0.ct] 28) := heap_setCell_same _ g 8 _ _ _ x7
  clear x7
  generalize (W7.setCell ⟨g, 8, none⟩ (.int .i64 h.k)) = W8 at x8 ⊢
  have x9 : (W8.setCell ⟨g, 9, none⟩ (.int .i64 h.m)).heap[g]? = some (.cells #[.int .u8 (el h.a0), .int .u8 (el h.a1), .int .u8 (el h.a2), .int .u8 (el h.a3), .int .u8 (el h.a4), .int .u8 (el h.a5), .int .u8 (el h.a6), .int .u8 (el h.a7), .int .i64 h.k, .int .i64 h.m, .int .i64 h0.b, .string (bstr h0.key), .int .i64 h0.sz, .int .i64 h0.ix, .int .i64 h0.ep, .int .i64 h0.ct] 28) := heap_setCell_same _ g 9 _ _ _ x8
  clear x8
  generalize (W8.setCell ⟨g, 9, none⟩ (.int .i64 h.m)) = W9 at x9 ⊢
  have x10 : (W9.setCell ⟨g, 10, none⟩ (.int .i64 h.b)).heap[g]? = some (.cells #[.int .u8 (el h.a0), .int .u8 (el h.a1), .int .u8 (el h.a2), .int .u8 (el h.a3), .int .u8 (el h.a4), .int .u8 (el h.a5), .int .u8 (el h.a6), .int .u8 (el h.a7), .int .i64 h.k, .int .i64 h.m, .int .i64 h.b, .string (bstr h0.key), .int .i64 h0.sz, .int .i64 h0.ix, .int .i64 h0.ep, .int .i64 h0.ct] 28) := heap_setCell_same _ g 10 _ _ _ x9
  clear x9
  generalize (W9.setCell ⟨g, 10, none⟩ (.int .i64 h.b)) = W10 at x10 ⊢
  have x11 : (W10.setCell ⟨g, 11, none⟩ (.string (bstr h.key))).heap[g]? = some (.cells #[.int .u8 (el h.a0), .int .u8 (el h.a1), .int .u8 (el h.a2), .int .u8 (el h.a3), .int .u8 (el h.a4), .int .u8 (el h.a5), .int .u8 (el h.a6), .int .u8 (el h.a7), .int .i64 h.k, .int .i64 h.m, .int .i64 h.b, .string (bstr h.key), .int .i64 h0.sz, .int .i64 h0.ix, .int .i64 h0.ep, .int .i64 h0.ct] 28) := heap_setCell_same _ g 11 _ _ _ x10
  clear x10
  generalize (W10.setCell ⟨g, 11, none⟩ (.string (bstr h.key))) = W11 at x11 ⊢
  have x12 : (W11.setCell ⟨g, 12, none⟩ (.int .i64 h.sz)).heap[g]? = some (.cells #[.int .u8 (el h.a0), .int .u8 (el h.a1), .int .u8 (el h.a2), .int .u8 (el h.a3), .int .u8 (el h.a4), .int .u8 (el h.a5), .int .u8 (el h.a6), .int .u8 (el h.a7), .int .i64 h.k, .int .i64 h.m, .int .i64 h.b, .string (bstr h.key), .int .i64 h.sz, .int .i64 h0.ix, .int .i64 h0.ep, .int .i64 h0.ct] 28) := heap_setCell_same _ g 12 _ _ _ x11
  clear x11
  generalize (W11.setCell ⟨g, 12, none⟩ (.int .i64 h.sz)) = W12 at x12 ⊢
  have x13 : (W12.setCell ⟨g, 13, none⟩ (.int .i64 h.ix)).heap[g]? = some (.cells #[.int .u8 (el h.a0), .int .u8 (el h.a1), .int .u8 (el h.a2), .int .u8 (el h.a3), .int .u8 (el h.a4), .int .u8 (el h.a5), .int .u8 (el h.a6), .int .u8 (el h.a7), .int .i64 h.k, .int .i64 h.m, .int .i64 h.b, .string (bstr h.key), .int .i64 h.sz, .int .i64 h.ix, .int .i64 h0.ep, .int .i64 h0.ct] 28) := heap_setCell_same _ g 13 _ _ _ x12
  clear x12
  generalize (W12.setCell ⟨g, 13, none⟩ (.int .i64 h.ix)) = W13 at x13 ⊢
  have x14 : (W13.setCell ⟨g, 14, none⟩ (.int .i64 h.ep)).heap[g]? = some (.cells #[.int .u8 (el h.a0), .int .u8 (el h.a1), .int .u8 (el h.a2), .int .u8 (el h.a3), .int .u8 (el h.a4), .int .u8 (el h.a5), .int .u8 (el h.a6), .int .u8 (el h.a7), .int .i64 h.k, .int .i64 h.m, .int .i64 h.b, .string (bstr h.key), .int .i64 h.sz, .int .i64 h.ix, .int .i64 h.ep, .int .i64 h0.ct] 28) := heap_setCell_same _ g 14 _ _ _ x13
  clear x13
  generalize (W13.setCell ⟨g, 14, none⟩ (.int .i64 h.ep)) = W14 at x14 ⊢
  have x15 : (W14.setCell ⟨g, 15, none⟩ (.int .i64 h.ct)).heap[g]? = some (.cells #[.int .u8 (el h.a0), .int .u8 (el h.a1), .int .u8 (el h.a2), .int .u8 (el h.a3), .int .u8 (el h.a4), .int .u8 (el h.a5), .int .u8 (el h.a6), .int .u8 (el h.a7), .int .i64 h.k, .int .i64 h.m, .int .i64 h.b, .string (bstr h.key), .int .i64 h.sz, .int .i64 h.ix, .int .i64 h.ep, .int .i64 h.ct] 28) := heap_setCell_same _ g 15 _ _ _ x14
  clear x14
  exact x15
theorem HdAt.setk {w : World} {g : Nat} {h : Hd} (H : HdAt w g h) (z : Int) : HdAt (w.setCell ⟨g, 8, none⟩ (.int .i64 z)) g { h with k := z } := by
  unfold HdAt Hd.cs at *
  exact heap_setCell_same w g 8 _ _ _ H
theorem HdAt.setm {w : World} {g : Nat} {h : Hd} (H : HdAt w g h) (z : Int) : HdAt (w.setCell ⟨g, 9, none⟩ (.int .i64 z)) g { h with m := z } := by
  unfold HdAt Hd.cs at *
  exact heap_setCell_same w g 9 _ _ _ H
theorem HdAt.setb {w : World} {g : Nat} {h : Hd} (H : HdAt w g h) (z : Int) : HdAt (w.setCell ⟨g, 10, none⟩ (.int .i64 z)) g { h with b := z } := by
  unfold HdAt Hd.cs at *
  exact heap_setCell_same w g 10 _ _ _ H
theorem HdAt.setsz {w : World} {g : Nat} {h : Hd} (H : HdAt w g h) (z : Int) : HdAt (w.setCell ⟨g, 12, none⟩ (.int .i64 z)) g { h with sz := z } := by
  unfold HdAt Hd.cs at *
  exact heap_setCell_same w g 12 _ _ _ H
theorem HdAt.setix {w : World} {g : Nat} {h : Hd} (H : HdAt w g h) (z : Int) : HdAt (w.setCell ⟨g, 13, none⟩ (.int .i64 z)) g { h with ix := z } := by
  unfold HdAt Hd.cs at *
  exact heap_setCell_same w g 13 _ _ _ H
theorem HdAt.setep {w : World} {g : Nat} {h : Hd} (H : HdAt w g h) (z : Int) : HdAt (w.setCell ⟨g, 14, none⟩ (.int .i64 z)) g { h with ep := z } := by
  unfold HdAt Hd.cs at *
  exact heap_setCell_same w g 14 _ _ _ H
theorem HdAt.setct {w : World} {g : Nat} {h : Hd} (H : HdAt w g h) (z : Int) : HdAt (w.setCell ⟨g, 15, none⟩ (.int .i64 z)) g { h with ct := z } := by
  unfold HdAt Hd.cs at *
  exact heap_setCell_same w g 15 _ _ _ H
theorem HdAt.other {w : World} {g : Nat} {h : Hd} (H : HdAt w g h) (a : Addr) (u : Value) (hne : g ≠ a.block) : HdAt (w.setCell a u) g h := by
  unfold HdAt at *
  rw [heap_setCell_other w a g u (fun e => hne (by rw [e]))]; exact H
theorem cs_one (h : Hd) : (h.cs.all fun x => x.oneCell') = true := by simp [Hd.cs, Value.oneCell']
theorem hz_at {w : World} {g : Nat} (H : w.heap[g]? = some (.cells #[.int .u8 0, .int .u8 0, .int .u8 0, .int .u8 0, .int .u8 0, .int .u8 0, .int .u8 0, .int .u8 0, .int .i64 0, .int .i64 0, .int .i64 0, .string ⟨#[]⟩, .int .i64 0, .int .i64 0, .int .i64 0, .int .i64 0] 28)) : HdAt w g hd0 := H
theorem sizeHd' (h : Hd) : (Try.prog.info? 28).map (·.size) = some h.cs.size := sizeHd
theorem wpList_storeHd {w : World} {ops : Array Oper} {rest : List Oper} {o : Oper} {a : Act} {Q : Exit → Act → World → Prop} {h h0 : Hd} (hgd : o.guard = none) (x y : Operand) (ho : o.op = .store 28 x y) (hd : o.dst = none) (g : Nat) (hx : a.eval x = .pointer (some ⟨g, 0, none⟩)) (hy : a.eval y = .agg h.cs) (H : HdAt w g h0)
    (k : ∀ w', HdAt w' g h → Turned g w w' → wpList Try.prog ops Q rest a w') : wpList Try.prog ops Q (o :: rest) a w := by
  refine wpList_store_rowTo hgd 28 x y ho hd g h.cs hx hy 28 h0.cs H sizeHd rfl (cs_one h) ?_
  refine k _ ?_ ⟨fun j hj => setRow_other w g j _ hj, fun B w0 hb hB => below_setRow hb hB _, by simp⟩
  unfold HdAt at H ⊢
  exact setRow_heap w g _ _ _ _ H
theorem HdAt.kept {w w' : World} {g r : Nat} {h : Hd} (H : HdAt w g h) (hne : g ≠ r) (hg : w.grownBy w' (some r)) : HdAt w' g h := by
  have hl := H.lt
  unfold HdAt at *
  rw [hg.block g hl (fun e => hne (by injection e))]; exact H
theorem Rdr.keepHd {w w' : World} {r g : Nat} {bs : List (BitVec 8)} {h : Hd} (H : Rdr w r bs 0) (hl : 9 ≤ bs.length) (hg : HdAt w g h) (hne : g ≠ r) (hgr : w.grownBy w' (some g)) : Rdr w' r bs 0 := by
  have hlt := H.lt
  obtain ⟨v, h1, hs, hv⟩ := H
  refine ⟨v, by rw [hgr.block r hlt (fun e => hne (by injection e with e; exact e.symm))]; exact h1, ?_, hv⟩
  rcases hs with ⟨he, _⟩ | ⟨b, o, c, hv', hc, hr⟩
  · subst he; simp at hl
  · refine .inr ⟨b, o, c, hv', hc, fun i hi => hgr.cell (hr i hi) (fun e => ?_)⟩
    injection e with e
    have e : b = g := e
    subst e
    have h8 := hr 8 (by omega)
    unfold HdAt at hg
    rw [cell_of_row w b (o + 8) _ _ (0, 0) hg] at h8
    unfold Hd.cs at h8
    match o, h8 with
    | 0, h8 => simp at h8
    | 1, h8 => simp at h8
    | 2, h8 => simp at h8
    | 3, h8 => simp at h8
    | 4, h8 => simp at h8
    | 5, h8 => simp at h8
    | 6, h8 => simp at h8
    | 7, h8 => simp at h8
    | o + 8, h8 => simp at h8
theorem grown16 (w2 : World) (g : Nat) (h : Hd) : w2.grownBy ((((((((((((((((w2.setCell ⟨g, 0, none⟩ (.int .u8 (el h.a0))).setCell ⟨g, 1, none⟩ (.int .u8 (el h.a1))).setCell ⟨g, 2, none⟩ (.int .u8 (el h.a2))).setCell ⟨g, 3, none⟩ (.int .u8 (el h.a3))).setCell ⟨g, 4, none⟩ (.int .u8 (el h.a4))).setCell ⟨g, 5, none⟩ (.int .u8 (el h.a5))).setCell ⟨g, 6, none⟩ (.int .u8 (el h.a6))).setCell ⟨g, 7, none⟩ (.int .u8 (el h.a7))).setCell ⟨g, 8, none⟩ (.int .i64 h.k)).setCell ⟨g, 9, none⟩ (.int .i64 h.m)).setCell ⟨g, 10, none⟩ (.int .i64 h.b)).setCell ⟨g, 11, none⟩ (.string (bstr h.key))).setCell ⟨g, 12, none⟩ (.int .i64 h.sz)).setCell ⟨g, 13, none⟩ (.int .i64 h.ix)).setCell ⟨g, 14, none⟩ (.int .i64 h.ep)).setCell ⟨g, 15, none⟩ (.int .i64 h.ct)) (some g) := by
  iterate 15 refine gtrans ?_ (grown_set _ _ _ _)
  exact grown_set _ _ _ _
theorem fin16 {w w2 : World} {r g : Nat} {bs : List (BitVec 8)} (HZ : HdAt w2 g hd0) (h : Hd) (hR2 : Rdr w2 r bs 0) (hl : 9 ≤ bs.length) (hgr : g ≠ r) (hb2 : Below w.heap.size w w2) (hwg : w.heap.size < g) (hZ2 : HdAt w2 w.heap.size hd0) :
    HdAt ((((((((((((((((w2.setCell ⟨g, 0, none⟩ (.int .u8 (el h.a0))).setCell ⟨g, 1, none⟩ (.int .u8 (el h.a1))).setCell ⟨g, 2, none⟩ (.int .u8 (el h.a2))).setCell ⟨g, 3, none⟩ (.int .u8 (el h.a3))).setCell ⟨g, 4, none⟩ (.int .u8 (el h.a4))).setCell ⟨g, 5, none⟩ (.int .u8 (el h.a5))).setCell ⟨g, 6, none⟩ (.int .u8 (el h.a6))).setCell ⟨g, 7, none⟩ (.int .u8 (el h.a7))).setCell ⟨g, 8, none⟩ (.int .i64 h.k)).setCell ⟨g, 9, none⟩ (.int .i64 h.m)).setCell ⟨g, 10, none⟩ (.int .i64 h.b)).setCell ⟨g, 11, none⟩ (.string (bstr h.key))).setCell ⟨g, 12, none⟩ (.int .i64 h.sz)).setCell ⟨g, 13, none⟩ (.int .i64 h.ix)).setCell ⟨g, 14, none⟩ (.int .i64 h.ep)).setCell ⟨g, 15, none⟩ (.int .i64 h.ct)) g h ∧ Rdr ((((((((((((((((w2.setCell ⟨g, 0, none⟩ (.int .u8 (el h.a0))).setCell ⟨g, 1, none⟩ (.int .u8 (el h.a1))).setCell ⟨g, 2, none⟩ (.int .u8 (el h.a2))).setCell ⟨g, 3, none⟩ (.int .u8 (el h.a3))).setCell ⟨g, 4, none⟩ (.int .u8 (el h.a4))).setCell ⟨g, 5, none⟩ (.int .u8 (el h.a5))).setCell ⟨g, 6, none⟩ (.int .u8 (el h.a6))).setCell ⟨g, 7, none⟩ (.int .u8 (el h.a7))).setCell ⟨g, 8, none⟩ (.int .i64 h.k)).setCell ⟨g, 9, none⟩ (.int .i64 h.m)).setCell ⟨g, 10, none⟩ (.int .i64 h.b)).setCell ⟨g, 11, none⟩ (.string (bstr h.key))).setCell ⟨g, 12, none⟩ (.int .i64 h.sz)).setCell ⟨g, 13, none⟩ (.int .i64 h.ix)).setCell ⟨g, 14, none⟩ (.int .i64 h.ep)).setCell ⟨g, 15, none⟩ (.int .i64 h.ct)) r bs 0 ∧ Below w.heap.size w ((((((((((((((((w2.setCell ⟨g, 0, none⟩ (.int .u8 (el h.a0))).setCell ⟨g, 1, none⟩ (.int .u8 (el h.a1))).setCell ⟨g, 2, none⟩ (.int .u8 (el h.a2))).setCell ⟨g, 3, none⟩ (.int .u8 (el h.a3))).setCell ⟨g, 4, none⟩ (.int .u8 (el h.a4))).setCell ⟨g, 5, none⟩ (.int .u8 (el h.a5))).setCell ⟨g, 6, none⟩ (.int .u8 (el h.a6))).setCell ⟨g, 7, none⟩ (.int .u8 (el h.a7))).setCell ⟨g, 8, none⟩ (.int .i64 h.k)).setCell ⟨g, 9, none⟩ (.int .i64 h.m)).setCell ⟨g, 10, none⟩ (.int .i64 h.b)).setCell ⟨g, 11, none⟩ (.string (bstr h.key))).setCell ⟨g, 12, none⟩ (.int .i64 h.sz)).setCell ⟨g, 13, none⟩ (.int .i64 h.ix)).setCell ⟨g, 14, none⟩ (.int .i64 h.ep)).setCell ⟨g, 15, none⟩ (.int .i64 h.ct)) ∧ HdAt ((((((((((((((((w2.setCell ⟨g, 0, none⟩ (.int .u8 (el h.a0))).setCell ⟨g, 1, none⟩ (.int .u8 (el h.a1))).setCell ⟨g, 2, none⟩ (.int .u8 (el h.a2))).setCell ⟨g, 3, none⟩ (.int .u8 (el h.a3))).setCell ⟨g, 4, none⟩ (.int .u8 (el h.a4))).setCell ⟨g, 5, none⟩ (.int .u8 (el h.a5))).setCell ⟨g, 6, none⟩ (.int .u8 (el h.a6))).setCell ⟨g, 7, none⟩ (.int .u8 (el h.a7))).setCell ⟨g, 8, none⟩ (.int .i64 h.k)).setCell ⟨g, 9, none⟩ (.int .i64 h.m)).setCell ⟨g, 10, none⟩ (.int .i64 h.b)).setCell ⟨g, 11, none⟩ (.string (bstr h.key))).setCell ⟨g, 12, none⟩ (.int .i64 h.sz)).setCell ⟨g, 13, none⟩ (.int .i64 h.ix)).setCell ⟨g, 14, none⟩ (.int .i64 h.ep)).setCell ⟨g, 15, none⟩ (.int .i64 h.ct)) w.heap.size hd0 := by
  have G := grown16 w2 g h
  have H := hd16 HZ h
  generalize ((((((((((((((((w2.setCell ⟨g, 0, none⟩ (.int .u8 (el h.a0))).setCell ⟨g, 1, none⟩ (.int .u8 (el h.a1))).setCell ⟨g, 2, none⟩ (.int .u8 (el h.a2))).setCell ⟨g, 3, none⟩ (.int .u8 (el h.a3))).setCell ⟨g, 4, none⟩ (.int .u8 (el h.a4))).setCell ⟨g, 5, none⟩ (.int .u8 (el h.a5))).setCell ⟨g, 6, none⟩ (.int .u8 (el h.a6))).setCell ⟨g, 7, none⟩ (.int .u8 (el h.a7))).setCell ⟨g, 8, none⟩ (.int .i64 h.k)).setCell ⟨g, 9, none⟩ (.int .i64 h.m)).setCell ⟨g, 10, none⟩ (.int .i64 h.b)).setCell ⟨g, 11, none⟩ (.string (bstr h.key))).setCell ⟨g, 12, none⟩ (.int .i64 h.sz)).setCell ⟨g, 13, none⟩ (.int .i64 h.ix)).setCell ⟨g, 14, none⟩ (.int .i64 h.ep)).setCell ⟨g, 15, none⟩ (.int .i64 h.ct)) = X at G H ⊢
  exact ⟨H, Rdr.keepHd hR2 hl HZ hgr G, hb2.grown G hb2.size (fun k hk => by injection hk with hk; omega), HdAt.kept hZ2 (Nat.ne_of_lt hwg) G⟩
theorem Rdr.setI {w : World} {r g i : Nat} {bs : List (BitVec 8)} {z : Int} (H : Rdr w r bs 0) (hne : g ≠ r) (hc : w.cell? ⟨g, i, none⟩ = some (.int .i64 z)) (u : Value) : Rdr (w.setCell ⟨g, i, none⟩ u) r bs 0 := by
  have hlt := H.lt
  obtain ⟨v, h1, hs, hv⟩ := H
  refine ⟨v, by rw [heap_setCell_other w ⟨g, i, none⟩ r u hne.symm]; exact h1, ?_, hv⟩
  rcases hs with hs | ⟨b, o, c, hv', hcc, hr⟩
  · exact .inl hs
  · refine .inr ⟨b, o, c, hv', hcc, fun j hj => ?_⟩
    rw [World.cell?_setCell_other (h := fun e => ?_)]
    · exact hr j hj
    · have := hr j hj
      rw [← e, hc] at this
      cases this
theorem rhd_read (fs key : List (BitVec 8)) (hn : fs.length = 32) : { hd1 ((cutl fs 4 28).take 8) key with k := lv (((cutl fs 4 28).drop 8).take 1), m := lv (((cutl fs 4 28).drop 9).take 1), b := lv (((cutl fs 4 28).drop 10).take 4), sz := lv (((cutl fs 4 28).drop 14).take 4), ix := lv (((cutl fs 4 28).drop 18).take 1), ep := lv (((cutl fs 4 28).drop 19).take 4), ct := lv (((cutl fs 4 28).drop 23).take 4) } = rhd fs key := by
  match fs, hn with
  | [_, _, _, _, _, _, _, _, _, _, _, _, _, _, _, _, _, _, _, _, _, _, _, _, _, _, _, _, _, _, _, _], _ => rfl
section
attribute [local irreducible] Calls el Hd.cs cmo rg sm
set_option maxHeartbeats 100000000 in
set_option maxRecDepth 1000000 in
theorem readHead_any {w : World} {gb go : Nat} {pk : Option Addr} {fs key : List (BitVec 8)} (h : Rd w (some ⟨gb, go, none⟩) fs) (hk : Rd w pk key) (cf nk ck : Nat) (hn : fs.length = 32) (hc : 32 ≤ cf) (hkl : key.length = nk) :
    Calls Try.prog 36 #[.slice (some ⟨gb, go, none⟩) 32 cf, .slice pk nk ck] w fun e w' => e = .returned (.agg (rhd fs key).cs) ∧ Below w.heap.size w w' := by
  have hl4 : (cutl fs 4 28).length = 28 := cutl_len _ _ _ (by omega)
  have O := (show Hid (∀ c' W, Below w.heap.size w W → _) from fun c' W hW => open_any ((h.below hW).cutl 4 28 (by omega)) 28 c' hl4 (by omega))
  have al : ∀ (W : World) (o : Obj), Below W.heap.size W (W.alloc o) := fun W o => (Below.refl _ _).alloc (Nat.le_refl _) o
  go_enter Try.func36, Try.ntmps36
  go_wp2_with (go_at_call 47; refine (O.out _ _ (al _ _)).mono ?_; rintro e w1 ⟨r, rfl, hr1, hR, hb1⟩)
  have hbw := (show Hid (Below w.heap.size w w1) from bt (al _ _) hb1)
  have hbd := (show Hid (Below w.heap.size w w1.drew) from hbw.out.drew)
  have hRd := (show Hid (Rdr w1.drew r (cutl fs 4 28) 0) from Rdr.below hR ((Below.refl w1.heap.size w1).drew))
  have KC := (show Hid (∀ X, Below w.heap.size w X → (convert 35 9 (.slice pk nk ck)).run Try.prog X = .ok (.string (bstr key)) X) from fun X hX => conv_rd (hk.below hX) nk ck hkl)
  have KS := (show Hid _ from KC.out _ hbd.out)
  have hr0 := (show Hid (w.heap.size < r) from Nat.lt_of_lt_of_le (by rw [World.size_alloc]; exact Nat.lt_succ_self _) hr1)
  have ka : ∀ X g c, (Instr.arrayAt 22 (.slice (some ⟨g, 0, none⟩) 8 c)).run Try.prog X = .ok (.pointer (some ⟨g, 0, none⟩)) X := fun X g c => arrayAt8 X g c
  have BY := (show Hid (∀ X, Below w1.heap.size w1 X → _) from fun X hX => bytes8_ok (hR.below hX) (by omega) (by omega))
  have kd : ∀ X, Below w.heap.size w X → (convert 35 9 (.slice pk nk ck)).run Try.prog X = .ok (.string (bstr key)) X := fun X hX => conv_rd (hk.below hX) nk ck hkl
  have kc0 := kd _ hbd.out
  have hbe := (show Hid (Below w.heap.size w (w1.alloc (.cells #[.int .u8 0, .int .u8 0, .int .u8 0, .int .u8 0, .int .u8 0, .int .u8 0, .int .u8 0, .int .u8 0, .int .i64 0, .int .i64 0, .int .i64 0, .string ⟨#[]⟩, .int .i64 0, .int .i64 0, .int .i64 0, .int .i64 0] 28)).drew) from (hbw.out.alloc hbw.out.size _).drew)
  have kc1 := kd _ hbe.out
  have KD := (show Hid _ from kd)
  have hr2 := (show Hid (r < w1.heap.size) from hR.lt)
  have HZ1 := (show Hid (HdAt w1 w.heap.size hd0) from HdAt.below (hz_at (heap_alloc_new w _)) hb1)
  clear hb1 O kd KC KS
  refine Code.wp_mono (Q := Rn (fun a W => ∃ g g2 c2 : Nat, a = ⟨#[.slice (some ⟨gb, go, none⟩) 32 cf, .slice pk nk ck, undef, undef, .pointer (some ⟨w.heap.size, 0, none⟩), .pointer (some ⟨r, 0, none⟩), .pointer (some ⟨g, 0, none⟩), .slice (some ⟨gb, go, none⟩) 32 cf, .slice (some ⟨gb, go + 4, none⟩) 28 (cf - 4), .pointer (some ⟨r, 0, none⟩), .pointer (some ⟨r, 0, none⟩), .slice (some ⟨g2, 0, none⟩) 8 c2, .pointer (some ⟨g2, 0, none⟩), .agg #[.int .u8 (el (fn ((cutl fs 4 28).take 8) 0)), .int .u8 (el (fn ((cutl fs 4 28).take 8) 1)), .int .u8 (el (fn ((cutl fs 4 28).take 8) 2)), .int .u8 (el (fn ((cutl fs 4 28).take 8) 3)), .int .u8 (el (fn ((cutl fs 4 28).take 8) 4)), .int .u8 (el (fn ((cutl fs 4 28).take 8) 5)), .int .u8 (el (fn ((cutl fs 4 28).take 8) 6)), .int .u8 (el (fn ((cutl fs 4 28).take 8) 7))], .slice pk nk ck, .string (bstr key), .agg #[.int .u8 (el (fn ((cutl fs 4 28).take 8) 0)), .int .u8 (el (fn ((cutl fs 4 28).take 8) 1)), .int .u8 (el (fn ((cutl fs 4 28).take 8) 2)), .int .u8 (el (fn ((cutl fs 4 28).take 8) 3)), .int .u8 (el (fn ((cutl fs 4 28).take 8) 4)), .int .u8 (el (fn ((cutl fs 4 28).take 8) 5)), .int .u8 (el (fn ((cutl fs 4 28).take 8) 6)), .int .u8 (el (fn ((cutl fs 4 28).take 8) 7)), .int .i64 0, .int .i64 0, .int .i64 0, .string (bstr key), .int .i64 0, .int .i64 0, .int .i64 0, .int .i64 0], undef, undef, undef, undef, undef, undef, undef, undef, undef, undef, undef, undef, undef, undef, undef, undef, undef, undef, undef, undef, undef, undef, undef, undef, undef, undef, undef], []⟩ ∧ HdAt W g (hd1 ((cutl fs 4 28).take 8) key) ∧ Rdr W r ((cutl fs 4 28).drop 8) 0 ∧ Below w.heap.size w W ∧ g ≠ r ∧ w.heap.size < g ∧ HdAt W w.heap.size hd0)) ?_ ?_
  · rintro e a W hR
    cases e with
    | normal =>
      obtain ⟨g, g2, c2, rfl, hH, hRr, hbW, hgr, hwg, hZ⟩ := hR
      clear kc0 kc1 KD BY ka hbw hbd hRd hr1 hbe
      have s0 : Hid (0 = 0) := rfl
      go_wp2_with (first
    | (go_at_call 49; clear s0; have s1 : Hid (0 = 0) := rfl; refine (number8_ok hRr (by simp only [List.length_drop, hl4]; omega) (by simp only [List.length_drop, hl4]; omega)).mono ?_; rintro e w3 ⟨rfl, hR3, hg3⟩; replace hR3 : Rdr w3 r ((cutl fs 4 28).drop 9) 0 := (by rw [List.drop_drop] at hR3; exact hR3); replace hZ := hZ.kept (Nat.ne_of_lt hr0.out) hg3; replace hH := hH.kept hgr hg3; replace hbW := hbW.grown hg3 hbW.size (fun k hk => by injection hk with hk; have := hr0.out; omega); clear hRr; have cc := (HdAt.cells hH).1; have fz := frozen_of_row w3 g 8 _ _ hH; have hRr := Rdr.setI hR3 hgr cc (.int .i64 ((lv (((cutl fs 4 28).drop 8).take 1) : Nat) : Int)); replace hH := HdAt.setk hH ((lv (((cutl fs 4 28).drop 8).take 1) : Nat) : Int); replace hZ := hZ.other ⟨g, 8, none⟩ (.int .i64 ((lv (((cutl fs 4 28).drop 8).take 1) : Nat) : Int)) (Nat.ne_of_lt hwg); replace hbW := hbW.setCell (show w.heap.size ≤ (⟨g, 8, none⟩ : Addr).block from Nat.le_of_lt hwg) (.int .i64 ((lv (((cutl fs 4 28).drop 8).take 1) : Nat) : Int)))
    | (go_at_call 49; clear s1; have s2 : Hid (0 = 0) := rfl; refine (number8_ok hRr (by simp only [List.length_drop, hl4]; omega) (by simp only [List.length_drop, hl4]; omega)).mono ?_; rintro e w3 ⟨rfl, hR3, hg3⟩; replace hR3 : Rdr w3 r ((cutl fs 4 28).drop 10) 0 := (by rw [List.drop_drop] at hR3; exact hR3); replace hZ := hZ.kept (Nat.ne_of_lt hr0.out) hg3; replace hH := hH.kept hgr hg3; replace hbW := hbW.grown hg3 hbW.size (fun k hk => by injection hk with hk; have := hr0.out; omega); clear hRr; have cc := (HdAt.cells hH).2.1; have fz := frozen_of_row w3 g 9 _ _ hH; have hRr := Rdr.setI hR3 hgr cc (.int .i64 ((lv (((cutl fs 4 28).drop 9).take 1) : Nat) : Int)); replace hH := HdAt.setm hH ((lv (((cutl fs 4 28).drop 9).take 1) : Nat) : Int); replace hZ := hZ.other ⟨g, 9, none⟩ (.int .i64 ((lv (((cutl fs 4 28).drop 9).take 1) : Nat) : Int)) (Nat.ne_of_lt hwg); replace hbW := hbW.setCell (show w.heap.size ≤ (⟨g, 9, none⟩ : Addr).block from Nat.le_of_lt hwg) (.int .i64 ((lv (((cutl fs 4 28).drop 9).take 1) : Nat) : Int)))
    | (go_at_call 50; clear s2; have s3 : Hid (0 = 0) := rfl; refine (number32_ok hRr (by simp only [List.length_drop, hl4]; omega) (by simp only [List.length_drop, hl4]; omega)).mono ?_; rintro e w3 ⟨rfl, hR3, hg3⟩; replace hR3 : Rdr w3 r ((cutl fs 4 28).drop 14) 0 := (by rw [List.drop_drop] at hR3; exact hR3); replace hZ := hZ.kept (Nat.ne_of_lt hr0.out) hg3; replace hH := hH.kept hgr hg3; replace hbW := hbW.grown hg3 hbW.size (fun k hk => by injection hk with hk; have := hr0.out; omega); clear hRr; have cc := (HdAt.cells hH).2.2.1; have fz := frozen_of_row w3 g 10 _ _ hH; have hRr := Rdr.setI hR3 hgr cc (.int .i64 ((lv (((cutl fs 4 28).drop 10).take 4) : Nat) : Int)); replace hH := HdAt.setb hH ((lv (((cutl fs 4 28).drop 10).take 4) : Nat) : Int); replace hZ := hZ.other ⟨g, 10, none⟩ (.int .i64 ((lv (((cutl fs 4 28).drop 10).take 4) : Nat) : Int)) (Nat.ne_of_lt hwg); replace hbW := hbW.setCell (show w.heap.size ≤ (⟨g, 10, none⟩ : Addr).block from Nat.le_of_lt hwg) (.int .i64 ((lv (((cutl fs 4 28).drop 10).take 4) : Nat) : Int)))
    | (go_at_call 50; clear s3; have s4 : Hid (0 = 0) := rfl; refine (number32_ok hRr (by simp only [List.length_drop, hl4]; omega) (by simp only [List.length_drop, hl4]; omega)).mono ?_; rintro e w3 ⟨rfl, hR3, hg3⟩; replace hR3 : Rdr w3 r ((cutl fs 4 28).drop 18) 0 := (by rw [List.drop_drop] at hR3; exact hR3); replace hZ := hZ.kept (Nat.ne_of_lt hr0.out) hg3; replace hH := hH.kept hgr hg3; replace hbW := hbW.grown hg3 hbW.size (fun k hk => by injection hk with hk; have := hr0.out; omega); clear hRr; have cc := (HdAt.cells hH).2.2.2.2.1; have fz := frozen_of_row w3 g 12 _ _ hH; have hRr := Rdr.setI hR3 hgr cc (.int .i64 ((lv (((cutl fs 4 28).drop 14).take 4) : Nat) : Int)); replace hH := HdAt.setsz hH ((lv (((cutl fs 4 28).drop 14).take 4) : Nat) : Int); replace hZ := hZ.other ⟨g, 12, none⟩ (.int .i64 ((lv (((cutl fs 4 28).drop 14).take 4) : Nat) : Int)) (Nat.ne_of_lt hwg); replace hbW := hbW.setCell (show w.heap.size ≤ (⟨g, 12, none⟩ : Addr).block from Nat.le_of_lt hwg) (.int .i64 ((lv (((cutl fs 4 28).drop 14).take 4) : Nat) : Int)))
    | (go_at_call 49; clear s4; have s5 : Hid (0 = 0) := rfl; refine (number8_ok hRr (by simp only [List.length_drop, hl4]; omega) (by simp only [List.length_drop, hl4]; omega)).mono ?_; rintro e w3 ⟨rfl, hR3, hg3⟩; replace hR3 : Rdr w3 r ((cutl fs 4 28).drop 19) 0 := (by rw [List.drop_drop] at hR3; exact hR3); replace hZ := hZ.kept (Nat.ne_of_lt hr0.out) hg3; replace hH := hH.kept hgr hg3; replace hbW := hbW.grown hg3 hbW.size (fun k hk => by injection hk with hk; have := hr0.out; omega); clear hRr; have cc := (HdAt.cells hH).2.2.2.2.2.1; have fz := frozen_of_row w3 g 13 _ _ hH; have hRr := Rdr.setI hR3 hgr cc (.int .i64 ((lv (((cutl fs 4 28).drop 18).take 1) : Nat) : Int)); replace hH := HdAt.setix hH ((lv (((cutl fs 4 28).drop 18).take 1) : Nat) : Int); replace hZ := hZ.other ⟨g, 13, none⟩ (.int .i64 ((lv (((cutl fs 4 28).drop 18).take 1) : Nat) : Int)) (Nat.ne_of_lt hwg); replace hbW := hbW.setCell (show w.heap.size ≤ (⟨g, 13, none⟩ : Addr).block from Nat.le_of_lt hwg) (.int .i64 ((lv (((cutl fs 4 28).drop 18).take 1) : Nat) : Int)))
    | (go_at_call 50; clear s5; have s6 : Hid (0 = 0) := rfl; refine (number32_ok hRr (by simp only [List.length_drop, hl4]; omega) (by simp only [List.length_drop, hl4]; omega)).mono ?_; rintro e w3 ⟨rfl, hR3, hg3⟩; replace hR3 : Rdr w3 r ((cutl fs 4 28).drop 23) 0 := (by rw [List.drop_drop] at hR3; exact hR3); replace hZ := hZ.kept (Nat.ne_of_lt hr0.out) hg3; replace hH := hH.kept hgr hg3; replace hbW := hbW.grown hg3 hbW.size (fun k hk => by injection hk with hk; have := hr0.out; omega); clear hRr; have cc := (HdAt.cells hH).2.2.2.2.2.2.1; have fz := frozen_of_row w3 g 14 _ _ hH; have hRr := Rdr.setI hR3 hgr cc (.int .i64 ((lv (((cutl fs 4 28).drop 19).take 4) : Nat) : Int)); replace hH := HdAt.setep hH ((lv (((cutl fs 4 28).drop 19).take 4) : Nat) : Int); replace hZ := hZ.other ⟨g, 14, none⟩ (.int .i64 ((lv (((cutl fs 4 28).drop 19).take 4) : Nat) : Int)) (Nat.ne_of_lt hwg); replace hbW := hbW.setCell (show w.heap.size ≤ (⟨g, 14, none⟩ : Addr).block from Nat.le_of_lt hwg) (.int .i64 ((lv (((cutl fs 4 28).drop 19).take 4) : Nat) : Int)))
    | (go_at_call 50; clear s6; have s7 : Hid (0 = 0) := rfl; refine (number32_ok hRr (by simp only [List.length_drop, hl4]; omega) (by simp only [List.length_drop, hl4]; omega)).mono ?_; rintro e w3 ⟨rfl, hR3, hg3⟩; replace hR3 : Rdr w3 r ((cutl fs 4 28).drop 27) 0 := (by rw [List.drop_drop] at hR3; exact hR3); replace hZ := hZ.kept (Nat.ne_of_lt hr0.out) hg3; replace hH := hH.kept hgr hg3; replace hbW := hbW.grown hg3 hbW.size (fun k hk => by injection hk with hk; have := hr0.out; omega); clear hRr; have cc := (HdAt.cells hH).2.2.2.2.2.2.2; have fz := frozen_of_row w3 g 15 _ _ hH; have hRr := Rdr.setI hR3 hgr cc (.int .i64 ((lv (((cutl fs 4 28).drop 23).take 4) : Nat) : Int)); replace hH := HdAt.setct hH ((lv (((cutl fs 4 28).drop 23).take 4) : Nat) : Int); replace hZ := hZ.other ⟨g, 15, none⟩ (.int .i64 ((lv (((cutl fs 4 28).drop 23).take 4) : Nat) : Int)) (Nat.ne_of_lt hwg); replace hbW := hbW.setCell (show w.heap.size ≤ (⟨g, 15, none⟩ : Addr).block from Nat.le_of_lt hwg) (.int .i64 ((lv (((cutl fs 4 28).drop 23).take 4) : Nat) : Int)))
    | (clear s7; refine wpList_loadHd rfl _ rfl g rfl hH ?_)
    | (refine wpList_storeHd rfl _ _ rfl rfl w.heap.size rfl rfl hZ ?_; intro w4 hZ4 hT4))
      refine bodyPost_ret (v := .agg (rhd fs key).cs) ?_ rfl ⟨rfl, hT4.2.1 _ _ hbW (Nat.le_refl _)⟩
      rw [rhd_read fs key hn] at hZ4
      unfold HdAt at hZ4
      exact results_cell_row rfl _ _ w.heap.size 28 (rhd fs key).cs (0, 0) _ (by kernel_rfl) hZ4 Try.underlying28 rfl (sizeHd' _)
    | _ => exact hR.elim
  go_region_with (first
    | (go_at_call 48; refine (BY.out w1.drew ((Below.refl _ _).drew)).mono ?_; rintro e w2 ⟨⟨v2, rfl, hO2⟩, hR2, hg2⟩; obtain ⟨g2, c2, rfl, hc2, hg0, u0, u1, u2, u3, u4, u5, u6, u7⟩ := ow8 hO2 (by rw [List.length_take]; omega); have hb2 := (show Hid (Below w.heap.size w w2) from hbd.out.grown hg2 hbd.out.size (fun k hk => by injection hk with hk; have := hr0.out; omega)); have kc2 := KD.out w2 hb2.out; have hZ2 := (show Hid (HdAt w2 w.heap.size hd0) from HdAt.kept (w := w1.drew) (HdAt.below HZ1.out ((Below.refl _ _).drew)) (Nat.ne_of_lt hr0.out) hg2); have kc3 := KD.out _ (hb2.out.alloc hb2.out.size (.cells #[.int .u8 0, .int .u8 0, .int .u8 0, .int .u8 0, .int .u8 0, .int .u8 0, .int .u8 0, .int .u8 0, .int .i64 0, .int .i64 0, .int .i64 0, .string ⟨#[]⟩, .int .i64 0, .int .i64 0, .int .i64 0, .int .i64 0] 28)); have y0 := cell_below u0 (al w2 (.cells #[.int .u8 0, .int .u8 0, .int .u8 0, .int .u8 0, .int .u8 0, .int .u8 0, .int .u8 0, .int .u8 0, .int .i64 0, .int .i64 0, .int .i64 0, .string ⟨#[]⟩, .int .i64 0, .int .i64 0, .int .i64 0, .int .i64 0] 28)); have y1 := cell_below u1 (al w2 (.cells #[.int .u8 0, .int .u8 0, .int .u8 0, .int .u8 0, .int .u8 0, .int .u8 0, .int .u8 0, .int .u8 0, .int .i64 0, .int .i64 0, .int .i64 0, .string ⟨#[]⟩, .int .i64 0, .int .i64 0, .int .i64 0, .int .i64 0] 28)); have y2 := cell_below u2 (al w2 (.cells #[.int .u8 0, .int .u8 0, .int .u8 0, .int .u8 0, .int .u8 0, .int .u8 0, .int .u8 0, .int .u8 0, .int .i64 0, .int .i64 0, .int .i64 0, .string ⟨#[]⟩, .int .i64 0, .int .i64 0, .int .i64 0, .int .i64 0] 28)); have y3 := cell_below u3 (al w2 (.cells #[.int .u8 0, .int .u8 0, .int .u8 0, .int .u8 0, .int .u8 0, .int .u8 0, .int .u8 0, .int .u8 0, .int .i64 0, .int .i64 0, .int .i64 0, .string ⟨#[]⟩, .int .i64 0, .int .i64 0, .int .i64 0, .int .i64 0] 28)); have y4 := cell_below u4 (al w2 (.cells #[.int .u8 0, .int .u8 0, .int .u8 0, .int .u8 0, .int .u8 0, .int .u8 0, .int .u8 0, .int .u8 0, .int .i64 0, .int .i64 0, .int .i64 0, .string ⟨#[]⟩, .int .i64 0, .int .i64 0, .int .i64 0, .int .i64 0] 28)); have y5 := cell_below u5 (al w2 (.cells #[.int .u8 0, .int .u8 0, .int .u8 0, .int .u8 0, .int .u8 0, .int .u8 0, .int .u8 0, .int .u8 0, .int .i64 0, .int .i64 0, .int .i64 0, .string ⟨#[]⟩, .int .i64 0, .int .i64 0, .int .i64 0, .int .i64 0] 28)); have y6 := cell_below u6 (al w2 (.cells #[.int .u8 0, .int .u8 0, .int .u8 0, .int .u8 0, .int .u8 0, .int .u8 0, .int .u8 0, .int .u8 0, .int .i64 0, .int .i64 0, .int .i64 0, .string ⟨#[]⟩, .int .i64 0, .int .i64 0, .int .i64 0, .int .i64 0] 28)); have y7 := cell_below u7 (al w2 (.cells #[.int .u8 0, .int .u8 0, .int .u8 0, .int .u8 0, .int .u8 0, .int .u8 0, .int .u8 0, .int .u8 0, .int .i64 0, .int .i64 0, .int .i64 0, .string ⟨#[]⟩, .int .i64 0, .int .i64 0, .int .i64 0, .int .i64 0] 28)))
    | (go_at_call 48; refine (BY.out (w1.alloc (.cells #[.int .u8 0, .int .u8 0, .int .u8 0, .int .u8 0, .int .u8 0, .int .u8 0, .int .u8 0, .int .u8 0, .int .i64 0, .int .i64 0, .int .i64 0, .string ⟨#[]⟩, .int .i64 0, .int .i64 0, .int .i64 0, .int .i64 0] 28)).drew (((Below.refl _ _).alloc (Nat.le_refl _) _).drew)).mono ?_; rintro e w2 ⟨⟨v2, rfl, hO2⟩, hR2, hg2⟩; obtain ⟨g2, c2, rfl, hc2, hg0, u0, u1, u2, u3, u4, u5, u6, u7⟩ := ow8 hO2 (by rw [List.length_take]; omega); have hb2 := (show Hid (Below w.heap.size w w2) from hbe.out.grown hg2 hbe.out.size (fun k hk => by injection hk with hk; have := hr0.out; omega)); have kc2 := KD.out w2 hb2.out; have hZ2 := (show Hid (HdAt w2 w.heap.size hd0) from HdAt.kept (w := (w1.alloc (.cells #[.int .u8 0, .int .u8 0, .int .u8 0, .int .u8 0, .int .u8 0, .int .u8 0, .int .u8 0, .int .u8 0, .int .i64 0, .int .i64 0, .int .i64 0, .string ⟨#[]⟩, .int .i64 0, .int .i64 0, .int .i64 0, .int .i64 0] 28)).drew) (HdAt.below HZ1.out (((Below.refl _ _).alloc (Nat.le_refl _) (.cells #[.int .u8 0, .int .u8 0, .int .u8 0, .int .u8 0, .int .u8 0, .int .u8 0, .int .u8 0, .int .u8 0, .int .i64 0, .int .i64 0, .int .i64 0, .string ⟨#[]⟩, .int .i64 0, .int .i64 0, .int .i64 0, .int .i64 0] 28)).drew)) (Nat.ne_of_lt hr0.out) hg2); have HZ : w2.heap[w1.heap.size]? = some (.cells #[.int .u8 0, .int .u8 0, .int .u8 0, .int .u8 0, .int .u8 0, .int .u8 0, .int .u8 0, .int .u8 0, .int .i64 0, .int .i64 0, .int .i64 0, .string ⟨#[]⟩, .int .i64 0, .int .i64 0, .int .i64 0, .int .i64 0] 28) := (by rw [hg2.block w1.heap.size (show w1.heap.size < (w1.alloc _).heap.size by rw [World.size_alloc]; exact Nat.lt_succ_self _) (fun e => by injection e with e; have := hr2.out; omega)]; exact heap_alloc_new w1 _); have z0 := cell_of_row w2 w1.heap.size 0 _ _ (0, 0) HZ; have z1 := cell_of_row w2 w1.heap.size 1 _ _ (0, 0) HZ; have z2 := cell_of_row w2 w1.heap.size 2 _ _ (0, 0) HZ; have z3 := cell_of_row w2 w1.heap.size 3 _ _ (0, 0) HZ; have z4 := cell_of_row w2 w1.heap.size 4 _ _ (0, 0) HZ; have z5 := cell_of_row w2 w1.heap.size 5 _ _ (0, 0) HZ; have z6 := cell_of_row w2 w1.heap.size 6 _ _ (0, 0) HZ; have z7 := cell_of_row w2 w1.heap.size 7 _ _ (0, 0) HZ; have z8 := cell_of_row w2 w1.heap.size 8 _ _ (0, 0) HZ; have z9 := cell_of_row w2 w1.heap.size 9 _ _ (0, 0) HZ; have z10 := cell_of_row w2 w1.heap.size 10 _ _ (0, 0) HZ; have z11 := cell_of_row w2 w1.heap.size 11 _ _ (0, 0) HZ; have z12 := cell_of_row w2 w1.heap.size 12 _ _ (0, 0) HZ; have z13 := cell_of_row w2 w1.heap.size 13 _ _ (0, 0) HZ; have z14 := cell_of_row w2 w1.heap.size 14 _ _ (0, 0) HZ; have z15 := cell_of_row w2 w1.heap.size 15 _ _ (0, 0) HZ; have f0 := frozen_of_row w2 w1.heap.size 0 _ _ HZ; have f1 := frozen_of_row w2 w1.heap.size 1 _ _ HZ; have f2 := frozen_of_row w2 w1.heap.size 2 _ _ HZ; have f3 := frozen_of_row w2 w1.heap.size 3 _ _ HZ; have f4 := frozen_of_row w2 w1.heap.size 4 _ _ HZ; have f5 := frozen_of_row w2 w1.heap.size 5 _ _ HZ; have f6 := frozen_of_row w2 w1.heap.size 6 _ _ HZ; have f7 := frozen_of_row w2 w1.heap.size 7 _ _ HZ; have f8 := frozen_of_row w2 w1.heap.size 8 _ _ HZ; have f9 := frozen_of_row w2 w1.heap.size 9 _ _ HZ; have f10 := frozen_of_row w2 w1.heap.size 10 _ _ HZ; have f11 := frozen_of_row w2 w1.heap.size 11 _ _ HZ; have f12 := frozen_of_row w2 w1.heap.size 12 _ _ HZ; have f13 := frozen_of_row w2 w1.heap.size 13 _ _ HZ; have f14 := frozen_of_row w2 w1.heap.size 14 _ _ HZ; have f15 := frozen_of_row w2 w1.heap.size 15 _ _ HZ))
  all_goals first
    | (have F := fin16 (hz_at HZ) (hd1 ((cutl fs 4 28).take 8) key) hR2 (by simp only [List.length_drop, hl4]; omega) (Nat.ne_of_gt hr2.out) hb2.out (Nat.lt_trans hr0.out hr2.out) hZ2.out
       exact ⟨w1.heap.size, g2, c2, rfl, F.1, F.2.1, F.2.2.1, Nat.ne_of_gt hr2.out, Nat.lt_trans hr0.out hr2.out, F.2.2.2⟩)
    | exact ⟨w2.heap.size, g2, c2, rfl, (by unfold HdAt Hd.cs; exact heap_alloc_new w2 _), Rdr.below hR2 (al _ _), hb2.out.alloc hb2.out.size _, Nat.ne_of_gt (Nat.lt_of_lt_of_le hr2.out hg2.size), Nat.lt_of_lt_of_le (Nat.lt_trans hr0.out hr2.out) hg2.size, HdAt.below hZ2.out (al _ _)⟩
end
end Go.Proofs.Ytfcjkaigmlfjnaa
