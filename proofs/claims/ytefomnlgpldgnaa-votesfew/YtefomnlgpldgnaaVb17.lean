/-
  Structs in blocks of their own; what a place shows, in memory; 'writingOf'.
-/
import Derived.Test.YtefomnlgpldgnaaVa17
import Derived.Test.YtefomnlgpldgnaaQ8
import Derived.Great.BuildSlice
import Derived.Deep.RegionHeld3
namespace Go.Proofs.Ytefomnlgpldgnaa
open Go.RowKit
/-- A struct in a block of its own. -/
def GB (w : World) (g : Nat) (t : TypeId) (cs : Array Value) : Prop := w.heap[g]? = some (.cells cs t)
theorem GB.lt {w : World} {g : Nat} {t : TypeId} {cs : Array Value} (H : GB w g t cs) : g < w.heap.size := by
  rcases Nat.lt_or_ge g w.heap.size with h1 | h1
  · exact h1
  · unfold GB at H; rw [Array.getElem?_eq_none h1] at H; cases H
theorem GB.below {w w' : World} {g : Nat} {t : TypeId} {cs : Array Value} (H : GB w g t cs) (hb : Below w.heap.size w w') : GB w' g t cs := by
  have hl := H.lt
  unfold GB at H ⊢
  rw [hb.block g hl]; exact H
theorem GB.new (w : World) (t : TypeId) (cs : Array Value) : GB (w.alloc (.cells cs t)) w.heap.size t cs := heap_alloc_new w _
theorem GB.kept {w w' : World} {g : Nat} {r : Option Nat} {t : TypeId} {cs : Array Value} (H : GB w g t cs) (hg : w.grownBy w' r) (hne : r ≠ some g) : GB w' g t cs := by
  have hl := H.lt
  unfold GB at H ⊢
  rw [hg.block g hl (fun e => hne e.symm)]; exact H
theorem GB.cell {w : World} {g : Nat} {t : TypeId} {cs : Array Value} (H : GB w g t cs) (i : Nat) : w.cell? ⟨g, i, none⟩ = cs[i]? := cell_of_row w g i _ _ (0, 0) H
theorem run_loadVar_at {P : Program} (w : World) (g o : Nat) (ty : TypeId) (cs : Array Value) (d : TypeDesc) (hc : ∀ j v, cs.toList[j]? = some v → w.cell? ⟨g, o + j, none⟩ = some v)
    (hu : P.underlying ty = some d) (hd : (match d with | .struct _ | .array _ _ => true | _ => false) = true) (hi : (P.info? ty).map (·.size) = some cs.size) :
    (loadVar ty ⟨g, o, none⟩).run P w = .ok (.agg cs) w := by
  have hl : (loadCells ⟨g, o, none⟩ cs.toList.length).run P w = .ok cs.toList.toArray w :=
    run_loadCells_list (P := P) w ⟨g, o, none⟩ cs.toList (fun j v hv => by
      rw [add_pl]
      exact hc j v hv)
  cases hq : P.info? ty with
  | none => simp [hq] at hi
  | some i =>
    have hs : i.size = cs.size := by simpa [hq] using hi
    have hagg : (isAgg ty).run P w = .ok true w := by
      unfold isAgg
      rw [Sem.run_bind, run_underlying hu w]
      cases d <;> simp_all
    simp only [Array.length_toList, Array.toArray_toList] at hl
    simp [loadVar, Sem.run_bind, hagg, sizeOf, typeInfo, hq, hs, hl]
section
variable {w : World} {ops : Array Oper} {rest : List Oper} {o : Oper} {a : Act} {Q : Exit → Act → World → Prop}
theorem wpList_ldAt (hgd : o.guard = none) (ty : TypeId) (x : Operand) (ho : o.op = .load ty x) (g of : Nat) (hx : a.eval x = .pointer (some ⟨g, of, none⟩)) (cs : Array Value) (hr : (loadVar ty ⟨g, of, none⟩).run Try.prog w = .ok (.agg cs) w)
    (k : wpList Try.prog ops Q rest (a.put o.dst (.agg cs)) w) : wpList Try.prog ops Q (o :: rest) a w := by
  refine wpList_plain hgd fun K hK => ?_
  unfold Oper.wp execOp
  simp only [ho, hx, Instr.loadAt, Instr.sureAddr, Sem.run_bind, Sem.run_pure, Result.andThen_ok, hr]
  exact hK _ _ k
theorem wpList_ldB {t : TypeId} {cs : Array Value} (hgd : o.guard = none) (x : Operand) (ho : o.op = .load t x) (g : Nat) (hx : a.eval x = .pointer (some ⟨g, 0, none⟩)) (H : GB w g t cs) {fs : Array Field} (hu : Try.prog.underlying t = some (.struct fs)) (hs : (Try.prog.info? t).map (·.size) = some cs.size)
    (k : wpList Try.prog ops Q rest (a.put o.dst (.agg cs)) w) : wpList Try.prog ops Q (o :: rest) a w :=
  wpList_load_row hgd t x ho g hx t cs (0, 0) _ H hu rfl hs k
theorem wpList_alB {t : TypeId} {cs : Array Value} (hgd : o.guard = none) (ho : o.op = .alloc t) (hz : ∀ w : World, (zeroValue t).run Try.prog w = .ok (.agg cs) w)
    (h : ∀ w', GB w' w.heap.size t cs → Below w.heap.size w w' → Hid (w'.heap.size = w.heap.size + 1) → wpList Try.prog ops Q rest (a.put o.dst (.pointer (some ⟨w.heap.size, 0, none⟩))) w') : wpList Try.prog ops Q (o :: rest) a w := by
  refine wpList_plain hgd fun K hK => ?_
  have h2 := h (w.alloc (.cells cs t)) (GB.new w t cs) ((Below.refl _ _).alloc (Nat.le_refl _) _) (by show _ = _; simp)
  unfold Oper.wp execOp
  simp only [ho, Sem.run_bind, Instr.alloc, newVar, newRow, hz, run_newObj_alloc, Sem.run_pure, Result.andThen_ok, Value.cells]
  exact hK _ _ h2
theorem wpList_bxB {t : TypeId} {cs : Array Value} (hgd : o.guard = none) (x : Operand) (ho : o.op = .box t x) (hx : a.eval x = .agg cs)
    (h : ∀ w', GB w' w.heap.size t cs → Below w.heap.size w w' → Hid (w'.heap.size = w.heap.size + 1) → wpList Try.prog ops Q rest (a.put o.dst (.pointer (some ⟨w.heap.size, 0, none⟩))) w') : wpList Try.prog ops Q (o :: rest) a w := by
  refine wpList_plain hgd fun K hK => ?_
  have h2 := h (w.alloc (.cells cs t)) (GB.new w t cs) ((Below.refl _ _).alloc (Nat.le_refl _) _) (by show _ = _; simp)
  unfold Oper.wp execOp
  simp only [ho, hx, Sem.run_bind, Instr.box, newVar, newRow, run_newObj_alloc, Sem.run_pure, Result.andThen_ok, Value.cells]
  exact hK _ _ h2
theorem wpList_stB {t : TypeId} {cs cs0 : Array Value} (hgd : o.guard = none) (x y : Operand) (ho : o.op = .store t x y) (hd : o.dst = none) (g : Nat) (hx : a.eval x = .pointer (some ⟨g, 0, none⟩)) (hy : a.eval y = .agg cs) (H : GB w g t cs0) (hs : (Try.prog.info? t).map (·.size) = some cs.size) (he : cs.size = cs0.size) (h1 : (cs.all fun x => x.oneCell') = true)
    (k : ∀ w', GB w' g t cs → w.grownBy w' (some g) → Hid (w'.heap.size = w.heap.size) → wpList Try.prog ops Q rest a w') : wpList Try.prog ops Q (o :: rest) a w := by
  refine wpList_store_rowTo hgd t x y ho hd g cs hx hy t cs0 H hs (by rw [he]) h1 ?_
  refine k _ ?_ ⟨rfl, rfl, rfl, by simp, fun k _ hk => setRow_other w g k _ (fun e => hk (by rw [e]))⟩ (by show _ = _; simp)
  unfold GB at H ⊢
  exact setRow_heap w g _ _ _ _ H
end
theorem res_B {fn : Func} {p : Tmp} {t : TypeId} {cs : Array Value} (h : fn.results = #[.cell p t]) (tmps : Array Value) (w : World) (g : Nat) (hp : tmps.getD p undef = .pointer (some ⟨g, 0, none⟩)) (H : GB w g t cs) {fs : Array Field} (hu : Try.prog.underlying t = some (.struct fs)) (hs : (Try.prog.info? t).map (·.size) = some cs.size) :
    (results fn tmps).run Try.prog w = .ok (.agg cs) w := by
  have hl := run_loadVar_at (P := Try.prog) w g 0 t cs _ (fun j v hv => by rw [Nat.zero_add, H.cell]; simpa using hv) hu rfl hs
  have hp' : tmps[p]?.getD undef = .pointer (some ⟨g, 0, none⟩) := by simpa using hp
  simp [results, h, hp', asAddr, hl]
theorem takeHr {P : Program} {ops : Array Oper} {Q : Exit → Act → World → Prop} {md : Region.Mode} {S : World → Prop} {i : Nat} {oi : Oper} {d : Option Tmp} {v : Value} {fuel : Nat} {listed : Array Bool} {a : Act} {w : World} (hi : ops[i]? = some oi) (hd : oi.dst = d)
    (hs : Region.noSelect ops = true) (hf : Region.free md ops listed i = true) (hr : (Region.ready md ops listed).contains i = true)
    (hQ : ∀ c a w, Q (.panic c) (a.put oi.dst v) w → Q (.panic c) a w) (hy : YieldsIf P ops S oi v a) (hS : S w)
    (h : wpAnyH P md ops Q S fuel (listed.setIfInBounds i true) (a.put d v) w) : wpAnyH P md ops Q S (fuel + 1) listed a w := by
  subst hd; exact wpAnyH_take hi hs hf hr hQ hy hS h
theorem ex_ldB {o : Oper} {a : Act} {X : World} {t : TypeId} {cs : Array Value} (x : Operand) (ho : o.op = .load t x) (g : Nat) (hx : a.eval x = .pointer (some ⟨g, 0, none⟩)) (H : GB X g t cs) {fs : Array Field} (hu : Try.prog.underlying t = some (.struct fs)) (hs : (Try.prog.info? t).map (·.size) = some cs.size) : (execOp a.eval o).run Try.prog X = .ok (.value (.agg cs)) X := by
  have hl := run_loadVar_at (P := Try.prog) X g 0 t cs _ (fun j v hv => by rw [Nat.zero_add, H.cell]; simpa using hv) hu rfl hs
  unfold execOp
  simp only [ho, hx, Instr.loadAt, Instr.sureAddr, Sem.run_bind, Sem.run_pure, Result.andThen_ok, hl]
theorem ex_bin {o : Oper} {a : Act} {X : World} {op : BinOp} {t t2 : TypeId} {x y : Operand} {u v r : Value} (ho : o.op = .binOp op t x y t2) (hx : a.eval x = u) (hy : a.eval y = v) (hg : (eqGuard op t x y u v).run Try.prog X = .ok () X) (h : (binOp op t u v).run Try.prog X = .ok r X) : (execOp a.eval o).run Try.prog X = .ok (.value r) X := by
  unfold execOp
  simp only [ho, hx, hy, Sem.run_bind, hg, h, Sem.run_pure, Result.andThen_ok]
/-- A whole world is there still, and new memory. -/
theorem grown_below {w w' w0 : World} {g B : Nat} (h : Below B w0 w) (hg : w.grownBy w' (some g)) (hB : B ≤ w.heap.size) (hgB : B ≤ g) : Below B w0 w' := h.grown hg hB (fun j hj => by cases hj; exact hgB)
/-- What a place shows. -/
structure Sn where
  kd : Int
  hd : Hd
  bv : Value
  er : Int
def Sn.cs (s : Sn) : Array Value := #[.int .i64 s.kd, .int .u8 (el s.hd.a0), .int .u8 (el s.hd.a1), .int .u8 (el s.hd.a2), .int .u8 (el s.hd.a3), .int .u8 (el s.hd.a4), .int .u8 (el s.hd.a5), .int .u8 (el s.hd.a6), .int .u8 (el s.hd.a7),
  .int .i64 s.hd.k, .int .i64 s.hd.m, .int .i64 s.hd.b, .string (bstr s.hd.key), .int .i64 s.hd.sz, .int .i64 s.hd.ix, .int .i64 s.hd.ep, .int .i64 s.hd.ct, s.bv, .int .i64 s.er]
def Sn.wg (s : Sn) : Wg := (s.hd.ep, s.hd.ct, s.hd.sz)
theorem Sn.cs_size (s : Sn) : s.cs.size = 19 := rfl
theorem size_Sn : (Try.prog.info? 39).map (·.size) = some 19 := by kernel_rfl
theorem size_SnS (s : Sn) : (Try.prog.info? 39).map (·.size) = some s.cs.size := size_Sn
theorem size_Wr : (Try.prog.info? 64).map (·.size) = some 3 := by kernel_rfl
def wgC (k : Wg) : Array Value := #[.int .i64 k.1, .int .i64 k.2.1, .int .i64 k.2.2]
theorem wgC_one (k : Wg) : ((wgC k).all fun x => x.oneCell') = true := by simp [wgC, Value.oneCell']
theorem zero_Wr (w : World) : (zeroValue 64).run Try.prog w = .ok (.agg (wgC (0, 0, 0))) w := by kernel_rfl
structure SnCells (w : World) (g o : Nat) (s : Sn) : Prop where
  kd : w.cell? ⟨g, o, none⟩ = some (.int .i64 s.kd)
  sz : w.cell? ⟨g, o + 13, none⟩ = some (.int .i64 s.hd.sz)
  ep : w.cell? ⟨g, o + 15, none⟩ = some (.int .i64 s.hd.ep)
  ct : w.cell? ⟨g, o + 16, none⟩ = some (.int .i64 s.hd.ct)
  bv : w.cell? ⟨g, o + 17, none⟩ = some s.bv
  er : w.cell? ⟨g, o + 18, none⟩ = some (.int .i64 s.er)
/-- A place at an address. -/
def SnAt (w : World) (g o : Nat) (s : Sn) : Prop := ∀ j u, s.cs.toList[j]? = some u → w.cell? ⟨g, o + j, none⟩ = some u
theorem SnAt.below {w w' : World} {g o : Nat} {s : Sn} (H : SnAt w g o s) (hb : Below w.heap.size w w') : SnAt w' g o s := fun j u hj => cell_below (H j u hj) hb
theorem SnAt.cells {w : World} {g o : Nat} {s : Sn} (H : SnAt w g o s) : SnCells w g o s := ⟨H 0 _ rfl, H 13 _ rfl, H 15 _ rfl, H 16 _ rfl, H 17 _ rfl, H 18 _ rfl⟩
theorem SnAt.ofB {w : World} {g : Nat} {s : Sn} (H : GB w g 39 s.cs) : SnAt w g 0 s := fun j u hj => by rw [Nat.zero_add, H.cell]; simpa using hj
theorem SnAt.run {w : World} {g o : Nat} {s : Sn} (H : SnAt w g o s) : (loadVar 39 ⟨g, o, none⟩).run Try.prog w = .ok (.agg s.cs) w := run_loadVar_at w g o 39 s.cs _ H Try.underlying39 rfl size_Sn
/-- A list of places. -/
def SnL (w : World) (p : Option Addr) (n : Nat) (ss : Nat → Sn) : Prop := n = 0 ∨ ∃ b o, p = some ⟨b, o, none⟩ ∧ ∀ i, i < n → SnAt w b (o + i * 19) (ss i)
theorem SnL.below {w w' : World} {p : Option Addr} {n : Nat} {ss : Nat → Sn} (H : SnL w p n ss) (hb : Below w.heap.size w w') : SnL w' p n ss := by
  rcases H with h | ⟨b, o, e, h⟩
  · exact .inl h
  · exact .inr ⟨b, o, e, fun i hi => (h i hi).below hb⟩
theorem SnL.at {w : World} {p : Option Addr} {n : Nat} {ss : Nat → Sn} (H : SnL w p n ss) {i : Nat} (hi : i < n) : ∃ b o, p = some ⟨b, o, none⟩ ∧ SnAt w b (o + i * 19) (ss i) := by
  rcases H with h | ⟨b, o, e, h⟩
  · omega
  · exact ⟨b, o, e, h i hi⟩
/-- What the places show. -/
def shs (ss : Nat → Sn) : Shs := fun i => ((ss i).kd, (ss i).wg)
section
attribute [local irreducible] Calls Sn.cs GB
set_option maxRecDepth 1000000 in
theorem writingOf_any (s : Sn) (w : World) :
    Calls Try.prog 21 #[.agg s.cs] w fun e w' => e = .returned (.agg (wgC s.wg)) ∧ Below w.heap.size w w' := by
  go_enter Try.func21, Try.ntmps21
  go_wp2_with (first
    | (refine wpList_bxB rfl _ rfl rfl ?_; intro w1 hG1 hb1 hs1)
    | (refine wpList_alB rfl rfl zero_Wr ?_; intro w2 hG2 hb2 hs2; have hc := (SnAt.ofB (hG1.below hb2)).cells; have c13 := hc.sz; have c15 := hc.ep; have c16 := hc.ct; simp only [Nat.zero_add] at c13 c15 c16; clear hc)
    | (refine wpList_stB (cs := wgC s.wg) rfl _ _ rfl rfl w1.heap.size rfl rfl hG2 size_Wr rfl (wgC_one _) ?_; intro w3 hG3 hg3 hs3))
  refine bodyPost_ret (res_B rfl _ _ w1.heap.size rfl hG3 Try.underlying64 size_Wr) rfl ?_
  exact ⟨rfl, grown_below (bt hb1 hb2) hg3 (Nat.le_trans hb1.size hb2.size) hb1.size⟩
end
end Go.Proofs.Ytefomnlgpldgnaa
