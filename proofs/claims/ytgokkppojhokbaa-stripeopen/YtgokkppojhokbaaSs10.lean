/-
  Stripe: shards in lists.
-/
import Derived.Test.YtgokkppojhokbaaCu10
import Derived.Test.YtgokkppojhokbaaWh10
import Derived.Deep.RegionLaw
import Derived.BigCall
import Derived.Great.BuildSlice
namespace Go.Proofs.Ytgokkppojhokbaa
open Go.RowKit
/-- A shard's cells. -/
def shc (h : Hd) (v : Value) : Array Value := h.cs.push v
theorem shc_size (h : Hd) (v : Value) : (shc h v).size = 17 := rfl
theorem size_Sd : (Try.prog.info? 44).map (·.size) = some 17 := by kernel_rfl
theorem hcs_all (h : Hd) : (h.cs.all fun x => x.oneCell') = true := by simp [Hd.cs, Value.oneCell']
theorem shc_all (h : Hd) (v : Value) (hv : v.oneCell' = true) : ((shc h v).all fun x => x.oneCell') = true := by
  unfold shc
  rw [Array.all_push, hcs_all h, hv]; rfl
/-- A shard lies at this place. -/
def Sd (w : World) (b o : Nat) (h : Hd) (v : Value) : Prop := ∀ j u, (shc h v).toList[j]? = some u → w.cell? ⟨b, o + j, none⟩ = some u
theorem Sd.below {w w' : World} {b o : Nat} {h : Hd} {v : Value} (H : Sd w b o h v) (hb : Below w.heap.size w w') : Sd w' b o h v := fun j u hj => cell_below (H j u hj) hb
theorem shc_at (h : Hd) (v : Value) (j : Nat) (u : Value) (hj : h.cs.toList[j]? = some u) : (shc h v).toList[j]? = some u := by
  unfold shc
  have hj' : j < h.cs.size := by
    rcases Nat.lt_or_ge j h.cs.toList.length with h1 | h1
    · simpa using h1
    · rw [List.getElem?_eq_none h1] at hj; cases hj
  rw [Array.getElem?_toList, Array.getElem?_push_lt hj']
  simpa [hj'] using hj
theorem shc_last (h : Hd) (v : Value) : (shc h v).toList[16]? = some v := by
  unfold shc
  have : h.cs.size = 16 := rfl
  rw [Array.getElem?_toList, ← this, Array.getElem?_push_size]
theorem Sd.last {w : World} {b o : Nat} {h : Hd} {v : Value} (H : Sd w b o h v) : w.cell? ⟨b, o + 16, none⟩ = some v := H 16 v (shc_last h v)
theorem Sd.cells {w : World} {b o : Nat} {h : Hd} {v : Value} (H : Sd w b o h v) : w.cell? ⟨b, o + 8, none⟩ = some (.int .i64 h.k) ∧ w.cell? ⟨b, o + 9, none⟩ = some (.int .i64 h.m) ∧ w.cell? ⟨b, o + 10, none⟩ = some (.int .i64 h.b) ∧ w.cell? ⟨b, o + 11, none⟩ = some (.string (bstr h.key))
    ∧ w.cell? ⟨b, o + 12, none⟩ = some (.int .i64 h.sz) ∧ w.cell? ⟨b, o + 13, none⟩ = some (.int .i64 h.ix) ∧ w.cell? ⟨b, o + 14, none⟩ = some (.int .i64 h.ep) ∧ w.cell? ⟨b, o + 15, none⟩ = some (.int .i64 h.ct) :=
  ⟨H 8 _ rfl, H 9 _ rfl, H 10 _ rfl, H 11 _ rfl, H 12 _ rfl, H 13 _ rfl, H 14 _ rfl, H 15 _ rfl⟩
/-- A list of shards reads so. -/
def Sds (w : World) (V : Value) (r : Nat) (hs : Nat → Hd) (vs : Nat → Value) : Prop := ∃ p c, V = .slice p r c ∧ r ≤ c ∧ (0 < r → ∃ b o, p = some ⟨b, o, none⟩ ∧ ∀ i, i < r → Sd w b (o + i * 17) (hs i) (vs i))
theorem Sds.below {w w' : World} {V : Value} {r : Nat} {hs : Nat → Hd} {vs : Nat → Value} (H : Sds w V r hs vs) (hb : Below w.heap.size w w') : Sds w' V r hs vs := by
  obtain ⟨p, c, e, hc, h⟩ := H
  exact ⟨p, c, e, hc, fun h0 => by obtain ⟨b, o, e2, h⟩ := h h0; exact ⟨b, o, e2, fun i hi => (h i hi).below hb⟩⟩
theorem run_loadVar_at {P : Program} (w : World) (g o : Nat) (ty : TypeId) (cs : Array Value) (d : TypeDesc) (hc : ∀ j v, cs.toList[j]? = some v → w.cell? ⟨g, o + j, none⟩ = some v)
    (hu : P.underlying ty = some d) (hd : (match d with | .struct _ | .array _ _ => true | _ => false) = true) (hi : (P.info? ty).map (·.size) = some cs.size) :
    (loadVar ty ⟨g, o, none⟩).run P w = .ok (.agg cs) w := by
  have hl : (loadCells ⟨g, o, none⟩ cs.toList.length).run P w = .ok cs.toList.toArray w :=
    run_loadCells_list (P := P) w ⟨g, o, none⟩ cs.toList (fun j v hv => by
      rw [add_pl]
      exact hc j v hv)
  cases hq : P.info? ty with
  | none => simp [hq] at hi
  | some i =>
    have hs : i.size = cs.size := by simpa [hq] using hi
    have hagg : (isAgg ty).run P w = .ok true w := by
      unfold isAgg
      rw [Sem.run_bind, run_underlying hu w]
      cases d <;> simp_all
    simp only [Array.length_toList, Array.toArray_toList] at hl
    simp [loadVar, Sem.run_bind, hagg, sizeOf, typeInfo, hq, hs, hl]
theorem wpList_ldAt {w : World} {ops : Array Oper} {rest : List Oper} {o : Oper} {a : Act} {Q : Exit → Act → World → Prop} (hgd : o.guard = none) (ty : TypeId) (x : Operand) (ho : o.op = .load ty x) (g of : Nat) (hx : a.eval x = .pointer (some ⟨g, of, none⟩)) (cs : Array Value) (hr : (loadVar ty ⟨g, of, none⟩).run Try.prog w = .ok (.agg cs) w)
    (k : wpList Try.prog ops Q rest (a.put o.dst (.agg cs)) w) : wpList Try.prog ops Q (o :: rest) a w := by
  refine wpList_plain hgd fun K hK => ?_
  unfold Oper.wp execOp
  simp only [ho, hx, Instr.loadAt, Instr.sureAddr, Sem.run_bind, Sem.run_pure, Result.andThen_ok, hr]
  exact hK _ _ k
theorem Sd.run {w : World} {b o : Nat} {h : Hd} {v : Value} (H : Sd w b o h v) : (loadVar 44 ⟨b, o, none⟩).run Try.prog w = .ok (.agg (shc h v)) w := run_loadVar_at w b o 44 (shc h v) _ H Try.underlying44 rfl size_Sd
theorem Sd.runh {w : World} {b o : Nat} {h : Hd} {v : Value} (H : Sd w b o h v) : (loadVar 33 ⟨b, o, none⟩).run Try.prog w = .ok (.agg h.cs) w := run_loadVar_at w b o 33 h.cs _ (fun j u hj => H j u (shc_at h v j u hj)) Try.underlying33 rfl sizeHd
/-- A shard is read. -/
theorem wpList_ldSd {w : World} {ops : Array Oper} {rest : List Oper} {o : Oper} {a : Act} {Q : Exit → Act → World → Prop} {h : Hd} {v : Value} (hgd : o.guard = none) (x : Operand) (ho : o.op = .load 44 x) (g of : Nat) (hx : a.eval x = .pointer (some ⟨g, of, none⟩)) (H : Sd w g of h v)
    (k : wpList Try.prog ops Q rest (a.put o.dst (.agg (shc h v))) w) : wpList Try.prog ops Q (o :: rest) a w :=
  wpList_ldAt hgd 44 x ho g of hx (shc h v) H.run k
/-- Its head is read. -/
theorem wpList_ldSh {w : World} {ops : Array Oper} {rest : List Oper} {o : Oper} {a : Act} {Q : Exit → Act → World → Prop} {h : Hd} {v : Value} (hgd : o.guard = none) (x : Operand) (ho : o.op = .load 33 x) (g of : Nat) (hx : a.eval x = .pointer (some ⟨g, of, none⟩)) (H : Sd w g of h v)
    (k : wpList Try.prog ops Q rest (a.put o.dst (.agg h.cs)) w) : wpList Try.prog ops Q (o :: rest) a w :=
  wpList_ldAt hgd 33 x ho g of hx h.cs H.runh k
theorem Sd.new (w : World) (h : Hd) (v : Value) : Sd (w.alloc (.cells (shc h v) 44)) w.heap.size 0 h v := by
  intro j u hj
  rw [cell_of_row _ _ _ _ _ (0, 0) (heap_alloc_new w _), Nat.zero_add]
  simpa using hj
/-! Writing. -/
theorem run_storeVar_at {P : Program} (w : World) (g o : Nat) (t ty : TypeId) (old cells : Array Value) (hg : w.heap[g]? = some (.cells old t (0, 0))) (hi : (P.info? ty).map (·.size) = some cells.size)
    (ho : o + cells.size ≤ old.size) (h1 : cells.all (·.oneCell') = true) :
    (storeVar ty ⟨g, o, none⟩ (.agg cells)).run P w = .ok () (w.setRow g (old.toList.take o ++ cells.toList ++ old.toList.drop (o + cells.size)).toArray) := by
  have := run_storeCells_at (P := P) g o t cells.toList 0 old w hg (by simp; omega) (fun v hv => (Array.all_eq_true_iff_forall_mem.1 h1) v (by simpa using hv))
  cases hq : P.info? ty with
  | none => simp [hq] at hi
  | some i =>
    have hs : cells.size = i.size := by simp [hq] at hi; omega
    simp [storeVar, sizeOf, typeInfo, hq, Value.cells, hs, this]
/-- The cells of a list of arrays of 17. -/
def flat (S : Nat → Array Value) (x : Nat) : Value := (S (x / 17)).getD (x % 17) undef
theorem flat_put (S : Nat → Array Value) (i : Nat) (cs : Array Value) (x : Nat) : ovl (flat S) (fun j => cs.getD j undef) (i * 17) 17 x = flat (fun r => if r = i then cs else S r) x := by
  unfold ovl flat
  by_cases h : i * 17 ≤ x ∧ x < i * 17 + 17
  · have e : x / 17 = i := by omega
    rw [if_pos h, e]
    dsimp only
    rw [if_pos rfl]
    congr 1
    omega
  · rw [if_neg h]
    dsimp only
    rw [if_neg (by omega)]
theorem toList_lv (cs : Array Value) (n : Nat) (h : cs.size = n) : cs.toList = lv (fun j => cs.getD j undef) n := by
  apply List.ext_getElem?
  intro j
  by_cases hj : j < n
  · rw [lv_at _ n j hj]
    simp [h, hj]
  · rw [List.getElem?_eq_none (by simp; omega), List.getElem?_eq_none (by rw [lv_len]; omega)]
theorem oper_store_sd {w : World} {o : Oper} {a : Act} {K : Act → World → Prop} {Q : Exit → Act → World → Prop} (x y : Operand) (ho : o.op = .store 44 x y) (hd : o.dst = none)
    (g i n : Nat) (cells : Array Value) (hx : a.eval x = .pointer (some ⟨g, i * 17, none⟩)) (hy : a.eval y = .agg cells) (hc : cells.size = 17) (h1 : cells.all (·.oneCell') = true)
    (t : TypeId) (S : Nat → Array Value) (hO : Ov w t g (flat S) (n * 17)) (hin : i < n)
    (h : ∀ w', Ov w' t g (flat (fun r => if r = i then cells else S r)) (n * 17) → But g w w' → K a w') : o.wp Try.prog a w K Q := by
  have hr := run_storeVar_at (P := Try.prog) w g (i * 17) t 44 (rv (flat S) (n * 17)) cells hO (by rw [size_Sd, hc]) (by rw [rv_size, hc]; omega) h1
  unfold Oper.wp execOp
  simp only [ho, hx, hy, Instr.storeAt, Instr.sureAddr, Sem.run_bind, Sem.run_pure, Result.andThen_ok, hr]
  have e : a.put o.dst undef = a := by rw [hd]; rfl
  show K (a.put o.dst undef) _
  rw [e]
  refine h _ ?_ (But.setRow _)
  unfold Ov
  rw [setRow_heap w g _ _ t _ hO, hc, toList_lv cells 17 hc, ovl_rv _ _ _ _ _ (show i * 17 + 17 ≤ n * 17 by omega), rv_congr (fun x _ => flat_put S i cells x)]
theorem wpList_stSd {w : World} {ops : Array Oper} {rest : List Oper} {o : Oper} {a : Act} {Q : Exit → Act → World → Prop} (hgd : o.guard = none) (x y : Operand) (ho : o.op = .store 44 x y) (hd : o.dst = none)
    (g i n : Nat) (cells : Array Value) (hx : a.eval x = .pointer (some ⟨g, i * 17, none⟩)) (hy : a.eval y = .agg cells) (hc : cells.size = 17) (h1 : cells.all (·.oneCell') = true)
    (t : TypeId) (S : Nat → Array Value) (hO : Ov w t g (flat S) (n * 17)) (hin : i < n)
    (h : ∀ w', Ov w' t g (flat (fun r => if r = i then cells else S r)) (n * 17) → But g w w' → wpList Try.prog ops Q rest a w') : wpList Try.prog ops Q (o :: rest) a w :=
  wpList_plain hgd fun _ hK => oper_store_sd x y ho hd g i n cells hx hy hc h1 t S hO hin (fun w' h1 h2 => hK _ _ (h w' h1 h2))
theorem step_stSd {ops : Array Oper} {o : Oper} {a : Act} {w : World} {K : Act → World → Prop} {Q : Exit → Act → World → Prop} {E : Prop} (hgd : o.guard = none) (x y : Operand) (ho : o.op = .store 44 x y) (hd : o.dst = none)
    (g i n : Nat) (cells : Array Value) (hx : a.eval x = .pointer (some ⟨g, i * 17, none⟩)) (hy : a.eval y = .agg cells) (hc : cells.size = 17) (h1 : cells.all (·.oneCell') = true)
    (t : TypeId) (S : Nat → Array Value) (hO : Ov w t g (flat S) (n * 17)) (hin : i < n)
    (h : ∀ w', Ov w' t g (flat (fun r => if r = i then cells else S r)) (n * 17) → But g w w' → K a w') : if Region.wanted o (yielded ops a.tmps) = true then Oper.wp Try.prog o a w K Q else E := by
  have hw : Region.wanted o (yielded ops a.tmps) = true := by simp [Region.wanted, hgd]
  rw [if_pos hw]
  exact oper_store_sd x y ho hd g i n cells hx hy hc h1 t S hO hin h
theorem step_ldHd {ops : Array Oper} {o : Oper} {a : Act} {w : World} {K : Act → World → Prop} {Q : Exit → Act → World → Prop} {E : Prop} {h : Hd} (hgd : o.guard = none) (x : Operand) (ho : o.op = .load 33 x) (g : Nat) (hx : a.eval x = .pointer (some ⟨g, 0, none⟩)) (H : HdAt w g h)
    (k : K (a.put o.dst (.agg h.cs)) w) : if Region.wanted o (yielded ops a.tmps) = true then Oper.wp Try.prog o a w K Q else E := by
  have hw : Region.wanted o (yielded ops a.tmps) = true := by simp [Region.wanted, hgd]
  rw [if_pos hw]
  unfold Oper.wp execOp
  simp only [ho, hx, Instr.loadAt, Instr.sureAddr, Sem.run_bind, Sem.run_pure, Result.andThen_ok, run_loadVar_at w g 0 33 h.cs _ (fun j v hj => by rw [Nat.zero_add, cell_of_row _ _ _ _ _ (0, 0) H]; simpa using hj) Try.underlying33 rfl sizeHd]
  exact k
theorem built_sd (h : Hd) (p : Option Addr) (n c : Nat) : Try.prog.built 44 [(0, .agg h.cs), (1, .slice p n c)] = some (shc h (.slice p n c)) := by kernel_rfl
theorem step_build {ops : Array Oper} {o : Oper} {a : Act} {w : World} {K : Act → World → Prop} {Q : Exit → Act → World → Prop} {E : Prop} (hgd : o.guard = none) (t : TypeId) (parts : Array (Nat × Operand)) (ho : o.op = .build t parts) (cells : Array Value)
    (hf : Try.prog.built t (parts.map fun (i, x) => (i, a.eval x)).toList = some cells)
    (h : K (a.put o.dst (.agg cells)) w) : if Region.wanted o (yielded ops a.tmps) = true then Oper.wp Try.prog o a w K Q else E := by
  have hw : Region.wanted o (yielded ops a.tmps) = true := by simp [Region.wanted, hgd]
  rw [if_pos hw]
  exact wp_build t parts ho (by rw [hf]; rfl) (by rw [hf]; exact h)
theorem run_cutb (args : Array Value) (w : World) : (callFunc 17 args).run Try.prog w = .ok (.enter 17 args) w := by kernel_rfl
theorem step_cutb {ops : Array Oper} {dst : Option Tmp} {ty : TypeId} {pos : String} {after : Array Edge} {xs : Array Operand} {ats : Array TypeId} {a : Act} {w : World} {K : Act → World → Prop} {Q : Exit → Act → World → Prop} {E : Prop}
    (args : Array Value) (hargs : xs.map a.eval = args) (h : Calls Try.prog 17 args w fun e w' => ∃ v, e = .returned v ∧ K (a.put dst v) w') :
    if Region.wanted { dst := dst, op := .call { callee := .value (.func 17), args := xs, argTypes := ats }, type := ty, pos := pos, after := after, guard := none } (yielded ops a.tmps) = true
      then Oper.wp Try.prog { dst := dst, op := .call { callee := .value (.func 17), args := xs, argTypes := ats }, type := ty, pos := pos, after := after, guard := none } a w K Q else E := by
  have hw : Region.wanted { dst := dst, op := .call { callee := .value (.func 17), args := xs, argTypes := ats }, type := ty, pos := pos, after := after, guard := none } (yielded ops a.tmps) = true := by simp [Region.wanted]
  rw [if_pos hw]
  unfold Oper.wp
  rw [execOp_call_go, run_cutb, Oper.upon_enter]
  have e : #[] ++ xs.map a.eval ++ #[] = args := by rw [hargs]; simp
  rw [e]
  refine h.mono ?_
  rintro e w' ⟨v, rfl, hk⟩
  exact hk
theorem infoSd : (Try.prog.info? 44).map (fun i => (i.zero, i.size)) = some (some (.agg (shc hd0 (.slice none 0 0))), 17) := by kernel_rfl
theorem bytesSd : (Try.prog.info? 44).map (fun i => decide (i.bytes ≤ 1000)) = some true := by kernel_rfl
theorem made_flat (cs : Array Value) (h : cs.size = 17) (n : Nat) : madeCells cs (n * 17) = rv (flat (fun _ => cs)) (n * 17) := by
  apply Array.ext_getElem?
  intro i
  unfold madeCells
  by_cases hi : i < n * 17
  · rw [rv_get _ _ i hi]
    have : i % 17 < 17 := Nat.mod_lt _ (by omega)
    simp [hi, flat, h, this]
  · rw [Array.getElem?_eq_none (by simp; omega), Array.getElem?_eq_none (by rw [rv_size]; omega)]
theorem makeSd (n : Nat) (hn : n ≤ 1000000) (w : World) : (Instr.makeSlice 36 (.int .i64 (n : Int)) (.int .i64 (n : Int))).run Try.prog w = .ok (.slice (some ⟨w.heap.size, 0, none⟩) n n) (w.alloc (.cells (rv (flat (fun _ => shc hd0 (.slice none 0 0))) (n * 17)) 44)) := by
  have h1 := infoSd
  have h2 := bytesSd
  cases hq : Try.prog.info? 44 with
  | none => rw [hq] at h1; cases h1
  | some i =>
    rw [hq] at h1 h2
    simp only [Option.map_some, Option.some.injEq, Prod.mk.injEq, decide_eq_true_eq] at h1 h2
    have hb : (i.bytes : Int) * (n : Int) ≤ 281474976710656 := by
      rw [← Int.natCast_mul]
      have := Nat.mul_le_mul h2 hn
      omega
    have hr := run_make (P := Try.prog) w 36 44 i _ Try.underlying36 hq h1.1 .i64 .i64 (n : Int) (n : Int) (by omega) (by omega) hb (by omega)
    rw [hr, h1.2, Int.toNat_natCast]
    show Result.ok _ (w.alloc (.cells (madeCells (shc hd0 (.slice none 0 0)) (n * 17)) _)) = _
    rw [made_flat _ rfl]
theorem ov_sds {w : World} {t : TypeId} {g n : Nat} {S : Nat → Array Value} {hs : Nat → Hd} {vs : Nat → Value} (h : Ov w t g (flat S) (n * 17)) (e : ∀ i, i < n → S i = shc (hs i) (vs i)) : Sds w (.slice (some ⟨g, 0, none⟩) n n) n hs vs := by
  refine ⟨_, _, rfl, Nat.le_refl _, fun _ => ⟨g, 0, rfl, fun i hi j u hj => ?_⟩⟩
  have hjs : j < 17 := by
    rcases Nat.lt_or_ge j (shc (hs i) (vs i)).toList.length with h1 | h1
    · exact h1
    · rw [List.getElem?_eq_none h1] at hj; cases hj
  rw [Nat.zero_add, h.cell (i := i * 17 + j) (by omega)]
  unfold flat
  rw [show (i * 17 + j) / 17 = i by omega, show (i * 17 + j) % 17 = j by omega, e i hi]
  rw [Array.getElem?_toList] at hj
  simp [Array.getD_eq_getD_getElem?, hj]
theorem HdAt.size {w : World} {g : Nat} {h : Hd} (H : HdAt w g h) (z : Int) : HdAt (w.setCell ⟨g, 12, none⟩ (.int .i64 z)) g { h with sz := z } := by
  unfold HdAt at *
  rw [heap_setCell_same w g 12 _ _ _ H]
  rfl
theorem HdAt.index {w : World} {g : Nat} {h : Hd} (H : HdAt w g h) (z : Int) : HdAt (w.setCell ⟨g, 13, none⟩ (.int .i64 z)) g { h with ix := z } := by
  unfold HdAt at *
  rw [heap_setCell_same w g 13 _ _ _ H]
  rfl
theorem HdAt.frozen {w : World} {g : Nat} {h : Hd} (H : HdAt w g h) (i : Nat) : w.frozen? ⟨g, i, none⟩ = false := frozen_of_row w g i _ _ H
theorem HdAt.but {w w' : World} {g g' : Nat} {h : Hd} (H : HdAt w g h) (hb : But g' w w') (hne : g ≠ g') : HdAt w' g h := by
  unfold HdAt at *; rw [hb.ot g (HdAt.lt H) hne]; exact H
end Go.Proofs.Ytgokkppojhokbaa
