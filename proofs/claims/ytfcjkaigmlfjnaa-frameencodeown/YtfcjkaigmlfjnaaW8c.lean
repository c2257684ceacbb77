/-
  Strings as bytes; a head within a greater value; 'Encode'.
-/
import Derived.Test.YtfcjkaigmlfjnaaW8b
import Derived.Lib.AppendStr
namespace Go.Proofs.Ytfcjkaigmlfjnaa
open Go.RowKit
theorem strCells_bstr (xs : List (BitVec 8)) : Lib.strCells (bstr xs) = vs (fn xs) xs.length := by
  unfold Lib.strCells
  show (us xs).toArray.toList.map _ = _
  rw [List.toList_toArray]
  apply List.ext_getElem?
  intro i
  by_cases hi : i < xs.length
  · have hu : i < (us xs).length := by rw [us_len]; exact hi
    rw [vs_at _ _ _ hi, List.getElem?_map, List.getElem?_eq_getElem hu]
    simp only [Option.map_some, us_at xs i hu]
    rfl
  · rw [List.getElem?_eq_none (by rw [List.length_map, us_len]; omega), List.getElem?_eq_none (by rw [vs_len]; omega)]
theorem bstr_size (xs : List (BitVec 8)) : (bstr xs).size = xs.length := by show (us xs).toArray.size = _; simp [us]
/-- append(v, s..) where v is a row of its own, s a string. -/
theorem wpList_apS {w : World} {ops : Array Oper} {rest : List Oper} {o : Oper} {a : Act} {Q : Exit → Act → World → Prop} (hgd : o.guard = none) (s x : Operand) (ho : o.op = .call { callee := .builtin .append, args := #[s, x], argTypes := #[35, 9] })
    (base : Nat) (v : Value) (xs : List (BitVec 8)) (hs : a.eval s = v) (hown : Ow w base v xs) (ys : List (BitVec 8)) (hx : a.eval x = .string (bstr ys)) (hm : xs.length + ys.length ≤ 140737488355328) (hbase : base ≤ w.heap.size)
    (h : ∀ v' w', Ow w' base v' (xs ++ ys) → w.grownBy w' v.ownBlock → wpList Try.prog ops Q rest (a.put o.dst v') w') : wpList Try.prog ops Q (o :: rest) a w := by
  obtain ⟨i0, hi, hz0, hz1, hz2⟩ := info_parts info5
  refine Lib.wpList_append_own_string w hgd s x 35 9 ho base 5 i0 Try.underlying35 undS hi hz0 hz1 hz2 v xs.length _ hs hown (bstr ys) hx (by rw [bstr_size]; unfold maxLen; omega) (by rw [bstr_size]; exact hm) hbase ?_
  intro v' w' ho' hg _
  refine h v' w' ?_ hg
  unfold Ow
  rw [List.length_append, vs_fn_app, ← strCells_bstr ys, ← bstr_size ys]
  exact ho'
theorem bytesWorld_below (w : World) (s : ByteArray) : Below w.heap.size w (Lib.bytesWorld w 5 s) := by
  have hg : w.grownBy (Lib.bytesWorld w 5 s) none := ⟨rfl, rfl, rfl, by rw [Lib.bytesWorld_size]; omega, fun k hk _ => Lib.bytesWorld_at_old w 5 s k hk⟩
  exact (Below.refl _ _).grown hg (Nat.le_refl _) (fun _ h => by cases h)
theorem bytesWorld_rd (w : World) (ys : List (BitVec 8)) : Rd (Lib.bytesWorld w 5 (bstr ys)) (some ⟨w.heap.size, 0, none⟩) ys := by
  refine .inr ⟨w.heap.size, 0, rfl, fun i hi => ?_⟩
  rw [Nat.zero_add, Lib.bytesWorld_cell w 5 (bstr ys) i (by rw [bstr_size]; exact hi)]
  have hu : i < (us ys).length := by rw [us_len]; exact hi
  rw [← us_at ys i hu]
  show some (Value.int .u8 (((us ys).toArray.toList.getD i 0).toNat : Int)) = _
  rw [List.toList_toArray]
  simp [List.getD, hu]
/-- A string's bytes in new memory. -/
theorem wpList_cvS {w : World} {ops : Array Oper} {rest : List Oper} {o : Oper} {a : Act} {Q : Exit → Act → World → Prop} (hgd : o.guard = none) (x : Operand) (ho : o.op = .convert 9 35 x) (ys : List (BitVec 8)) (hx : a.eval x = .string (bstr ys))
    (h : ∀ p c w', Rd w' p ys → Below w.heap.size w w' → wpList Try.prog ops Q rest (a.put o.dst (.slice p ys.length c)) w') : wpList Try.prog ops Q (o :: rest) a w := by
  refine wpList_plain hgd fun K hK => ?_
  have hr := Lib.run_convert_string_bytes (P := Try.prog) w 9 35 5 (bstr ys) undS Try.underlying35 und5
  rw [bstr_size] at hr
  unfold Oper.wp execOp
  simp only [ho, hx, hr, Sem.run_bind, Sem.run_pure, Result.andThen_ok]
  exact hK _ _ (h _ _ _ (bytesWorld_rd w ys) (bytesWorld_below w _))
/-- A head's cells at the beginning of a block. -/
def HdIn (w : World) (g : Nat) (h : Hd) : Prop := ∀ j v, h.cs.toList[j]? = some v → w.cell? ⟨g, j, none⟩ = some v
theorem HdIn.below {w w' : World} {g : Nat} {h : Hd} (H : HdIn w g h) (hb : Below w.heap.size w w') : HdIn w' g h := fun j v hj => cell_below (H j v hj) hb
theorem HdIn.cells {w : World} {g : Nat} {h : Hd} (H : HdIn w g h) : w.cell? ⟨g, 8, none⟩ = some (.int .i64 h.k) ∧ w.cell? ⟨g, 9, none⟩ = some (.int .i64 h.m) ∧ w.cell? ⟨g, 10, none⟩ = some (.int .i64 h.b) ∧ w.cell? ⟨g, 11, none⟩ = some (.string (bstr h.key))
    ∧ w.cell? ⟨g, 12, none⟩ = some (.int .i64 h.sz) ∧ w.cell? ⟨g, 13, none⟩ = some (.int .i64 h.ix) ∧ w.cell? ⟨g, 14, none⟩ = some (.int .i64 h.ep) ∧ w.cell? ⟨g, 15, none⟩ = some (.int .i64 h.ct) :=
  ⟨H 8 _ rfl, H 9 _ rfl, H 10 _ rfl, H 11 _ rfl, H 12 _ rfl, H 13 _ rfl, H 14 _ rfl, H 15 _ rfl⟩
theorem run_loadVar_in {P : Program} (w : World) (g : Nat) (ty : TypeId) (cs : Array Value) (d : TypeDesc) (hc : ∀ j v, cs.toList[j]? = some v → w.cell? ⟨g, j, none⟩ = some v)
    (hu : P.underlying ty = some d) (hd : (match d with | .struct _ | .array _ _ => true | _ => false) = true) (hi : (P.info? ty).map (·.size) = some cs.size) :
    (loadVar ty ⟨g, 0, none⟩).run P w = .ok (.agg cs) w := by
  have hl : (loadCells ⟨g, 0, none⟩ cs.toList.length).run P w = .ok cs.toList.toArray w :=
    run_loadCells_list (P := P) w ⟨g, 0, none⟩ cs.toList (fun j v hv => by
      have hadd : (⟨g, 0, none⟩ : Addr).add j = ⟨g, j, none⟩ := by unfold Addr.add; split <;> simp_all
      rw [hadd]
      exact hc j v hv)
  cases hq : P.info? ty with
  | none => simp [hq] at hi
  | some i =>
    have hs : i.size = cs.size := by simpa [hq] using hi
    have hagg : (isAgg ty).run P w = .ok true w := by
      unfold isAgg
      rw [Sem.run_bind, run_underlying hu w]
      cases d <;> simp_all
    simp only [Array.length_toList, Array.toArray_toList] at hl
    simp [loadVar, Sem.run_bind, hagg, sizeOf, typeInfo, hq, hs, hl]
theorem wpList_loadIn {w : World} {ops : Array Oper} {rest : List Oper} {o : Oper} {a : Act} {Q : Exit → Act → World → Prop} {h : Hd} (hgd : o.guard = none) (x : Operand) (ho : o.op = .load 28 x) (g : Nat) (hx : a.eval x = .pointer (some ⟨g, 0, none⟩)) (H : HdIn w g h)
    (k : wpList Try.prog ops Q rest (a.put o.dst (.agg h.cs)) w) : wpList Try.prog ops Q (o :: rest) a w := by
  refine wpList_plain hgd fun K hK => ?_
  unfold Oper.wp execOp
  simp only [ho, hx, Instr.loadAt, Instr.sureAddr, Sem.run_bind, Sem.run_pure, Result.andThen_ok, run_loadVar_in w g 28 h.cs _ H Try.underlying28 rfl sizeHd]
  exact hK _ _ k
/-- A shard's cells. -/
def Hd.sh (h : Hd) (v : Value) : Array Value := h.cs.push v
theorem shIn_new (w : World) (h : Hd) (v : Value) : HdIn (w.alloc (.cells (h.sh v) 31)) w.heap.size h := by
  intro j u hj
  rw [cell_of_row _ _ _ _ _ (0, 0) (heap_alloc_new w _)]
  unfold Hd.sh
  have hj' : j < h.cs.size := by
    rcases Nat.lt_or_ge j h.cs.toList.length with h1 | h1
    · simpa using h1
    · rw [List.getElem?_eq_none h1] at hj; cases hj
  rw [Array.getElem?_push_lt hj']
  simpa [hj'] using hj
theorem shV_new (w : World) (h : Hd) (v : Value) : (w.alloc (.cells (h.sh v) 31)).cell? ⟨w.heap.size, 16, none⟩ = some v := by
  rw [cell_of_row _ _ _ _ _ (0, 0) (heap_alloc_new w _)]
  unfold Hd.sh
  have : h.cs.size = 16 := rfl
  rw [← this, Array.getElem?_push_size]
end Go.Proofs.Ytfcjkaigmlfjnaa
