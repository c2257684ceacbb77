/-
  Stripe: heads and shards in blocks of their own.
-/
import Derived.Test.YtgokkppojhokbaaJh10
import Derived.Test.YtgokkppojhokbaaBl10
namespace Go.Proofs.Ytgokkppojhokbaa
open Go.RowKit
theorem zero_hd (w : World) : (zeroValue 33).run Try.prog w = .ok (.agg hd0.cs) w := by kernel_rfl
theorem zero_sd (w : World) : (zeroValue 44).run Try.prog w = .ok (.agg (shc hd0 (.slice none 0 0))) w := by kernel_rfl
theorem wpList_alHd {w : World} {ops : Array Oper} {rest : List Oper} {o : Oper} {a : Act} {Q : Exit → Act → World → Prop} (hgd : o.guard = none) (ho : o.op = .alloc 33)
    (h : ∀ w', HdAt w' w.heap.size hd0 → Below w.heap.size w w' → w'.heap.size = w.heap.size + 1 → wpList Try.prog ops Q rest (a.put o.dst (.pointer (some ⟨w.heap.size, 0, none⟩))) w') : wpList Try.prog ops Q (o :: rest) a w := by
  refine wpList_plain hgd fun K hK => ?_
  have h2 := h (w.alloc (.cells hd0.cs 33)) (HdAt.new w hd0) ((Below.refl _ _).alloc (Nat.le_refl _) _) (by simp)
  unfold Oper.wp execOp
  simp only [ho, Sem.run_bind, Instr.alloc, newVar, newRow, zero_hd, run_newObj_alloc, Sem.run_pure, Result.andThen_ok, Value.cells]
  exact hK _ _ h2
theorem wpList_stHd {w : World} {ops : Array Oper} {rest : List Oper} {o : Oper} {a : Act} {Q : Exit → Act → World → Prop} {h0 : Hd} (h : Hd) (hgd : o.guard = none) (x y : Operand) (ho : o.op = .store 33 x y) (hd : o.dst = none) (g : Nat) (hx : a.eval x = .pointer (some ⟨g, 0, none⟩)) (hy : a.eval y = .agg h.cs) (H : HdAt w g h0)
    (k : ∀ w', HdAt w' g h → But g w w' → wpList Try.prog ops Q rest a w') : wpList Try.prog ops Q (o :: rest) a w := by
  refine wpList_store_rowTo hgd 33 x y ho hd g h.cs hx hy 33 h0.cs H sizeHd rfl (hcs_all h) ?_
  refine k _ ?_ (But.setRow _)
  unfold HdAt at H ⊢
  exact setRow_heap w g _ _ _ _ H
/-- A shard alone in its block. -/
def SdB (w : World) (g : Nat) (h : Hd) (v : Value) : Prop := w.heap[g]? = some (.cells (shc h v) 44)
theorem SdB.sd {w : World} {g : Nat} {h : Hd} {v : Value} (H : SdB w g h v) : Sd w g 0 h v := by
  intro j u hj
  unfold SdB at H
  rw [cell_of_row _ _ _ _ _ (0, 0) H, Nat.zero_add]
  simpa using hj
theorem wpList_alSB {w : World} {ops : Array Oper} {rest : List Oper} {o : Oper} {a : Act} {Q : Exit → Act → World → Prop} (hgd : o.guard = none) (ho : o.op = .alloc 44)
    (h : ∀ w', SdB w' w.heap.size hd0 (.slice none 0 0) → Below w.heap.size w w' → w'.heap.size = w.heap.size + 1 → wpList Try.prog ops Q rest (a.put o.dst (.pointer (some ⟨w.heap.size, 0, none⟩))) w') : wpList Try.prog ops Q (o :: rest) a w := by
  refine wpList_plain hgd fun K hK => ?_
  have h2 := h (w.alloc (.cells (shc hd0 (.slice none 0 0)) 44)) (heap_alloc_new w _) ((Below.refl _ _).alloc (Nat.le_refl _) _) (by simp)
  unfold Oper.wp execOp
  simp only [ho, Sem.run_bind, Instr.alloc, newVar, newRow, zero_sd, run_newObj_alloc, Sem.run_pure, Result.andThen_ok, Value.cells]
  exact hK _ _ h2
theorem wpList_stSB {w : World} {ops : Array Oper} {rest : List Oper} {o : Oper} {a : Act} {Q : Exit → Act → World → Prop} {h0 : Hd} {v0 : Value} (h : Hd) (v : Value) (hv : v.oneCell' = true) (hgd : o.guard = none) (x y : Operand) (ho : o.op = .store 44 x y) (hd : o.dst = none) (g : Nat) (hx : a.eval x = .pointer (some ⟨g, 0, none⟩)) (hy : a.eval y = .agg (shc h v)) (H : SdB w g h0 v0)
    (k : ∀ w', SdB w' g h v → But g w w' → wpList Try.prog ops Q rest a w') : wpList Try.prog ops Q (o :: rest) a w := by
  refine wpList_store_rowTo hgd 44 x y ho hd g (shc h v) hx hy 44 (shc h0 v0) H size_Sd rfl (shc_all h v hv) ?_
  refine k _ ?_ (But.setRow _)
  unfold SdB at H ⊢
  exact setRow_heap w g _ _ _ _ H
theorem res_hd {fn : Func} {p u : Tmp} (h : fn.results = #[.cell p 33, .tmp u]) (tmps : Array Value) (w : World) (g : Nat) (hd : Hd) (e : Value) (hp : tmps.getD p undef = .pointer (some ⟨g, 0, none⟩)) (hu : tmps.getD u undef = e) (H : HdAt w g hd) :
    (results fn tmps).run Try.prog w = .ok (.tuple #[.agg hd.cs, e]) w := by
  have hl := run_loadVar_at (P := Try.prog) w g 0 33 hd.cs _ (fun j v hj => by rw [Nat.zero_add, cell_of_row _ _ _ _ _ (0, 0) H]; simpa using hj) Try.underlying33 rfl sizeHd
  have hp' : tmps[p]?.getD undef = .pointer (some ⟨g, 0, none⟩) := by simpa using hp
  have hu' : tmps[u]?.getD undef = e := by simpa using hu
  simp [results, h, hp', hu', asAddr, hl]
/-- How many are there among the first. -/
def cnth (hs : Nat → Hd) (t : Nat) : Nat := ((List.range t).filter (fun i => thr? (hs i))).length
theorem cnth_succ (hs : Nat → Hd) (t : Nat) : cnth hs (t + 1) = cnth hs t + (if thr? (hs t) = true then 1 else 0) := by
  unfold cnth
  rw [List.range_succ, List.filter_append, List.length_append]
  by_cases h : thr? (hs t) = true
  · simp [h]
  · simp [h]
theorem cnth_le (hs : Nat → Hd) (t : Nat) : cnth hs t ≤ t := by
  unfold cnth
  have := List.length_filter_le (fun i => thr? (hs i)) (List.range t)
  rw [List.length_range] at this
  exact this
end Go.Proofs.Ytgokkppojhokbaa
