/-
  LabelOne: the walk.
-/
import Derived.Test.YtpmcdkijlpcmeaaMk15
import Derived.Test.YtpmcdkijlpcmeaaRl15
namespace Go.Proofs.Ytpmcdkijlpcmeaa
open Go.RowKit Go.Maps
theorem wpList_ldLg {w : World} {ops : Array Oper} {rest : List Oper} {o : Oper} {a : Act} {Q : Exit → Act → World → Prop} {h : Lbl} (hw : Region.wanted o (yielded ops a.tmps) = true) (x : Operand) (ho : o.op = .load 26 x) (g : Nat) (hx : a.eval x = .pointer (some ⟨g, 0, none⟩)) (H : LbAt w g h)
    (k : wpList Try.prog ops Q rest (a.put o.dst (.agg h.cs)) w) : wpList Try.prog ops Q (o :: rest) a w := by
  refine wpList_step fun K hK => ?_
  rw [if_pos hw]
  unfold Oper.wp execOp
  simp only [ho, hx, Instr.loadAt, Instr.sureAddr, Sem.run_bind, Sem.run_pure, Result.andThen_ok, run_loadLb H]
  exact hK _ _ k
theorem ok_in (h : Lbl) (ok : h.Ok) : h.In := by
  obtain ⟨⟩ := ok
  exact ⟨⟨by omega, by omega⟩, ⟨by omega, by omega⟩, ⟨by omega, by omega⟩, ⟨by omega, by omega⟩, ⟨by omega, by omega⟩⟩
theorem eql_lb00 (w : World) : (binOp .eql 26 (.agg lb0.cs) (.agg #[.int .u8 0, .int .u8 0, .int .u8 0, .int .u8 0, .int .u8 0, .int .u8 0, .int .u8 0, .int .u8 0, .int .i64 0, .int .i64 0, .int .i64 0, .int .i64 0, .int .i64 0])).run Try.prog w = .ok (.bool true) w := by
  have h := eql_lbl lb0 lb0 w
  rw [(lq_iff _ _).2 rfl] at h
  exact h
section
attribute [local irreducible] Calls el Lbl.cs cmo rg smL ar8
set_option maxHeartbeats 4000000 in
set_option maxRecDepth 1000000 in
theorem twin15_any {w : World} {p : Option Addr} {xs : List (BitVec 8)} (h : Rd w p xs) (n c : Nat) (hn : xs.length = n) (hm : n ≤ 140737488355328) : Calls Try.prog 7 #[.slice p n c] w fun e w' => ∃ v, e = .returned v ∧ Ow w' w.heap.size v xs ∧ Below w.heap.size w w' := by
  go_enter Try.func7, Try.ntmps7
  go_wp2_with (at_builtin; refine wpList_cl rfl _ _ rfl rfl p n c xs rfl h hn hm ?_; intro v1 w1 ho1 hb1)
  go_ret
  exact ⟨_, rfl, ho1, hb1⟩
end
end Go.Proofs.Ytpmcdkijlpcmeaa
