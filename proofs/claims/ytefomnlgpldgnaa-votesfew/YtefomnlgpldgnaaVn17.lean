/-
  Layer 17's laws: 'one'.
-/
import Derived.Test.YtefomnlgpldgnaaVl17
import Derived.Test.YtefomnlgpldgnaaHq17
namespace Go.Proofs.Ytefomnlgpldgnaa
open Go.RowKit
section
variable {w : World} {ops : Array Oper} {rest : List Oper} {o : Oper} {a : Act} {Q : Exit → Act → World → Prop}
theorem wpList_ldG (hw : Region.wanted o (yielded ops a.tmps) = true) (ty : TypeId) (x : Operand) (ho : o.op = .load ty x) (g of : Nat) (hx : a.eval x = .pointer (some ⟨g, of, none⟩)) (cs : Array Value) (hr : (loadVar ty ⟨g, of, none⟩).run Try.prog w = .ok (.agg cs) w)
    (k : wpList Try.prog ops Q rest (a.put o.dst (.agg cs)) w) : wpList Try.prog ops Q (o :: rest) a w := by
  refine wpList_step fun K hK => ?_
  rw [if_pos hw]
  unfold Oper.wp execOp
  simp only [ho, hx, Instr.loadAt, Instr.sureAddr, Sem.run_bind, Sem.run_pure, Result.andThen_ok, hr]
  exact hK _ _ k
theorem wpList_binG (hw : Region.wanted o (yielded ops a.tmps) = true) {op : BinOp} {t t2 : TypeId} (x y : Operand) {u v r : Value} (ho : o.op = .binOp op t x y t2) (hx : a.eval x = u) (hy : a.eval y = v) (hg : (eqGuard op t x y u v).run Try.prog w = .ok () w) (h : (binOp op t u v).run Try.prog w = .ok r w)
    (k : wpList Try.prog ops Q rest (a.put o.dst r) w) : wpList Try.prog ops Q (o :: rest) a w := by
  refine wpList_step fun K hK => ?_
  rw [if_pos hw]
  unfold Oper.wp
  rw [ex_bin ho hx hy hg h]
  exact hK _ _ k
end
theorem eg_Hd (x y : Operand) (u v : Array Value) (w : World) : (eqGuard .neq 33 x y (.agg u) (.agg v)).run Try.prog w = .ok () w := by kernel_rfl
theorem size_Hd (h : Hd) : (Try.prog.info? 33).map (·.size) = some h.cs.size := by
  show (Try.prog.info? 33).map (·.size) = some 16
  kernel_rfl
theorem SnAt.hrun {w : World} {g : Nat} {s : Sn} (H : SnAt w g 0 s) : (loadVar 33 ⟨g, 1, none⟩).run Try.prog w = .ok (.agg s.hd.cs) w := by
  refine run_loadVar_at w g 1 33 s.hd.cs _ (fun j u hj => ?_) Try.underlying33 rfl (size_Hd _)
  have hl : j < 16 := by
    rcases Nat.lt_or_ge j 16 with h | h
    · exact h
    · rw [List.getElem?_eq_none (by exact h)] at hj; cases hj
  have h := H (j + 1) u (by
    rw [← hj]
    unfold Sn.cs Hd.cs
    match j, hl with
    | 0, _ => rfl
    | 1, _ => rfl
    | 2, _ => rfl
    | 3, _ => rfl
    | 4, _ => rfl
    | 5, _ => rfl
    | 6, _ => rfl
    | 7, _ => rfl
    | 8, _ => rfl
    | 9, _ => rfl
    | 10, _ => rfl
    | 11, _ => rfl
    | 12, _ => rfl
    | 13, _ => rfl
    | 14, _ => rfl
    | 15, _ => rfl)
  rw [Nat.zero_add] at h
  rw [Nat.add_comm 1 j]; exact h
theorem neq_same (h : Hd) (w : World) : (binOp .neq 33 (.agg h.cs) (.agg h.cs)).run Try.prog w = .ok (.bool false) w := by
  rw [neq_head, (hq_iff h h).2 rfl]; rfl
section
attribute [local irreducible] Calls Sn.cs GB Hd.cs el
end
end Go.Proofs.Ytefomnlgpldgnaa
