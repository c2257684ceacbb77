/-
  LabelEncodes, LabelBack: the walks.
-/
import Derived.Test.YtjobaeopokfekaaGreatMk15
import Derived.Test.YtjobaeopokfekaaGreatRn15
namespace Go.Proofs.YtjobaeopokfekaaGreat
open Go.RowKit Go.Maps
theorem enc_len (h : Lbl) : h.enc.length ≤ 31 := by
  unfold Lbl.enc
  split
  · rw [Lbl.fm_len]; exact Nat.le_refl _
  · exact Nat.zero_le _
theorem wpList_ldLg {w : World} {ops : Array Oper} {rest : List Oper} {o : Oper} {a : Act} {Q : Exit → Act → World → Prop} {h : Lbl} (hw : Region.wanted o (yielded ops a.tmps) = true) (x : Operand) (ho : o.op = .load 27 x) (g : Nat) (hx : a.eval x = .pointer (some ⟨g, 0, none⟩)) (H : LbAt w g h)
    (k : wpList Tryz.prog ops Q rest (a.put o.dst (.agg h.cs)) w) : wpList Tryz.prog ops Q (o :: rest) a w := by
  refine wpList_step fun K hK => ?_
  rw [if_pos hw]
  unfold Oper.wp execOp
  simp only [ho, hx, Instr.loadAt, Instr.sureAddr, Sem.run_bind, Sem.run_pure, Result.andThen_ok, run_loadLb H]
  exact hK _ _ k
theorem ck_no (h : Lbl) (h0 : h.ck ≠ 0) : h.ck = 4 ∨ h.ck = 2 := by
  unfold Lbl.ck at h0 ⊢
  split
  · exact .inl rfl
  · rename_i g1
    rw [if_neg g1] at h0
    split
    · exact .inr rfl
    · rename_i g2
      rw [if_neg g2] at h0
      split
      · exact .inr rfl
      · rename_i g3
        rw [if_neg g3] at h0
        exact absurd rfl h0
section
attribute [local irreducible] Calls el Lbl.cs cmo rg smL ar8
end
end Go.Proofs.YtjobaeopokfekaaGreat
