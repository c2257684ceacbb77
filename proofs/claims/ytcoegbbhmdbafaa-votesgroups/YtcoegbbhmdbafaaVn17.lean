/-
  Layer 17's laws: 'one'.
-/
import Derived.Test.YtcoegbbhmdbafaaVl17
import Derived.Test.YtcoegbbhmdbafaaHq17
namespace Go.Proofs.Ytcoegbbhmdbafaa
open Go.RowKit
section
variable {w : World} {ops : Array Oper} {rest : List Oper} {o : Oper} {a : Act} {Q : Exit → Act → World → Prop}
theorem wpList_ldG (hw : Region.wanted o (yielded ops a.tmps) = true) (ty : TypeId) (x : Operand) (ho : o.op = .load ty x) (g of : Nat) (hx : a.eval x = .pointer (some ⟨g, of, none⟩)) (cs : Array Value) (hr : (loadVar ty ⟨g, of, none⟩).run Try.prog w = .ok (.agg cs) w)
    (k : wpList Try.prog ops Q rest (a.put o.dst (.agg cs)) w) : wpList Try.prog ops Q (o :: rest) a w := by
  refine wpList_step fun K hK => ?_
  rw [if_pos hw]
  unfold Oper.wp execOp
  simp only [ho, hx, Instr.loadAt, Instr.sureAddr, Sem.run_bind, Sem.run_pure, Result.andThen_ok, hr]
  exact hK _ _ k
theorem wpList_binG (hw : Region.wanted o (yielded ops a.tmps) = true) {op : BinOp} {t t2 : TypeId} (x y : Operand) {u v r : Value} (ho : o.op = .binOp op t x y t2) (hx : a.eval x = u) (hy : a.eval y = v) (hg : (eqGuard op t x y u v).run Try.prog w = .ok () w) (h : (binOp op t u v).run Try.prog w = .ok r w)
    (k : wpList Try.prog ops Q rest (a.put o.dst r) w) : wpList Try.prog ops Q (o :: rest) a w := by
  refine wpList_step fun K hK => ?_
  rw [if_pos hw]
  unfold Oper.wp
  rw [ex_bin ho hx hy hg h]
  exact hK _ _ k
end
theorem eg_Hd (x y : Operand) (u v : Array Value) (w : World) : (eqGuard .neq 52 x y (.agg u) (.agg v)).run Try.prog w = .ok () w := by kernel_rfl
theorem size_Hd (h : Hd) : (Try.prog.info? 52).map (·.size) = some h.cs.size := by
  show (Try.prog.info? 52).map (·.size) = some 16
  kernel_rfl
theorem SnAt.hrun {w : World} {g : Nat} {s : Sn} (H : SnAt w g 0 s) : (loadVar 52 ⟨g, 1, none⟩).run Try.prog w = .ok (.agg s.hd.cs) w := by
  refine run_loadVar_at w g 1 52 s.hd.cs _ (fun j u hj => ?_) Try.underlying52 rfl (size_Hd _)
  have hl : j < 16 := by
    rcases Nat.lt_or_ge j 16 with h | h
    · exact h
    · rw [List.getElem?_eq_none (by exact h)] at hj; cases hj
  have h := H (j + 1) u (by
    rw [← hj]
    unfold Sn.cs Hd.cs
    match j, hl with
    | 0, _ => rfl
    | 1, _ => rfl
    | 2, _ => rfl
    | 3, _ => rfl
    | 4, _ => rfl
    | 5, _ => rfl
    | 6, _ => rfl
    | 7, _ => rfl
    | 8, _ => rfl
    | 9, _ => rfl
    | 10, _ => rfl
    | 11, _ => rfl
    | 12, _ => rfl
    | 13, _ => rfl
    | 14, _ => rfl
    | 15, _ => rfl)
  rw [Nat.zero_add] at h
  rw [Nat.add_comm 1 j]; exact h
theorem neq_same (h : Hd) (w : World) : (binOp .neq 52 (.agg h.cs) (.agg h.cs)).run Try.prog w = .ok (.bool false) w := by
  rw [neq_head, (hq_iff h h).2 rfl]; rfl
section
attribute [local irreducible] Calls Sn.cs GB Hd.cs el
set_option maxHeartbeats 16000000 in
set_option maxRecDepth 1000000 in
theorem one_any (s : Sn) (v1 : Value) {w : World} {p1 p2 : Option Addr} {c1 c2 : Nat} {bl : List (List (BitVec 8))} (h1 : v1 = .slice p1 bl.length c1) (h2 : s.bv = .slice p2 bl.length c2) (R1 : Rws w p1 bl) (R2 : Rws w p2 bl) (hl : bl.length ≤ 5864062014634) :
    Calls Try.prog 38 #[.agg ({ s with bv := v1 } : Sn).cs, .agg s.cs] w fun e w' => e = .returned (.bool true) ∧ Below w.heap.size w w' := by
  subst h1
  have HR1 := (show Hid (Rws w p1 bl) from R1)
  have HR2 := (show Hid (Rws w p2 bl) from R2)
  have HL := (show Hid (bl.length ≤ 5864062014634) from hl)
  have HB := (show Hid (s.bv = .slice p2 bl.length c2) from h2)
  have nk : (s.kd != s.kd) = false := by simp
  have ne : (s.er != s.er) = false := by simp
  obtain ⟨L, hL⟩ : ∃ L, L = bl.length := ⟨_, rfl⟩
  have nl : ((L : Int) != (L : Int)) = false := by simp
  rw [← hL]
  have HLL := (show Hid (L = bl.length) from hL)
  clear R1 R2 hl h2 hL
  go_enter Try.func38, Try.ntmps38
  go_wp2_with (first
    | (refine wpList_bxB (cs := ({ s with bv := .slice p1 L c1 } : Sn).cs) rfl _ rfl rfl ?_; intro w1 hG1 hb1 hs1)
    | (revert hG1; intro hG1; refine wpList_bxB (cs := s.cs) rfl _ rfl rfl ?_; intro w2 hG2 hb2 hs2; have A1 := SnAt.ofB (hG1.below hb2); have A2 := SnAt.ofB hG2; have k1 := A1.cells.kd; have k2 := A2.cells.kd; have e1 := A1.cells.er; have e2 := A2.cells.er; have b1 := A1.cells.bv; have b2 := A2.cells.bv; rw [HB.out, ← HLL.out] at b2; simp only [Nat.zero_add] at e1 e2 b1 b2; have r1 := A1.hrun; have r2 := A2.hrun)
    | (refine wpList_ldG (by rfl) _ _ rfl w.heap.size 1 rfl _ r1 ?_)
    | (refine wpList_ldG (by rfl) _ _ rfl w1.heap.size 1 rfl _ r2 ?_)
    | (refine wpList_binG (by rfl) _ _ rfl rfl rfl (eg_Hd _ _ _ _ _) (neq_same s.hd _) ?_))
  have HB2 := (show Hid (Below w.heap.size w w2) from bt hb1 hb2)
  have C1 := (show Hid (w2.cell? ⟨w.heap.size, 17, none⟩ = some (.slice p1 L c1)) from b1)
  have C2 := (show Hid (w2.cell? ⟨w1.heap.size, 17, none⟩ = some (.slice p2 L c2)) from b2)
  clear nk ne nl r1 r2 b1 b2 e1 e2 k1 k2 A1 A2 hG1 hG2 hb1 hb2
  go_loopw [5] (fun i wr => ∃ t : Nat, t ≤ L ∧ i = .int .i64 (t : Int) ∧ Hid (Below w2.heap.size w2 wr)) (fun i _ => L - (intOf i).toNat)
  case atStart => exact ⟨0, Nat.zero_le _, rfl, Below.refl _ _⟩
  case round =>
    obtain ⟨t, ht, rfl, hB⟩ := hrel
    have d1 := cell_below C1.out hB.out
    have d2 := cell_below C2.out hB.out
    by_cases hlt : t < L
    · have hi : (t : Int) < (L : Int) := by omega
      obtain ⟨g1, o1, q1, m1, rfl, hr1, _, hd1⟩ := Rws.row ((HR1.out.below HB2.out).below hB.out) t (by rw [← HLL.out]; exact hlt)
      obtain ⟨g2, o2, q2, m2, rfl, hr2, _, hd2⟩ := Rws.row ((HR2.out.below HB2.out).below hB.out) t (by rw [← HLL.out]; exact hlt)
      have WT := (show Hid (wrap64 ((t : Int) + 1) = ((t + 1 : Nat) : Int)) from by have := HL.out; have := HLL.out; show _ = _; unfold wrap64; omega)
      have HT := (show Hid (t < L) from hlt)
      generalize bl.getD t [] = x at *
      have hbd : Below wr.heap.size wr wr.drew := (Below.refl _ _).drew
      have HBd := (show Hid (Below w2.heap.size w2 wr.drew) from bt hB.out hbd)
      obtain ⟨d, hd⟩ : ∃ d, x.length = d := ⟨_, rfl⟩
      have KS := (show Hid (_ ∧ _ ∧ _ ∧ _ ∧ _ ∧ _) from ⟨cell_below d1 hbd, cell_below d2 hbd, cell_below hr1 hbd, cell_below hr2 hbd, conv_rd (hd1.below hbd) d m1 hd, conv_rd (hd2.below hbd) d m2 hd⟩)
      rw [hd] at KS hr1 hr2
      have SQ : ((bstr x).toList == (bstr x).toList) = true := by simp
      clear hd hd1 hd2 hlt ht
      go_wp2_with (fail)
      go_region_held3 (fun X => X.cell? ⟨w.heap.size, 17, none⟩ = some (.slice (some ⟨g1, o1, none⟩) L c1) ∧ X.cell? ⟨w1.heap.size, 17, none⟩ = some (.slice (some ⟨g2, o2, none⟩) L c2) ∧ X.cell? ⟨g1, o1 + t, none⟩ = some (.slice q1 d m1) ∧ X.cell? ⟨g2, o2 + t, none⟩ = some (.slice q2 d m2) ∧ (convert 71 9 (.slice q1 d m1)).run Try.prog X = .ok (.string (bstr x)) X ∧ (convert 71 9 (.slice q2 d m2)).run Try.prog X = .ok (.string (bstr x)) X) (first | exact KS.out | go_keep) (fail)
      all_goals
        go_wp2_with (fail)
        go_roundw
        case rel => exact ⟨t + 1, HT.out, by first | rw [WT.out] | go_num, HBd⟩
        case measure => first | (rw [WT.out]; exact meas_v17 HT.out) | exact meas_v17 HT.out
    · obtain rfl : t = L := by omega
      have hnn : ¬ ((t : Int) < (t : Int)) := by omega
      go_wp2_with (fail)
      go_ret
      exact ⟨rfl, bt HB2.out hB.out⟩
end
end Go.Proofs.Ytcoegbbhmdbafaa
