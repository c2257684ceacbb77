/-
  The document's own functions of layer 17: Judge, SameVerdict.
-/
import Derived.Test.YtefomnlgpldgnaaVw17
import Derived.Test.YtefomnlgpldgnaaVr17
namespace Go.Proofs.Ytefomnlgpldgnaa
open Go.RowKit
theorem step_stV {ops : Array Oper} {o : Oper} {a : Act} {w : World} {K : Act → World → Prop} {Q : Exit → Act → World → Prop} {E : Prop} (kv : Int) (k : Wg) (v : Value) (hv : v.oneCell' = true) (hgd : o.guard = none) (x y : Operand) (ho : o.op = .store 42 x y) (hd : o.dst = none) (g : Nat) (hx : a.eval x = .pointer (some ⟨g, 0, none⟩)) (hy : a.eval y = .agg (vdC kv k v)) (H : GB w g 42 (vdC 0 (0, 0, 0) (.slice none 0 0)))
    (h : ∀ w', GB w' g 42 (vdC kv k v) → w.grownBy w' (some g) → K a w') : if Region.wanted o (yielded ops a.tmps) = true then Oper.wp Try.prog o a w K Q else E := by
  have hw : Region.wanted o (yielded ops a.tmps) = true := by simp [Region.wanted, hgd]
  rw [if_pos hw]
  have hr := run_storeVar_row (P := Try.prog) w g 42 42 (vdC 0 (0, 0, 0) (.slice none 0 0)) (vdC kv k v) H size_Vd rfl (vdC_one _ _ _ hv)
  unfold Oper.wp execOp
  simp only [ho, hx, hy, Instr.storeAt, Instr.sureAddr, Sem.run_bind, Sem.run_pure, Result.andThen_ok, hr]
  have e : a.put o.dst undef = a := by rw [hd]; rfl
  show K (a.put o.dst undef) _
  rw [e]
  refine h _ ?_ ⟨rfl, rfl, rfl, by simp, fun k _ hk => setRow_other w g k _ (fun e => hk (by rw [e]))⟩
  unfold GB at H ⊢
  exact setRow_heap w g _ _ _ _ H
theorem gb_sh {w : World} {g : Nat} {k m b : Int} (H : GB w g 23 (shC k m b)) : w.cell? ⟨g, 0, none⟩ = some (.int .i64 k) ∧ w.cell? ⟨g, 1, none⟩ = some (.int .i64 m) := ⟨H.cell 0, H.cell 1⟩
theorem Ax.at {w : World} {B : Nat} {es : List (Wg × Sl3)} {L : List Grp} (h : Ax w B es L) {i : Nat} (hi : i < L.length) : On w B (slv (es.getD i ((0, 0, 0), (0, 0, 0))).2) (L.getD i ((0, 0, 0), [])).2 := (h.2 i hi).2
theorem fitB_no {k m b : Int} {n : Nat} (h : shB k m b = false) : fitB k m b n = false := by unfold fitB; rw [h]; rfl
theorem fitB_yes {k m b : Int} {n : Nat} (h : shB k m b = true) : fitB k m b n = decide ((n : Int) = k + m) := by unfold fitB; rw [h]; rfl
section
attribute [local irreducible] Calls GB On Ax slv grE grps shC
end
end Go.Proofs.Ytefomnlgpldgnaa
