/-
  Appends in a region that draws its order.
-/
import Derived.Test.YtmcbeikgdcgdcaaKz
import Derived.Deep.RegionLaw
namespace Go.Proofs.Ytmcbeikgdcgdcaa
open Go.RowKit
theorem step_cl {ops : Array Oper} {o : Oper} {a : Act} {w : World} {K : Act → World → Prop} {Q : Exit → Act → World → Prop} {E : Prop} (hgd : o.guard = none) (s x : Operand) (ho : o.op = .call { callee := .builtin .append, args := #[s, x], argTypes := #[22, 22] })
    (hs : a.eval s = .slice none 0 0) (ao : Option Addr) (n c : Nat) (xs : List (BitVec 8)) (hx : a.eval x = .slice ao n c) (hr : Rd w ao xs) (hn : xs.length = n) (hm : n ≤ 140737488355328)
    (h : ∀ v' w', Ow w' w.heap.size v' xs → Below w.heap.size w w' → K (a.put o.dst v') w') : if Region.wanted o (yielded ops a.tmps) = true then Oper.wp Try.prog o a w K Q else E := by
  have hw : Region.wanted o (yielded ops a.tmps) = true := by simp [Region.wanted, hgd]
  rw [if_pos hw]
  obtain ⟨i0, hi, hz0, hz1, hz2⟩ := info_parts info5
  subst hn
  cases ao with
  | none =>
    have hxs : xs = [] := by
      rcases hr with e | ⟨b, off, e, _⟩
      · exact e
      · cases e
    subst hxs
    have hrun := run_append_no (P := Try.prog) (w := w) 22 o.type 5 i0 Try.underlying22 hi c
    unfold Oper.wp
    simp at hx
    simp [execOp, ho, resolve, invoke, builtin, hs, hx, hrun, Result.andThen]
    exact h _ w (Ow.nil _ _) (Below.refl _ _)
  | some ad =>
    have S : ∀ j u, (vs (fn xs) xs.length)[j]? = some u → w.cell? (ad.add j) = some u := by
      rcases hr with e | ⟨b, off, e, hc⟩
      · subst e; intro j u hu; simp [vs] at hu
      · cases e
        exact vs_src hc
    refine wp_append_own w s x 22 ho w.heap.size 5 i0 (.int .u8 0) 1 1 Try.underlying22 hi hz0 hz1 hz2 rfl (by decide) (.slice none 0 0) 0 [] hs (World.ownsRow_nil _ _ _ _) ad xs.length c (vs (fn xs) xs.length) hx (by rw [vs_len, Nat.mul_one]) S (vs_one _ _) (by unfold maxLen; omega) (by omega) (Nat.le_refl _) ?_
    intro v' w' ho' hg _
    refine h v' w' ?_ (below_append (t := 5) (Below.refl _ _) (Nat.le_refl _) hg (World.ownsRow_nil _ _ _ _) (Nat.le_refl _))
    unfold Ow
    simpa using ho'
theorem step_apa {ops : Array Oper} {o : Oper} {a : Act} {w : World} {K : Act → World → Prop} {Q : Exit → Act → World → Prop} {E : Prop} (hgd : o.guard = none) (s x : Operand) (ho : o.op = .call { callee := .builtin .append, args := #[s, x], argTypes := #[22, 22] })
    (base : Nat) (v : Value) (xs : List (BitVec 8)) (hs : a.eval s = v) (hown : Ow w base v xs) (ad : Option Addr) (n c : Nat) (ys : List (BitVec 8)) (hx : a.eval x = .slice ad n c) (hr : Rd w ad ys) (hn : ys.length = n) (hm : xs.length + n ≤ 140737488355328) (hbase : base ≤ w.heap.size)
    (h : ∀ v' w', Ow w' base v' (xs ++ ys) → w.grownBy w' v.ownBlock → K (a.put o.dst v') w') : if Region.wanted o (yielded ops a.tmps) = true then Oper.wp Try.prog o a w K Q else E := by
  have hw : Region.wanted o (yielded ops a.tmps) = true := by simp [Region.wanted, hgd]
  rw [if_pos hw]
  obtain ⟨i0, hi, hz0, hz1, hz2⟩ := info_parts info5
  subst hn
  cases ad with
  | none =>
    have hys : ys = [] := by
      rcases hr with e | ⟨b, off, e, _⟩
      · exact e
      · cases e
    subst hys
    obtain ⟨p, cap, rfl, hcap, _⟩ := hown.rd
    have hrun := run_append_nix (P := Try.prog) (w := w) 22 o.type 5 i0 Try.underlying22 hi p xs.length cap c hcap
    unfold Oper.wp
    have hx' : a.eval x = .slice none 0 c := hx
    simp [execOp, ho, resolve, invoke, builtin, hs, hx', hrun, Result.andThen]
    exact h _ w (by rw [List.append_nil]; exact hown) ⟨rfl, rfl, rfl, Nat.le_refl _, fun _ _ _ => rfl⟩
  | some ad =>
    have S : ∀ j u, (vs (fn ys) ys.length)[j]? = some u → w.cell? (ad.add j) = some u := by
      rcases hr with e | ⟨b, off, e, hc⟩
      · subst e; intro j u hu; simp [vs] at hu
      · cases e
        exact vs_src hc
    refine wp_append_own w s x 22 ho base 5 i0 (.int .u8 0) 1 1 Try.underlying22 hi hz0 hz1 hz2 rfl (by decide) v xs.length (vs (fn xs) xs.length) hs hown ad ys.length c (vs (fn ys) ys.length) hx (by rw [vs_len, Nat.mul_one]) S (vs_one _ _) (by unfold maxLen; omega) (by omega) hbase ?_
    intro v' w' ho' hg _
    refine h v' w' ?_ hg
    unfold Ow
    rw [List.length_append, vs_fn_app]; exact ho'
end Go.Proofs.Ytmcbeikgdcgdcaa
