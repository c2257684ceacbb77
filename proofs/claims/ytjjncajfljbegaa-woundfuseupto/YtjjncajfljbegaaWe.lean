/-
  A region that only reads and then writes a map, inside a round.
-/
import Derived.Test.YtjjncajfljbegaaWc
import Derived.StillTailTactics
namespace Go.Proofs.Ytjjncajfljbegaa
open Go.RowKit
/-- An operation that calls nothing. -/
def flat (o : Oper) : Prop := match o.op with
  | .move _ => True
  | .nilCheck _ => True
  | .fieldAddr _ _ _ => True
  | .load _ _ => True
  | .mapUpdate _ _ _ _ => True
  | _ => False
theorem flat_shape {P : Program} {o : Oper} (h : flat o) (ρ : Operand → Value) (w : World) : (∃ v w', (execOp ρ o).run P w = .ok (.value v) w') ∨ (∃ w', (execOp ρ o).run P w = .ok .skip w') ∨ ∃ x w', (execOp ρ o).run P w = .halt x w' := by
  unfold flat at h
  unfold execOp
  split at h
  · rename_i x ho
    rw [ho]
    exact .inl ⟨_, _, rfl⟩
  · rename_i x ho
    rw [ho]
    dsimp only
    split
    all_goals first
      | exact .inl ⟨_, _, rfl⟩
      | exact .inr (.inr ⟨_, _, rfl⟩)
      | skip
    split
    all_goals first
      | exact .inl ⟨_, _, rfl⟩
      | exact .inr (.inr ⟨_, _, rfl⟩)
      | skip
    rename_i t' v' _
    simp only [Sem.run_bind]
    cases Sem.run P program w with
    | halt x w1 => exact .inr (.inr ⟨_, _, rfl⟩)
    | ok p w1 =>
      simp only [Result.andThen_ok]
      cases Sem.run P (nilAhead (p.types.size + Made.depth) t' v' _) w1 with
      | halt x w2 => exact .inr (.inr ⟨_, _, rfl⟩)
      | ok q w2 =>
        simp only [Result.andThen_ok]
        split
        · exact .inr (.inr ⟨_, _, rfl⟩)
        · exact .inl ⟨_, _, rfl⟩
  · rename_i t x i ho
    rw [ho]
    simp only [Sem.run_bind, Sem.run_pure]
    cases (Instr.fieldAt t (ρ x) i).run P w with
    | ok v w' => exact .inl ⟨_, _, rfl⟩
    | halt h w' => exact .inr (.inr ⟨_, _, rfl⟩)
  · rename_i t x ho
    rw [ho]
    simp only [Sem.run_bind, Sem.run_pure]
    cases (Instr.loadAt t (ρ x)).run P w with
    | ok v w' => exact .inl ⟨_, _, rfl⟩
    | halt h w' => exact .inr (.inr ⟨_, _, rfl⟩)
  · rename_i t m k v ho
    rw [ho]
    simp only [Sem.run_bind, Sem.run_pure]
    cases (Instr.mapUpdate t (ρ m) (ρ k) (ρ v)).run P w with
    | ok v w' => exact .inr (.inl ⟨_, rfl⟩)
    | halt h w' => exact .inr (.inr ⟨_, _, rfl⟩)
  · exact h.elim
theorem flat_wpIn {F : Fence} {n : Nat} {P : Program} {o : Oper} (h : flat o) {a : Act} {w : World} {K : Act → World → Prop} {Q : Exit → Act → World → Prop} (hw : o.wp P a w K Q) : o.wpIn F n P a w K Q := by
  have nd : ∀ c, o.op ≠ .defer c := by
    intro c e
    unfold flat at h
    rw [e] at h
    exact h
  have na : o.about P w a.eval = none := by
    unfold Oper.about
    unfold flat at h
    split
    · rename_i c e
      rw [e] at h
      exact h.elim
    · rfl
  refine ⟨fun f e => (by rw [na] at e; cases e), ?_⟩
  rw [Oper.semAt_eq _ _ _ nd]
  unfold Oper.wp at hw
  rcases flat_shape (P := P) h a.eval w with ⟨v, w', e⟩ | ⟨w', e⟩ | ⟨x, w', e⟩
  · rw [e] at hw ⊢; exact hw
  · rw [e] at hw ⊢; exact hw
  · rw [e] at hw ⊢
    cases x <;> first | exact hw | exact hw.elim
/-- From whatever order to whatever order in a fence. -/
theorem lift_any {F : Fence} {n : Nat} {P : Program} {md : Region.Mode} {ops : Array Oper} {Q : Exit → Act → World → Prop} (hf : ∀ (i : Nat) o, ops[i]? = some o → flat o) (hno : ¬ LetsOut Q) : ∀ (fuel : Nat) (listed : Array Bool) (a : Act) (w : World), wpAny P md ops Q fuel listed a w → wpAnyIn F n P md ops Q fuel listed a w
  | 0, _, _, _, h => h
  | fuel + 1, listed, a, w, h => by
    refine ⟨h.1, fun i hi => ?_⟩
    have h2 := h.2 i hi
    unfold wpOp at h2
    unfold wpOpIn
    cases ho : ops[i]? with
    | none =>
      rw [ho] at h2
      exact lift_any hf hno fuel _ _ _ h2
    | some o =>
      rw [ho] at h2
      simp only at h2 ⊢
      have fl := hf i o ho
      split
      · rename_i hw
        rw [if_pos hw] at h2
        rcases h2 with h2 | h2
        · exact flat_wpIn fl (Oper.wp_mono (fun a w => lift_any hf hno fuel _ a w) h2)
        · exact absurd h2.2 hno
      · rename_i hw
        rw [if_neg hw] at h2
        refine ⟨fun f e => ?_, lift_any hf hno fuel _ _ _ h2⟩
        unfold Oper.about at e
        unfold flat at fl
        split at e
        · rename_i c e2
          rw [e2] at fl
          exact fl.elim
        · cases e
/-- A region in a fence: a head that only reads, a tail that is forced. -/
theorem wpIn_still_tail {F : Fence} {nF : Nat} {P : Program} {id : Nat} {Q : Exit → Act → World → Prop} {a : Act} {w : World} {l : List Oper} (n : Nat) (hm : P.follows .mixedOrders = true) (hB : Region.lexTailB .any l.toArray n = true) (hf : ∀ (i : Nat) o, l.toArray[i]? = some o → flat o) (hno : ¬ LetsOut Q)
    (h : wpStill P l.toArray { w with drawn := w.drawn + 1 } (fun a' => wpList P l.toArray Q (l.drop n) a' { w with drawn := w.drawn + 1 }) (l.take n) a) : (Code.region id l.toArray true).wpIn F nF P Q a w := by
  refine wpIn_region_any hm (lift_any hf hno _ _ _ _ ?_)
  simp only [Region.lexTailB, Bool.and_eq_true, decide_eq_true_eq] at hB
  obtain ⟨⟨⟨⟨hsel, hn⟩, hs⟩, hc⟩, hlex⟩ := hB
  have hn1 : n < l.length := by simpa using hn
  have hlen : (l.take n).length = n := by simp; omega
  have hrest : (l.drop n).length = l.toArray.size - n := by simp
  have start : HeadInv .any l.toArray n (Array.replicate l.toArray.size false) := ⟨by simp, fun j oj _ hl => (by rw [getD_replicate_false] at hl; cases hl), fun t _ ht => getD_in (by simpa using ht) (getD_replicate_false _ _)⟩
  have head := wpAnyL_lex (md := .any) (g := l.toArray.size - n) hsel hs hc hn (l.take n) 0 _ a (fun j hj => by rw [hlen] at hj; simp [hj]) (by simpa using hlen) start (by rw [hlen]; exact hlex) h
  have all := wpAny_of_head (Q' := Q) (g := l.toArray.size - n) (fun listed a' hL => by
    have t := wpAny_of_seq (md := .any) (Q' := Q) (l.drop n) n listed a' { w with drawn := w.drawn + 1 } (fun j => by simp [List.getElem?_drop]) (by rw [hrest]; exact hL.1) hL.2
    rwa [hrest] at t) _ _ _ head
  rw [hlen, show n + (l.toArray.size - n) = l.toArray.size by omega] at all
  exact all
end Go.Proofs.Ytjjncajfljbegaa
