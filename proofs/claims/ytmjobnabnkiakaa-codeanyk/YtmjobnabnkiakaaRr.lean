/-
  The document's 'Rows'; what both answer.
-/
import Derived.Test.YtmjobnabnkiakaaKf
namespace Go.Proofs.Ytmjobnabnkiakaa
open Go.RowKit
/-- No row's number. -/
def bad (r : Nat) (x : Int) : Bool := decide (x < 0) || decide ((r : Int) ≤ x)
def rc (r : Nat) (l : Nat → Nat) (n : Nat) (f : Nat → Int) : Int := if fc r l ≠ 0 then fc r l else if 255 < n then 3 else if anyb (fun i => bad r (f i)) n then 2 else 0
def rn (r : Nat) (l : Nat → Nat) (n : Nat) (f : Nat → Int) : Nat := if rc r l n f = 0 then n else 0
theorem bad_false {r : Nat} {x : Int} (h : bad r x = false) : ∃ q : Nat, x = q ∧ q < r := by
  unfold bad at h
  simp at h
  exact ⟨x.toNat, by omega, by omega⟩
theorem rc_fault {r : Nat} {l : Nat → Nat} (n : Nat) (f : Nat → Int) (h : ¬ fc r l = 0) : rc r l n f = fc r l := by unfold rc; rw [if_pos h]
theorem rc_large {r : Nat} {l : Nat → Nat} {n : Nat} (f : Nat → Int) (h : fc r l = 0) (h2 : 255 < n) : rc r l n f = 3 := by unfold rc; rw [if_neg (by simp [h]), if_pos h2]
theorem rc_bad {r : Nat} {l : Nat → Nat} {n : Nat} {f : Nat → Int} (h : fc r l = 0) (h2 : n ≤ 255) {k : Nat} (hk : k < n) (h3 : bad r (f k) = true) : rc r l n f = 2 := by
  unfold rc; rw [if_neg (by simp [h]), if_neg (by omega), if_pos (anyb_true hk h3)]
theorem rc_ok {r : Nat} {l : Nat → Nat} {n : Nat} {f : Nat → Int} (h : fc r l = 0) (h2 : n ≤ 255) (h3 : ∀ k, k < n → bad r (f k) = false) : rc r l n f = 0 := by
  unfold rc; rw [if_neg (by simp [h]), if_neg (by omega), anyb_false h3]; rfl
theorem rn_err {r : Nat} {l : Nat → Nat} {n : Nat} {f : Nat → Int} (h : ¬ rc r l n f = 0) : rn r l n f = 0 := by unfold rn; rw [if_neg h]
theorem rn_ok {r : Nat} {l : Nat → Nat} {n : Nat} {f : Nat → Int} (h : rc r l n f = 0) : rn r l n f = n := by unfold rn; rw [if_pos h]
theorem rn_le (r : Nat) (l : Nat → Nat) (n : Nat) (f : Nat → Int) : rn r l n f ≤ 255 := by
  by_cases h : rc r l n f = 0
  · rw [rn_ok h]
    unfold rc at h
    by_cases h1 : fc r l = 0
    · rw [if_neg (by simp [h1])] at h
      by_cases h2 : 255 < n
      · rw [if_pos h2] at h; cases h
      · omega
    · rw [if_pos h1] at h; exact absurd h h1
  · rw [rn_err h]; omega
theorem cw_le {r : Nat} {l : Nat → Nat} (h : fc r l = 0) : cw r l ≤ 255 := by
  unfold cw
  by_cases e : r = 0
  · rw [if_pos e]; omega
  · rw [if_neg e]; exact (fc_zero h).2.1 0 (by omega)
theorem cw_row {r : Nat} {l : Nat → Nat} (h : fc r l = 0) {k : Nat} (hk : k < r) : l k = cw r l := by
  unfold cw; rw [if_neg (by omega)]; exact (fc_zero h).2.2 k hk
theorem rn_cw {r : Nat} {l : Nat → Nat} {n : Nat} {f : Nat → Int} {i : Nat} (h : i < rn r l n f) : cw r l ≤ 255 := by
  by_cases h1 : fc r l = 0
  · exact cw_le h1
  · rw [rn_err (by rw [rc_fault n f h1]; exact h1)] at h; omega
theorem run_append_no {P : Program} {w : World} (t ty e : TypeId) (i : TypeInfo) (ht : P.underlying t = some (.slice e)) (hi : P.info? e = some i) (c : Nat) :
    (Builtin.append_ #[t, t] ty #[.slice none 0 0, .slice none 0 c]).run P w = .ok (.slice none 0 0) w := by
  simp [Builtin.append_, run_underlying ht, sizeOf, typeInfo, hi, Builtin.lenOf, Builtin.firstCells]

set_option maxRecDepth 100000 in
theorem wpList_clone_i {w : World} {ops : Array Oper} {rest : List Oper} {o : Oper} {a : Act} {Q : Exit → Act → World → Prop} (hgd : o.guard = none) (s x : Operand) (ho : o.op = .call { callee := .builtin .append, args := #[s, x], argTypes := #[50, 50] })
    (hs : a.eval s = .slice none 0 0) (v : Value) (n : Nat) (f : Nat → Int) (hx : a.eval x = v) (hr : Jr w v n f) (hm : n ≤ 1000)
    (h : ∀ v' w', Ir w' v' n f → Below w.heap.size w w' → wpList Try.prog ops Q rest (a.put o.dst v') w') : wpList Try.prog ops Q (o :: rest) a w := by
  obtain ⟨i0, hi, hz0, hz1, hz2⟩ := info_parts infoI
  obtain ⟨p, c, rfl, hr⟩ := hr
  cases p with
  | none =>
    have hn : n = 0 := by
      rcases hr with e | ⟨b, off, e, _⟩
      · exact e
      · cases e
    subst hn
    refine wpList_plain hgd fun K hK => ?_
    have hrun := run_append_no (P := Try.prog) (w := w) 50 o.type 3 i0 Try.underlying50 hi c
    unfold Oper.wp
    simp [execOp, ho, resolve, invoke, builtin, hs, hx, hrun, Result.andThen]
    exact hK _ _ (h _ w ⟨none, 0, rfl, .inl rfl⟩ (Below.refl _ _))
  | some ad =>
    have S : ∀ j u, (lv (fun j => Value.int .i64 (f j)) n)[j]? = some u → w.cell? (ad.add j) = some u := by
      intro j u hu
      have hjn : j < n := by
        rcases Nat.lt_or_ge j n with h | h
        · exact h
        · rw [List.getElem?_eq_none (by rw [lv_len]; exact h)] at hu; cases hu
      rw [lv_at _ n j hjn] at hu
      injection hu with hu
      rcases hr with e | ⟨b, off, e, hc⟩
      · omega
      · injection e with e
        subst e
        rw [add_pl, hc j hjn]; exact congrArg some hu
    refine wpList_append_own _ hgd _ _ 50 ho w.heap.size 3 i0 (.int .i64 0) 1 8 Try.underlying50 hi hz0 hz1 hz2 rfl (by decide) (.slice none 0 0) 0 [] hs (World.ownsRow_nil _ _ _ _) ad n c (lv (fun j => .int .i64 (f j)) n) hx (by rw [lv_len, Nat.mul_one]) S (fun u hu => by unfold lv at hu; obtain ⟨i, _, rfl⟩ := List.mem_map.1 hu; rfl) (by unfold maxLen; omega) (by omega) (Nat.le_refl _) ?_
    intro v' w' ho' hg _
    rw [Nat.zero_add, List.nil_append] at ho'
    exact h v' w' (owns_st1 ho') (below_append (t := 3) (base := w.heap.size) (k := 1) (n := 0) (xs := []) (Below.refl _ _) (Nat.le_refl _) hg (World.ownsRow_nil _ _ _ _) (Nat.le_refl _))
section
attribute [local irreducible] Calls lv Ir Jr fc cw rc rn bad
end
end Go.Proofs.Ytmjobnabnkiakaa
