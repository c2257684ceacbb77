/-
  The document's 'Rows'; what both answer.
-/
import Derived.Test.YtchmggehbajebabKf
namespace Go.Proofs.Ytchmggehbajebab
open Go.RowKit
/-- No row's number. -/
def bad (r : Nat) (x : Int) : Bool := decide (x < 0) || decide ((r : Int) ≤ x)
def rc (r : Nat) (l : Nat → Nat) (n : Nat) (f : Nat → Int) : Int := if fc r l ≠ 0 then fc r l else if 255 < n then 3 else if anyb (fun i => bad r (f i)) n then 2 else 0
def rn (r : Nat) (l : Nat → Nat) (n : Nat) (f : Nat → Int) : Nat := if rc r l n f = 0 then n else 0
theorem bad_false {r : Nat} {x : Int} (h : bad r x = false) : ∃ q : Nat, x = q ∧ q < r := by
  unfold bad at h
  simp at h
  exact ⟨x.toNat, by omega, by omega⟩
theorem rc_fault {r : Nat} {l : Nat → Nat} (n : Nat) (f : Nat → Int) (h : ¬ fc r l = 0) : rc r l n f = fc r l := by unfold rc; rw [if_pos h]
theorem rc_large {r : Nat} {l : Nat → Nat} {n : Nat} (f : Nat → Int) (h : fc r l = 0) (h2 : 255 < n) : rc r l n f = 3 := by unfold rc; rw [if_neg (by simp [h]), if_pos h2]
theorem rc_bad {r : Nat} {l : Nat → Nat} {n : Nat} {f : Nat → Int} (h : fc r l = 0) (h2 : n ≤ 255) {k : Nat} (hk : k < n) (h3 : bad r (f k) = true) : rc r l n f = 2 := by
  unfold rc; rw [if_neg (by simp [h]), if_neg (by omega), if_pos (anyb_true hk h3)]
theorem rc_ok {r : Nat} {l : Nat → Nat} {n : Nat} {f : Nat → Int} (h : fc r l = 0) (h2 : n ≤ 255) (h3 : ∀ k, k < n → bad r (f k) = false) : rc r l n f = 0 := by
  unfold rc; rw [if_neg (by simp [h]), if_neg (by omega), anyb_false h3]; rfl
theorem rn_err {r : Nat} {l : Nat → Nat} {n : Nat} {f : Nat → Int} (h : ¬ rc r l n f = 0) : rn r l n f = 0 := by unfold rn; rw [if_neg h]
theorem rn_ok {r : Nat} {l : Nat → Nat} {n : Nat} {f : Nat → Int} (h : rc r l n f = 0) : rn r l n f = n := by unfold rn; rw [if_pos h]
theorem rn_le (r : Nat) (l : Nat → Nat) (n : Nat) (f : Nat → Int) : rn r l n f ≤ 255 := by
  by_cases h : rc r l n f = 0
  · rw [rn_ok h]
    unfold rc at h
    by_cases h1 : fc r l = 0
    · rw [if_neg (by simp [h1])] at h
      by_cases h2 : 255 < n
      · rw [if_pos h2] at h; cases h
      · omega
    · rw [if_pos h1] at h; exact absurd h h1
  · rw [rn_err h]; omega
theorem cw_le {r : Nat} {l : Nat → Nat} (h : fc r l = 0) : cw r l ≤ 255 := by
  unfold cw
  by_cases e : r = 0
  · rw [if_pos e]; omega
  · rw [if_neg e]; exact (fc_zero h).2.1 0 (by omega)
theorem cw_row {r : Nat} {l : Nat → Nat} (h : fc r l = 0) {k : Nat} (hk : k < r) : l k = cw r l := by
  unfold cw; rw [if_neg (by omega)]; exact (fc_zero h).2.2 k hk
theorem rn_cw {r : Nat} {l : Nat → Nat} {n : Nat} {f : Nat → Int} {i : Nat} (h : i < rn r l n f) : cw r l ≤ 255 := by
  by_cases h1 : fc r l = 0
  · exact cw_le h1
  · rw [rn_err (by rw [rc_fault n f h1]; exact h1)] at h; omega
theorem run_append_no {P : Program} {w : World} (t ty e : TypeId) (i : TypeInfo) (ht : P.underlying t = some (.slice e)) (hi : P.info? e = some i) (c : Nat) :
    (Builtin.append_ #[t, t] ty #[.slice none 0 0, .slice none 0 c]).run P w = .ok (.slice none 0 0) w := by
  simp [Builtin.append_, run_underlying ht, sizeOf, typeInfo, hi, Builtin.lenOf, Builtin.firstCells]

set_option maxRecDepth 100000 in
theorem wpList_clone_i {w : World} {ops : Array Oper} {rest : List Oper} {o : Oper} {a : Act} {Q : Exit → Act → World → Prop} (hgd : o.guard = none) (s x : Operand) (ho : o.op = .call { callee := .builtin .append, args := #[s, x], argTypes := #[23, 23] })
    (hs : a.eval s = .slice none 0 0) (v : Value) (n : Nat) (f : Nat → Int) (hx : a.eval x = v) (hr : Jr w v n f) (hm : n ≤ 1000)
    (h : ∀ v' w', Ir w' v' n f → Below w.heap.size w w' → wpList Try.prog ops Q rest (a.put o.dst v') w') : wpList Try.prog ops Q (o :: rest) a w := by
  obtain ⟨i0, hi, hz0, hz1, hz2⟩ := info_parts infoI
  obtain ⟨p, c, rfl, hr⟩ := hr
  cases p with
  | none =>
    have hn : n = 0 := by
      rcases hr with e | ⟨b, off, e, _⟩
      · exact e
      · cases e
    subst hn
    refine wpList_plain hgd fun K hK => ?_
    have hrun := run_append_no (P := Try.prog) (w := w) 23 o.type 3 i0 Try.underlying23 hi c
    unfold Oper.wp
    simp [execOp, ho, resolve, invoke, builtin, hs, hx, hrun, Result.andThen]
    exact hK _ _ (h _ w ⟨none, 0, rfl, .inl rfl⟩ (Below.refl _ _))
  | some ad =>
    have S : ∀ j u, (lv (fun j => Value.int .i64 (f j)) n)[j]? = some u → w.cell? (ad.add j) = some u := by
      intro j u hu
      have hjn : j < n := by
        rcases Nat.lt_or_ge j n with h | h
        · exact h
        · rw [List.getElem?_eq_none (by rw [lv_len]; exact h)] at hu; cases hu
      rw [lv_at _ n j hjn] at hu
      injection hu with hu
      rcases hr with e | ⟨b, off, e, hc⟩
      · omega
      · injection e with e
        subst e
        rw [add_pl, hc j hjn]; exact congrArg some hu
    refine wpList_append_own _ hgd _ _ 23 ho w.heap.size 3 i0 (.int .i64 0) 1 8 Try.underlying23 hi hz0 hz1 hz2 rfl (by decide) (.slice none 0 0) 0 [] hs (World.ownsRow_nil _ _ _ _) ad n c (lv (fun j => .int .i64 (f j)) n) hx (by rw [lv_len, Nat.mul_one]) S (fun u hu => by unfold lv at hu; obtain ⟨i, _, rfl⟩ := List.mem_map.1 hu; rfl) (by unfold maxLen; omega) (by omega) (Nat.le_refl _) ?_
    intro v' w' ho' hg _
    rw [Nat.zero_add, List.nil_append] at ho'
    exact h v' w' (owns_st1 ho') (below_append (t := 3) (base := w.heap.size) (k := 1) (n := 0) (xs := []) (Below.refl _ _) (Nat.le_refl _) hg (World.ownsRow_nil _ _ _ _) (Nat.le_refl _))
section
attribute [local irreducible] Calls lv Ir Jr fc cw rc rn bad
theorem refRows_err (p q : Option Addr) (r c1 n c : Nat) (l : Nat → Nat) (f : Nat → Int) (w : World) (LA : Lm w (.slice p r c1) r l) (h : ¬ fc r l = 0 ∨ 255 < n) :
    Calls Try.prog 31 #[.slice p r c1, .slice q n c] w fun e w' => e = .returned (.tuple #[.slice none 0 0, .int .i64 (rc r l n f)]) ∧ Below w.heap.size w w' := by
  have F1 := refFault_any LA
  by_cases h1 : fc r l = 0
  · have h2 : 255 < n := by omega
    have h3 : 255 < (n : Int) := by omega
    rw [rc_large f h1 h2]
    rw [h1] at F1
    go_enter Try.func31, Try.ntmps31
    go_wp2_with (go_at_call 68; refine F1.mono ?_; rintro e w1 ⟨rfl, hb1⟩)
    go_ret2
    exact ⟨rfl, hb1⟩
  · rw [rc_fault n f h1]
    have h2 : (fc r l != 0) = true := by simpa using h1
    go_enter Try.func31, Try.ntmps31
    go_wp2_with (go_at_call 68; refine F1.mono ?_; rintro e w1 ⟨rfl, hb1⟩)
    go_ret2
    exact ⟨rfl, hb1⟩
set_option maxRecDepth 1000000 in
theorem refRows_nil (p q : Option Addr) (r c1 c : Nat) (l : Nat → Nat) (w : World) (LA : Lm w (.slice p r c1) r l) (h1 : fc r l = 0) :
    Calls Try.prog 31 #[.slice p r c1, .slice q 0 c] w fun e w' => e = .returned (.tuple #[.slice none 0 0, .int .i64 0]) ∧ Below w.heap.size w w' := by
  have F1 := refFault_any LA
  rw [h1] at F1
  go_enter Try.func31, Try.ntmps31
  go_wp2_with (go_at_call 68; refine F1.mono ?_; rintro e w1 ⟨rfl, hb1⟩)
  refine wp_loop_rounds 1 ?_
  rw [rounds_succ]
  go_wp2
  go_ret2
  exact ⟨rfl, hb1⟩
set_option maxHeartbeats 8000000 in
set_option maxRecDepth 1000000 in
theorem refRows_core (b o n c : Nat) (f : Nat → Int) (p : Option Addr) (r c1 : Nat) (l : Nat → Nat) (M : Nat → Nat → Int) (w : World) (hn : n ≤ 255) (HF : Hid (fc r l = 0)) (JA : Hid (Jm w (.slice p r c1) r l M))
    (H1 : Hid (∀ i, i < n → w.cell? ⟨b, o + i, none⟩ = some (.int .i64 (f i)))) :
    Calls Try.prog 31 #[.slice p r c1, .slice (some ⟨b, o, none⟩) n c] w fun e w' => ∃ v, e = .returned (.tuple #[v, .int .i64 (rc r l n f)]) ∧ Im w' v (rn r l n f) (fun _ => cw r l) (fun i j => M (f i).toNat j) ∧ Below w.heap.size w w' := by
  have F1 := (show Hid _ from refFault_any (Jm.lm JA.out))
  rw [HF.out] at F1
  have hr1 : r ≤ 255 := (fc_zero HF.out).1
  have hn2 : ¬ 255 < (n : Int) := by omega
  obtain ⟨i0, hif, hz0, hz1, hz2⟩ := info_parts infoIR
  go_enter Try.func31, Try.ntmps31
  go_wp2_with (go_at_call 68; refine F1.out.mono ?_; rintro e w1 ⟨rfl, hb1⟩)
  have HB1 := (show Hid _ from hb1)
  have JB : Hid (Jm w1 (.slice p r c1) r l M) := Jm.below JA.out hb1
  clear F1 hb1
  go_loopw [7, 8] (fun v i wr => ∃ (k : Nat) (rows : Nat → Value), k ≤ n ∧ i = .int .i64 k ∧ wr.ownsRow w1.heap.size 23 1 v k (lv rows k) ∧ Hid (∀ i, i < k → Ir wr (rows i) (cw r l) (fun j => M (f i).toNat j)) ∧ Hid (∀ i, i < k → bad r (f i) = false) ∧ Below w1.heap.size w1 wr) (fun _ i _ => n - (intOf i).toNat)
  case atStart => exact ⟨0, fun _ => .bool false, Nat.zero_le _, rfl, lv_none _ _ _ _ _, fun i hi => by omega, fun i hi => by omega, Below.refl _ _⟩
  case round =>
    obtain ⟨k, rows, hk, rfl, hown, hR, hG, hb⟩ := hrel
    by_cases hlt : k < n
    · have j1 : (k : Int) < (n : Int) := by omega
      have M1 : Hid (k + 1 ≤ maxLen) := by show _ ≤ _; unfold maxLen; omega
      have g1 := cell_below (cell_below (H1.out k hlt) HB1.out) hb
      by_cases hbad : bad r (f k) = true
      · have HC : Hid (rc r l n f = 2) := rc_bad HF.out hn hlt hbad
        have HN : Hid (rn r l n f = 0) := rn_err (by rw [HC.out]; decide)
        have HE : Hid (f k < 0 ∨ (¬ f k < 0 ∧ (r : Int) ≤ f k)) := by
          show _ ∨ _
          unfold bad at hbad
          simp at hbad
          omega
        clear hbad
        rcases HE.out with e | ⟨e, e2⟩
        · go_wp2
          go_ret2
          exact ⟨_, by rw [HC.out]; rfl, by rw [HN.out]; exact Im.nil _ _ _, bt HB1.out hb⟩
        · go_wp2
          go_ret2
          exact ⟨_, by rw [HC.out]; rfl, by rw [HN.out]; exact Im.nil _ _ _, bt HB1.out hb⟩
      · have hbf : bad r (f k) = false := by simpa using hbad
        clear hbad
        obtain ⟨q, eq, hq⟩ := bad_false hbf
        have HG2 : Hid (∀ i, i < k + 1 → bad r (f i) = false) := fun i hi => by
          by_cases e : i = k
          · rw [e]; exact hbf
          · exact hG.out i (by omega)
        rw [eq] at g1
        have e1 : ¬ (q : Int) < 0 := by omega
        have e2 : ¬ (r : Int) ≤ (q : Int) := by omega
        have e3 : (q : Int) < (r : Int) := by omega
        obtain ⟨rowsA, hSv, hRA⟩ := JB.out
        obtain ⟨bA, oA, cA, eA, hcA⟩ := hSv.cells (by omega)
        injection eA with eA _ eA2
        subst eA eA2
        have g2 := cell_below (hcA q hq) hb
        have r1 : Hid (Jr wr (rowsA q) (cw r l) (M q)) := by
          have := (hRA q hq).below hb
          rw [cw_row HF.out hq] at this
          exact this
        have hc255 : cw r l ≤ 255 := cw_le HF.out
        have HE : Hid ((f k).toNat = q) := by show _ = _; rw [eq]; simp
        clear hbf eq hSv hRA hcA
        go_wp2_with (first
          | (at_builtin; refine wpList_clone_i rfl _ _ rfl rfl _ (cw r l) (M q) rfl r1.out (by omega) ?_; intro v1 w2 hI2 hb2; obtain ⟨px, cx, ex⟩ := hI2.form; subst ex; have hown2 := owns_below hown hb2)
          | (at_builtin; refine wpList_append_own _ rfl _ _ 22 rfl w1.heap.size 23 i0 (.slice none 0 0) 1 24 Try.underlying22 hif hz0 hz1 hz2 rfl (by decide) _ _ _ rfl (hown2.alloc _) ⟨_, 0, none⟩ 1 1 [.slice px (cw r l) cx] rfl rfl (one_new _ _ _) (one_cellv rfl) M1.out (by omega) (by have := hb.size; have := hb2.size; simp at *; omega) ?_; intro v' w3 hown' hgrow _))
        have hb3 := below_append ((bt hb hb2).alloc (by have := hb.size; have := hb2.size; omega) _) (by have := hb.size; have := hb2.size; simp at *; omega) hgrow (hown2.alloc _) (Nat.le_refl _)
        rw [push_lv] at hown'
        have hI3 : Ir w2 (.slice px (cw r l) cx) (cw r l) (fun j => M (f k).toNat j) := by rw [HE.out]; exact hI2
        have hR3 : Hid (∀ i, i < k + 1 → Ir w3 ((fun i => if i = k then .slice px (cw r l) cx else rows i) i) (cw r l) (fun j => M (f i).toNat j)) := push_ir (l := fun _ => cw r l) (M := fun i j => M (f i).toNat j) hown2 hgrow (fun i hi => (hR.out i hi).below hb2) hI3
        clear hown hgrow hR hown2 g1 g2 hI2 hI3 r1 HE
        go_roundw
        case rel => exact ⟨k + 1, _, by omega, by go_num, hown', hR3, HG2, hb3⟩
        case measure => simp [intOf]; omega
    · obtain rfl : k = n := by omega
      have HC : Hid (rc r l k f = 0) := rc_ok HF.out hn hG.out
      have HN : Hid (rn r l k f = k) := rn_ok HC.out
      go_wp2
      go_ret2
      exact ⟨_, by rw [HC.out]; rfl, by rw [HN.out]; exact ⟨rows, owns_st1 hown, hR.out⟩, bt HB1.out hb⟩
end
theorem refRows_any {w : World} {v1 v2 : Value} {r n : Nat} {l : Nat → Nat} {M : Nat → Nat → Int} {f : Nat → Int} (h1 : Jm w v1 r l M) (h2 : Jr w v2 n f) :
    Calls Try.prog 31 #[v1, v2] w fun e w' => ∃ v, e = .returned (.tuple #[v, .int .i64 (rc r l n f)]) ∧ Im w' v (rn r l n f) (fun _ => cw r l) (fun i j => M (f i).toNat j) ∧ Below w.heap.size w w' := by
  obtain ⟨p, c1, e1⟩ := (show ∃ p c, v1 = .slice p r c from by obtain ⟨rows, h, _⟩ := h1; exact h.form)
  subst e1
  by_cases hf : fc r l = 0
  · by_cases hn : 255 < n
    · obtain ⟨q, c, rfl, _⟩ := h2
      have hc : ¬ rc r l n f = 0 := by rw [rc_large f hf hn]; decide
      exact (refRows_err p q r c1 n c l f w h1.lm (.inr hn)).mono fun e w' ⟨he, hb⟩ => ⟨_, he, by rw [rn_err hc]; exact Im.nil _ _ _, hb⟩
    · by_cases h0 : n = 0
      · subst h0
        obtain ⟨q, c, rfl, _⟩ := h2
        have hc : rc r l 0 f = 0 := rc_ok hf (by omega) (fun k hk => by omega)
        exact (refRows_nil p q r c1 c l w h1.lm hf).mono fun e w' ⟨he, hb⟩ => ⟨_, by rw [hc]; exact he, by rw [rn_ok hc]; exact Im.nil _ _ _, hb⟩
      · obtain ⟨b, o, c, rfl, hc⟩ := Sv.cells h2 (by omega)
        exact refRows_core b o n c f p r c1 l M w (by omega) hf h1 hc
  · obtain ⟨q, c, rfl, _⟩ := h2
    have hc : ¬ rc r l n f = 0 := by rw [rc_fault n f hf]; exact hf
    exact (refRows_err p q r c1 n c l f w h1.lm (.inl hf)).mono fun e w' ⟨he, hb⟩ => ⟨_, he, by rw [rn_err hc]; exact Im.nil _ _ _, hb⟩
end Go.Proofs.Ytchmggehbajebab
