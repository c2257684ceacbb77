/-
  What is lent with marks behind it: 'lent', 'unmarked'.
-/
import Derived.Test.YtienknoahjhopaaUn
namespace Go.Proofs.Ytienknoahjhopaa
open Go.RowKit
/-- The marks. -/
def mk7 (j : Nat) : Int := 201 + ((j % 7 : Nat) : Int)
theorem mk7_bd (j : Nat) : 0 ≤ mk7 j ∧ mk7 j < 256 := by unfold mk7; omega
/-- A lent row: its bytes, then marks. -/
def lnf (x : Nat → BitVec 8) (n j : Nat) : Value := if j < n then .int .u8 (el (x j)) else .int .u8 (mk7 (j - n))
theorem lnf_in {x : Nat → BitVec 8} {n j : Nat} (h : j < n) : lnf x n j = .int .u8 (el (x j)) := if_pos h
theorem lnf_out (x : Nat → BitVec 8) (n j : Nat) : lnf x n (n + j) = .int .u8 (mk7 j) := by unfold lnf; rw [if_neg (by omega), Nat.add_sub_cancel_left]
theorem owned_cap {w : World} {base : Nat} {t : TypeId} {r : Nat} {v : Value} {rows : Nat → Value} (h : w.ownsRow base t 1 v r (lv rows r)) (h0 : 0 < r) : ∃ g cap f, v = .slice (some ⟨g, 0, none⟩) r cap ∧ base ≤ g ∧ r ≤ cap ∧ Ov w t g f cap ∧ ∀ i, i < r → f i = rows i := by
  rcases h.2 with ⟨hv, h1⟩ | ⟨g, cap, c, hv, hg, hh, hc, hm, hs, ht⟩
  · omega
  · rw [Nat.mul_one] at hs
    refine ⟨g, cap, fun i => c.getD i (.bool false), hv, hg, hc, ?_, fun i hi => ?_⟩
    · unfold Ov
      rw [hh]
      have e : c = rv (fun i => c.getD i (.bool false)) cap := by
        apply Array.ext
        · rw [rv_size, hs]
        · intro i h1 h2
          have h3 := rv_get (fun i => c.getD i (.bool false)) cap i (by omega)
          rw [Array.getElem?_eq_getElem h2] at h3
          injection h3 with h3
          rw [h3]
          simp [Array.getD, h1]
      exact congrArg (fun z => some (Obj.cells z t (0, 0))) e
    · have h1 : (c.toList.take (r * 1))[i]? = some (rows i) := by rw [ht, lv_at rows r i hi]
      rw [List.getElem?_take_of_lt (by omega)] at h1
      have h2 : c[i]? = some (rows i) := by simpa using h1
      have h4 : i < c.size := by omega
      rw [Array.getElem?_eq_getElem h4] at h2
      injection h2 with h2
      simp [Array.getD, h4, h2]
set_option maxRecDepth 100000 in
theorem wpList_clone_any {w : World} {ops : Array Oper} {rest : List Oper} {o : Oper} {a : Act} {Q : Exit → Act → World → Prop} (hgd : o.guard = none) (s x : Operand) (ho : o.op = .call { callee := .builtin .append, args := #[s, x], argTypes := #[23, 23] })
    (hs : a.eval s = .slice none 0 0) (v : Value) (n : Nat) (f : Nat → BitVec 8) (hx : a.eval x = v) (hr : NrE w v n f) (hm : n ≤ 140737488355328)
    (h : ∀ v' w', w'.ownsRow w.heap.size 5 1 v' n (lv (clE f) n) → Below w.heap.size w w' → wpList Try.prog ops Q rest (a.put o.dst v') w') : wpList Try.prog ops Q (o :: rest) a w := by
  obtain ⟨i0, hi, hz0, hz1, hz2⟩ := info_parts info5
  obtain ⟨p, c, rfl, hr2⟩ := nr_un hr
  clear hr
  cases p with
  | none =>
    have hn : n = 0 := by
      rcases Nat.eq_zero_or_pos n with h1 | h1
      · exact h1
      · obtain ⟨b, o, e, _⟩ := hr2 h1; cases e
    subst hn
    refine wpList_plain hgd fun K hK => ?_
    have hrun := run_append_no (P := Try.prog) (w := w) 23 o.type 5 i0 Try.underlying23 hi c
    unfold Oper.wp
    simp [execOp, ho, resolve, invoke, builtin, hs, hx, hrun, Result.andThen]
    exact hK _ _ (h _ w (lv_none _ _ _ _ _) (Below.refl _ _))
  | some ad =>
    have S : ∀ j u, (lv (clE f) n)[j]? = some u → w.cell? (ad.add j) = some u := by
      intro j u hu
      have hjn : j < n := by
        rcases Nat.lt_or_ge j n with h | h
        · exact h
        · rw [List.getElem?_eq_none (by rw [lv_len]; exact h)] at hu; cases hu
      rw [lv_at _ n j hjn] at hu
      injection hu with hu
      obtain ⟨b, off, e, hc⟩ := hr2 (by omega)
      injection e with e
      subst e
      rw [add_pl, hc j hjn]; exact congrArg some hu
    refine wpList_append_own _ hgd _ _ 23 ho w.heap.size 5 i0 (.int .u8 0) 1 1 Try.underlying23 hi hz0 hz1 hz2 rfl (by decide) (.slice none 0 0) 0 [] hs (World.ownsRow_nil _ _ _ _) ad n c (lv (clE f) n) hx (by rw [lv_len, Nat.mul_one]) S (fun u hu => by unfold lv at hu; obtain ⟨i, _, rfl⟩ := List.mem_map.1 hu; rfl) (by unfold maxLen; omega) (by omega) (Nat.le_refl _) ?_
    intro v' w' ho' hg _
    rw [Nat.zero_add, List.nil_append] at ho'
    exact h v' w' ho' (below_append (t := 5) (base := w.heap.size) (k := 1) (n := 0) (xs := []) (Below.refl _ _) (Nat.le_refl _) hg (World.ownsRow_nil _ _ _ _) (Nat.le_refl _))
theorem lnf_lv (x : Nat → BitVec 8) (n : Nat) : lv (clE x) n = lv (lnf x n) (n + 0) := lv_congr (fun _ hi => (lnf_in hi).symm)
/-- A lent row in the memory. -/
def Lnt (w : World) (g n cap : Nat) (x : Nat → BitVec 8) : Prop := n + 64 ≤ cap ∧ ∃ f, Ov w 5 g f cap ∧ (∀ j, j < n → f j = .int .u8 (el (x j))) ∧ ∀ j, j < 64 → f (n + j) = .int .u8 (mk7 j)
theorem Lnt.below {w w' : World} {g n cap : Nat} {x : Nat → BitVec 8} (h : Lnt w g n cap x) (hb : Below w.heap.size w w') : Lnt w' g n cap x := by
  obtain ⟨h1, f, h2, h3, h4⟩ := h
  exact ⟨h1, f, h2.below hb, h3, h4⟩
theorem Lnt.nr {w : World} {g n cap : Nat} {x : Nat → BitVec 8} (h : Lnt w g n cap x) : NrE w (.slice (some ⟨g, 0, none⟩) n cap) n x := by
  obtain ⟨h1, f, h2, h3, h4⟩ := h
  exact ⟨_, _, rfl, .inr ⟨_, _, rfl, fun j hj => by rw [Nat.zero_add, h2.cell (by omega), h3 j hj]; rfl⟩⟩
theorem Lnt.mark {w : World} {g n cap : Nat} {x : Nat → BitVec 8} (h : Lnt w g n cap x) {j : Nat} (hj : j < 64) : w.cell? ⟨g, n + j, none⟩ = some (.int .u8 (mk7 j)) := by
  obtain ⟨h1, f, h2, h3, h4⟩ := h
  rw [h2.cell (by omega), h4 j hj]
section
attribute [local irreducible] Calls NrE lv el mk7 lnf Lnt
set_option maxHeartbeats 8000000 in
set_option maxRecDepth 1000000 in
theorem lent_core (p : Option Addr) (n c : Nat) (x : Nat → BitVec 8) (w : World) (hn : n ≤ 140737488355200) (H1 : Hid (NrE w (.slice p n c) n x)) : Calls Try.prog 18 #[.slice p n c] w fun e w' => ∃ g cap, e = .returned (.slice (some ⟨g, 0, none⟩) n cap) ∧ w.heap.size ≤ g ∧ Lnt w' g n cap x ∧ Below w.heap.size w w' := by
  obtain ⟨i1, hif1, hz01, hz11, hz21⟩ := info_parts info5
  go_enter Try.func18, Try.ntmps18
  go_wp2_with (at_builtin; refine wpList_clone_any rfl _ _ rfl rfl _ n x rfl H1.out (by omega) ?_; intro v1 w1 ho1 hb1; rw [lnf_lv] at ho1)
  have HO1 := (show Hid _ from ho1)
  have HB1 := (show Hid _ from hb1)
  clear ho1 hb1
  go_loopw [3, 4] (fun v i wr => ∃ t : Nat, t ≤ 64 ∧ i = .int .i64 t ∧ wr.ownsRow w.heap.size 5 1 v (n + t) (lv (lnf x n) (n + t)) ∧ Below w.heap.size w wr) (fun _ i _ => 64 - (intOf i).toNat)
  case atStart => exact ⟨0, Nat.zero_le _, rfl, HO1.out, HB1.out⟩
  case round =>
    clear HO1 HB1
    obtain ⟨t, ht, rfl, hown, hb⟩ := hrel
    by_cases hlt : t < 64
    · have j1 : (t : Int) < 64 := by omega
      have M1 : Hid (n + t + 1 ≤ maxLen) := by show _ ≤ _; unfold maxLen; omega
      have M3 : Hid (∀ o : Obj, w.heap.size ≤ (wr.alloc o).heap.size) := fun o => by have := hb.size; simp; omega
      obtain ⟨q, hq⟩ : ∃ q, t % 7 = q := ⟨_, rfl⟩
      have d1 : (t : Int) % 7 = (q : Int) := by omega
      have d2 : (t : Int).tmod 7 = (q : Int) := by rw [Int.tmod_eq_emod_of_nonneg (by omega), d1]
      have hq7 : q < 7 := by omega
      have e1 : wrap64 (201 + (q : Int)) = 201 + (q : Int) := by unfold wrap64; omega
      have b1 : (0 : Int) ≤ 201 + (q : Int) := by omega
      have b2 : 201 + (q : Int) < 256 := by omega
      have HM : Hid (lnf x n (n + t) = .int .u8 (201 + (q : Int))) := by show _ = _; rw [lnf_out]; unfold mk7; rw [hq]
      clear hq
      go_wp2_with (at_builtin; refine wpList_append_own _ rfl _ _ 23 rfl w.heap.size 5 i1 (.int .u8 0) 1 1 Try.underlying23 hif1 hz01 hz11 hz21 rfl (by decide) _ _ _ rfl (hown.alloc _) ⟨wr.heap.size, 0, none⟩ 1 1 [.int .u8 (201 + (q : Int))] rfl rfl (one_new _ _ _) (one_cellv rfl) M1.out (by omega) (M3.out _) ?_; intro v' w3 hown' hgrow _)
      have hb3 := below_append (hb.alloc hb.size _) (M3.out _) hgrow (hown.alloc _) (Nat.le_refl _)
      rw [← HM.out, ← lv_succ, Nat.add_assoc] at hown'
      clear hown hgrow d1 d2
      go_roundw
      case rel => exact ⟨t + 1, by omega, by go_num, hown', hb3⟩
      case measure => simp [intOf]; omega
    · obtain rfl : t = 64 := by omega
      obtain ⟨g, cap, f, ev, hg, hc, hO, hf⟩ := owned_cap hown (by omega)
      subst ev
      have k1 : (n : Int) ≤ (cap : Int) := by omega
      have k2 : (0 : Int) ≤ (n : Int) := by omega
      have HL : Hid (Lnt wr g n cap x) := by
        show Lnt _ _ _ _ _
        unfold Lnt
        exact ⟨hc, f, hO, fun j hj => by rw [hf j (by omega), lnf_in hj], fun j hj => by rw [hf (n + j) (by omega), lnf_out]⟩
      clear hO hf hown
      go_wp2
      go_ret
      exact ⟨g, cap, rfl, hg, HL.out, hb⟩
end
theorem lnt_conv {w : World} {g n cap : Nat} {x : Nat → BitVec 8} (h : Lnt w g n cap x) : (convert 23 9 (.slice (some ⟨g, 0, none⟩) n cap)).run Try.prog w = .ok (.string (str x n)) w := conv_row h.nr
section
attribute [local irreducible] Calls NrE el mk7 Lnt str
set_option maxHeartbeats 8000000 in
set_option maxRecDepth 1000000 in
theorem unmarked_core (g n cap c : Nat) (p : Option Addr) (x : Nat → BitVec 8) (w : World) (hn : n ≤ 140737488355200) (hc : n + 64 ≤ cap) (HL : Hid (Lnt w g n cap x)) (H2 : Hid (NrE w (.slice p n c) n x)) : Calls Try.prog 21 #[.slice (some ⟨g, 0, none⟩) n cap, .slice p n c] w fun e w' => e = .returned (.bool true) ∧ w' = w := by
  have c1 := lnt_conv HL.out
  have c2 := conv_row H2.out
  have hs : ((str x n).toList == (str x n).toList) = true := by simp
  have e0 : wrap64 ((n : Int) + 64) = (n : Int) + 64 := by unfold wrap64; omega
  have k1 : (n : Int) + 64 ≤ (cap : Int) := by omega
  have k2 : (0 : Int) ≤ (n : Int) + 64 := by omega
  go_enter Try.func21, Try.ntmps21
  go_wp2
  go_loop [6] (fun i => ∃ t : Nat, t ≤ 64 ∧ i = .int .i64 ((n : Int) + (t : Int))) (fun i => n + 64 - (intOf i).toNat)
  case atStart => exact ⟨0, Nat.zero_le _, by simp⟩
  case round =>
    clear c1 c2
    obtain ⟨t, ht, rfl⟩ := hrel
    by_cases hlt : t < 64
    · have j1 : (n : Int) + (t : Int) < (n : Int) + 64 := by omega
      have g1 := Lnt.mark HL.out hlt
      obtain ⟨q, hq⟩ : ∃ q, t % 7 = q := ⟨_, rfl⟩
      have s1 : wrap64 ((n : Int) + (t : Int) - (n : Int)) = (t : Int) := by unfold wrap64; omega
      have s2 : (n : Int) + (t : Int) - (n : Int) = (t : Int) := by omega
      have d1 : (t : Int) % 7 = (q : Int) := by omega
      have d2 : (t : Int).tmod 7 = (q : Int) := by rw [Int.tmod_eq_emod_of_nonneg (by omega), d1]
      have e1 : wrap64 (201 + (q : Int)) = 201 + (q : Int) := by unfold wrap64; omega
      have b1 : (0 : Int) ≤ 201 + (q : Int) := by omega
      have b2 : 201 + (q : Int) < 256 := by omega
      have e3 : (201 + (q : Int) != 201 + (q : Int)) = false := by simp
      have e4 : wrap64 ((n : Int) + (t : Int) + 1) = (n : Int) + (t : Int) + 1 := by unfold wrap64; omega
      have k3 : (0 : Int) ≤ (n : Int) + (t : Int) := by omega
      rw [show mk7 t = 201 + (q : Int) by unfold mk7; rw [hq]] at g1
      clear hq
      go_wp2
      go_round
      case rel => exact ⟨t + 1, by omega, by go_num⟩
      case measure => simp [intOf]; omega
    · obtain rfl : t = 64 := by omega
      go_wp2
      go_ret
      exact ⟨rfl, rfl⟩
end
end Go.Proofs.Ytienknoahjhopaa
