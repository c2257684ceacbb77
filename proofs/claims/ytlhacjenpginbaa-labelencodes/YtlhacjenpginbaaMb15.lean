/-
  LabelEncodes, LabelBack: the walks.
-/
import Derived.Test.YtlhacjenpginbaaMk15
import Derived.Test.YtlhacjenpginbaaRn15
namespace Go.Proofs.Ytlhacjenpginbaa
open Go.RowKit Go.Maps
theorem enc_len (h : Lbl) : h.enc.length ≤ 31 := by
  unfold Lbl.enc
  split
  · rw [Lbl.fm_len]; exact Nat.le_refl _
  · exact Nat.zero_le _
theorem wpList_ldLg {w : World} {ops : Array Oper} {rest : List Oper} {o : Oper} {a : Act} {Q : Exit → Act → World → Prop} {h : Lbl} (hw : Region.wanted o (yielded ops a.tmps) = true) (x : Operand) (ho : o.op = .load 26 x) (g : Nat) (hx : a.eval x = .pointer (some ⟨g, 0, none⟩)) (H : LbAt w g h)
    (k : wpList Try.prog ops Q rest (a.put o.dst (.agg h.cs)) w) : wpList Try.prog ops Q (o :: rest) a w := by
  refine wpList_step fun K hK => ?_
  rw [if_pos hw]
  unfold Oper.wp execOp
  simp only [ho, hx, Instr.loadAt, Instr.sureAddr, Sem.run_bind, Sem.run_pure, Result.andThen_ok, run_loadLb H]
  exact hK _ _ k
theorem ck_no (h : Lbl) (h0 : h.ck ≠ 0) : h.ck = 4 ∨ h.ck = 2 := by
  unfold Lbl.ck at h0 ⊢
  split
  · exact .inl rfl
  · rename_i g1
    rw [if_neg g1] at h0
    split
    · exact .inr rfl
    · rename_i g2
      rw [if_neg g2] at h0
      split
      · exact .inr rfl
      · rename_i g3
        rw [if_neg g3] at h0
        exact absurd rfl h0
section
attribute [local irreducible] Calls el Lbl.cs cmo rg smL ar8
set_option maxHeartbeats 8000000 in
set_option maxRecDepth 1000000 in
theorem labelEncodes_walk (h : Lbl) (hi : h.In) (w : World) : Calls Try.prog 4 #[.agg h.cs] w fun e w' => e = .returned (.bool true) ∧ Below w.heap.size w w' := by
  have KN := (show Hid _ from fun w => known_any w)
  have EN := (show Hid _ from fun w => lencode_any h hi w)
  have RE := (show Hid _ from fun w => rencode_any h hi w)
  have HA := LbAt.new w h
  have hbw := (Below.refl _ w).alloc (Nat.le_refl _) (.cells h.cs 26)
  have SQ : ((bstr h.enc).toList == (bstr h.enc).toList) = true := by simp
  generalize h.enc = X at *
  generalize h.ck = z at *
  go_enter Try.func4, Try.ntmps4
  go_wp2_with (first
    | (refine wpList_loadLb rfl _ rfl w.heap.size rfl HA ?_)
    | (go_at_call 11; refine (RE.out _).mono ?_; rintro e w1 ⟨v1, rfl, ho1, hb1⟩; obtain ⟨p1, c1, rfl, hc1, hr1⟩ := ho1.rd; replace HA := HA.below hb1; replace hbw := bt hbw hb1)
    | (go_at_call 12; refine (EN.out _).mono ?_; rintro e w2 ⟨v2, rfl, ho2, hb2⟩; obtain ⟨p2, c2, rfl, hc2, hr2⟩ := ho2.rd; replace hr1 := hr1.below hb2; replace hbw := bt hbw hb2; have CV1 := conv_rd hr1 X.length c1 rfl; have CV2 := conv_rd hr2 X.length c2 rfl)
    | (go_at_call 10; refine (KN.out _).mono ?_; rintro e w3 ⟨rfl, hb3⟩; replace hbw := bt hbw hb3))
  go_ret
  exact ⟨rfl, hbw⟩
set_option maxHeartbeats 8000000 in
set_option maxRecDepth 1000000 in
theorem labelBack_ok (h : Lbl) (hi : h.In) (h0 : h.ck = 0) (w : World) : Calls Try.prog 6 #[.agg h.cs] w fun e w' => e = .returned (.bool true) ∧ Below w.heap.size w w' := by
  have KN := (show Hid _ from fun w => known_any w)
  have EN := (show Hid _ from fun w => lencode_any h hi w)
  have FT := (show Hid _ from fun w => fit_any h hi w)
  have hf : fitb h = true := by unfold fitb; exact decide_eq_true h0
  rw [hf] at FT
  unfold Lbl.enc at EN
  rw [if_pos h0, h0] at EN
  have PA := (show Hid (∀ (W : World) (g c : Nat) (hr : Rd W (some ⟨g, 0, none⟩) h.fm) (hc : 31 ≤ c), Calls Try.prog 14 #[.slice (some ⟨g, 0, none⟩) 31 c] W fun e w' => e = .returned (.tuple #[.agg h.cs, .int .i64 0]) ∧ Below W.heap.size W w') from fun W g c hr hc => by
    have := lparse_any hr 31 c h.fm_len hc
    rw [pL_fm h ((ck_ok h).1 h0)] at this
    exact this)
  have HA := LbAt.new w h
  have hbw := (Below.refl _ w).alloc (Nat.le_refl _) (.cells h.cs 26)
  have Q1 := fun W => eql_lbl h h W
  rw [(lq_iff h h).2 rfl] at Q1
  have hl := h.fm_len
  clear h0 hf
  go_enter Try.func6, Try.ntmps6
  go_wp2_with (first
    | (refine wpList_loadLb rfl _ rfl w.heap.size rfl HA ?_)
    | (go_at_call 12; refine (EN.out _).mono ?_; rintro e w1 ⟨v1, rfl, ho1, hb1⟩; obtain ⟨g1, c1, rfl, hc1, hg1, hg2, hr1⟩ := ow31 ho1 hl; replace HA := HA.below hb1; replace hbw := bt hbw hb1)
    | (go_at_call 10; refine (KN.out _).mono ?_; rintro e w3 ⟨rfl, hb3⟩; replace hbw := bt hbw hb3; replace HA := HA.below hb3; replace hr1 := hr1.below hb3)
    | (refine wpList_ldLg (by rfl) _ rfl w.heap.size rfl HA ?_)
    | (go_at_call 16; refine (FT.out _).mono ?_; rintro e w4 ⟨rfl, hb4⟩; replace hbw := bt hbw hb4; replace HA := HA.below hb4; replace hr1 := hr1.below hb4)
    | (go_at_call 14; refine (PA.out _ g1 c1 hr1 hc1).mono ?_; rintro e w5 ⟨rfl, hb5⟩; replace hbw := bt hbw hb5; replace HA := HA.below hb5; have s1 : Hid (0 = 0) := rfl)
    | (revert s1; intro s1; refine wpList_alLb rfl rfl ?_; intro w6 ZN hbN hs; clear hs)
    | (revert s1; intro s1; refine wpList_storeLb rfl _ _ rfl rfl w5.heap.size rfl rfl ZN ?_; intro w7 Z7 hT7; have hb7 := hT7.2.1 _ _ hbN (Nat.le_refl _); replace hbw := bt hbw hb7; replace HA := HA.below hb7; clear s1 ZN)
    | (refine wpList_ldLg (by rfl) _ rfl w5.heap.size rfl Z7 ?_))
  go_ret
  exact ⟨rfl, hbw⟩
set_option maxHeartbeats 8000000 in
set_option maxRecDepth 1000000 in
theorem labelBack_no (h : Lbl) (hi : h.In) (h0 : h.ck ≠ 0) (w : World) : Calls Try.prog 6 #[.agg h.cs] w fun e w' => e = .returned (.bool true) ∧ Below w.heap.size w w' := by
  have KN := (show Hid _ from fun w => known_any w)
  have EN := (show Hid _ from fun w => lencode_any h hi w)
  have FT := (show Hid _ from fun w => fit_any h hi w)
  have hf : fitb h = false := by unfold fitb; exact decide_eq_false h0
  rw [hf] at FT
  unfold Lbl.enc at EN
  rw [if_neg h0] at EN
  have hz := ck_no h h0
  have HA := LbAt.new w h
  have hbw := (Below.refl _ w).alloc (Nat.le_refl _) (.cells h.cs 26)
  generalize h.ck = z at *
  clear hf h0
  rcases hz with rfl | rfl
  · go_enter Try.func6, Try.ntmps6
    go_wp2_with (first
      | (refine wpList_loadLb rfl _ rfl w.heap.size rfl HA ?_)
      | (go_at_call 12; refine (EN.out _).mono ?_; rintro e w1 ⟨v1, rfl, ho1, hb1⟩; obtain ⟨p1, c1, hv1, hc1, hr1⟩ := ho1.rd; replace hv1 : v1 = .slice p1 0 c1 := hv1; subst hv1; replace HA := HA.below hb1; replace hbw := bt hbw hb1)
      | (go_at_call 10; refine (KN.out _).mono ?_; rintro e w3 ⟨rfl, hb3⟩; replace hbw := bt hbw hb3; replace HA := HA.below hb3)
      | (refine wpList_ldLg (by rfl) _ rfl w.heap.size rfl HA ?_)
      | (go_at_call 16; refine (FT.out _).mono ?_; rintro e w4 ⟨rfl, hb4⟩; replace hbw := bt hbw hb4; replace HA := HA.below hb4))
    go_ret
    exact ⟨rfl, hbw⟩
  · go_enter Try.func6, Try.ntmps6
    go_wp2_with (first
      | (refine wpList_loadLb rfl _ rfl w.heap.size rfl HA ?_)
      | (go_at_call 12; refine (EN.out _).mono ?_; rintro e w1 ⟨v1, rfl, ho1, hb1⟩; obtain ⟨p1, c1, hv1, hc1, hr1⟩ := ho1.rd; replace hv1 : v1 = .slice p1 0 c1 := hv1; subst hv1; replace HA := HA.below hb1; replace hbw := bt hbw hb1)
      | (go_at_call 10; refine (KN.out _).mono ?_; rintro e w3 ⟨rfl, hb3⟩; replace hbw := bt hbw hb3; replace HA := HA.below hb3)
      | (refine wpList_ldLg (by rfl) _ rfl w.heap.size rfl HA ?_)
      | (go_at_call 16; refine (FT.out _).mono ?_; rintro e w4 ⟨rfl, hb4⟩; replace hbw := bt hbw hb4; replace HA := HA.below hb4))
    go_ret
    exact ⟨rfl, hbw⟩
theorem labelBack_walk (h : Lbl) (hi : h.In) (w : World) : Calls Try.prog 6 #[.agg h.cs] w fun e w' => e = .returned (.bool true) ∧ Below w.heap.size w w' := by
  by_cases h0 : h.ck = 0
  · exact labelBack_ok h hi h0 w
  · exact labelBack_no h hi h0 w
end
end Go.Proofs.Ytlhacjenpginbaa
