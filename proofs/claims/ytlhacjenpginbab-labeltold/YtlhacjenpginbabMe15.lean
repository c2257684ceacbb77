/-
  LabelOne: the walk.
-/
import Derived.Test.YtlhacjenpginbabMk15
import Derived.Test.YtlhacjenpginbabRl15
namespace Go.Proofs.Ytlhacjenpginbab
open Go.RowKit Go.Maps
theorem wpList_ldLg {w : World} {ops : Array Oper} {rest : List Oper} {o : Oper} {a : Act} {Q : Exit → Act → World → Prop} {h : Lbl} (hw : Region.wanted o (yielded ops a.tmps) = true) (x : Operand) (ho : o.op = .load 28 x) (g : Nat) (hx : a.eval x = .pointer (some ⟨g, 0, none⟩)) (H : LbAt w g h)
    (k : wpList Try.prog ops Q rest (a.put o.dst (.agg h.cs)) w) : wpList Try.prog ops Q (o :: rest) a w := by
  refine wpList_step fun K hK => ?_
  rw [if_pos hw]
  unfold Oper.wp execOp
  simp only [ho, hx, Instr.loadAt, Instr.sureAddr, Sem.run_bind, Sem.run_pure, Result.andThen_ok, run_loadLb H]
  exact hK _ _ k
theorem ok_in (h : Lbl) (ok : h.Ok) : h.In := by
  obtain ⟨⟩ := ok
  exact ⟨⟨by omega, by omega⟩, ⟨by omega, by omega⟩, ⟨by omega, by omega⟩, ⟨by omega, by omega⟩, ⟨by omega, by omega⟩⟩
theorem eql_lb00 (w : World) : (binOp .eql 28 (.agg lb0.cs) (.agg #[.int .u8 0, .int .u8 0, .int .u8 0, .int .u8 0, .int .u8 0, .int .u8 0, .int .u8 0, .int .u8 0, .int .i64 0, .int .i64 0, .int .i64 0, .int .i64 0, .int .i64 0])).run Try.prog w = .ok (.bool true) w := by
  have h := eql_lbl lb0 lb0 w
  rw [(lq_iff _ _).2 rfl] at h
  exact h
section
attribute [local irreducible] Calls el Lbl.cs cmo rg smL ar8
set_option maxHeartbeats 4000000 in
set_option maxRecDepth 1000000 in
theorem twin15_any {w : World} {p : Option Addr} {xs : List (BitVec 8)} (h : Rd w p xs) (n c : Nat) (hn : xs.length = n) (hm : n ≤ 140737488355328) : Calls Try.prog 8 #[.slice p n c] w fun e w' => ∃ v, e = .returned v ∧ Ow w' w.heap.size v xs ∧ Below w.heap.size w w' := by
  go_enter Try.func8, Try.ntmps8
  go_wp2_with (at_builtin; refine wpList_cl rfl _ _ rfl rfl p n c xs rfl h hn hm ?_; intro v1 w1 ho1 hb1)
  go_ret
  exact ⟨_, rfl, ho1, hb1⟩
set_option maxHeartbeats 8000000 in
set_option maxRecDepth 1000000 in
theorem labelOne_no {w : World} {p : Option Addr} {bs : List (BitVec 8)} (h : Rd w p bs) (n c : Nat) (hn : bs.length = n) (hm : n ≤ 140737488355328) (hq : pL bs = (150, lb0)) : Calls Try.prog 3 #[.slice p n c] w fun e w' => e = .returned (.bool true) ∧ Below w.heap.size w w' := by
  have KN := (show Hid _ from fun w => known_any w)
  have TW := (show Hid _ from fun (W : World) (hb : Below w.heap.size w W) => twin15_any (h.below hb) n c hn hm)
  have LP := (show Hid (∀ (W : World) v (base : Nat), Ow W base v bs → Calls Try.prog 7 #[v] W fun e w' => e = .returned (.tuple #[.agg lb0.cs, .int .i64 150]) ∧ Below W.heap.size W w') from fun W v base ho => by
    obtain ⟨q, d, rfl, hd, hr⟩ := ho.rd
    have := lparse_any hr bs.length d rfl hd
    rw [hq] at this
    exact this)
  have Q0 := eql_lb00
  clear hq
  go_enter Try.func3, Try.ntmps3
  go_wp2_with (first
    | (go_at_call 6; refine (KN.out _).mono ?_; rintro e w1 ⟨rfl, hbw⟩)
    | (go_at_call 8; refine (TW.out _ hbw).mono ?_; rintro e w4 ⟨v4, rfl, ho4, hb4⟩; replace hbw := bt hbw hb4)
    | (go_at_call 7; refine (LP.out _ _ _ ho4).mono ?_; rintro e w5 ⟨rfl, hb5⟩; replace hbw := bt hbw hb5)
    | (refine wpList_alLb rfl rfl ?_; intro w6 ZM hbM hs; clear hs)
    | (refine wpList_storeLb rfl _ _ rfl rfl w5.heap.size rfl rfl ZM ?_; intro w7 Z7 hT7; have hb7 := hT7.2.1 _ _ hbM (Nat.le_refl _); replace hbw := bt hbw hb7; clear ZM)
    | (refine wpList_ldLg (by rfl) _ rfl w5.heap.size rfl Z7 ?_))
  go_ret
  exact ⟨rfl, hbw⟩
set_option maxHeartbeats 8000000 in
set_option maxRecDepth 1000000 in
theorem labelOne_ok {w : World} {p : Option Addr} {bs : List (BitVec 8)} (h : Rd w p bs) (n c : Nat) (hn : bs.length = n) (hm : n ≤ 140737488355328) (l : Lbl) (hq : pL bs = (0, l)) : Calls Try.prog 3 #[.slice p n c] w fun e w' => e = .returned (.bool true) ∧ Below w.heap.size w w' := by
  obtain ⟨ok, hbs⟩ := pL_inv bs l hq
  have h0 := (ck_ok l).2 ok
  have KN := (show Hid _ from fun w => known_any w)
  have EN := (show Hid _ from fun w => lencode_any l (ok_in l ok) w)
  unfold Lbl.enc at EN
  rw [if_pos h0, h0] at EN
  have FT := (show Hid _ from fun w => fit_any l (ok_in l ok) w)
  have hf : fitb l = true := by unfold fitb; exact decide_eq_true h0
  rw [hf] at FT
  have TW := (show Hid _ from fun (W : World) (hb : Below w.heap.size w W) => twin15_any (h.below hb) n c hn hm)
  have LP := (show Hid (∀ (W : World) v (base : Nat), Ow W base v bs → Calls Try.prog 7 #[v] W fun e w' => e = .returned (.tuple #[.agg l.cs, .int .i64 0]) ∧ Below W.heap.size W w') from fun W v base ho => by
    obtain ⟨q, d, rfl, hd, hr⟩ := ho.rd
    have := lparse_any hr bs.length d rfl hd
    rw [hq] at this
    exact this)
  have SQ : ((bstr l.fm).toList == (bstr bs).toList) = true := by rw [← hbs]; simp
  have hl := l.fm_len
  clear hq hbs h0 hf ok
  go_enter Try.func3, Try.ntmps3
  go_wp2_with (first
    | (go_at_call 6; refine (KN.out _).mono ?_; rintro e w1 ⟨rfl, hbw⟩)
    | (go_at_call 8; refine (TW.out _ hbw).mono ?_; rintro e w4 ⟨v4, rfl, ho4, hb4⟩; replace hbw := bt hbw hb4)
    | (go_at_call 7; refine (LP.out _ _ _ ho4).mono ?_; rintro e w5 ⟨rfl, hb5⟩; replace hbw := bt hbw hb5)
    | (refine wpList_alLb rfl rfl ?_; intro w6 ZM hbM hs; clear hs)
    | (refine wpList_storeLb rfl _ _ rfl rfl w5.heap.size rfl rfl ZM ?_; intro w7 Z7 hT7; have hb7 := hT7.2.1 _ _ hbM (Nat.le_refl _); replace hbw := bt hbw hb7; clear ZM)
    | (refine wpList_loadLb rfl _ rfl w5.heap.size rfl Z7 ?_)
    | (go_at_call 9; refine (EN.out _).mono ?_; rintro e w8 ⟨v8, rfl, ho8, hb8⟩; obtain ⟨g8, c8, rfl, hc8, _, _, hr8⟩ := ow31 ho8 hl; replace Z7 := Z7.below hb8; replace hbw := bt hbw hb8; have CV1 := conv_rd hr8 31 c8 hl; have CV2 := conv_rd (h.below hbw) n c hn)
    | (refine wpList_ldLg (by rfl) _ rfl w5.heap.size rfl Z7 ?_)
    | (go_at_call 10; refine (FT.out _).mono ?_; rintro e w9 ⟨rfl, hb9⟩; replace hbw := bt hbw hb9))
  go_ret
  exact ⟨rfl, hbw⟩
theorem labelOne_walk {w : World} {p : Option Addr} {bs : List (BitVec 8)} (h : Rd w p bs) (n c : Nat) (hn : bs.length = n) (hm : n ≤ 140737488355328) : Calls Try.prog 3 #[.slice p n c] w fun e w' => e = .returned (.bool true) ∧ Below w.heap.size w w' := by
  rcases pL_or bs with ⟨l, hq⟩ | hq
  · exact labelOne_ok h n c hn hm l hq
  · exact labelOne_no h n c hn hm hq
end
end Go.Proofs.Ytlhacjenpginbab
