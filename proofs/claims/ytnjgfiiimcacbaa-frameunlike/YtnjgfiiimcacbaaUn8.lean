/-
  FrameUnlike: the walk.
-/
import Derived.Test.YtnjgfiiimcacbaaFv8
import Derived.Test.YtnjgfiiimcacbaaAw8
import Derived.Test.YtnjgfiiimcacbaaEn9
import Derived.Test.YtnjgfiiimcacbaaSa8
import Derived.Test.YtnjgfiiimcacbaaSi8
import Derived.Deep.RegionHeld3
namespace Go.Proofs.Ytnjgfiiimcacbaa
open Go.RowKit
theorem fit_may (h : Hd) (ok : h.Ok) (bl : List (List (BitVec 8))) : May h (fitB h.ls bl) := ⟨ok, fitB_ls _ _⟩
theorem en_may {h : Hd} {bl : List (List (BitVec 8))} (hm : May h bl) : enE h bl = 0 ∧ enL h bl = h.fm bl := by
  have e : enE h bl = 0 := by unfold enE; rw [if_neg (by rw [(chk_ok h).2 hm.1]; simp), if_pos hm.2]
  exact ⟨e, by unfold enL; rw [if_pos e]⟩
theorem unlike_is {h g : Hd} {bl cl : List (List (BitVec 8))} (hm : May h bl) (hg : May g cl) : (decide (h.fm bl = g.fm cl) == (hq h g && decide (bl = cl))) = true := by
  by_cases e : h.fm bl = g.fm cl
  · obtain ⟨rfl, rfl⟩ := fm_inj hm hg e
    have : hq h h = true := (hq_iff h h).2 rfl
    simp [this]
  · have h1 : (hq h g && decide (bl = cl)) = false := by
      cases h2 : hq h g with
      | false => rfl
      | true =>
        obtain rfl := (hq_iff h g).1 h2
        have : bl ≠ cl := fun e2 => e (by rw [e2])
        simp [this]
    simp [e, h1]
section
attribute [local irreducible] Calls
theorem fit8_any (h : Hd) (hi : h.In) (hy : h.key.length ≤ 9223372036854775807) {w : World} {p : Option Addr} {bl : List (List (BitVec 8))} (HB : Rws w p bl) (n c : Nat) (hn : bl.length = n) :
    Calls Try.prog 7 #[.agg (h.sh (.slice p n c))] w fun e w' => ∃ v b, e = .returned (.tuple #[.agg (h.sh v), .bool b]) ∧ v.oneCell' = true ∧ Below w.heap.size w w' := by
  by_cases hc : chk h = 0
  · refine (fit8_ok h hi ((chk_ok h).1 hc) HB n c hn).mono ?_
    rintro e w' ⟨v, rfl, hB, hb⟩
    obtain ⟨p', c', rfl, _, _⟩ := hB.rws
    exact ⟨_, true, rfl, rfl, hb⟩
  · refine (fit8_no h hi hy p n c w hc).mono ?_
    rintro e w' ⟨rfl, hb⟩
    exact ⟨_, false, rfl, rfl, hb⟩
theorem takeH8 {P : Program} {ops : Array Oper} {Q : Exit → Act → World → Prop} {md : Region.Mode} {S : World → Prop} {i : Nat} {oi : Oper} {d : Option Tmp} {v : Value} {fuel : Nat} {listed : Array Bool} {a : Act} {w : World} (hi : ops[i]? = some oi) (hd : oi.dst = d)
    (hs : Region.noSelect ops = true) (hf : Region.free md ops listed i = true) (hr : (Region.ready md ops listed).contains i = true)
    (hQ : ∀ c a w, Q (.panic c) (a.put oi.dst v) w → Q (.panic c) a w) (hy : YieldsIf P ops S oi v a) (hS : S w)
    (h : wpAnyH P md ops Q S fuel (listed.setIfInBounds i true) (a.put d v) w) : wpAnyH P md ops Q S (fuel + 1) listed a w := by
  subst hd; exact wpAnyH_take hi hs hf hr hQ hy hS h
theorem SdAt.run8 {w : World} {g : Nat} {h : Hd} {v : Value} (H : SdAt w g h v) : (loadVar 31 ⟨g, 0, none⟩).run Try.prog w = .ok (.agg (h.sh v)) w :=
  run_loadVar_in w g 31 (h.sh v) _ (fun j u hj => by unfold SdAt at H; rw [cell_of_row _ _ _ _ _ (0, 0) H]; simpa using hj) Try.underlying31 rfl sizeSd
theorem ex_ldS8 {o : Oper} {a : Act} {X : World} {h : Hd} {v : Value} (x : Operand) (ho : o.op = .load 31 x) (g : Nat) (hx : a.eval x = .pointer (some ⟨g, 0, none⟩)) (H : SdAt X g h v) : (execOp a.eval o).run Try.prog X = .ok (.value (.agg (h.sh v))) X := by
  unfold execOp
  simp only [ho, hx, Instr.loadAt, Instr.sureAddr, Sem.run_bind, Sem.run_pure, Result.andThen_ok, H.run8]
attribute [local irreducible] el Hd.cs Hd.sh hq
set_option maxHeartbeats 16000000 in
set_option maxRecDepth 1000000 in
theorem frameUnlike_no0 (h0 : Hd) (hin0 : h0.In) (hy0 : h0.key.length ≤ 9223372036854775807) (a0 : Option Addr) (n0 c0 : Nat) (bl0 : List (List (BitVec 8))) (h1 : Hd) (hin1 : h1.In) (hy1 : h1.key.length ≤ 9223372036854775807) (a1 : Option Addr) (n1 c1 : Nat) (bl1 : List (List (BitVec 8))) (hb1 : bl1.length = n1) (w : World) (hR0 : Rws w a0 bl0) (hR1 : Rws w a1 bl1) (hc0 : chk h0 ≠ 0) :
    Calls Try.prog 4 #[.agg (h0.sh (.slice a0 n0 c0)), .agg (h1.sh (.slice a1 n1 c1))] w fun e w' => e = .returned (.bool true) ∧ Below w.heap.size w w' := by
  have al : ∀ (W : World) (o : Obj), Below W.heap.size W (W.alloc o) := fun W o => (Below.refl _ _).alloc (Nat.le_refl _) o
  have AW := (show Hid _ from awake_any)
  obtain ⟨W0, hW0⟩ : ∃ W0, W0 = (w.alloc (.cells (h0.sh (.slice a0 n0 c0)) 31)).alloc (.cells (h1.sh (.slice a1 n1 c1)) 31) := ⟨_, rfl⟩
  have B0 := (show Hid (Below w.heap.size w W0) from by rw [hW0]; exact bt (al _ _) (al _ _))
  have S00 := (show Hid (SdAt W0 w.heap.size h0 (.slice a0 n0 c0)) from by rw [hW0]; exact SdAt.below (heap_alloc_new w _) (al _ _))
  have S10 := (show Hid (SdAt W0 (w.heap.size + 1) h1 (.slice a1 n1 c1)) from by have h9 := heap_alloc_new (w.alloc (.cells (h0.sh (.slice a0 n0 c0)) 31)) (.cells (h1.sh (.slice a1 n1 c1)) 31); rw [al_sz] at h9; rw [hW0]; exact h9)
  have Q0 := (show Hid (Rws W0 a0 bl0) from Rws.below hR0 B0.out)
  have Q1 := (show Hid (Rws W0 a1 bl1) from Rws.below hR1 B0.out)
  have HW0 := (show Hid _ from hW0.symm)
  clear hW0 hR0 hR1
  go_enter Try.func4, Try.ntmps4
  go_wp2_with (first
    | (go_at_call 6; rw [HW0.out]; refine (AW.out W0).mono ?_; rintro e w1 ⟨rfl, hb1'⟩; have S01 := (show Hid (SdAt w1 w.heap.size h0 (.slice a0 n0 c0)) from SdAt.below S00.out hb1'); have S11 := (show Hid (SdAt w1 (w.heap.size + 1) h1 (.slice a1 n1 c1)) from SdAt.below S10.out hb1'); have Q01 := (show Hid (Rws w1 a0 bl0) from Rws.below Q0.out hb1'); have Q11 := (show Hid (Rws w1 a1 bl1) from Rws.below Q1.out hb1'); have Bw1 := (show Hid (Below w.heap.size w w1) from bt B0.out hb1'); clear S00 S10 Q0 Q1)
    | (refine wpList_ldS rfl _ rfl w.heap.size rfl S01.out ?_)
    | (go_at_call 7; revert S01; intro S01; refine (fit8_no h0 hin0 hy0 a0 n0 c0 w1 hc0).mono ?_; rintro e w2 ⟨rfl, hb2⟩; obtain ⟨v2, hv2⟩ : ∃ v2, v2 = Value.slice a0 n0 c0 := ⟨_, rfl⟩; rw [← hv2]; have ov2 : v2.oneCell' = true := (by rw [hv2]; rfl); clear hv2; clear S01)
    | (refine wpList_stS h0 v2 ov2 rfl _ _ rfl rfl w2.heap.size rfl rfl (sz0 (heap_alloc_new w2 _)) ?_; intro w3 H3 hT3; have B13 := (show Hid (Below w1.heap.size w1 w3) from bt hb2 (hT3.2.1 _ _ (al w2 _) (Nat.le_refl _))); have B23 := (show Hid (Below w2.heap.size w2 w3) from hT3.2.1 _ _ (al w2 _) (Nat.le_refl _)); have S13 := (show Hid (SdAt w3 (w.heap.size + 1) h1 (.slice a1 n1 c1)) from SdAt.below S11.out B13.out); have Q13 := (show Hid (Rws w3 a1 bl1) from Rws.below Q11.out B13.out); have H3' := (show Hid (SdAt w3 w2.heap.size h0 v2) from H3); clear hT3 S11 Q11 H3)
    | (refine wpList_ldS rfl _ rfl (w.heap.size + 1) rfl S13.out ?_)
    | (go_at_call 7; revert S13; intro S13; refine (fit8_any h1 hin1 hy1 Q13.out n1 c1 hb1).mono ?_; rintro e w4 ⟨v4, b4, rfl, ov4, hb4⟩; clear S13)
    | (refine wpList_stS h1 v4 ov4 rfl _ _ rfl rfl w4.heap.size rfl rfl (sz0 (heap_alloc_new w4 _)) ?_; intro w5 H5 hT5; have B45 := (show Hid (Below w4.heap.size w4 w5) from hT5.2.1 _ _ (al w4 _) (Nat.le_refl _)); have H5' := (show Hid (SdAt w5 w4.heap.size h1 v4) from H5); have H35 := (show Hid (SdAt w5 w2.heap.size h0 v2) from SdAt.below (SdAt.below H3'.out hb4) B45.out); have Bw5 := (show Hid (Below w.heap.size w w5) from bt (bt (bt Bw1.out B13.out) hb4) B45.out); clear hT5 H5))
  go_ret
  exact ⟨rfl, Bw5.out⟩
set_option maxHeartbeats 16000000 in
set_option maxRecDepth 1000000 in
theorem frameUnlike_no1 (h0 : Hd) (hin0 : h0.In) (a0 : Option Addr) (n0 c0 : Nat) (bl0 : List (List (BitVec 8))) (hb0 : bl0.length = n0) (h1 : Hd) (hin1 : h1.In) (hy1 : h1.key.length ≤ 9223372036854775807) (a1 : Option Addr) (n1 c1 : Nat) (bl1 : List (List (BitVec 8))) (w : World) (hR0 : Rws w a0 bl0) (hR1 : Rws w a1 bl1) (ok0 : h0.Ok) (hc1 : chk h1 ≠ 0) :
    Calls Try.prog 4 #[.agg (h0.sh (.slice a0 n0 c0)), .agg (h1.sh (.slice a1 n1 c1))] w fun e w' => e = .returned (.bool true) ∧ Below w.heap.size w w' := by
  have al : ∀ (W : World) (o : Obj), Below W.heap.size W (W.alloc o) := fun W o => (Below.refl _ _).alloc (Nat.le_refl _) o
  have AW := (show Hid _ from awake_any)
  obtain ⟨W0, hW0⟩ : ∃ W0, W0 = (w.alloc (.cells (h0.sh (.slice a0 n0 c0)) 31)).alloc (.cells (h1.sh (.slice a1 n1 c1)) 31) := ⟨_, rfl⟩
  have B0 := (show Hid (Below w.heap.size w W0) from by rw [hW0]; exact bt (al _ _) (al _ _))
  have S00 := (show Hid (SdAt W0 w.heap.size h0 (.slice a0 n0 c0)) from by rw [hW0]; exact SdAt.below (heap_alloc_new w _) (al _ _))
  have S10 := (show Hid (SdAt W0 (w.heap.size + 1) h1 (.slice a1 n1 c1)) from by have h9 := heap_alloc_new (w.alloc (.cells (h0.sh (.slice a0 n0 c0)) 31)) (.cells (h1.sh (.slice a1 n1 c1)) 31); rw [al_sz] at h9; rw [hW0]; exact h9)
  have Q0 := (show Hid (Rws W0 a0 bl0) from Rws.below hR0 B0.out)
  have Q1 := (show Hid (Rws W0 a1 bl1) from Rws.below hR1 B0.out)
  have HW0 := (show Hid _ from hW0.symm)
  clear hW0 hR0 hR1
  go_enter Try.func4, Try.ntmps4
  go_wp2_with (first
    | (go_at_call 6; rw [HW0.out]; refine (AW.out W0).mono ?_; rintro e w1 ⟨rfl, hb1'⟩; have S01 := (show Hid (SdAt w1 w.heap.size h0 (.slice a0 n0 c0)) from SdAt.below S00.out hb1'); have S11 := (show Hid (SdAt w1 (w.heap.size + 1) h1 (.slice a1 n1 c1)) from SdAt.below S10.out hb1'); have Q01 := (show Hid (Rws w1 a0 bl0) from Rws.below Q0.out hb1'); have Q11 := (show Hid (Rws w1 a1 bl1) from Rws.below Q1.out hb1'); have Bw1 := (show Hid (Below w.heap.size w w1) from bt B0.out hb1'); clear S00 S10 Q0 Q1)
    | (refine wpList_ldS rfl _ rfl w.heap.size rfl S01.out ?_)
    | (go_at_call 7; revert S01; intro S01; refine (fit8_ok h0 hin0 ok0 Q01.out n0 c0 hb0).mono ?_; rintro e w2 ⟨v2, rfl, hB2, hb2⟩; have L2 := (show Hid (Bl w2 w1.heap.size v2 (fitB h0.ls bl0)) from hB2); clear hB2; have ov2 : v2.oneCell' = true := (by obtain ⟨_, _, e9, _, _⟩ := L2.out.rws; rw [e9]; rfl); clear S01)
    | (refine wpList_stS h0 v2 ov2 rfl _ _ rfl rfl w2.heap.size rfl rfl (sz0 (heap_alloc_new w2 _)) ?_; intro w3 H3 hT3; have B13 := (show Hid (Below w1.heap.size w1 w3) from bt hb2 (hT3.2.1 _ _ (al w2 _) (Nat.le_refl _))); have B23 := (show Hid (Below w2.heap.size w2 w3) from hT3.2.1 _ _ (al w2 _) (Nat.le_refl _)); have S13 := (show Hid (SdAt w3 (w.heap.size + 1) h1 (.slice a1 n1 c1)) from SdAt.below S11.out B13.out); have Q13 := (show Hid (Rws w3 a1 bl1) from Rws.below Q11.out B13.out); have H3' := (show Hid (SdAt w3 w2.heap.size h0 v2) from H3); clear hT3 S11 Q11 H3)
    | (refine wpList_ldS rfl _ rfl (w.heap.size + 1) rfl S13.out ?_)
    | (go_at_call 7; revert S13; intro S13; refine (fit8_no h1 hin1 hy1 a1 n1 c1 w3 hc1).mono ?_; rintro e w4 ⟨rfl, hb4⟩; obtain ⟨v4, hv4⟩ : ∃ v4, v4 = Value.slice a1 n1 c1 := ⟨_, rfl⟩; rw [← hv4]; have ov4 : v4.oneCell' = true := (by rw [hv4]; rfl); clear hv4; clear S13)
    | (refine wpList_stS h1 v4 ov4 rfl _ _ rfl rfl w4.heap.size rfl rfl (sz0 (heap_alloc_new w4 _)) ?_; intro w5 H5 hT5; have B45 := (show Hid (Below w4.heap.size w4 w5) from hT5.2.1 _ _ (al w4 _) (Nat.le_refl _)); have H5' := (show Hid (SdAt w5 w4.heap.size h1 v4) from H5); have H35 := (show Hid (SdAt w5 w2.heap.size h0 v2) from SdAt.below (SdAt.below H3'.out hb4) B45.out); have Bw5 := (show Hid (Below w.heap.size w w5) from bt (bt (bt Bw1.out B13.out) hb4) B45.out); clear hT5 H5))
  go_ret
  exact ⟨rfl, Bw5.out⟩
set_option maxHeartbeats 16000000 in
set_option maxRecDepth 1000000 in
theorem frameUnlike_ok (h0 : Hd) (hin0 : h0.In) (hy0 : h0.key.length ≤ 9223372036854775807) (a0 : Option Addr) (n0 c0 : Nat) (bl0 : List (List (BitVec 8))) (hb0 : bl0.length = n0) (h1 : Hd) (hin1 : h1.In) (hy1 : h1.key.length ≤ 9223372036854775807) (a1 : Option Addr) (n1 c1 : Nat) (bl1 : List (List (BitVec 8))) (hb1 : bl1.length = n1) (w : World) (hR0 : Rws w a0 bl0) (hR1 : Rws w a1 bl1) (ok0 : h0.Ok) (ok1 : h1.Ok) :
    Calls Try.prog 4 #[.agg (h0.sh (.slice a0 n0 c0)), .agg (h1.sh (.slice a1 n1 c1))] w fun e w' => e = .returned (.bool true) ∧ Below w.heap.size w w' := by
  have al : ∀ (W : World) (o : Obj), Below W.heap.size W (W.alloc o) := fun W o => (Below.refl _ _).alloc (Nat.le_refl _) o
  have AW := (show Hid _ from awake_any)
  obtain ⟨W0, hW0⟩ : ∃ W0, W0 = (w.alloc (.cells (h0.sh (.slice a0 n0 c0)) 31)).alloc (.cells (h1.sh (.slice a1 n1 c1)) 31) := ⟨_, rfl⟩
  have B0 := (show Hid (Below w.heap.size w W0) from by rw [hW0]; exact bt (al _ _) (al _ _))
  have S00 := (show Hid (SdAt W0 w.heap.size h0 (.slice a0 n0 c0)) from by rw [hW0]; exact SdAt.below (heap_alloc_new w _) (al _ _))
  have S10 := (show Hid (SdAt W0 (w.heap.size + 1) h1 (.slice a1 n1 c1)) from by have h9 := heap_alloc_new (w.alloc (.cells (h0.sh (.slice a0 n0 c0)) 31)) (.cells (h1.sh (.slice a1 n1 c1)) 31); rw [al_sz] at h9; rw [hW0]; exact h9)
  have Q0 := (show Hid (Rws W0 a0 bl0) from Rws.below hR0 B0.out)
  have Q1 := (show Hid (Rws W0 a1 bl1) from Rws.below hR1 B0.out)
  have HW0 := (show Hid _ from hW0.symm)
  clear hW0 hR0 hR1
  go_enter Try.func4, Try.ntmps4
  go_wp2_with (first
    | (go_at_call 6; rw [HW0.out]; refine (AW.out W0).mono ?_; rintro e w1 ⟨rfl, hb1'⟩; have S01 := (show Hid (SdAt w1 w.heap.size h0 (.slice a0 n0 c0)) from SdAt.below S00.out hb1'); have S11 := (show Hid (SdAt w1 (w.heap.size + 1) h1 (.slice a1 n1 c1)) from SdAt.below S10.out hb1'); have Q01 := (show Hid (Rws w1 a0 bl0) from Rws.below Q0.out hb1'); have Q11 := (show Hid (Rws w1 a1 bl1) from Rws.below Q1.out hb1'); have Bw1 := (show Hid (Below w.heap.size w w1) from bt B0.out hb1'); clear S00 S10 Q0 Q1)
    | (refine wpList_ldS rfl _ rfl w.heap.size rfl S01.out ?_)
    | (go_at_call 7; revert S01; intro S01; refine (fit8_ok h0 hin0 ok0 Q01.out n0 c0 hb0).mono ?_; rintro e w2 ⟨v2, rfl, hB2, hb2⟩; have L2 := (show Hid (Bl w2 w1.heap.size v2 (fitB h0.ls bl0)) from hB2); clear hB2; have ov2 : v2.oneCell' = true := (by obtain ⟨_, _, e9, _, _⟩ := L2.out.rws; rw [e9]; rfl); clear S01)
    | (refine wpList_stS h0 v2 ov2 rfl _ _ rfl rfl w2.heap.size rfl rfl (sz0 (heap_alloc_new w2 _)) ?_; intro w3 H3 hT3; have B13 := (show Hid (Below w1.heap.size w1 w3) from bt hb2 (hT3.2.1 _ _ (al w2 _) (Nat.le_refl _))); have B23 := (show Hid (Below w2.heap.size w2 w3) from hT3.2.1 _ _ (al w2 _) (Nat.le_refl _)); have S13 := (show Hid (SdAt w3 (w.heap.size + 1) h1 (.slice a1 n1 c1)) from SdAt.below S11.out B13.out); have Q13 := (show Hid (Rws w3 a1 bl1) from Rws.below Q11.out B13.out); have H3' := (show Hid (SdAt w3 w2.heap.size h0 v2) from H3); clear hT3 S11 Q11 H3)
    | (refine wpList_ldS rfl _ rfl (w.heap.size + 1) rfl S13.out ?_)
    | (go_at_call 7; revert S13; intro S13; refine (fit8_ok h1 hin1 ok1 Q13.out n1 c1 hb1).mono ?_; rintro e w4 ⟨v4, rfl, hB4, hb4⟩; have L4 := (show Hid (Bl w4 w3.heap.size v4 (fitB h1.ls bl1)) from hB4); clear hB4; have ov4 : v4.oneCell' = true := (by obtain ⟨_, _, e9, _, _⟩ := L4.out.rws; rw [e9]; rfl); clear S13)
    | (refine wpList_stS h1 v4 ov4 rfl _ _ rfl rfl w4.heap.size rfl rfl (sz0 (heap_alloc_new w4 _)) ?_; intro w5 H5 hT5; have B45 := (show Hid (Below w4.heap.size w4 w5) from hT5.2.1 _ _ (al w4 _) (Nat.le_refl _)); have H5' := (show Hid (SdAt w5 w4.heap.size h1 v4) from H5); have H35 := (show Hid (SdAt w5 w2.heap.size h0 v2) from SdAt.below (SdAt.below H3'.out hb4) B45.out); have Bw5 := (show Hid (Below w.heap.size w w5) from bt (bt (bt Bw1.out B13.out) hb4) B45.out); clear hT5 H5)
    | (refine wpList_ldS rfl _ rfl w2.heap.size rfl H35.out ?_)
    | (go_at_call 8; revert H35; intro H35; obtain ⟨q0, d0, e0, hd0, r0⟩ := L2.out.rws; have V2 := (show Hid _ from e0); rw [e0]; have R05 := (show Hid (Rws w5 q0 (fitB h0.ls bl0)) from Rws.below (Rws.below (Rws.below r0 B23.out) hb4) B45.out); refine (encode_any h0 hin0 hy0 R05.out _ d0 rfl).mono ?_; rintro e w6 ⟨v6, rfl, hO6, hb6⟩; rw [(en_may (fit_may h0 ok0 bl0)).2] at hO6; rw [(en_may (fit_may h0 ok0 bl0)).1]; obtain ⟨p6, c6, e6, hc6, hr6⟩ := hO6.rd; rw [e6]; have R6 := (show Hid (Rd w6 p6 (h0.fm (fitB h0.ls bl0))) from hr6); have H56 := (show Hid (SdAt w6 w4.heap.size h1 v4) from SdAt.below H5'.out hb6); have H36 := (show Hid (SdAt w6 w2.heap.size h0 v2) from SdAt.below H35.out hb6); clear H35 H5' e0 hO6 hr6 r0)
    | (refine wpList_ldS rfl _ rfl w4.heap.size rfl H56.out ?_)
    | (go_at_call 8; revert H56; intro H56; obtain ⟨q1, d1, e1, hd1, r1⟩ := L4.out.rws; have V4 := (show Hid _ from e1); rw [e1]; have R16 := (show Hid (Rws w6 q1 (fitB h1.ls bl1)) from Rws.below (Rws.below r1 B45.out) hb6); refine (encode_any h1 hin1 hy1 R16.out _ d1 rfl).mono ?_; rintro e w7 ⟨v7, rfl, hO7, hb7⟩; rw [(en_may (fit_may h1 ok1 bl1)).2] at hO7; rw [(en_may (fit_may h1 ok1 bl1)).1]; obtain ⟨p7, c7, e7, hc7, hr7⟩ := hO7.rd; rw [e7]; have R7 := (show Hid (Rd w7 p7 (h1.fm (fitB h1.ls bl1))) from hr7); clear e1 hO7 hr7 r1))
  have eV2 := V2.out
  have eV4 := V4.out
  subst eV2 eV4
  have B7d := (show Hid (Below w7.heap.size w7 w7.drew) from (Below.refl _ _).drew)
  have R05d := (show Hid (Rws w7.drew q0 (fitB h0.ls bl0)) from Rws.below (Rws.below R05.out hb6) (bt hb7 B7d.out))
  have R16d := (show Hid (Rws w7.drew q1 (fitB h1.ls bl1)) from Rws.below R16.out (bt hb7 B7d.out))
  have R6d := (show Hid (Rd w7.drew p6 (h0.fm (fitB h0.ls bl0))) from Rd.below R6.out (bt hb7 B7d.out))
  have R7d := (show Hid (Rd w7.drew p7 (h1.fm (fitB h1.ls bl1))) from Rd.below R7.out B7d.out)
  have H3d := (show Hid (SdAt w7.drew w2.heap.size h0 (.slice q0 (fitB h0.ls bl0).length d0)) from SdAt.below H36.out (bt hb7 B7d.out))
  have H5d := (show Hid (SdAt w7.drew w4.heap.size h1 (.slice q1 (fitB h1.ls bl1).length d1)) from SdAt.below H56.out (bt hb7 B7d.out))
  have hlb0 : (fitB h0.ls bl0).length ≤ 1099511627776 := by rw [fitB_len]; exact Nat.le_trans (h0.ls_bd ok0) (by decide)
  have SA := (show Hid _ from same_any h0 h1 R05d.out R16d.out _ d0 _ d1 rfl rfl hlb0)
  have UL := unlike_is (fit_may h0 ok0 bl0) (fit_may h1 ok1 bl1)
  have BQ := bstr_beq (h0.fm (fitB h0.ls bl0)) (h1.fm (fitB h1.ls bl1))
  obtain ⟨P, hP1, hP2⟩ : ∃ P : Bool, decide (h0.fm (fitB h0.ls bl0) = h1.fm (fitB h1.ls bl1)) = P ∧ (hq h0 h1 && decide (fitB h0.ls bl0 = fitB h1.ls bl1)) = P := ⟨_, rfl, (beq_iff_eq.1 UL).symm⟩
  rw [hP2] at SA
  rw [hP1] at BQ
  have NU := (show Hid _ from num_any 0)
  have Bw7 := (show Hid (Below w.heap.size w w7) from bt (bt Bw5.out hb6) hb7)
  have ppe : (P == P) = true := by simp
  clear UL hP1 hP2 V2 V4 hlb0
  generalize h0.fm (fitB h0.ls bl0) = f0 at *
  generalize h1.fm (fitB h1.ls bl1) = f1 at *
  generalize (fitB h0.ls bl0).length = m0 at *
  generalize (fitB h1.ls bl1).length = m1 at *
  refine wp_region_held_drew (S := fun X => (convert 32 9 (.slice p6 f0.length c6)).run Try.prog X = .ok (.string (bstr f0)) X ∧ (convert 32 9 (.slice p7 f1.length c7)).run Try.prog X = .ok (.string (bstr f1)) X ∧ SdAt X w2.heap.size h0 (.slice q0 m0 d0) ∧ SdAt X w4.heap.size h1 (.slice q1 m1 d1)) (by kernel_rfl) ⟨conv_rd R6d.out f0.length c6 rfl, conv_rd R7d.out f1.length c7 rfl, H3d.out, H5d.out⟩ (fun hHeld => ?_)
  refine takeH8 (i := 0) (d := some 43) (v := ?v0) rfl rfl (by kernel_rfl) (by kernel_rfl) (by kernel_rfl) (fun _ _ _ h => h) (Or.inl ⟨by rfl, ?hy0⟩) hHeld ?rest0
  case hy0 => intro X hSw; (try dsimp only at hSw); go_simp <;> with_reducible rfl
  try simp only [Act.put, List.setIfInBounds_toArray, List.set_cons_zero, List.set_cons_succ]
  refine wpAnyH_ready (rs := [1]) (by kernel_rfl) (by simp) ?_
  refine AllReadyH.cons (o := { dst := some 44, op := Op.call { callee := Callee.value (Operand.func 10), args := #[Operand.tmp 43], argTypes := #[36] }, type := 3, pos := "outright.go:281", after := #[{ on := 0, ground := Ground.data }], guard := none }) rfl (fun Kq hKq => ?_) AllReadyH.nil
  go_simp
  refine (NU.out _).mono ?_
  rintro e w8 ⟨rfl, h⟩
  subst h
  refine hKq.out _ _ hHeld (fun _ => ?_)
  clear hKq Kq
  try simp only [Act.put, List.setIfInBounds_toArray, List.set_cons_zero, List.set_cons_succ]
  refine takeH8 (i := 2) (d := some 45) (v := ?v2) rfl rfl (by kernel_rfl) (by kernel_rfl) (by kernel_rfl) (fun _ _ _ h => h) (Or.inl ⟨by rfl, ?hy2⟩) hHeld ?rest2
  case hy2 => intro X hSw; (try dsimp only at hSw); go_simp <;> with_reducible rfl
  try simp only [Act.put, List.setIfInBounds_toArray, List.set_cons_zero, List.set_cons_succ]
  refine takeH8 (i := 3) (d := some 46) (v := ?v3) rfl rfl (by kernel_rfl) (by kernel_rfl) (by kernel_rfl) (fun _ _ _ h => h) (Or.inl ⟨by rfl, ?hy3⟩) hHeld ?rest3
  case hy3 => intro X hSw; (try dsimp only at hSw); go_simp <;> with_reducible rfl
  try simp only [Act.put, List.setIfInBounds_toArray, List.set_cons_zero, List.set_cons_succ]
  refine takeH8 (i := 4) (d := some 47) (v := ?v4) rfl rfl (by kernel_rfl) (by kernel_rfl) (by kernel_rfl) (fun _ _ _ h => h) (Or.inl ⟨by rfl, ?hy4⟩) hHeld ?rest4
  case hy4 => intro X hSw; (try dsimp only at hSw); go_simp <;> with_reducible rfl
  try simp only [Act.put, List.setIfInBounds_toArray, List.set_cons_zero, List.set_cons_succ]
  refine wpAnyH_ready (rs := [5]) (by kernel_rfl) (by simp) ?_
  refine AllReadyH.cons (o := { dst := some 48, op := Op.call { callee := Callee.value (Operand.func 10), args := #[Operand.tmp 47], argTypes := #[36] }, type := 3, pos := "outright.go:281", after := #[{ on := 4, ground := Ground.data }, { on := 3, ground := Ground.chain }, { on := 3, ground := Ground.guard }], guard := some (3, true) }) rfl (fun Kq hKq => ?_) AllReadyH.nil
  go_simp
  refine (NU.out _).mono ?_
  rintro e w8 ⟨rfl, h⟩
  subst h
  refine hKq.out _ _ hHeld (fun _ => ?_)
  clear hKq Kq
  try simp only [Act.put, List.setIfInBounds_toArray, List.set_cons_zero, List.set_cons_succ]
  refine takeH8 (i := 6) (d := some 49) (v := ?v6) rfl rfl (by kernel_rfl) (by kernel_rfl) (by kernel_rfl) (fun _ _ _ h => h) (Or.inl ⟨by rfl, ?hy6⟩) hHeld ?rest6
  case hy6 => intro X hSw; (try dsimp only at hSw); go_simp <;> with_reducible rfl
  try simp only [Act.put, List.setIfInBounds_toArray, List.set_cons_zero, List.set_cons_succ]
  refine takeH8 (i := 7) (d := some 50) (v := ?v7) rfl rfl (by kernel_rfl) (by kernel_rfl) (by kernel_rfl) (fun _ _ _ h => h) (Or.inl ⟨by rfl, ?hy7⟩) hHeld ?rest7
  case hy7 => intro X hSw; (try dsimp only at hSw); go_simp <;> with_reducible rfl
  try simp only [Act.put, List.setIfInBounds_toArray, List.set_cons_zero, List.set_cons_succ]
  refine takeH8 (i := 8) (d := some 51) (v := ?v8) rfl rfl (by kernel_rfl) (by kernel_rfl) (by kernel_rfl) (fun _ _ _ h => h) (Or.inl ⟨by rfl, ?hy8⟩) hHeld ?rest8
  case hy8 => intro X hSw; (try dsimp only at hSw); go_simp <;> with_reducible rfl
  try simp only [Act.put, List.setIfInBounds_toArray, List.set_cons_zero, List.set_cons_succ]
  refine takeH8 (i := 9) (d := some 52) (v := ?v9) rfl rfl (by kernel_rfl) (by kernel_rfl) (by kernel_rfl) (fun _ _ _ h => h) (Or.inl ⟨by rfl, ?hy9⟩) hHeld ?rest9
  case hy9 => intro X hSw; (try dsimp only at hSw); go_simp <;> with_reducible rfl
  try simp only [Act.put, List.setIfInBounds_toArray, List.set_cons_zero, List.set_cons_succ]
  refine takeH8 (i := 10) (d := some 53) (v := .string (bstr f0)) rfl rfl (by kernel_rfl) (by kernel_rfl) (by kernel_rfl) (fun _ _ _ h => h) (Or.inl ⟨by rfl, ?hy10⟩) hHeld ?rest10
  case hy10 => intro X hSw; obtain ⟨g1, g2, _, _⟩ := hSw; go_simp
  try simp only [Act.put, List.setIfInBounds_toArray, List.set_cons_zero, List.set_cons_succ]
  refine takeH8 (i := 11) (d := some 54) (v := ?v11) rfl rfl (by kernel_rfl) (by kernel_rfl) (by kernel_rfl) (fun _ _ _ h => h) (Or.inl ⟨by rfl, ?hy11⟩) hHeld ?rest11
  case hy11 => intro X hSw; (try dsimp only at hSw); go_simp <;> with_reducible rfl
  try simp only [Act.put, List.setIfInBounds_toArray, List.set_cons_zero, List.set_cons_succ]
  refine takeH8 (i := 12) (d := some 55) (v := .string (bstr f1)) rfl rfl (by kernel_rfl) (by kernel_rfl) (by kernel_rfl) (fun _ _ _ h => h) (Or.inl ⟨by rfl, ?hy12⟩) hHeld ?rest12
  case hy12 => intro X hSw; obtain ⟨g1, g2, _, _⟩ := hSw; go_simp
  try simp only [Act.put, List.setIfInBounds_toArray, List.set_cons_zero, List.set_cons_succ]
  refine takeH8 (i := 13) (d := some 56) (v := ?v13) rfl rfl (by kernel_rfl) (by kernel_rfl) (by kernel_rfl) (fun _ _ _ h => h) (Or.inl ⟨by rfl, ?hy13⟩) hHeld ?rest13
  case hy13 => intro X hSw; (try dsimp only at hSw); go_simp <;> with_reducible rfl
  try simp only [Act.put, List.setIfInBounds_toArray, List.set_cons_zero, List.set_cons_succ]
  refine takeH8 (i := 14) (d := some 57) (v := .agg (h0.sh (.slice q0 m0 d0))) rfl rfl (by kernel_rfl) (by kernel_rfl) (by kernel_rfl) (fun _ _ _ h => h) (Or.inl ⟨by rfl, ?hy14⟩) hHeld ?rest14
  case hy14 => intro X hSw; exact ex_ldS8 _ rfl w2.heap.size rfl hSw.2.2.1
  try simp only [Act.put, List.setIfInBounds_toArray, List.set_cons_zero, List.set_cons_succ]
  refine takeH8 (i := 15) (d := some 58) (v := .agg (h1.sh (.slice q1 m1 d1))) rfl rfl (by kernel_rfl) (by kernel_rfl) (by kernel_rfl) (fun _ _ _ h => h) (Or.inl ⟨by rfl, ?hy15⟩) hHeld ?rest15
  case hy15 => intro X hSw; exact ex_ldS8 _ rfl w4.heap.size rfl hSw.2.2.2
  try simp only [Act.put, List.setIfInBounds_toArray, List.set_cons_zero, List.set_cons_succ]
  refine wpAnyH_ready (rs := [16]) (by kernel_rfl) (by simp) ?_
  refine AllReadyH.cons (o := { dst := some 59, op := Op.call { callee := Callee.value (Operand.func 13), args := #[Operand.tmp 57, Operand.tmp 58], argTypes := #[31, 31] }, type := 4, pos := "outright.go:281", after := #[{ on := 14, ground := Ground.data }, { on := 15, ground := Ground.data }, { on := 8, ground := Ground.chain }, { on := 8, ground := Ground.guard }], guard := some (8, true) }) rfl (fun Kq hKq => ?_) AllReadyH.nil
  go_simp
  refine SA.out.mono ?_
  rintro e w9 ⟨rfl, hb9⟩
  refine hKq.out _ _ ⟨conv_rd (Rd.below R6d.out hb9) f0.length c6 rfl, conv_rd (Rd.below R7d.out hb9) f1.length c7 rfl, SdAt.below H3d.out hb9, SdAt.below H5d.out hb9⟩ (fun hHeld9 => ?_)
  clear hKq Kq
  try simp only [Act.put, List.setIfInBounds_toArray, List.set_cons_zero, List.set_cons_succ]
  refine takeH8 (i := 17) (d := some 60) (v := ?v17) rfl rfl (by kernel_rfl) (by kernel_rfl) (by kernel_rfl) (fun _ _ _ h => h) (Or.inl ⟨by rfl, ?hy17⟩) hHeld9 ?rest17
  case hy17 => intro X hSw; (try dsimp only at hSw); go_simp <;> with_reducible rfl
  try simp only [Act.put, List.setIfInBounds_toArray, List.set_cons_zero, List.set_cons_succ]
  refine takeH8 (i := 18) (d := some 61) (v := ?v18) rfl rfl (by kernel_rfl) (by kernel_rfl) (by kernel_rfl) (fun _ _ _ h => h) (Or.inl ⟨by rfl, ?hy18⟩) hHeld9 ?rest18
  case hy18 => intro X hSw; (try dsimp only at hSw); go_simp <;> with_reducible rfl
  try simp only [Act.put, List.setIfInBounds_toArray, List.set_cons_zero, List.set_cons_succ]
  refine takeH8 (i := 19) (d := some 4) (v := ?v19) rfl rfl (by kernel_rfl) (by kernel_rfl) (by kernel_rfl) (fun _ _ _ h => h) (Or.inl ⟨by rfl, ?hy19⟩) hHeld9 ?rest19
  case hy19 => intro X hSw; (try dsimp only at hSw); go_simp <;> with_reducible rfl
  try simp only [Act.put, List.setIfInBounds_toArray, List.set_cons_zero, List.set_cons_succ]
  refine wpAnyH_done (by kernel_rfl) ?_ _
  go_wp2
  go_ret
  exact ⟨rfl, bt (bt Bw7.out B7d.out) hb9⟩
theorem frameUnlike_walk (h0 : Hd) (hin0 : h0.In) (hy0 : h0.key.length ≤ 9223372036854775807) (a0 : Option Addr) (n0 c0 : Nat) (bl0 : List (List (BitVec 8))) (hb0 : bl0.length = n0) (h1 : Hd) (hin1 : h1.In) (hy1 : h1.key.length ≤ 9223372036854775807) (a1 : Option Addr) (n1 c1 : Nat) (bl1 : List (List (BitVec 8))) (hb1 : bl1.length = n1) (w : World) (hR0 : Rws w a0 bl0) (hR1 : Rws w a1 bl1) :
    Calls Try.prog 4 #[.agg (h0.sh (.slice a0 n0 c0)), .agg (h1.sh (.slice a1 n1 c1))] w fun e w' => e = .returned (.bool true) ∧ Below w.heap.size w w' := by
  by_cases e0 : chk h0 = 0
  · by_cases e1 : chk h1 = 0
    · exact frameUnlike_ok h0 hin0 hy0 a0 n0 c0 bl0 hb0 h1 hin1 hy1 a1 n1 c1 bl1 hb1 w hR0 hR1 ((chk_ok h0).1 e0) ((chk_ok h1).1 e1)
    · exact frameUnlike_no1 h0 hin0 a0 n0 c0 bl0 hb0 h1 hin1 hy1 a1 n1 c1 bl1 w hR0 hR1 ((chk_ok h0).1 e0) e1
  · exact frameUnlike_no0 h0 hin0 hy0 a0 n0 c0 bl0 h1 hin1 hy1 a1 n1 c1 bl1 hb1 w hR0 hR1 e0
end
end Go.Proofs.Ytnjgfiiimcacbaa
