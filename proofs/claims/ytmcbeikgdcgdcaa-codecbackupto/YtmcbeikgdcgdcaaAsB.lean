/-
  'ask', some of its calls.
-/
import Derived.Test.YtmcbeikgdcgdcaaAs
import Derived.Test.YtmcbeikgdcgdcaaRauv
import Derived.Test.YtmcbeikgdcgdcaaRavi
import Derived.Test.YtmcbeikgdcgdcaaRaby
import Derived.Test.YtmcbeikgdcgdcaaRabk
import Derived.Test.YtmcbeikgdcgdcaaRatx
namespace Go.Proofs.Ytmcbeikgdcgdcaa
open Go.RowKit
section
attribute [local irreducible] Calls el
set_option maxHeartbeats 2000000 in
set_option maxRecDepth 1000000 in
theorem ask5 {w : World} {r : Nat} {bs : List (BitVec 8)} {f : Int} (h : Rdr w r bs f) (hl : bs.length ≤ 1099511627000) (_hf : 0 ≤ f ∧ f < 1000) (q kk n e : Int) (_hn : n ≤ 9223372036854775807) (_he : e ≤ 9223372036854775807) (hk : kk % 13 = 5) :
    Calls Try.prog 33 #[.pointer (some ⟨r, 0, none⟩), .agg #[.int .i64 q, .int .i64 kk, .int .i64 n, .int .i64 e]] w fun e' w' => Askd w r (asks 5 n e bs f) e' w' := by
  have PK := (show Hid _ from pick_any kk 13 (by omega) (by omega))
  rw [hk] at PK
  have hlt := h.lt
  obtain ⟨W, hWd⟩ : ∃ W, W = (w.alloc (.cells #[.int .i64 q, .int .i64 kk, .int .i64 n, .int .i64 e] 65)).alloc (.cells #[.int .u64 0, .slice none 0 0, .slice none 0 0] 67) := ⟨_, rfl⟩
  obtain ⟨hWb, hWq, hWg, hWs⟩ := two_new w _ _ W hWd
  have hR := h.below hWb
  have M := (show Hid _ from muv_any hR hl)
  obtain ⟨x, hx⟩ : ∃ x, res 0 f bs (uv bs) = x := ⟨_, rfl⟩
  rw [hx] at M
  have R : Hid (asks 5 n e bs f = tlN x) := (show asks 5 n e bs f = tlN x by rw [← hx]; rfl)
  have hxl : x.1 < 18446744073709551616 := by
    rw [← hx]
    unfold res
    by_cases h0 : f = 0
    · rw [if_pos h0]
      cases hu : uv bs with
      | error c => exact (by decide : 0 < 18446744073709551616)
      | ok al => obtain ⟨v, l⟩ := al; exact uv_lt hu
    · rw [if_neg h0]; exact (by decide : 0 < 18446744073709551616)
  obtain ⟨u, l2, f2⟩ := x
  have hxl' : u < 18446744073709551616 := hxl
  clear hx
  go_enter Try.func33, Try.ntmps33
  go_wp2_with (first | (go_at_call 31; refine (PK.out _).mono ?_; rintro e2 w2 ⟨rfl, h9⟩; obtain rfl := h9.symm) | (go_at_call 74; rw [← hWd]; refine M.out.mono ?_; rintro e2 w1 ⟨hG1, hR1, v1, rfl, rfl⟩; have hg1 : w1.heap[w.heap.size + 1]? = some (.cells #[.int .u64 0, .slice none 0 0, .slice none 0 0] 67 (0, 0)) := (hG1.block (w.heap.size + 1) (by omega) (by intro e2; injection e2; omega)).trans hWg; have k0 := cell_of_row w1 (w.heap.size + 1) 0 _ _ (0, 0) hg1; have k1 := cell_of_row w1 (w.heap.size + 1) 1 _ _ (0, 0) hg1; have k2 := cell_of_row w1 (w.heap.size + 1) 2 _ _ (0, 0) hg1; have z0 := frozen_of_row w1 (w.heap.size + 1) 0 _ _ hg1; have z1 := frozen_of_row w1 (w.heap.size + 1) 1 _ _ hg1; have z2 := frozen_of_row w1 (w.heap.size + 1) 2 _ _ hg1))
  have hfin := told_fin hg1 (.int .u64 (u : Int)) (.slice none 0 0) (.slice none 0 0)
  refine bodyPost_ret (v := .agg #[.int .u64 (u : Int), .slice none 0 0, .slice none 0 0]) (results_cell_row rfl _ _ (w.heap.size + 1) 67 _ (0, 0) _ rfl hfin.1 Try.underlying67 rfl (by kernel_rfl)) rfl ?_
  rw [R.out]
  exact ⟨grown_new (gtrans (grown_below (grefl w _) hWb) hG1) (by omega) hfin.2, hR1.kept (by omega) (told_nb hg1) hfin.2, _, _, rfl, Ow.nil _ _, Ot.nil _ _⟩
end
section
attribute [local irreducible] Calls el
set_option maxHeartbeats 2000000 in
set_option maxRecDepth 1000000 in
theorem ask6 {w : World} {r : Nat} {bs : List (BitVec 8)} {f : Int} (h : Rdr w r bs f) (hl : bs.length ≤ 1099511627000) (_hf : 0 ≤ f ∧ f < 1000) (q kk n e : Int) (_hn : n ≤ 9223372036854775807) (_he : e ≤ 9223372036854775807) (hk : kk % 13 = 6) :
    Calls Try.prog 33 #[.pointer (some ⟨r, 0, none⟩), .agg #[.int .i64 q, .int .i64 kk, .int .i64 n, .int .i64 e]] w fun e' w' => Askd w r (asks 6 n e bs f) e' w' := by
  have PK := (show Hid _ from pick_any kk 13 (by omega) (by omega))
  rw [hk] at PK
  have hlt := h.lt
  obtain ⟨W, hWd⟩ : ∃ W, W = (w.alloc (.cells #[.int .i64 q, .int .i64 kk, .int .i64 n, .int .i64 e] 65)).alloc (.cells #[.int .u64 0, .slice none 0 0, .slice none 0 0] 67) := ⟨_, rfl⟩
  obtain ⟨hWb, hWq, hWg, hWs⟩ := two_new w _ _ W hWd
  have hR := h.below hWb
  have M := (show Hid _ from mvi_any hR hl)
  obtain ⟨x, hx⟩ : ∃ x, res 0 f bs (zv bs) = x := ⟨_, rfl⟩
  rw [hx] at M
  have R : Hid (asks 6 n e bs f = (⟨x.1 % 18446744073709551616, [], []⟩, x.2)) := (show asks 6 n e bs f = (⟨x.1 % 18446744073709551616, [], []⟩, x.2) by rw [← hx]; rfl)
  obtain ⟨u, l2, f2⟩ := x
  clear hx
  go_enter Try.func33, Try.ntmps33
  go_wp2_with (first | (go_at_call 31; refine (PK.out _).mono ?_; rintro e2 w2 ⟨rfl, h9⟩; obtain rfl := h9.symm) | (go_at_call 75; rw [← hWd]; refine M.out.mono ?_; rintro e2 w1 ⟨hG1, hR1, v1, rfl, rfl⟩; have hg1 : w1.heap[w.heap.size + 1]? = some (.cells #[.int .u64 0, .slice none 0 0, .slice none 0 0] 67 (0, 0)) := (hG1.block (w.heap.size + 1) (by omega) (by intro e2; injection e2; omega)).trans hWg; have k0 := cell_of_row w1 (w.heap.size + 1) 0 _ _ (0, 0) hg1; have k1 := cell_of_row w1 (w.heap.size + 1) 1 _ _ (0, 0) hg1; have k2 := cell_of_row w1 (w.heap.size + 1) 2 _ _ (0, 0) hg1; have z0 := frozen_of_row w1 (w.heap.size + 1) 0 _ _ hg1; have z1 := frozen_of_row w1 (w.heap.size + 1) 1 _ _ hg1; have z2 := frozen_of_row w1 (w.heap.size + 1) 2 _ _ hg1))
  have hfin := told_fin hg1 (.int .u64 (u % 18446744073709551616)) (.slice none 0 0) (.slice none 0 0)
  refine bodyPost_ret (v := .agg #[.int .u64 (u % 18446744073709551616), .slice none 0 0, .slice none 0 0]) (results_cell_row rfl _ _ (w.heap.size + 1) 67 _ (0, 0) _ rfl hfin.1 Try.underlying67 rfl (by kernel_rfl)) rfl ?_
  rw [R.out]
  exact ⟨grown_new (gtrans (grown_below (grefl w _) hWb) hG1) (by omega) hfin.2, hR1.kept (by omega) (told_nb hg1) hfin.2, _, _, rfl, Ow.nil _ _, Ot.nil _ _⟩
end
section
attribute [local irreducible] Calls el
set_option maxHeartbeats 2000000 in
set_option maxRecDepth 1000000 in
theorem ask7 {w : World} {r : Nat} {bs : List (BitVec 8)} {f : Int} (h : Rdr w r bs f) (hl : bs.length ≤ 1099511627000) (_hf : 0 ≤ f ∧ f < 1000) (q kk n e : Int) (_hn : n ≤ 9223372036854775807) (_he : e ≤ 9223372036854775807) (hk : kk % 13 = 7) :
    Calls Try.prog 33 #[.pointer (some ⟨r, 0, none⟩), .agg #[.int .i64 q, .int .i64 kk, .int .i64 n, .int .i64 e]] w fun e' w' => Askd w r (asks 7 n e bs f) e' w' := by
  have PK := (show Hid _ from pick_any kk 13 (by omega) (by omega))
  rw [hk] at PK
  have hlt := h.lt
  obtain ⟨W, hWd⟩ : ∃ W, W = (w.alloc (.cells #[.int .i64 q, .int .i64 kk, .int .i64 n, .int .i64 e] 65)).alloc (.cells #[.int .u64 0, .slice none 0 0, .slice none 0 0] 67) := ⟨_, rfl⟩
  obtain ⟨hWb, hWq, hWg, hWs⟩ := two_new w _ _ W hWd
  have hR := h.below hWb
  have M := (show Hid _ from mby_any hR hl n)
  obtain ⟨x, hx⟩ : ∃ x, res [] f bs (ge0 n (tk n.toNat bs)) = x := ⟨_, rfl⟩
  rw [hx] at M
  have R : Hid (asks 7 n e bs f = tlB x) := (show asks 7 n e bs f = tlB x by rw [← hx]; rfl)
  obtain ⟨u, l2, f2⟩ := x
  clear hx
  go_enter Try.func33, Try.ntmps33
  go_wp2_with (first | (go_at_call 31; refine (PK.out _).mono ?_; rintro e2 w2 ⟨rfl, h9⟩; obtain rfl := h9.symm) | (go_at_call 76; rw [← hWd]; refine M.out.mono ?_; rintro e2 w1 ⟨hG1, hR1, v1, rfl, ho1⟩; obtain ⟨p1, c1, rfl, hc1, _⟩ := ho1.rd; have hg1 : w1.heap[w.heap.size + 1]? = some (.cells #[.int .u64 0, .slice none 0 0, .slice none 0 0] 67 (0, 0)) := (hG1.block (w.heap.size + 1) (by omega) (by intro e2; injection e2; omega)).trans hWg; have k0 := cell_of_row w1 (w.heap.size + 1) 0 _ _ (0, 0) hg1; have k1 := cell_of_row w1 (w.heap.size + 1) 1 _ _ (0, 0) hg1; have k2 := cell_of_row w1 (w.heap.size + 1) 2 _ _ (0, 0) hg1; have z0 := frozen_of_row w1 (w.heap.size + 1) 0 _ _ hg1; have z1 := frozen_of_row w1 (w.heap.size + 1) 1 _ _ hg1; have z2 := frozen_of_row w1 (w.heap.size + 1) 2 _ _ hg1))
  have hfin := told_fin hg1 (.int .u64 0) (.slice p1 u.length c1) (.slice none 0 0)
  refine bodyPost_ret (v := .agg #[.int .u64 0, .slice p1 u.length c1, .slice none 0 0]) (results_cell_row rfl _ _ (w.heap.size + 1) 67 _ (0, 0) _ rfl hfin.1 Try.underlying67 rfl (by kernel_rfl)) rfl ?_
  rw [R.out]
  exact ⟨grown_new (gtrans (grown_below (grefl w _) hWb) hG1) (by omega) hfin.2, hR1.kept (by omega) (told_nb hg1) hfin.2, _, _, rfl, (ow_kept ho1 (by omega) hfin.2).mono hWb.size, Ot.nil _ _⟩
end
section
attribute [local irreducible] Calls el
set_option maxHeartbeats 2000000 in
set_option maxRecDepth 1000000 in
theorem ask8 {w : World} {r : Nat} {bs : List (BitVec 8)} {f : Int} (h : Rdr w r bs f) (hl : bs.length ≤ 1099511627000) (_hf : 0 ≤ f ∧ f < 1000) (q kk n e : Int) (hn : n ≤ 9223372036854775807) (_he : e ≤ 9223372036854775807) (hk : kk % 13 = 8) :
    Calls Try.prog 33 #[.pointer (some ⟨r, 0, none⟩), .agg #[.int .i64 q, .int .i64 kk, .int .i64 n, .int .i64 e]] w fun e' w' => Askd w r (asks 8 n e bs f) e' w' := by
  have PK := (show Hid _ from pick_any kk 13 (by omega) (by omega))
  rw [hk] at PK
  have hlt := h.lt
  obtain ⟨W, hWd⟩ : ∃ W, W = (w.alloc (.cells #[.int .i64 q, .int .i64 kk, .int .i64 n, .int .i64 e] 65)).alloc (.cells #[.int .u64 0, .slice none 0 0, .slice none 0 0] 67) := ⟨_, rfl⟩
  obtain ⟨hWb, hWq, hWg, hWs⟩ := two_new w _ _ W hWd
  have hR := h.below hWb
  have M := (show Hid _ from mbk_any hR hl n hn)
  obtain ⟨x, hx⟩ : ∃ x, res [] f bs (ge0 n (bk n.toNat bs)) = x := ⟨_, rfl⟩
  rw [hx] at M
  have R : Hid (asks 8 n e bs f = tlB x) := (show asks 8 n e bs f = tlB x by rw [← hx]; rfl)
  obtain ⟨u, l2, f2⟩ := x
  clear hx
  go_enter Try.func33, Try.ntmps33
  go_wp2_with (first | (go_at_call 31; refine (PK.out _).mono ?_; rintro e2 w2 ⟨rfl, h9⟩; obtain rfl := h9.symm) | (go_at_call 77; rw [← hWd]; refine M.out.mono ?_; rintro e2 w1 ⟨hG1, hR1, v1, rfl, ho1⟩; obtain ⟨p1, c1, rfl, hc1, _⟩ := ho1.rd; have hg1 : w1.heap[w.heap.size + 1]? = some (.cells #[.int .u64 0, .slice none 0 0, .slice none 0 0] 67 (0, 0)) := (hG1.block (w.heap.size + 1) (by omega) (by intro e2; injection e2; omega)).trans hWg; have k0 := cell_of_row w1 (w.heap.size + 1) 0 _ _ (0, 0) hg1; have k1 := cell_of_row w1 (w.heap.size + 1) 1 _ _ (0, 0) hg1; have k2 := cell_of_row w1 (w.heap.size + 1) 2 _ _ (0, 0) hg1; have z0 := frozen_of_row w1 (w.heap.size + 1) 0 _ _ hg1; have z1 := frozen_of_row w1 (w.heap.size + 1) 1 _ _ hg1; have z2 := frozen_of_row w1 (w.heap.size + 1) 2 _ _ hg1))
  have hfin := told_fin hg1 (.int .u64 0) (.slice p1 u.length c1) (.slice none 0 0)
  refine bodyPost_ret (v := .agg #[.int .u64 0, .slice p1 u.length c1, .slice none 0 0]) (results_cell_row rfl _ _ (w.heap.size + 1) 67 _ (0, 0) _ rfl hfin.1 Try.underlying67 rfl (by kernel_rfl)) rfl ?_
  rw [R.out]
  exact ⟨grown_new (gtrans (grown_below (grefl w _) hWb) hG1) (by omega) hfin.2, hR1.kept (by omega) (told_nb hg1) hfin.2, _, _, rfl, (ow_kept ho1 (by omega) hfin.2).mono hWb.size, Ot.nil _ _⟩
end
section
attribute [local irreducible] Calls el
set_option maxHeartbeats 2000000 in
set_option maxRecDepth 1000000 in
theorem ask9 {w : World} {r : Nat} {bs : List (BitVec 8)} {f : Int} (h : Rdr w r bs f) (hl : bs.length ≤ 1099511627000) (_hf : 0 ≤ f ∧ f < 1000) (q kk n e : Int) (hn : n ≤ 9223372036854775807) (he : e ≤ 9223372036854775807) (hk : kk % 13 = 9) :
    Calls Try.prog 33 #[.pointer (some ⟨r, 0, none⟩), .agg #[.int .i64 q, .int .i64 kk, .int .i64 n, .int .i64 e]] w fun e' w' => Askd w r (asks 9 n e bs f) e' w' := by
  have PK := (show Hid _ from pick_any kk 13 (by omega) (by omega))
  rw [hk] at PK
  have hlt := h.lt
  obtain ⟨W, hWd⟩ : ∃ W, W = (w.alloc (.cells #[.int .i64 q, .int .i64 kk, .int .i64 n, .int .i64 e] 65)).alloc (.cells #[.int .u64 0, .slice none 0 0, .slice none 0 0] 67) := ⟨_, rfl⟩
  obtain ⟨hWb, hWq, hWg, hWs⟩ := two_new w _ _ W hWd
  have hR := h.below hWb
  have M := (show Hid _ from mtx_any hR hl n e hn he)
  obtain ⟨x, hx⟩ : ∃ x, res [] f bs (ge0 n (ge0 e (tx n.toNat e.toNat bs))) = x := ⟨_, rfl⟩
  rw [hx] at M
  have R : Hid (asks 9 n e bs f = tlT x) := (show asks 9 n e bs f = tlT x by rw [← hx]; rfl)
  obtain ⟨u, l2, f2⟩ := x
  clear hx
  go_enter Try.func33, Try.ntmps33
  go_wp2_with (first | (go_at_call 31; refine (PK.out _).mono ?_; rintro e2 w2 ⟨rfl, h9⟩; obtain rfl := h9.symm) | (go_at_call 78; rw [← hWd]; refine M.out.mono ?_; rintro e2 w1 ⟨hG1, hR1, v1, rfl, ho1⟩; obtain ⟨p1, c1, rfl, hc1, _⟩ := ho1.rs; have hg1 : w1.heap[w.heap.size + 1]? = some (.cells #[.int .u64 0, .slice none 0 0, .slice none 0 0] 67 (0, 0)) := (hG1.block (w.heap.size + 1) (by omega) (by intro e2; injection e2; omega)).trans hWg; have k0 := cell_of_row w1 (w.heap.size + 1) 0 _ _ (0, 0) hg1; have k1 := cell_of_row w1 (w.heap.size + 1) 1 _ _ (0, 0) hg1; have k2 := cell_of_row w1 (w.heap.size + 1) 2 _ _ (0, 0) hg1; have z0 := frozen_of_row w1 (w.heap.size + 1) 0 _ _ hg1; have z1 := frozen_of_row w1 (w.heap.size + 1) 1 _ _ hg1; have z2 := frozen_of_row w1 (w.heap.size + 1) 2 _ _ hg1))
  have hfin := told_fin hg1 (.int .u64 0) (.slice none 0 0) (.slice p1 u.length c1)
  refine bodyPost_ret (v := .agg #[.int .u64 0, .slice none 0 0, .slice p1 u.length c1]) (results_cell_row rfl _ _ (w.heap.size + 1) 67 _ (0, 0) _ rfl hfin.1 Try.underlying67 rfl (by kernel_rfl)) rfl ?_
  rw [R.out]
  exact ⟨grown_new (gtrans (grown_below (grefl w _) hWb) hG1) (by omega) hfin.2, hR1.kept (by omega) (told_nb hg1) hfin.2, _, _, rfl, Ow.nil _ _, (os_kept ho1 (by omega) hfin.2).mono hWb.size⟩
end
end Go.Proofs.Ytmcbeikgdcgdcaa
