/-
  'ask', some of its calls.
-/
import Derived.Test.YtmcbeikgdcgdcaaAs
import Derived.Test.YtmcbeikgdcgdcaaRatk
namespace Go.Proofs.Ytmcbeikgdcgdcaa
open Go.RowKit
section
attribute [local irreducible] Calls el
set_option maxHeartbeats 2000000 in
set_option maxRecDepth 1000000 in
theorem ask0 {w : World} {r : Nat} {bs : List (BitVec 8)} {f : Int} (h : Rdr w r bs f) (hl : bs.length ≤ 1099511627000) (_hf : 0 ≤ f ∧ f < 1000) (q kk n e : Int) (_hn : n ≤ 9223372036854775807) (_he : e ≤ 9223372036854775807) (hk : kk % 13 = 0) :
    Calls Try.prog 33 #[.pointer (some ⟨r, 0, none⟩), .agg #[.int .i64 q, .int .i64 kk, .int .i64 n, .int .i64 e]] w fun e' w' => Askd w r (asks 0 n e bs f) e' w' := by
  have PK := (show Hid _ from pick_any kk 13 (by omega) (by omega))
  rw [hk] at PK
  have hlt := h.lt
  obtain ⟨W, hWd⟩ : ∃ W, W = (w.alloc (.cells #[.int .i64 q, .int .i64 kk, .int .i64 n, .int .i64 e] 65)).alloc (.cells #[.int .u64 0, .slice none 0 0, .slice none 0 0] 67) := ⟨_, rfl⟩
  obtain ⟨hWb, hWq, hWg, hWs⟩ := two_new w _ _ W hWd
  have hR := h.below hWb
  have M := (show Hid _ from mtk8_any hR hl)
  obtain ⟨x, hx⟩ : ∃ x, res 0 f bs (fx 1 bs) = x := ⟨_, rfl⟩
  rw [hx] at M
  have R : Hid (asks 0 n e bs f = tlN x) := (show asks 0 n e bs f = tlN x by rw [← hx]; rfl)
  have hxl : x.1 < 256 := by
    rw [← hx]
    unfold res
    by_cases h0 : f = 0
    · rw [if_pos h0]
      cases hu : fx 1 bs with
      | error c => exact (by decide : 0 < 256)
      | ok al => obtain ⟨v, l⟩ := al; exact fx_lt hu
    · rw [if_neg h0]; exact (by decide : 0 < 256)
  obtain ⟨u, l2, f2⟩ := x
  have hxl' : u < 256 := hxl
  clear hx
  go_enter Try.func33, Try.ntmps33
  go_wp2_with (first | (go_at_call 31; refine (PK.out _).mono ?_; rintro e2 w2 ⟨rfl, h9⟩; obtain rfl := h9.symm) | (go_at_call 69; rw [← hWd]; refine M.out.mono ?_; rintro e2 w1 ⟨hG1, hR1, v1, rfl, rfl⟩; have hg1 : w1.heap[w.heap.size + 1]? = some (.cells #[.int .u64 0, .slice none 0 0, .slice none 0 0] 67 (0, 0)) := (hG1.block (w.heap.size + 1) (by omega) (by intro e2; injection e2; omega)).trans hWg; have k0 := cell_of_row w1 (w.heap.size + 1) 0 _ _ (0, 0) hg1; have k1 := cell_of_row w1 (w.heap.size + 1) 1 _ _ (0, 0) hg1; have k2 := cell_of_row w1 (w.heap.size + 1) 2 _ _ (0, 0) hg1; have z0 := frozen_of_row w1 (w.heap.size + 1) 0 _ _ hg1; have z1 := frozen_of_row w1 (w.heap.size + 1) 1 _ _ hg1; have z2 := frozen_of_row w1 (w.heap.size + 1) 2 _ _ hg1))
  have hfin := told_fin hg1 (.int .u64 (u : Int)) (.slice none 0 0) (.slice none 0 0)
  refine bodyPost_ret (v := .agg #[.int .u64 (u : Int), .slice none 0 0, .slice none 0 0]) (results_cell_row rfl _ _ (w.heap.size + 1) 67 _ (0, 0) _ rfl hfin.1 Try.underlying67 rfl (by kernel_rfl)) rfl ?_
  rw [R.out]
  exact ⟨grown_new (gtrans (grown_below (grefl w _) hWb) hG1) (by omega) hfin.2, hR1.kept (by omega) (told_nb hg1) hfin.2, _, _, rfl, Ow.nil _ _, Ot.nil _ _⟩
end
section
attribute [local irreducible] Calls el
set_option maxHeartbeats 2000000 in
set_option maxRecDepth 1000000 in
theorem ask1 {w : World} {r : Nat} {bs : List (BitVec 8)} {f : Int} (h : Rdr w r bs f) (hl : bs.length ≤ 1099511627000) (_hf : 0 ≤ f ∧ f < 1000) (q kk n e : Int) (_hn : n ≤ 9223372036854775807) (_he : e ≤ 9223372036854775807) (hk : kk % 13 = 1) :
    Calls Try.prog 33 #[.pointer (some ⟨r, 0, none⟩), .agg #[.int .i64 q, .int .i64 kk, .int .i64 n, .int .i64 e]] w fun e' w' => Askd w r (asks 1 n e bs f) e' w' := by
  have PK := (show Hid _ from pick_any kk 13 (by omega) (by omega))
  rw [hk] at PK
  have hlt := h.lt
  obtain ⟨W, hWd⟩ : ∃ W, W = (w.alloc (.cells #[.int .i64 q, .int .i64 kk, .int .i64 n, .int .i64 e] 65)).alloc (.cells #[.int .u64 0, .slice none 0 0, .slice none 0 0] 67) := ⟨_, rfl⟩
  obtain ⟨hWb, hWq, hWg, hWs⟩ := two_new w _ _ W hWd
  have hR := h.below hWb
  have M := (show Hid _ from mtk16_any hR hl)
  obtain ⟨x, hx⟩ : ∃ x, res 0 f bs (fx 2 bs) = x := ⟨_, rfl⟩
  rw [hx] at M
  have R : Hid (asks 1 n e bs f = tlN x) := (show asks 1 n e bs f = tlN x by rw [← hx]; rfl)
  have hxl : x.1 < 65536 := by
    rw [← hx]
    unfold res
    by_cases h0 : f = 0
    · rw [if_pos h0]
      cases hu : fx 2 bs with
      | error c => exact (by decide : 0 < 65536)
      | ok al => obtain ⟨v, l⟩ := al; exact fx_lt hu
    · rw [if_neg h0]; exact (by decide : 0 < 65536)
  obtain ⟨u, l2, f2⟩ := x
  have hxl' : u < 65536 := hxl
  clear hx
  go_enter Try.func33, Try.ntmps33
  go_wp2_with (first | (go_at_call 31; refine (PK.out _).mono ?_; rintro e2 w2 ⟨rfl, h9⟩; obtain rfl := h9.symm) | (go_at_call 70; rw [← hWd]; refine M.out.mono ?_; rintro e2 w1 ⟨hG1, hR1, v1, rfl, rfl⟩; have hg1 : w1.heap[w.heap.size + 1]? = some (.cells #[.int .u64 0, .slice none 0 0, .slice none 0 0] 67 (0, 0)) := (hG1.block (w.heap.size + 1) (by omega) (by intro e2; injection e2; omega)).trans hWg; have k0 := cell_of_row w1 (w.heap.size + 1) 0 _ _ (0, 0) hg1; have k1 := cell_of_row w1 (w.heap.size + 1) 1 _ _ (0, 0) hg1; have k2 := cell_of_row w1 (w.heap.size + 1) 2 _ _ (0, 0) hg1; have z0 := frozen_of_row w1 (w.heap.size + 1) 0 _ _ hg1; have z1 := frozen_of_row w1 (w.heap.size + 1) 1 _ _ hg1; have z2 := frozen_of_row w1 (w.heap.size + 1) 2 _ _ hg1))
  have hfin := told_fin hg1 (.int .u64 (u : Int)) (.slice none 0 0) (.slice none 0 0)
  refine bodyPost_ret (v := .agg #[.int .u64 (u : Int), .slice none 0 0, .slice none 0 0]) (results_cell_row rfl _ _ (w.heap.size + 1) 67 _ (0, 0) _ rfl hfin.1 Try.underlying67 rfl (by kernel_rfl)) rfl ?_
  rw [R.out]
  exact ⟨grown_new (gtrans (grown_below (grefl w _) hWb) hG1) (by omega) hfin.2, hR1.kept (by omega) (told_nb hg1) hfin.2, _, _, rfl, Ow.nil _ _, Ot.nil _ _⟩
end
section
attribute [local irreducible] Calls el
set_option maxHeartbeats 2000000 in
set_option maxRecDepth 1000000 in
theorem ask2 {w : World} {r : Nat} {bs : List (BitVec 8)} {f : Int} (h : Rdr w r bs f) (hl : bs.length ≤ 1099511627000) (_hf : 0 ≤ f ∧ f < 1000) (q kk n e : Int) (_hn : n ≤ 9223372036854775807) (_he : e ≤ 9223372036854775807) (hk : kk % 13 = 2) :
    Calls Try.prog 33 #[.pointer (some ⟨r, 0, none⟩), .agg #[.int .i64 q, .int .i64 kk, .int .i64 n, .int .i64 e]] w fun e' w' => Askd w r (asks 2 n e bs f) e' w' := by
  have PK := (show Hid _ from pick_any kk 13 (by omega) (by omega))
  rw [hk] at PK
  have hlt := h.lt
  obtain ⟨W, hWd⟩ : ∃ W, W = (w.alloc (.cells #[.int .i64 q, .int .i64 kk, .int .i64 n, .int .i64 e] 65)).alloc (.cells #[.int .u64 0, .slice none 0 0, .slice none 0 0] 67) := ⟨_, rfl⟩
  obtain ⟨hWb, hWq, hWg, hWs⟩ := two_new w _ _ W hWd
  have hR := h.below hWb
  have M := (show Hid _ from mtk32_any hR hl)
  obtain ⟨x, hx⟩ : ∃ x, res 0 f bs (fx 4 bs) = x := ⟨_, rfl⟩
  rw [hx] at M
  have R : Hid (asks 2 n e bs f = tlN x) := (show asks 2 n e bs f = tlN x by rw [← hx]; rfl)
  have hxl : x.1 < 4294967296 := by
    rw [← hx]
    unfold res
    by_cases h0 : f = 0
    · rw [if_pos h0]
      cases hu : fx 4 bs with
      | error c => exact (by decide : 0 < 4294967296)
      | ok al => obtain ⟨v, l⟩ := al; exact fx_lt hu
    · rw [if_neg h0]; exact (by decide : 0 < 4294967296)
  obtain ⟨u, l2, f2⟩ := x
  have hxl' : u < 4294967296 := hxl
  clear hx
  go_enter Try.func33, Try.ntmps33
  go_wp2_with (first | (go_at_call 31; refine (PK.out _).mono ?_; rintro e2 w2 ⟨rfl, h9⟩; obtain rfl := h9.symm) | (go_at_call 71; rw [← hWd]; refine M.out.mono ?_; rintro e2 w1 ⟨hG1, hR1, v1, rfl, rfl⟩; have hg1 : w1.heap[w.heap.size + 1]? = some (.cells #[.int .u64 0, .slice none 0 0, .slice none 0 0] 67 (0, 0)) := (hG1.block (w.heap.size + 1) (by omega) (by intro e2; injection e2; omega)).trans hWg; have k0 := cell_of_row w1 (w.heap.size + 1) 0 _ _ (0, 0) hg1; have k1 := cell_of_row w1 (w.heap.size + 1) 1 _ _ (0, 0) hg1; have k2 := cell_of_row w1 (w.heap.size + 1) 2 _ _ (0, 0) hg1; have z0 := frozen_of_row w1 (w.heap.size + 1) 0 _ _ hg1; have z1 := frozen_of_row w1 (w.heap.size + 1) 1 _ _ hg1; have z2 := frozen_of_row w1 (w.heap.size + 1) 2 _ _ hg1))
  have hfin := told_fin hg1 (.int .u64 (u : Int)) (.slice none 0 0) (.slice none 0 0)
  refine bodyPost_ret (v := .agg #[.int .u64 (u : Int), .slice none 0 0, .slice none 0 0]) (results_cell_row rfl _ _ (w.heap.size + 1) 67 _ (0, 0) _ rfl hfin.1 Try.underlying67 rfl (by kernel_rfl)) rfl ?_
  rw [R.out]
  exact ⟨grown_new (gtrans (grown_below (grefl w _) hWb) hG1) (by omega) hfin.2, hR1.kept (by omega) (told_nb hg1) hfin.2, _, _, rfl, Ow.nil _ _, Ot.nil _ _⟩
end
section
attribute [local irreducible] Calls el
set_option maxHeartbeats 2000000 in
set_option maxRecDepth 1000000 in
theorem ask3 {w : World} {r : Nat} {bs : List (BitVec 8)} {f : Int} (h : Rdr w r bs f) (hl : bs.length ≤ 1099511627000) (_hf : 0 ≤ f ∧ f < 1000) (q kk n e : Int) (_hn : n ≤ 9223372036854775807) (_he : e ≤ 9223372036854775807) (hk : kk % 13 = 3) :
    Calls Try.prog 33 #[.pointer (some ⟨r, 0, none⟩), .agg #[.int .i64 q, .int .i64 kk, .int .i64 n, .int .i64 e]] w fun e' w' => Askd w r (asks 3 n e bs f) e' w' := by
  have PK := (show Hid _ from pick_any kk 13 (by omega) (by omega))
  rw [hk] at PK
  have hlt := h.lt
  obtain ⟨W, hWd⟩ : ∃ W, W = (w.alloc (.cells #[.int .i64 q, .int .i64 kk, .int .i64 n, .int .i64 e] 65)).alloc (.cells #[.int .u64 0, .slice none 0 0, .slice none 0 0] 67) := ⟨_, rfl⟩
  obtain ⟨hWb, hWq, hWg, hWs⟩ := two_new w _ _ W hWd
  have hR := h.below hWb
  have M := (show Hid _ from mtk64_any hR hl)
  obtain ⟨x, hx⟩ : ∃ x, res 0 f bs (fx 8 bs) = x := ⟨_, rfl⟩
  rw [hx] at M
  have R : Hid (asks 3 n e bs f = tlN x) := (show asks 3 n e bs f = tlN x by rw [← hx]; rfl)
  have hxl : x.1 < 18446744073709551616 := by
    rw [← hx]
    unfold res
    by_cases h0 : f = 0
    · rw [if_pos h0]
      cases hu : fx 8 bs with
      | error c => exact (by decide : 0 < 18446744073709551616)
      | ok al => obtain ⟨v, l⟩ := al; exact fx_lt hu
    · rw [if_neg h0]; exact (by decide : 0 < 18446744073709551616)
  obtain ⟨u, l2, f2⟩ := x
  have hxl' : u < 18446744073709551616 := hxl
  clear hx
  go_enter Try.func33, Try.ntmps33
  go_wp2_with (first | (go_at_call 31; refine (PK.out _).mono ?_; rintro e2 w2 ⟨rfl, h9⟩; obtain rfl := h9.symm) | (go_at_call 72; rw [← hWd]; refine M.out.mono ?_; rintro e2 w1 ⟨hG1, hR1, v1, rfl, rfl⟩; have hg1 : w1.heap[w.heap.size + 1]? = some (.cells #[.int .u64 0, .slice none 0 0, .slice none 0 0] 67 (0, 0)) := (hG1.block (w.heap.size + 1) (by omega) (by intro e2; injection e2; omega)).trans hWg; have k0 := cell_of_row w1 (w.heap.size + 1) 0 _ _ (0, 0) hg1; have k1 := cell_of_row w1 (w.heap.size + 1) 1 _ _ (0, 0) hg1; have k2 := cell_of_row w1 (w.heap.size + 1) 2 _ _ (0, 0) hg1; have z0 := frozen_of_row w1 (w.heap.size + 1) 0 _ _ hg1; have z1 := frozen_of_row w1 (w.heap.size + 1) 1 _ _ hg1; have z2 := frozen_of_row w1 (w.heap.size + 1) 2 _ _ hg1))
  have hfin := told_fin hg1 (.int .u64 (u : Int)) (.slice none 0 0) (.slice none 0 0)
  refine bodyPost_ret (v := .agg #[.int .u64 (u : Int), .slice none 0 0, .slice none 0 0]) (results_cell_row rfl _ _ (w.heap.size + 1) 67 _ (0, 0) _ rfl hfin.1 Try.underlying67 rfl (by kernel_rfl)) rfl ?_
  rw [R.out]
  exact ⟨grown_new (gtrans (grown_below (grefl w _) hWb) hG1) (by omega) hfin.2, hR1.kept (by omega) (told_nb hg1) hfin.2, _, _, rfl, Ow.nil _ _, Ot.nil _ _⟩
end
section
attribute [local irreducible] Calls el
set_option maxHeartbeats 2000000 in
set_option maxRecDepth 1000000 in
theorem ask4 {w : World} {r : Nat} {bs : List (BitVec 8)} {f : Int} (h : Rdr w r bs f) (hl : bs.length ≤ 1099511627000) (_hf : 0 ≤ f ∧ f < 1000) (q kk n e : Int) (_hn : n ≤ 9223372036854775807) (_he : e ≤ 9223372036854775807) (hk : kk % 13 = 4) :
    Calls Try.prog 33 #[.pointer (some ⟨r, 0, none⟩), .agg #[.int .i64 q, .int .i64 kk, .int .i64 n, .int .i64 e]] w fun e' w' => Askd w r (asks 4 n e bs f) e' w' := by
  have PK := (show Hid _ from pick_any kk 13 (by omega) (by omega))
  rw [hk] at PK
  have hlt := h.lt
  obtain ⟨W, hWd⟩ : ∃ W, W = (w.alloc (.cells #[.int .i64 q, .int .i64 kk, .int .i64 n, .int .i64 e] 65)).alloc (.cells #[.int .u64 0, .slice none 0 0, .slice none 0 0] 67) := ⟨_, rfl⟩
  obtain ⟨hWb, hWq, hWg, hWs⟩ := two_new w _ _ W hWd
  have hR := h.below hWb
  have M := (show Hid _ from mtkt_any hR hl)
  obtain ⟨x, hx⟩ : ∃ x, res 0 f bs (fx 2 bs) = x := ⟨_, rfl⟩
  rw [hx] at M
  have R : Hid (asks 4 n e bs f = tlN x) := (show asks 4 n e bs f = tlN x by rw [← hx]; rfl)
  have hxl : x.1 < 65536 := by
    rw [← hx]
    unfold res
    by_cases h0 : f = 0
    · rw [if_pos h0]
      cases hu : fx 2 bs with
      | error c => exact (by decide : 0 < 65536)
      | ok al => obtain ⟨v, l⟩ := al; exact fx_lt hu
    · rw [if_neg h0]; exact (by decide : 0 < 65536)
  obtain ⟨u, l2, f2⟩ := x
  have hxl' : u < 65536 := hxl
  clear hx
  go_enter Try.func33, Try.ntmps33
  go_wp2_with (first | (go_at_call 31; refine (PK.out _).mono ?_; rintro e2 w2 ⟨rfl, h9⟩; obtain rfl := h9.symm) | (go_at_call 73; rw [← hWd]; refine M.out.mono ?_; rintro e2 w1 ⟨hG1, hR1, v1, rfl, rfl⟩; have hg1 : w1.heap[w.heap.size + 1]? = some (.cells #[.int .u64 0, .slice none 0 0, .slice none 0 0] 67 (0, 0)) := (hG1.block (w.heap.size + 1) (by omega) (by intro e2; injection e2; omega)).trans hWg; have k0 := cell_of_row w1 (w.heap.size + 1) 0 _ _ (0, 0) hg1; have k1 := cell_of_row w1 (w.heap.size + 1) 1 _ _ (0, 0) hg1; have k2 := cell_of_row w1 (w.heap.size + 1) 2 _ _ (0, 0) hg1; have z0 := frozen_of_row w1 (w.heap.size + 1) 0 _ _ hg1; have z1 := frozen_of_row w1 (w.heap.size + 1) 1 _ _ hg1; have z2 := frozen_of_row w1 (w.heap.size + 1) 2 _ _ hg1))
  have hfin := told_fin hg1 (.int .u64 (u : Int)) (.slice none 0 0) (.slice none 0 0)
  refine bodyPost_ret (v := .agg #[.int .u64 (u : Int), .slice none 0 0, .slice none 0 0]) (results_cell_row rfl _ _ (w.heap.size + 1) 67 _ (0, 0) _ rfl hfin.1 Try.underlying67 rfl (by kernel_rfl)) rfl ?_
  rw [R.out]
  exact ⟨grown_new (gtrans (grown_below (grefl w _) hWb) hG1) (by omega) hfin.2, hR1.kept (by omega) (told_nb hg1) hfin.2, _, _, rfl, Ow.nil _ _, Ot.nil _ _⟩
end
end Go.Proofs.Ytmcbeikgdcgdcaa
