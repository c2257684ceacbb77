/-
  'ask', some of its calls.
-/
import Derived.Test.YtmcbeikgdcgdcaaAs
namespace Go.Proofs.Ytmcbeikgdcgdcaa
open Go.RowKit
section
attribute [local irreducible] Calls el
set_option maxHeartbeats 2000000 in
set_option maxRecDepth 1000000 in
theorem ask10 {w : World} {r : Nat} {bs : List (BitVec 8)} {f : Int} (h : Rdr w r bs f) (hl : bs.length ≤ 1099511627000) (hf : 0 ≤ f ∧ f < 1000) (q kk n e : Int) (_hn : n ≤ 9223372036854775807) (_he : e ≤ 9223372036854775807) (hk : kk % 13 = 10) :
    Calls Try.prog 33 #[.pointer (some ⟨r, 0, none⟩), .agg #[.int .i64 q, .int .i64 kk, .int .i64 n, .int .i64 e]] w fun e' w' => Askd w r (asks 10 n e bs f) e' w' := by
  have PK := (show Hid _ from pick_any kk 13 (by omega) (by omega))
  rw [hk] at PK
  have hlt := h.lt
  obtain ⟨W, hWd⟩ : ∃ W, W = (w.alloc (.cells #[.int .i64 q, .int .i64 kk, .int .i64 n, .int .i64 e] 65)).alloc (.cells #[.int .u64 0, .slice none 0 0, .slice none 0 0] 67) := ⟨_, rfl⟩
  obtain ⟨hWb, hWq, hWg, hWs⟩ := two_new w _ _ W hWd
  have hR := h.below hWb
  have M := (show Hid _ from left_any hR)
  have k0 := cell_of_row W (w.heap.size + 1) 0 _ _ (0, 0) hWg
  have k1 := cell_of_row W (w.heap.size + 1) 1 _ _ (0, 0) hWg
  have k2 := cell_of_row W (w.heap.size + 1) 2 _ _ (0, 0) hWg
  have z0 := frozen_of_row W (w.heap.size + 1) 0 _ _ hWg
  have z1 := frozen_of_row W (w.heap.size + 1) 1 _ _ hWg
  have z2 := frozen_of_row W (w.heap.size + 1) 2 _ _ hWg
  have hen : 0 ≤ en bs.length f ∧ en bs.length f < 1000 := by
    unfold en
    by_cases h0 : f = 0
    · rw [if_pos h0]
      by_cases h1 : bs.length = 0
      · rw [if_pos h1]; omega
      · rw [if_neg h1]; omega
    · rw [if_neg h0]; exact hf
  obtain ⟨X, hX⟩ : ∃ X, (bs.length : Int) = X := ⟨_, rfl⟩
  have hXr : 0 ≤ X ∧ X < 9223372036854775808 := by rw [← hX]; omega
  rw [hX] at M
  have R : Hid (asks 10 n e bs f = (⟨X, [], []⟩, bs, f)) := (show asks 10 n e bs f = (⟨X, [], []⟩, bs, f) by rw [← hX]; rfl)
  clear hX
  clear hf hen
  go_enter Try.func33, Try.ntmps33
  go_wp2_with (first | (go_at_call 31; refine (PK.out _).mono ?_; rintro e2 w2 ⟨rfl, h9⟩; obtain rfl := h9.symm) | (go_at_call 41; rw [← hWd]; refine M.out.mono ?_; rintro e2 w2 ⟨rfl, h9⟩; obtain rfl := h9.symm))
  obtain ⟨hV1, hV2, hV3, hV4⟩ := two_new w (.cells #[.int .i64 q, .int .i64 kk, .int .i64 n, .int .i64 e] 65) (.cells #[.int .u64 X, .slice none 0 0, .slice none 0 0] 67) _ rfl
  refine bodyPost_ret (v := .agg #[.int .u64 X, .slice none 0 0, .slice none 0 0]) (results_cell_row rfl _ _ (w.heap.size + 1) 67 _ (0, 0) _ rfl hV3 Try.underlying67 rfl (by kernel_rfl)) rfl ?_
  rw [R.out]
  exact ⟨grown_below (grefl _ _) hV1, h.below hV1, _, _, rfl, Ow.nil _ _, Ot.nil _ _⟩
end
section
attribute [local irreducible] Calls el
set_option maxHeartbeats 2000000 in
set_option maxRecDepth 1000000 in
theorem ask11 {w : World} {r : Nat} {bs : List (BitVec 8)} {f : Int} (h : Rdr w r bs f) (_hl : bs.length ≤ 1099511627000) (hf : 0 ≤ f ∧ f < 1000) (q kk n e : Int) (_hn : n ≤ 9223372036854775807) (_he : e ≤ 9223372036854775807) (hk : kk % 13 = 11) :
    Calls Try.prog 33 #[.pointer (some ⟨r, 0, none⟩), .agg #[.int .i64 q, .int .i64 kk, .int .i64 n, .int .i64 e]] w fun e' w' => Askd w r (asks 11 n e bs f) e' w' := by
  have PK := (show Hid _ from pick_any kk 13 (by omega) (by omega))
  rw [hk] at PK
  have hlt := h.lt
  obtain ⟨W, hWd⟩ : ∃ W, W = (w.alloc (.cells #[.int .i64 q, .int .i64 kk, .int .i64 n, .int .i64 e] 65)).alloc (.cells #[.int .u64 0, .slice none 0 0, .slice none 0 0] 67) := ⟨_, rfl⟩
  obtain ⟨hWb, hWq, hWg, hWs⟩ := two_new w _ _ W hWd
  have hR := h.below hWb
  have M := (show Hid _ from fault_any hR)
  have k0 := cell_of_row W (w.heap.size + 1) 0 _ _ (0, 0) hWg
  have k1 := cell_of_row W (w.heap.size + 1) 1 _ _ (0, 0) hWg
  have k2 := cell_of_row W (w.heap.size + 1) 2 _ _ (0, 0) hWg
  have z0 := frozen_of_row W (w.heap.size + 1) 0 _ _ hWg
  have z1 := frozen_of_row W (w.heap.size + 1) 1 _ _ hWg
  have z2 := frozen_of_row W (w.heap.size + 1) 2 _ _ hWg
  have hen : 0 ≤ en bs.length f ∧ en bs.length f < 1000 := by
    unfold en
    by_cases h0 : f = 0
    · rw [if_pos h0]
      by_cases h1 : bs.length = 0
      · rw [if_pos h1]; omega
      · rw [if_neg h1]; omega
    · rw [if_neg h0]; exact hf
  obtain ⟨X, hX⟩ : ∃ X, f = X := ⟨_, rfl⟩
  have hXr : 0 ≤ X ∧ X < 9223372036854775808 := by rw [← hX]; omega
  rw [hX] at M
  have R : Hid (asks 11 n e bs f = (⟨X, [], []⟩, bs, f)) := (show asks 11 n e bs f = (⟨X, [], []⟩, bs, f) by rw [← hX]; rfl)
  clear hX
  clear hf hen
  go_enter Try.func33, Try.ntmps33
  go_wp2_with (first | (go_at_call 31; refine (PK.out _).mono ?_; rintro e2 w2 ⟨rfl, h9⟩; obtain rfl := h9.symm) | (go_at_call 40; rw [← hWd]; refine M.out.mono ?_; rintro e2 w2 ⟨rfl, h9⟩; obtain rfl := h9.symm))
  obtain ⟨hV1, hV2, hV3, hV4⟩ := two_new w (.cells #[.int .i64 q, .int .i64 kk, .int .i64 n, .int .i64 e] 65) (.cells #[.int .u64 X, .slice none 0 0, .slice none 0 0] 67) _ rfl
  refine bodyPost_ret (v := .agg #[.int .u64 X, .slice none 0 0, .slice none 0 0]) (results_cell_row rfl _ _ (w.heap.size + 1) 67 _ (0, 0) _ rfl hV3 Try.underlying67 rfl (by kernel_rfl)) rfl ?_
  rw [R.out]
  exact ⟨grown_below (grefl _ _) hV1, h.below hV1, _, _, rfl, Ow.nil _ _, Ot.nil _ _⟩
end
section
attribute [local irreducible] Calls el
set_option maxHeartbeats 2000000 in
set_option maxRecDepth 1000000 in
theorem ask12 {w : World} {r : Nat} {bs : List (BitVec 8)} {f : Int} (h : Rdr w r bs f) (_hl : bs.length ≤ 1099511627000) (hf : 0 ≤ f ∧ f < 1000) (q kk n e : Int) (_hn : n ≤ 9223372036854775807) (_he : e ≤ 9223372036854775807) (hk : kk % 13 = 12) :
    Calls Try.prog 33 #[.pointer (some ⟨r, 0, none⟩), .agg #[.int .i64 q, .int .i64 kk, .int .i64 n, .int .i64 e]] w fun e' w' => Askd w r (asks 12 n e bs f) e' w' := by
  have PK := (show Hid _ from pick_any kk 13 (by omega) (by omega))
  rw [hk] at PK
  have hlt := h.lt
  obtain ⟨W, hWd⟩ : ∃ W, W = (w.alloc (.cells #[.int .i64 q, .int .i64 kk, .int .i64 n, .int .i64 e] 65)).alloc (.cells #[.int .u64 0, .slice none 0 0, .slice none 0 0] 67) := ⟨_, rfl⟩
  obtain ⟨hWb, hWq, hWg, hWs⟩ := two_new w _ _ W hWd
  have hR := h.below hWb
  have M := (show Hid _ from end_any hR)
  have k0 := cell_of_row W (w.heap.size + 1) 0 _ _ (0, 0) hWg
  have k1 := cell_of_row W (w.heap.size + 1) 1 _ _ (0, 0) hWg
  have k2 := cell_of_row W (w.heap.size + 1) 2 _ _ (0, 0) hWg
  have z0 := frozen_of_row W (w.heap.size + 1) 0 _ _ hWg
  have z1 := frozen_of_row W (w.heap.size + 1) 1 _ _ hWg
  have z2 := frozen_of_row W (w.heap.size + 1) 2 _ _ hWg
  have hen : 0 ≤ en bs.length f ∧ en bs.length f < 1000 := by
    unfold en
    by_cases h0 : f = 0
    · rw [if_pos h0]
      by_cases h1 : bs.length = 0
      · rw [if_pos h1]; omega
      · rw [if_neg h1]; omega
    · rw [if_neg h0]; exact hf
  obtain ⟨X, hX⟩ : ∃ X, en bs.length f = X := ⟨_, rfl⟩
  have hXr : 0 ≤ X ∧ X < 9223372036854775808 := by rw [← hX]; omega
  rw [hX] at M
  have R : Hid (asks 12 n e bs f = (⟨X, [], []⟩, bs, f)) := (show asks 12 n e bs f = (⟨X, [], []⟩, bs, f) by rw [← hX]; rfl)
  clear hX
  clear hf hen
  go_enter Try.func33, Try.ntmps33
  go_wp2_with (first | (go_at_call 31; refine (PK.out _).mono ?_; rintro e2 w2 ⟨rfl, h9⟩; obtain rfl := h9.symm) | (go_at_call 42; rw [← hWd]; refine M.out.mono ?_; rintro e2 w2 ⟨rfl, h9⟩; obtain rfl := h9.symm))
  obtain ⟨hV1, hV2, hV3, hV4⟩ := two_new w (.cells #[.int .i64 q, .int .i64 kk, .int .i64 n, .int .i64 e] 65) (.cells #[.int .u64 X, .slice none 0 0, .slice none 0 0] 67) _ rfl
  refine bodyPost_ret (v := .agg #[.int .u64 X, .slice none 0 0, .slice none 0 0]) (results_cell_row rfl _ _ (w.heap.size + 1) 67 _ (0, 0) _ rfl hV3 Try.underlying67 rfl (by kernel_rfl)) rfl ?_
  rw [R.out]
  exact ⟨grown_below (grefl _ _) hV1, h.below hV1, _, _, rfl, Ow.nil _ _, Ot.nil _ _⟩
end
end Go.Proofs.Ytmcbeikgdcgdcaa
