/-
  The laws' 'again', some of its calls.
-/
import Derived.Test.YtmcbeikgdcgdcaaEn7
import Derived.Test.YtmcbeikgdcgdcaaKq7
namespace Go.Proofs.Ytmcbeikgdcgdcaa
open Go.RowKit
section
attribute [local irreducible] Calls el sb lb
set_option maxHeartbeats 2000000 in
set_option maxRecDepth 1000000 in
theorem again0 {w : World} {a : Option Addr} {bs : List (BitVec 8)} (h : Rd w a bs) (n c : Nat) (hn : bs.length = n) (hm : n ≤ 1048576) (q kk x e : Int) (hk : kk % 10 = 0) (U : Int) (B : List (BitVec 8)) (T : List (List (BitVec 8))) (pB pT : Option Addr) (cB cT : Nat) (hU : 0 ≤ U ∧ U < 256)  :
    Calls Try.prog 43 #[.slice a n c, .agg #[.int .i64 q, .int .i64 kk, .int .i64 x, .int .i64 e], .agg #[.int .u64 U, .slice pB B.length cB, .slice pT T.length cT]] w fun e' w' => ∃ o', e' = .returned o' ∧ Ow w' w.heap.size o' (bs ++ enc 0 ⟨U, B, T⟩) ∧ Below w.heap.size w w' := by
  have PK := (show Hid _ from pick_any kk 10 (by omega) (by omega))
  rw [hk] at PK
  obtain ⟨W, hWd⟩ : ∃ W, W = (w.alloc (.cells #[.int .i64 q, .int .i64 kk, .int .i64 x, .int .i64 e] 65)).alloc (.cells #[.int .u64 U, .slice pB B.length cB, .slice pT T.length cT] 67) := ⟨_, rfl⟩
  obtain ⟨hWb, hWq, hWg, hWs⟩ := two_new w _ _ W hWd
  obtain ⟨u, rfl⟩ := Int.eq_ofNat_of_zero_le hU.1
  have c1 : (u : Int) % 256 = (u : Int) := by omega
  have c2 : IntKind.u8.wrap (u : Int) = (u : Int) := by simp [IntKind.wrap, IntKind.bits, IntKind.signed]; omega
  have M := (show Hid _ from put8_any (h.below hWb) n c hn (by omega) u (by omega))
  go_enter Try.func43, Try.ntmps43
  go_wp2_with (first | (go_at_call 31; refine (PK.out _).mono ?_; rintro e2 w2 ⟨rfl, h9⟩; obtain rfl := h9.symm) | (go_at_call 48; rw [← hWd]; refine M.out.mono ?_; rintro e2 w1 ⟨v1, rfl, ho1, hb1⟩))
  go_ret
  exact ⟨_, rfl, by rw [show enc 0 ⟨(u : Int), B, T⟩ = lb 1 u from by unfold enc; simp only [Int.toNat_natCast]]; exact ho1.mono hWb.size, bt hWb hb1⟩
set_option maxHeartbeats 2000000 in
set_option maxRecDepth 1000000 in
theorem again1 {w : World} {a : Option Addr} {bs : List (BitVec 8)} (h : Rd w a bs) (n c : Nat) (hn : bs.length = n) (hm : n ≤ 1048576) (q kk x e : Int) (hk : kk % 10 = 1) (U : Int) (B : List (BitVec 8)) (T : List (List (BitVec 8))) (pB pT : Option Addr) (cB cT : Nat) (hU : 0 ≤ U ∧ U < 65536)  :
    Calls Try.prog 43 #[.slice a n c, .agg #[.int .i64 q, .int .i64 kk, .int .i64 x, .int .i64 e], .agg #[.int .u64 U, .slice pB B.length cB, .slice pT T.length cT]] w fun e' w' => ∃ o', e' = .returned o' ∧ Ow w' w.heap.size o' (bs ++ enc 1 ⟨U, B, T⟩) ∧ Below w.heap.size w w' := by
  have PK := (show Hid _ from pick_any kk 10 (by omega) (by omega))
  rw [hk] at PK
  obtain ⟨W, hWd⟩ : ∃ W, W = (w.alloc (.cells #[.int .i64 q, .int .i64 kk, .int .i64 x, .int .i64 e] 65)).alloc (.cells #[.int .u64 U, .slice pB B.length cB, .slice pT T.length cT] 67) := ⟨_, rfl⟩
  obtain ⟨hWb, hWq, hWg, hWs⟩ := two_new w _ _ W hWd
  obtain ⟨u, rfl⟩ := Int.eq_ofNat_of_zero_le hU.1
  have c1 : (u : Int) % 65536 = (u : Int) := by omega
  have c2 : IntKind.u16.wrap (u : Int) = (u : Int) := by simp [IntKind.wrap, IntKind.bits, IntKind.signed]; omega
  have M := (show Hid _ from put16_any (h.below hWb) n c hn (by omega) u (by omega))
  go_enter Try.func43, Try.ntmps43
  go_wp2_with (first | (go_at_call 31; refine (PK.out _).mono ?_; rintro e2 w2 ⟨rfl, h9⟩; obtain rfl := h9.symm) | (go_at_call 49; rw [← hWd]; refine M.out.mono ?_; rintro e2 w1 ⟨v1, rfl, ho1, hb1⟩))
  go_ret
  exact ⟨_, rfl, by rw [show enc 1 ⟨(u : Int), B, T⟩ = lb 2 u from by unfold enc; simp only [Int.toNat_natCast]]; exact ho1.mono hWb.size, bt hWb hb1⟩
set_option maxHeartbeats 2000000 in
set_option maxRecDepth 1000000 in
theorem again2 {w : World} {a : Option Addr} {bs : List (BitVec 8)} (h : Rd w a bs) (n c : Nat) (hn : bs.length = n) (hm : n ≤ 1048576) (q kk x e : Int) (hk : kk % 10 = 2) (U : Int) (B : List (BitVec 8)) (T : List (List (BitVec 8))) (pB pT : Option Addr) (cB cT : Nat) (hU : 0 ≤ U ∧ U < 4294967296)  :
    Calls Try.prog 43 #[.slice a n c, .agg #[.int .i64 q, .int .i64 kk, .int .i64 x, .int .i64 e], .agg #[.int .u64 U, .slice pB B.length cB, .slice pT T.length cT]] w fun e' w' => ∃ o', e' = .returned o' ∧ Ow w' w.heap.size o' (bs ++ enc 2 ⟨U, B, T⟩) ∧ Below w.heap.size w w' := by
  have PK := (show Hid _ from pick_any kk 10 (by omega) (by omega))
  rw [hk] at PK
  obtain ⟨W, hWd⟩ : ∃ W, W = (w.alloc (.cells #[.int .i64 q, .int .i64 kk, .int .i64 x, .int .i64 e] 65)).alloc (.cells #[.int .u64 U, .slice pB B.length cB, .slice pT T.length cT] 67) := ⟨_, rfl⟩
  obtain ⟨hWb, hWq, hWg, hWs⟩ := two_new w _ _ W hWd
  obtain ⟨u, rfl⟩ := Int.eq_ofNat_of_zero_le hU.1
  have c1 : (u : Int) % 4294967296 = (u : Int) := by omega
  have c2 : IntKind.u32.wrap (u : Int) = (u : Int) := by simp [IntKind.wrap, IntKind.bits, IntKind.signed]; omega
  have M := (show Hid _ from put32_any (h.below hWb) n c hn (by omega) u (by omega))
  go_enter Try.func43, Try.ntmps43
  go_wp2_with (first | (go_at_call 31; refine (PK.out _).mono ?_; rintro e2 w2 ⟨rfl, h9⟩; obtain rfl := h9.symm) | (go_at_call 50; rw [← hWd]; refine M.out.mono ?_; rintro e2 w1 ⟨v1, rfl, ho1, hb1⟩))
  go_ret
  exact ⟨_, rfl, by rw [show enc 2 ⟨(u : Int), B, T⟩ = lb 4 u from by unfold enc; simp only [Int.toNat_natCast]]; exact ho1.mono hWb.size, bt hWb hb1⟩
set_option maxHeartbeats 2000000 in
set_option maxRecDepth 1000000 in
theorem again3 {w : World} {a : Option Addr} {bs : List (BitVec 8)} (h : Rd w a bs) (n c : Nat) (hn : bs.length = n) (hm : n ≤ 1048576) (q kk x e : Int) (hk : kk % 10 = 3) (U : Int) (B : List (BitVec 8)) (T : List (List (BitVec 8))) (pB pT : Option Addr) (cB cT : Nat) (hU : 0 ≤ U ∧ U < 18446744073709551616)  :
    Calls Try.prog 43 #[.slice a n c, .agg #[.int .i64 q, .int .i64 kk, .int .i64 x, .int .i64 e], .agg #[.int .u64 U, .slice pB B.length cB, .slice pT T.length cT]] w fun e' w' => ∃ o', e' = .returned o' ∧ Ow w' w.heap.size o' (bs ++ enc 3 ⟨U, B, T⟩) ∧ Below w.heap.size w w' := by
  have PK := (show Hid _ from pick_any kk 10 (by omega) (by omega))
  rw [hk] at PK
  obtain ⟨W, hWd⟩ : ∃ W, W = (w.alloc (.cells #[.int .i64 q, .int .i64 kk, .int .i64 x, .int .i64 e] 65)).alloc (.cells #[.int .u64 U, .slice pB B.length cB, .slice pT T.length cT] 67) := ⟨_, rfl⟩
  obtain ⟨hWb, hWq, hWg, hWs⟩ := two_new w _ _ W hWd
  obtain ⟨u, rfl⟩ := Int.eq_ofNat_of_zero_le hU.1
  have c1 : (u : Int) % 18446744073709551616 = (u : Int) := by omega
  have c2 : IntKind.u64.wrap (u : Int) = (u : Int) := by simp [IntKind.wrap, IntKind.bits, IntKind.signed]; omega
  have M := (show Hid _ from put64_any (h.below hWb) n c hn (by omega) u (by omega))
  go_enter Try.func43, Try.ntmps43
  go_wp2_with (first | (go_at_call 31; refine (PK.out _).mono ?_; rintro e2 w2 ⟨rfl, h9⟩; obtain rfl := h9.symm) | (go_at_call 51; rw [← hWd]; refine M.out.mono ?_; rintro e2 w1 ⟨v1, rfl, ho1, hb1⟩))
  go_ret
  exact ⟨_, rfl, by rw [show enc 3 ⟨(u : Int), B, T⟩ = lb 8 u from by unfold enc; simp only [Int.toNat_natCast]]; exact ho1.mono hWb.size, bt hWb hb1⟩
set_option maxHeartbeats 2000000 in
set_option maxRecDepth 1000000 in
theorem again4 {w : World} {a : Option Addr} {bs : List (BitVec 8)} (h : Rd w a bs) (n c : Nat) (hn : bs.length = n) (hm : n ≤ 1048576) (q kk x e : Int) (hk : kk % 10 = 4) (U : Int) (B : List (BitVec 8)) (T : List (List (BitVec 8))) (pB pT : Option Addr) (cB cT : Nat) (hU : 0 ≤ U ∧ U < 65536)  :
    Calls Try.prog 43 #[.slice a n c, .agg #[.int .i64 q, .int .i64 kk, .int .i64 x, .int .i64 e], .agg #[.int .u64 U, .slice pB B.length cB, .slice pT T.length cT]] w fun e' w' => ∃ o', e' = .returned o' ∧ Ow w' w.heap.size o' (bs ++ enc 4 ⟨U, B, T⟩) ∧ Below w.heap.size w w' := by
  have PK := (show Hid _ from pick_any kk 10 (by omega) (by omega))
  rw [hk] at PK
  obtain ⟨W, hWd⟩ : ∃ W, W = (w.alloc (.cells #[.int .i64 q, .int .i64 kk, .int .i64 x, .int .i64 e] 65)).alloc (.cells #[.int .u64 U, .slice pB B.length cB, .slice pT T.length cT] 67) := ⟨_, rfl⟩
  obtain ⟨hWb, hWq, hWg, hWs⟩ := two_new w _ _ W hWd
  obtain ⟨u, rfl⟩ := Int.eq_ofNat_of_zero_le hU.1
  have c1 : (u : Int) % 65536 = (u : Int) := by omega
  have c2 : IntKind.u16.wrap (u : Int) = (u : Int) := by simp [IntKind.wrap, IntKind.bits, IntKind.signed]; omega
  have M := (show Hid _ from putt_any (h.below hWb) n c hn (by omega) u (by omega))
  go_enter Try.func43, Try.ntmps43
  go_wp2_with (first | (go_at_call 31; refine (PK.out _).mono ?_; rintro e2 w2 ⟨rfl, h9⟩; obtain rfl := h9.symm) | (go_at_call 52; rw [← hWd]; refine M.out.mono ?_; rintro e2 w1 ⟨v1, rfl, ho1, hb1⟩))
  go_ret
  exact ⟨_, rfl, by rw [show enc 4 ⟨(u : Int), B, T⟩ = lb 2 u from by unfold enc; simp only [Int.toNat_natCast]]; exact ho1.mono hWb.size, bt hWb hb1⟩
set_option maxHeartbeats 2000000 in
set_option maxRecDepth 1000000 in
theorem again5 {w : World} {a : Option Addr} {bs : List (BitVec 8)} (h : Rd w a bs) (n c : Nat) (hn : bs.length = n) (hm : n ≤ 1048576) (q kk x e : Int) (hk : kk % 10 = 5) (U : Int) (B : List (BitVec 8)) (T : List (List (BitVec 8))) (pB pT : Option Addr) (cB cT : Nat) (hU : 0 ≤ U ∧ U < 18446744073709551616)  :
    Calls Try.prog 43 #[.slice a n c, .agg #[.int .i64 q, .int .i64 kk, .int .i64 x, .int .i64 e], .agg #[.int .u64 U, .slice pB B.length cB, .slice pT T.length cT]] w fun e' w' => ∃ o', e' = .returned o' ∧ Ow w' w.heap.size o' (bs ++ enc 5 ⟨U, B, T⟩) ∧ Below w.heap.size w w' := by
  have PK := (show Hid _ from pick_any kk 10 (by omega) (by omega))
  rw [hk] at PK
  obtain ⟨W, hWd⟩ : ∃ W, W = (w.alloc (.cells #[.int .i64 q, .int .i64 kk, .int .i64 x, .int .i64 e] 65)).alloc (.cells #[.int .u64 U, .slice pB B.length cB, .slice pT T.length cT] 67) := ⟨_, rfl⟩
  obtain ⟨hWb, hWq, hWg, hWs⟩ := two_new w _ _ W hWd
  obtain ⟨u, rfl⟩ := Int.eq_ofNat_of_zero_le hU.1
  have c1 : (u : Int) % 18446744073709551616 = (u : Int) := by omega
  have c2 : IntKind.u64.wrap (u : Int) = (u : Int) := by simp [IntKind.wrap, IntKind.bits, IntKind.signed]; omega
  have M := (show Hid _ from putU_any (h.below hWb) n c hn (by omega) u (by omega))
  go_enter Try.func43, Try.ntmps43
  go_wp2_with (first | (go_at_call 31; refine (PK.out _).mono ?_; rintro e2 w2 ⟨rfl, h9⟩; obtain rfl := h9.symm) | (go_at_call 53; rw [← hWd]; refine M.out.mono ?_; rintro e2 w1 ⟨v1, rfl, ho1, hb1⟩))
  go_ret
  exact ⟨_, rfl, by rw [show enc 5 ⟨(u : Int), B, T⟩ = sb 9 u from by unfold enc; simp only [Int.toNat_natCast]]; exact ho1.mono hWb.size, bt hWb hb1⟩
end
end Go.Proofs.Ytmcbeikgdcgdcaa
