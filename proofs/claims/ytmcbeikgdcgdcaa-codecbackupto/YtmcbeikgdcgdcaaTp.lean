/-
  The laws' 'put'.
-/
import Derived.Test.YtmcbeikgdcgdcaaTg
import Derived.Test.YtmcbeikgdcgdcaaPb2
namespace Go.Proofs.Ytmcbeikgdcgdcaa
open Go.RowKit
section
attribute [local irreducible] Calls el sb lb
set_option maxHeartbeats 2000000 in
set_option maxRecDepth 1000000 in
theorem tput0 {w : World} {a : Option Addr} {bs : List (BitVec 8)} (h : Rd w a bs) (n c : Nat) (hn : bs.length = n) (hm : n ≤ 100000000000000) (kk : Int) (hk : kk % 9 = 0) (U : Nat) (S : Int) (B : List (BitVec 8)) (T : List (List (BitVec 8))) (pB pT : Option Addr) (cB cT : Nat) (_hU : U < 18446744073709551616)  :
    Calls Try.prog 38 #[.slice a n c, .agg #[.int .i64 kk, .int .u64 (U : Int), .int .i64 S, .slice pB B.length cB, .slice pT T.length cT]] w fun e' w' => ∃ o', e' = .returned o' ∧ Ow w' w.heap.size o' (bs ++ eth ⟨0, U, S, B, T⟩) ∧ Below w.heap.size w w' := by
  have al : ∀ (W : World) (o : Obj), Below W.heap.size W (W.alloc o) := fun W o => (Below.refl _ _).alloc (Nat.le_refl _) o
  have PK := (show Hid _ from pick_any kk 9 (by omega) (by omega))
  rw [hk] at PK
  have hWb : Below w.heap.size w (w.alloc (.cells #[.int .i64 kk, .int .u64 (U : Int), .int .i64 S, .slice pB B.length cB, .slice pT T.length cT] 80)) := al _ _
  have M := (show Hid _ from put8_any (h.below hWb) n c hn (by omega) (U % 256) (by omega))
  have c0 : ((U % 256 : Nat) : Int) = (U : Int) % 256 := by omega
  rw [c0] at M
  have c2 : IntKind.u8.wrap (U : Int) = (U : Int) % 256 := by simp [IntKind.wrap, IntKind.bits, IntKind.signed]
  clear c0
  go_enter Try.func38, Try.ntmps38
  go_wp2_with (first | (go_at_call 31; refine (PK.out _).mono ?_; rintro e2 w2 ⟨rfl, h9⟩; obtain rfl := h9.symm) | (go_at_call 48; refine M.out.mono ?_; rintro e2 w1 ⟨v1, rfl, ho1, hb1⟩))
  go_ret
  exact ⟨_, rfl, ho1.mono hWb.size, bt hWb hb1⟩
set_option maxHeartbeats 2000000 in
set_option maxRecDepth 1000000 in
theorem tput1 {w : World} {a : Option Addr} {bs : List (BitVec 8)} (h : Rd w a bs) (n c : Nat) (hn : bs.length = n) (hm : n ≤ 100000000000000) (kk : Int) (hk : kk % 9 = 1) (U : Nat) (S : Int) (B : List (BitVec 8)) (T : List (List (BitVec 8))) (pB pT : Option Addr) (cB cT : Nat) (_hU : U < 18446744073709551616)  :
    Calls Try.prog 38 #[.slice a n c, .agg #[.int .i64 kk, .int .u64 (U : Int), .int .i64 S, .slice pB B.length cB, .slice pT T.length cT]] w fun e' w' => ∃ o', e' = .returned o' ∧ Ow w' w.heap.size o' (bs ++ eth ⟨1, U, S, B, T⟩) ∧ Below w.heap.size w w' := by
  have al : ∀ (W : World) (o : Obj), Below W.heap.size W (W.alloc o) := fun W o => (Below.refl _ _).alloc (Nat.le_refl _) o
  have PK := (show Hid _ from pick_any kk 9 (by omega) (by omega))
  rw [hk] at PK
  have hWb : Below w.heap.size w (w.alloc (.cells #[.int .i64 kk, .int .u64 (U : Int), .int .i64 S, .slice pB B.length cB, .slice pT T.length cT] 80)) := al _ _
  have M := (show Hid _ from put16_any (h.below hWb) n c hn (by omega) (U % 65536) (by omega))
  have c0 : ((U % 65536 : Nat) : Int) = (U : Int) % 65536 := by omega
  rw [c0] at M
  have c2 : IntKind.u16.wrap (U : Int) = (U : Int) % 65536 := by simp [IntKind.wrap, IntKind.bits, IntKind.signed]
  clear c0
  go_enter Try.func38, Try.ntmps38
  go_wp2_with (first | (go_at_call 31; refine (PK.out _).mono ?_; rintro e2 w2 ⟨rfl, h9⟩; obtain rfl := h9.symm) | (go_at_call 49; refine M.out.mono ?_; rintro e2 w1 ⟨v1, rfl, ho1, hb1⟩))
  go_ret
  exact ⟨_, rfl, ho1.mono hWb.size, bt hWb hb1⟩
set_option maxHeartbeats 2000000 in
set_option maxRecDepth 1000000 in
theorem tput2 {w : World} {a : Option Addr} {bs : List (BitVec 8)} (h : Rd w a bs) (n c : Nat) (hn : bs.length = n) (hm : n ≤ 100000000000000) (kk : Int) (hk : kk % 9 = 2) (U : Nat) (S : Int) (B : List (BitVec 8)) (T : List (List (BitVec 8))) (pB pT : Option Addr) (cB cT : Nat) (_hU : U < 18446744073709551616)  :
    Calls Try.prog 38 #[.slice a n c, .agg #[.int .i64 kk, .int .u64 (U : Int), .int .i64 S, .slice pB B.length cB, .slice pT T.length cT]] w fun e' w' => ∃ o', e' = .returned o' ∧ Ow w' w.heap.size o' (bs ++ eth ⟨2, U, S, B, T⟩) ∧ Below w.heap.size w w' := by
  have al : ∀ (W : World) (o : Obj), Below W.heap.size W (W.alloc o) := fun W o => (Below.refl _ _).alloc (Nat.le_refl _) o
  have PK := (show Hid _ from pick_any kk 9 (by omega) (by omega))
  rw [hk] at PK
  have hWb : Below w.heap.size w (w.alloc (.cells #[.int .i64 kk, .int .u64 (U : Int), .int .i64 S, .slice pB B.length cB, .slice pT T.length cT] 80)) := al _ _
  have M := (show Hid _ from put32_any (h.below hWb) n c hn (by omega) (U % 4294967296) (by omega))
  have c0 : ((U % 4294967296 : Nat) : Int) = (U : Int) % 4294967296 := by omega
  rw [c0] at M
  have c2 : IntKind.u32.wrap (U : Int) = (U : Int) % 4294967296 := by simp [IntKind.wrap, IntKind.bits, IntKind.signed]
  clear c0
  go_enter Try.func38, Try.ntmps38
  go_wp2_with (first | (go_at_call 31; refine (PK.out _).mono ?_; rintro e2 w2 ⟨rfl, h9⟩; obtain rfl := h9.symm) | (go_at_call 50; refine M.out.mono ?_; rintro e2 w1 ⟨v1, rfl, ho1, hb1⟩))
  go_ret
  exact ⟨_, rfl, ho1.mono hWb.size, bt hWb hb1⟩
set_option maxHeartbeats 2000000 in
set_option maxRecDepth 1000000 in
theorem tput3 {w : World} {a : Option Addr} {bs : List (BitVec 8)} (h : Rd w a bs) (n c : Nat) (hn : bs.length = n) (hm : n ≤ 100000000000000) (kk : Int) (hk : kk % 9 = 3) (U : Nat) (S : Int) (B : List (BitVec 8)) (T : List (List (BitVec 8))) (pB pT : Option Addr) (cB cT : Nat) (hU : U < 18446744073709551616)  :
    Calls Try.prog 38 #[.slice a n c, .agg #[.int .i64 kk, .int .u64 (U : Int), .int .i64 S, .slice pB B.length cB, .slice pT T.length cT]] w fun e' w' => ∃ o', e' = .returned o' ∧ Ow w' w.heap.size o' (bs ++ eth ⟨3, U, S, B, T⟩) ∧ Below w.heap.size w w' := by
  have al : ∀ (W : World) (o : Obj), Below W.heap.size W (W.alloc o) := fun W o => (Below.refl _ _).alloc (Nat.le_refl _) o
  have PK := (show Hid _ from pick_any kk 9 (by omega) (by omega))
  rw [hk] at PK
  have hWb : Below w.heap.size w (w.alloc (.cells #[.int .i64 kk, .int .u64 (U : Int), .int .i64 S, .slice pB B.length cB, .slice pT T.length cT] 80)) := al _ _
  have M := (show Hid _ from put64_any (h.below hWb) n c hn (by omega) U (by omega))
  go_enter Try.func38, Try.ntmps38
  go_wp2_with (first | (go_at_call 31; refine (PK.out _).mono ?_; rintro e2 w2 ⟨rfl, h9⟩; obtain rfl := h9.symm) | (go_at_call 51; refine M.out.mono ?_; rintro e2 w1 ⟨v1, rfl, ho1, hb1⟩))
  go_ret
  exact ⟨_, rfl, ho1.mono hWb.size, bt hWb hb1⟩
set_option maxHeartbeats 2000000 in
set_option maxRecDepth 1000000 in
theorem tput4 {w : World} {a : Option Addr} {bs : List (BitVec 8)} (h : Rd w a bs) (n c : Nat) (hn : bs.length = n) (hm : n ≤ 100000000000000) (kk : Int) (hk : kk % 9 = 4) (U : Nat) (S : Int) (B : List (BitVec 8)) (T : List (List (BitVec 8))) (pB pT : Option Addr) (cB cT : Nat) (_hU : U < 18446744073709551616)  :
    Calls Try.prog 38 #[.slice a n c, .agg #[.int .i64 kk, .int .u64 (U : Int), .int .i64 S, .slice pB B.length cB, .slice pT T.length cT]] w fun e' w' => ∃ o', e' = .returned o' ∧ Ow w' w.heap.size o' (bs ++ eth ⟨4, U, S, B, T⟩) ∧ Below w.heap.size w w' := by
  have al : ∀ (W : World) (o : Obj), Below W.heap.size W (W.alloc o) := fun W o => (Below.refl _ _).alloc (Nat.le_refl _) o
  have PK := (show Hid _ from pick_any kk 9 (by omega) (by omega))
  rw [hk] at PK
  have hWb : Below w.heap.size w (w.alloc (.cells #[.int .i64 kk, .int .u64 (U : Int), .int .i64 S, .slice pB B.length cB, .slice pT T.length cT] 80)) := al _ _
  have M := (show Hid _ from putt_any (h.below hWb) n c hn (by omega) (U % 65536) (by omega))
  have c0 : ((U % 65536 : Nat) : Int) = (U : Int) % 65536 := by omega
  rw [c0] at M
  have c2 : IntKind.u16.wrap (U : Int) = (U : Int) % 65536 := by simp [IntKind.wrap, IntKind.bits, IntKind.signed]
  clear c0
  go_enter Try.func38, Try.ntmps38
  go_wp2_with (first | (go_at_call 31; refine (PK.out _).mono ?_; rintro e2 w2 ⟨rfl, h9⟩; obtain rfl := h9.symm) | (go_at_call 52; refine M.out.mono ?_; rintro e2 w1 ⟨v1, rfl, ho1, hb1⟩))
  go_ret
  exact ⟨_, rfl, ho1.mono hWb.size, bt hWb hb1⟩
set_option maxHeartbeats 2000000 in
set_option maxRecDepth 1000000 in
theorem tput5 {w : World} {a : Option Addr} {bs : List (BitVec 8)} (h : Rd w a bs) (n c : Nat) (hn : bs.length = n) (hm : n ≤ 100000000000000) (kk : Int) (hk : kk % 9 = 5) (U : Nat) (S : Int) (B : List (BitVec 8)) (T : List (List (BitVec 8))) (pB pT : Option Addr) (cB cT : Nat) (hU : U < 18446744073709551616)  :
    Calls Try.prog 38 #[.slice a n c, .agg #[.int .i64 kk, .int .u64 (U : Int), .int .i64 S, .slice pB B.length cB, .slice pT T.length cT]] w fun e' w' => ∃ o', e' = .returned o' ∧ Ow w' w.heap.size o' (bs ++ eth ⟨5, U, S, B, T⟩) ∧ Below w.heap.size w w' := by
  have al : ∀ (W : World) (o : Obj), Below W.heap.size W (W.alloc o) := fun W o => (Below.refl _ _).alloc (Nat.le_refl _) o
  have PK := (show Hid _ from pick_any kk 9 (by omega) (by omega))
  rw [hk] at PK
  have hWb : Below w.heap.size w (w.alloc (.cells #[.int .i64 kk, .int .u64 (U : Int), .int .i64 S, .slice pB B.length cB, .slice pT T.length cT] 80)) := al _ _
  have M := (show Hid _ from putU_any (h.below hWb) n c hn (by omega) U (by omega))
  go_enter Try.func38, Try.ntmps38
  go_wp2_with (first | (go_at_call 31; refine (PK.out _).mono ?_; rintro e2 w2 ⟨rfl, h9⟩; obtain rfl := h9.symm) | (go_at_call 53; refine M.out.mono ?_; rintro e2 w1 ⟨v1, rfl, ho1, hb1⟩))
  go_ret
  exact ⟨_, rfl, ho1.mono hWb.size, bt hWb hb1⟩
set_option maxHeartbeats 2000000 in
set_option maxRecDepth 1000000 in
theorem tput6 {w : World} {a : Option Addr} {bs : List (BitVec 8)} (h : Rd w a bs) (n c : Nat) (hn : bs.length = n) (hm : n ≤ 100000000000000) (kk : Int) (hk : kk % 9 = 6) (U : Nat) (S : Int) (B : List (BitVec 8)) (T : List (List (BitVec 8))) (pB pT : Option Addr) (cB cT : Nat) (hS : -9223372036854775808 ≤ S ∧ S ≤ 9223372036854775807)  :
    Calls Try.prog 38 #[.slice a n c, .agg #[.int .i64 kk, .int .u64 (U : Int), .int .i64 S, .slice pB B.length cB, .slice pT T.length cT]] w fun e' w' => ∃ o', e' = .returned o' ∧ Ow w' w.heap.size o' (bs ++ eth ⟨6, U, S, B, T⟩) ∧ Below w.heap.size w w' := by
  have al : ∀ (W : World) (o : Obj), Below W.heap.size W (W.alloc o) := fun W o => (Below.refl _ _).alloc (Nat.le_refl _) o
  have PK := (show Hid _ from pick_any kk 9 (by omega) (by omega))
  rw [hk] at PK
  have hWb : Below w.heap.size w (w.alloc (.cells #[.int .i64 kk, .int .u64 (U : Int), .int .i64 S, .slice pB B.length cB, .slice pT T.length cT] 80)) := al _ _
  have M := (show Hid _ from putV_any (h.below hWb) n c hn (by omega) S hS)
  go_enter Try.func38, Try.ntmps38
  go_wp2_with (first | (go_at_call 31; refine (PK.out _).mono ?_; rintro e2 w2 ⟨rfl, h9⟩; obtain rfl := h9.symm) | (go_at_call 54; refine M.out.mono ?_; rintro e2 w1 ⟨v1, rfl, ho1, hb1⟩))
  go_ret
  exact ⟨_, rfl, ho1.mono hWb.size, bt hWb hb1⟩
set_option maxHeartbeats 2000000 in
set_option maxRecDepth 1000000 in
theorem tput7 {w : World} {a : Option Addr} {bs : List (BitVec 8)} (h : Rd w a bs) (n c : Nat) (hn : bs.length = n) (hm : n ≤ 100000000000000) (kk : Int) (hk : kk % 9 = 7) (U : Nat) (S : Int) (B : List (BitVec 8)) (T : List (List (BitVec 8))) (pB pT : Option Addr) (cB cT : Nat)  (hB : Rd w pB B) (hlB : B.length ≤ 1048576) :
    Calls Try.prog 38 #[.slice a n c, .agg #[.int .i64 kk, .int .u64 (U : Int), .int .i64 S, .slice pB B.length cB, .slice pT T.length cT]] w fun e' w' => ∃ o', e' = .returned o' ∧ Ow w' w.heap.size o' (bs ++ eth ⟨7, U, S, B, T⟩) ∧ Below w.heap.size w w' := by
  have al : ∀ (W : World) (o : Obj), Below W.heap.size W (W.alloc o) := fun W o => (Below.refl _ _).alloc (Nat.le_refl _) o
  have PK := (show Hid _ from pick_any kk 9 (by omega) (by omega))
  rw [hk] at PK
  have hWb : Below w.heap.size w (w.alloc (.cells #[.int .i64 kk, .int .u64 (U : Int), .int .i64 S, .slice pB B.length cB, .slice pT T.length cT] 80)) := al _ _
  have M := (show Hid _ from putB2 (h.below hWb) (hB.below hWb) n c B.length cB hn rfl (by omega))
  go_enter Try.func38, Try.ntmps38
  go_wp2_with (first | (go_at_call 31; refine (PK.out _).mono ?_; rintro e2 w2 ⟨rfl, h9⟩; obtain rfl := h9.symm) | (go_at_call 55; refine M.out.mono ?_; rintro e2 w1 ⟨v1, rfl, ho1, hb1⟩))
  go_ret
  exact ⟨_, rfl, ho1.mono hWb.size, bt hWb hb1⟩
set_option maxHeartbeats 2000000 in
set_option maxRecDepth 1000000 in
theorem tput8 {w : World} {a : Option Addr} {bs : List (BitVec 8)} (h : Rd w a bs) (n c : Nat) (hn : bs.length = n) (hm : n ≤ 100000000000000) (kk : Int) (hk : kk % 9 = 8) (U : Nat) (S : Int) (B : List (BitVec 8)) (T : List (List (BitVec 8))) (pB pT : Option Addr) (cB cT : Nat)  (hT : Rs' w pT T) (hlT : tz T ≤ 40000000000000) :
    Calls Try.prog 38 #[.slice a n c, .agg #[.int .i64 kk, .int .u64 (U : Int), .int .i64 S, .slice pB B.length cB, .slice pT T.length cT]] w fun e' w' => ∃ o', e' = .returned o' ∧ Ow w' w.heap.size o' (bs ++ eth ⟨8, U, S, B, T⟩) ∧ Below w.heap.size w w' := by
  have al : ∀ (W : World) (o : Obj), Below W.heap.size W (W.alloc o) := fun W o => (Below.refl _ _).alloc (Nat.le_refl _) o
  have PK := (show Hid _ from pick_any kk 9 (by omega) (by omega))
  rw [hk] at PK
  have hWb : Below w.heap.size w (w.alloc (.cells #[.int .i64 kk, .int .u64 (U : Int), .int .i64 S, .slice pB B.length cB, .slice pT T.length cT] 80)) := al _ _
  have M := (show Hid _ from putT_any (h.below hWb) (hT.below hWb) n c T.length cT hn rfl (by omega))
  go_enter Try.func38, Try.ntmps38
  go_wp2_with (first | (go_at_call 31; refine (PK.out _).mono ?_; rintro e2 w2 ⟨rfl, h9⟩; obtain rfl := h9.symm) | (go_at_call 56; refine M.out.mono ?_; rintro e2 w1 ⟨v1, rfl, ho1, hb1⟩))
  go_ret
  exact ⟨_, rfl, ho1.mono hWb.size, bt hWb hb1⟩
end
end Go.Proofs.Ytmcbeikgdcgdcaa
