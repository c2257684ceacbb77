/-
  The laws' 'put'.
-/
import Derived.Test.YtmcbeikgdcgdcaaTg
import Derived.Test.YtmcbeikgdcgdcaaPt
namespace Go.Proofs.Ytmcbeikgdcgdcaa
open Go.RowKit
section
attribute [local irreducible] Calls el sb bstr
set_option maxRecDepth 1000000 in
theorem blockB2 {w : World} {base : Nat} {o : Value} {xs : List (BitVec 8)} (h : Ow w base o xs) (hB : base ≤ w.heap.size) {a : Option Addr} {t : List (BitVec 8)} (hr : Rd w a t) (hlt : ∀ b, a = some b → 0 < t.length → b.block < base) (n c : Nat) (hn : t.length = n) (hx : xs.length + n ≤ 140737488355000) :
    Calls Try.prog 86 #[o, .slice a n c] w fun e w' => ∃ o', e = .returned o' ∧ Ow w' base o' (xs ++ bl t) ∧ Below base w w' := by
  subst hn
  have S := (show Hid _ from shortForm_any h hB (by omega) t.length (by omega))
  have hsl := sb_len 9 t.length
  have rdk : Hid (∀ w1, Below base w w1 → Rd w1 a t) := by
    intro w1 hb
    rcases hr with hr | ⟨b, of, e, hc⟩
    · exact .inl hr
    · refine .inr ⟨b, of, e, fun i hi => ?_⟩
      have hb' : b < base := hlt _ e (by omega)
      rw [hb.cell (p := ⟨b, of + i, none⟩) hb']; exact hc i hi
  go_enter Try.func86, Try.ntmps86
  go_wp2_with (first
    | (go_at_call 85; refine S.out.mono ?_; rintro e w1 ⟨v1, rfl, ho1, hb1⟩)
    | (at_builtin; refine wpList_apa rfl (.tmp 9) (.tmp 10) rfl base v1 _ rfl ho1 a t.length c t rfl (rdk.out _ hb1) rfl (by rw [List.length_append]; omega) (Nat.le_trans hB hb1.size) ?_; intro v2 w2 ho2 hg2 hk2))
  go_ret
  rw [List.append_assoc] at ho2
  exact ⟨_, rfl, ho2, ho1.below_append hb1 (Nat.le_trans hB hb1.size) hg2 (Nat.le_refl _)⟩
set_option maxRecDepth 1000000 in
theorem putB2 {w : World} {a a2 : Option Addr} {bs p : List (BitVec 8)} (h : Rd w a bs) (hp : Rd w a2 p) (n c m d : Nat) (hn : bs.length = n) (hm : p.length = m) (hx : n + m ≤ 140737488350000) :
    Calls Try.prog 55 #[.slice a n c, .slice a2 m d] w fun e w' => ∃ o', e = .returned o' ∧ Ow w' w.heap.size o' (bs ++ bl p) ∧ Below w.heap.size w w' := by
  have hlt : ∀ b, a2 = some b → 0 < p.length → b.block < w.heap.size := by
    intro b e h0
    rcases hp with hp | ⟨bb, of, e2, hc⟩
    · rw [hp] at h0; cases h0
    · rw [e2] at e
      injection e with e
      rw [← e]
      exact block_lt_of_cell (hc 0 h0)
  have A1 := (show Hid _ from anew_any h n c (10 + m) hn (by omega))
  rw [Int.natCast_add] at A1
  go_enter Try.func55, Try.ntmps55
  go_wp2_with (first
    | (go_at_call 59; refine A1.out.mono ?_; rintro e w1 ⟨v1, rfl, ho1, hb1⟩)
    | (go_at_call 86; refine (blockB2 ho1 hb1.size (hp.below hb1) hlt m d hm (by omega)).mono ?_; rintro e w2 ⟨v2, rfl, ho2, hb2⟩))
  go_ret
  exact ⟨_, rfl, ho2, hb1.trans hb2⟩
end
section
attribute [local irreducible] Calls el sb lb
set_option maxHeartbeats 2000000 in
set_option maxRecDepth 1000000 in
theorem tput0 {w : World} {a : Option Addr} {bs : List (BitVec 8)} (h : Rd w a bs) (n c : Nat) (hn : bs.length = n) (hm : n ≤ 100000000000000) (kk : Int) (hk : kk % 9 = 0) (U : Nat) (S : Int) (B : List (BitVec 8)) (T : List (List (BitVec 8))) (pB pT : Option Addr) (cB cT : Nat) (_hU : U < 18446744073709551616)  :
    Calls Try.prog 38 #[.slice a n c, .agg #[.int .i64 kk, .int .u64 (U : Int), .int .i64 S, .slice pB B.length cB, .slice pT T.length cT]] w fun e' w' => ∃ o', e' = .returned o' ∧ Ow w' w.heap.size o' (bs ++ eth ⟨0, U, S, B, T⟩) ∧ Below w.heap.size w w' := by
  have al : ∀ (W : World) (o : Obj), Below W.heap.size W (W.alloc o) := fun W o => (Below.refl _ _).alloc (Nat.le_refl _) o
  have PK := (show Hid _ from pick_any kk 9 (by omega) (by omega))
  rw [hk] at PK
  have hWb : Below w.heap.size w (w.alloc (.cells #[.int .i64 kk, .int .u64 (U : Int), .int .i64 S, .slice pB B.length cB, .slice pT T.length cT] 80)) := al _ _
  have M := (show Hid _ from put8_any (h.below hWb) n c hn (by omega) (U % 256) (by omega))
  have c0 : ((U % 256 : Nat) : Int) = (U : Int) % 256 := by omega
  rw [c0] at M
  have c2 : IntKind.u8.wrap (U : Int) = (U : Int) % 256 := by simp [IntKind.wrap, IntKind.bits, IntKind.signed]
  clear c0
  go_enter Try.func38, Try.ntmps38
  go_wp2_with (first | (go_at_call 31; refine (PK.out _).mono ?_; rintro e2 w2 ⟨rfl, h9⟩; obtain rfl := h9.symm) | (go_at_call 48; refine M.out.mono ?_; rintro e2 w1 ⟨v1, rfl, ho1, hb1⟩))
  go_ret
  exact ⟨_, rfl, ho1.mono hWb.size, bt hWb hb1⟩
set_option maxHeartbeats 2000000 in
set_option maxRecDepth 1000000 in
theorem tput1 {w : World} {a : Option Addr} {bs : List (BitVec 8)} (h : Rd w a bs) (n c : Nat) (hn : bs.length = n) (hm : n ≤ 100000000000000) (kk : Int) (hk : kk % 9 = 1) (U : Nat) (S : Int) (B : List (BitVec 8)) (T : List (List (BitVec 8))) (pB pT : Option Addr) (cB cT : Nat) (_hU : U < 18446744073709551616)  :
    Calls Try.prog 38 #[.slice a n c, .agg #[.int .i64 kk, .int .u64 (U : Int), .int .i64 S, .slice pB B.length cB, .slice pT T.length cT]] w fun e' w' => ∃ o', e' = .returned o' ∧ Ow w' w.heap.size o' (bs ++ eth ⟨1, U, S, B, T⟩) ∧ Below w.heap.size w w' := by
  have al : ∀ (W : World) (o : Obj), Below W.heap.size W (W.alloc o) := fun W o => (Below.refl _ _).alloc (Nat.le_refl _) o
  have PK := (show Hid _ from pick_any kk 9 (by omega) (by omega))
  rw [hk] at PK
  have hWb : Below w.heap.size w (w.alloc (.cells #[.int .i64 kk, .int .u64 (U : Int), .int .i64 S, .slice pB B.length cB, .slice pT T.length cT] 80)) := al _ _
  have M := (show Hid _ from put16_any (h.below hWb) n c hn (by omega) (U % 65536) (by omega))
  have c0 : ((U % 65536 : Nat) : Int) = (U : Int) % 65536 := by omega
  rw [c0] at M
  have c2 : IntKind.u16.wrap (U : Int) = (U : Int) % 65536 := by simp [IntKind.wrap, IntKind.bits, IntKind.signed]
  clear c0
  go_enter Try.func38, Try.ntmps38
  go_wp2_with (first | (go_at_call 31; refine (PK.out _).mono ?_; rintro e2 w2 ⟨rfl, h9⟩; obtain rfl := h9.symm) | (go_at_call 49; refine M.out.mono ?_; rintro e2 w1 ⟨v1, rfl, ho1, hb1⟩))
  go_ret
  exact ⟨_, rfl, ho1.mono hWb.size, bt hWb hb1⟩
set_option maxHeartbeats 2000000 in
set_option maxRecDepth 1000000 in
theorem tput2 {w : World} {a : Option Addr} {bs : List (BitVec 8)} (h : Rd w a bs) (n c : Nat) (hn : bs.length = n) (hm : n ≤ 100000000000000) (kk : Int) (hk : kk % 9 = 2) (U : Nat) (S : Int) (B : List (BitVec 8)) (T : List (List (BitVec 8))) (pB pT : Option Addr) (cB cT : Nat) (_hU : U < 18446744073709551616)  :
    Calls Try.prog 38 #[.slice a n c, .agg #[.int .i64 kk, .int .u64 (U : Int), .int .i64 S, .slice pB B.length cB, .slice pT T.length cT]] w fun e' w' => ∃ o', e' = .returned o' ∧ Ow w' w.heap.size o' (bs ++ eth ⟨2, U, S, B, T⟩) ∧ Below w.heap.size w w' := by
  have al : ∀ (W : World) (o : Obj), Below W.heap.size W (W.alloc o) := fun W o => (Below.refl _ _).alloc (Nat.le_refl _) o
  have PK := (show Hid _ from pick_any kk 9 (by omega) (by omega))
  rw [hk] at PK
  have hWb : Below w.heap.size w (w.alloc (.cells #[.int .i64 kk, .int .u64 (U : Int), .int .i64 S, .slice pB B.length cB, .slice pT T.length cT] 80)) := al _ _
  have M := (show Hid _ from put32_any (h.below hWb) n c hn (by omega) (U % 4294967296) (by omega))
  have c0 : ((U % 4294967296 : Nat) : Int) = (U : Int) % 4294967296 := by omega
  rw [c0] at M
  have c2 : IntKind.u32.wrap (U : Int) = (U : Int) % 4294967296 := by simp [IntKind.wrap, IntKind.bits, IntKind.signed]
  clear c0
  go_enter Try.func38, Try.ntmps38
  go_wp2_with (first | (go_at_call 31; refine (PK.out _).mono ?_; rintro e2 w2 ⟨rfl, h9⟩; obtain rfl := h9.symm) | (go_at_call 50; refine M.out.mono ?_; rintro e2 w1 ⟨v1, rfl, ho1, hb1⟩))
  go_ret
  exact ⟨_, rfl, ho1.mono hWb.size, bt hWb hb1⟩
set_option maxHeartbeats 2000000 in
set_option maxRecDepth 1000000 in
theorem tput3 {w : World} {a : Option Addr} {bs : List (BitVec 8)} (h : Rd w a bs) (n c : Nat) (hn : bs.length = n) (hm : n ≤ 100000000000000) (kk : Int) (hk : kk % 9 = 3) (U : Nat) (S : Int) (B : List (BitVec 8)) (T : List (List (BitVec 8))) (pB pT : Option Addr) (cB cT : Nat) (hU : U < 18446744073709551616)  :
    Calls Try.prog 38 #[.slice a n c, .agg #[.int .i64 kk, .int .u64 (U : Int), .int .i64 S, .slice pB B.length cB, .slice pT T.length cT]] w fun e' w' => ∃ o', e' = .returned o' ∧ Ow w' w.heap.size o' (bs ++ eth ⟨3, U, S, B, T⟩) ∧ Below w.heap.size w w' := by
  have al : ∀ (W : World) (o : Obj), Below W.heap.size W (W.alloc o) := fun W o => (Below.refl _ _).alloc (Nat.le_refl _) o
  have PK := (show Hid _ from pick_any kk 9 (by omega) (by omega))
  rw [hk] at PK
  have hWb : Below w.heap.size w (w.alloc (.cells #[.int .i64 kk, .int .u64 (U : Int), .int .i64 S, .slice pB B.length cB, .slice pT T.length cT] 80)) := al _ _
  have M := (show Hid _ from put64_any (h.below hWb) n c hn (by omega) U (by omega))
  go_enter Try.func38, Try.ntmps38
  go_wp2_with (first | (go_at_call 31; refine (PK.out _).mono ?_; rintro e2 w2 ⟨rfl, h9⟩; obtain rfl := h9.symm) | (go_at_call 51; refine M.out.mono ?_; rintro e2 w1 ⟨v1, rfl, ho1, hb1⟩))
  go_ret
  exact ⟨_, rfl, ho1.mono hWb.size, bt hWb hb1⟩
set_option maxHeartbeats 2000000 in
set_option maxRecDepth 1000000 in
theorem tput4 {w : World} {a : Option Addr} {bs : List (BitVec 8)} (h : Rd w a bs) (n c : Nat) (hn : bs.length = n) (hm : n ≤ 100000000000000) (kk : Int) (hk : kk % 9 = 4) (U : Nat) (S : Int) (B : List (BitVec 8)) (T : List (List (BitVec 8))) (pB pT : Option Addr) (cB cT : Nat) (_hU : U < 18446744073709551616)  :
    Calls Try.prog 38 #[.slice a n c, .agg #[.int .i64 kk, .int .u64 (U : Int), .int .i64 S, .slice pB B.length cB, .slice pT T.length cT]] w fun e' w' => ∃ o', e' = .returned o' ∧ Ow w' w.heap.size o' (bs ++ eth ⟨4, U, S, B, T⟩) ∧ Below w.heap.size w w' := by
  have al : ∀ (W : World) (o : Obj), Below W.heap.size W (W.alloc o) := fun W o => (Below.refl _ _).alloc (Nat.le_refl _) o
  have PK := (show Hid _ from pick_any kk 9 (by omega) (by omega))
  rw [hk] at PK
  have hWb : Below w.heap.size w (w.alloc (.cells #[.int .i64 kk, .int .u64 (U : Int), .int .i64 S, .slice pB B.length cB, .slice pT T.length cT] 80)) := al _ _
  have M := (show Hid _ from putt_any (h.below hWb) n c hn (by omega) (U % 65536) (by omega))
  have c0 : ((U % 65536 : Nat) : Int) = (U : Int) % 65536 := by omega
  rw [c0] at M
  have c2 : IntKind.u16.wrap (U : Int) = (U : Int) % 65536 := by simp [IntKind.wrap, IntKind.bits, IntKind.signed]
  clear c0
  go_enter Try.func38, Try.ntmps38
  go_wp2_with (first | (go_at_call 31; refine (PK.out _).mono ?_; rintro e2 w2 ⟨rfl, h9⟩; obtain rfl := h9.symm) | (go_at_call 52; refine M.out.mono ?_; rintro e2 w1 ⟨v1, rfl, ho1, hb1⟩))
  go_ret
  exact ⟨_, rfl, ho1.mono hWb.size, bt hWb hb1⟩
set_option maxHeartbeats 2000000 in
set_option maxRecDepth 1000000 in
theorem tput5 {w : World} {a : Option Addr} {bs : List (BitVec 8)} (h : Rd w a bs) (n c : Nat) (hn : bs.length = n) (hm : n ≤ 100000000000000) (kk : Int) (hk : kk % 9 = 5) (U : Nat) (S : Int) (B : List (BitVec 8)) (T : List (List (BitVec 8))) (pB pT : Option Addr) (cB cT : Nat) (hU : U < 18446744073709551616)  :
    Calls Try.prog 38 #[.slice a n c, .agg #[.int .i64 kk, .int .u64 (U : Int), .int .i64 S, .slice pB B.length cB, .slice pT T.length cT]] w fun e' w' => ∃ o', e' = .returned o' ∧ Ow w' w.heap.size o' (bs ++ eth ⟨5, U, S, B, T⟩) ∧ Below w.heap.size w w' := by
  have al : ∀ (W : World) (o : Obj), Below W.heap.size W (W.alloc o) := fun W o => (Below.refl _ _).alloc (Nat.le_refl _) o
  have PK := (show Hid _ from pick_any kk 9 (by omega) (by omega))
  rw [hk] at PK
  have hWb : Below w.heap.size w (w.alloc (.cells #[.int .i64 kk, .int .u64 (U : Int), .int .i64 S, .slice pB B.length cB, .slice pT T.length cT] 80)) := al _ _
  have M := (show Hid _ from putU_any (h.below hWb) n c hn (by omega) U (by omega))
  go_enter Try.func38, Try.ntmps38
  go_wp2_with (first | (go_at_call 31; refine (PK.out _).mono ?_; rintro e2 w2 ⟨rfl, h9⟩; obtain rfl := h9.symm) | (go_at_call 53; refine M.out.mono ?_; rintro e2 w1 ⟨v1, rfl, ho1, hb1⟩))
  go_ret
  exact ⟨_, rfl, ho1.mono hWb.size, bt hWb hb1⟩
set_option maxHeartbeats 2000000 in
set_option maxRecDepth 1000000 in
theorem tput6 {w : World} {a : Option Addr} {bs : List (BitVec 8)} (h : Rd w a bs) (n c : Nat) (hn : bs.length = n) (hm : n ≤ 100000000000000) (kk : Int) (hk : kk % 9 = 6) (U : Nat) (S : Int) (B : List (BitVec 8)) (T : List (List (BitVec 8))) (pB pT : Option Addr) (cB cT : Nat) (hS : -9223372036854775808 ≤ S ∧ S ≤ 9223372036854775807)  :
    Calls Try.prog 38 #[.slice a n c, .agg #[.int .i64 kk, .int .u64 (U : Int), .int .i64 S, .slice pB B.length cB, .slice pT T.length cT]] w fun e' w' => ∃ o', e' = .returned o' ∧ Ow w' w.heap.size o' (bs ++ eth ⟨6, U, S, B, T⟩) ∧ Below w.heap.size w w' := by
  have al : ∀ (W : World) (o : Obj), Below W.heap.size W (W.alloc o) := fun W o => (Below.refl _ _).alloc (Nat.le_refl _) o
  have PK := (show Hid _ from pick_any kk 9 (by omega) (by omega))
  rw [hk] at PK
  have hWb : Below w.heap.size w (w.alloc (.cells #[.int .i64 kk, .int .u64 (U : Int), .int .i64 S, .slice pB B.length cB, .slice pT T.length cT] 80)) := al _ _
  have M := (show Hid _ from putV_any (h.below hWb) n c hn (by omega) S hS)
  go_enter Try.func38, Try.ntmps38
  go_wp2_with (first | (go_at_call 31; refine (PK.out _).mono ?_; rintro e2 w2 ⟨rfl, h9⟩; obtain rfl := h9.symm) | (go_at_call 54; refine M.out.mono ?_; rintro e2 w1 ⟨v1, rfl, ho1, hb1⟩))
  go_ret
  exact ⟨_, rfl, ho1.mono hWb.size, bt hWb hb1⟩
set_option maxHeartbeats 2000000 in
set_option maxRecDepth 1000000 in
theorem tput7 {w : World} {a : Option Addr} {bs : List (BitVec 8)} (h : Rd w a bs) (n c : Nat) (hn : bs.length = n) (hm : n ≤ 100000000000000) (kk : Int) (hk : kk % 9 = 7) (U : Nat) (S : Int) (B : List (BitVec 8)) (T : List (List (BitVec 8))) (pB pT : Option Addr) (cB cT : Nat)  (hB : Rd w pB B) (hlB : B.length ≤ 1048576) :
    Calls Try.prog 38 #[.slice a n c, .agg #[.int .i64 kk, .int .u64 (U : Int), .int .i64 S, .slice pB B.length cB, .slice pT T.length cT]] w fun e' w' => ∃ o', e' = .returned o' ∧ Ow w' w.heap.size o' (bs ++ eth ⟨7, U, S, B, T⟩) ∧ Below w.heap.size w w' := by
  have al : ∀ (W : World) (o : Obj), Below W.heap.size W (W.alloc o) := fun W o => (Below.refl _ _).alloc (Nat.le_refl _) o
  have PK := (show Hid _ from pick_any kk 9 (by omega) (by omega))
  rw [hk] at PK
  have hWb : Below w.heap.size w (w.alloc (.cells #[.int .i64 kk, .int .u64 (U : Int), .int .i64 S, .slice pB B.length cB, .slice pT T.length cT] 80)) := al _ _
  have M := (show Hid _ from putB2 (h.below hWb) (hB.below hWb) n c B.length cB hn rfl (by omega))
  go_enter Try.func38, Try.ntmps38
  go_wp2_with (first | (go_at_call 31; refine (PK.out _).mono ?_; rintro e2 w2 ⟨rfl, h9⟩; obtain rfl := h9.symm) | (go_at_call 55; refine M.out.mono ?_; rintro e2 w1 ⟨v1, rfl, ho1, hb1⟩))
  go_ret
  exact ⟨_, rfl, ho1.mono hWb.size, bt hWb hb1⟩
set_option maxHeartbeats 2000000 in
set_option maxRecDepth 1000000 in
theorem tput8 {w : World} {a : Option Addr} {bs : List (BitVec 8)} (h : Rd w a bs) (n c : Nat) (hn : bs.length = n) (hm : n ≤ 100000000000000) (kk : Int) (hk : kk % 9 = 8) (U : Nat) (S : Int) (B : List (BitVec 8)) (T : List (List (BitVec 8))) (pB pT : Option Addr) (cB cT : Nat)  (hT : Rs' w pT T) (hlT : tz T ≤ 40000000000000) :
    Calls Try.prog 38 #[.slice a n c, .agg #[.int .i64 kk, .int .u64 (U : Int), .int .i64 S, .slice pB B.length cB, .slice pT T.length cT]] w fun e' w' => ∃ o', e' = .returned o' ∧ Ow w' w.heap.size o' (bs ++ eth ⟨8, U, S, B, T⟩) ∧ Below w.heap.size w w' := by
  have al : ∀ (W : World) (o : Obj), Below W.heap.size W (W.alloc o) := fun W o => (Below.refl _ _).alloc (Nat.le_refl _) o
  have PK := (show Hid _ from pick_any kk 9 (by omega) (by omega))
  rw [hk] at PK
  have hWb : Below w.heap.size w (w.alloc (.cells #[.int .i64 kk, .int .u64 (U : Int), .int .i64 S, .slice pB B.length cB, .slice pT T.length cT] 80)) := al _ _
  have M := (show Hid _ from putT_any (h.below hWb) (hT.below hWb) n c T.length cT hn rfl (by omega))
  go_enter Try.func38, Try.ntmps38
  go_wp2_with (first | (go_at_call 31; refine (PK.out _).mono ?_; rintro e2 w2 ⟨rfl, h9⟩; obtain rfl := h9.symm) | (go_at_call 56; refine M.out.mono ?_; rintro e2 w1 ⟨v1, rfl, ho1, hb1⟩))
  go_ret
  exact ⟨_, rfl, ho1.mono hWb.size, bt hWb hb1⟩
end
end Go.Proofs.Ytmcbeikgdcgdcaa
