/-
  The laws' 'again', some of its calls.
-/
import Derived.Test.YtmcbeikgdcgdcaaEn7
import Derived.Test.YtmcbeikgdcgdcaaKq7
namespace Go.Proofs.Ytmcbeikgdcgdcaa
open Go.RowKit
section
attribute [local irreducible] Calls el sb lb
set_option maxHeartbeats 2000000 in
set_option maxRecDepth 1000000 in
theorem again6 {w : World} {a : Option Addr} {bs : List (BitVec 8)} (h : Rd w a bs) (n c : Nat) (hn : bs.length = n) (hm : n ≤ 1048576) (q kk x e : Int) (hk : kk % 10 = 6) (U : Int) (B : List (BitVec 8)) (T : List (List (BitVec 8))) (pB pT : Option Addr) (cB cT : Nat) (hU : 0 ≤ U ∧ U < 18446744073709551616)  :
    Calls Try.prog 43 #[.slice a n c, .agg #[.int .i64 q, .int .i64 kk, .int .i64 x, .int .i64 e], .agg #[.int .u64 U, .slice pB B.length cB, .slice pT T.length cT]] w fun e' w' => ∃ o', e' = .returned o' ∧ Ow w' w.heap.size o' (bs ++ enc 6 ⟨U, B, T⟩) ∧ Below w.heap.size w w' := by
  have PK := (show Hid _ from pick_any kk 10 (by omega) (by omega))
  rw [hk] at PK
  obtain ⟨W, hWd⟩ : ∃ W, W = (w.alloc (.cells #[.int .i64 q, .int .i64 kk, .int .i64 x, .int .i64 e] 65)).alloc (.cells #[.int .u64 U, .slice pB B.length cB, .slice pT T.length cT] 67) := ⟨_, rfl⟩
  obtain ⟨hWb, hWq, hWg, hWs⟩ := two_new w _ _ W hWd
  have c1 := si_wrap U hU
  have M := (show Hid _ from putV_any (h.below hWb) n c hn (by omega) (si U) (si_range U hU))
  go_enter Try.func43, Try.ntmps43
  go_wp2_with (first | (go_at_call 31; refine (PK.out _).mono ?_; rintro e2 w2 ⟨rfl, h9⟩; obtain rfl := h9.symm) | (go_at_call 54; rw [← hWd]; refine M.out.mono ?_; rintro e2 w1 ⟨v1, rfl, ho1, hb1⟩))
  go_ret
  exact ⟨_, rfl, ho1.mono hWb.size, bt hWb hb1⟩
set_option maxHeartbeats 2000000 in
set_option maxRecDepth 1000000 in
theorem again8 {w : World} {a : Option Addr} {bs : List (BitVec 8)} (h : Rd w a bs) (n c : Nat) (hn : bs.length = n) (hm : n ≤ 1048576) (q kk x e : Int) (hk : kk % 10 = 8) (U : Int) (B : List (BitVec 8)) (T : List (List (BitVec 8))) (pB pT : Option Addr) (cB cT : Nat)  (hB : Rd w pB B) (hbB : ∀ b, pB = some b → b.block < w.heap.size) (hlB : B.length ≤ 1048576) :
    Calls Try.prog 43 #[.slice a n c, .agg #[.int .i64 q, .int .i64 kk, .int .i64 x, .int .i64 e], .agg #[.int .u64 U, .slice pB B.length cB, .slice pT T.length cT]] w fun e' w' => ∃ o', e' = .returned o' ∧ Ow w' w.heap.size o' (bs ++ enc 8 ⟨U, B, T⟩) ∧ Below w.heap.size w w' := by
  have PK := (show Hid _ from pick_any kk 10 (by omega) (by omega))
  rw [hk] at PK
  obtain ⟨W, hWd⟩ : ∃ W, W = (w.alloc (.cells #[.int .i64 q, .int .i64 kk, .int .i64 x, .int .i64 e] 65)).alloc (.cells #[.int .u64 U, .slice pB B.length cB, .slice pT T.length cT] 67) := ⟨_, rfl⟩
  obtain ⟨hWb, hWq, hWg, hWs⟩ := two_new w _ _ W hWd
  have M := (show Hid _ from putB_any (h.below hWb) (hB.below hWb) (fun b hb => Nat.lt_of_lt_of_le (hbB b hb) hWb.size) n c B.length cB hn rfl (by omega))
  go_enter Try.func43, Try.ntmps43
  go_wp2_with (first | (go_at_call 31; refine (PK.out _).mono ?_; rintro e2 w2 ⟨rfl, h9⟩; obtain rfl := h9.symm) | (go_at_call 55; rw [← hWd]; refine M.out.mono ?_; rintro e2 w1 ⟨v1, rfl, ho1, hb1⟩))
  go_ret
  exact ⟨_, rfl, ho1.mono hWb.size, bt hWb hb1⟩
set_option maxHeartbeats 2000000 in
set_option maxRecDepth 1000000 in
theorem again9 {w : World} {a : Option Addr} {bs : List (BitVec 8)} (h : Rd w a bs) (n c : Nat) (hn : bs.length = n) (hm : n ≤ 1048576) (q kk x e : Int) (hk : kk % 10 = 9) (U : Int) (B : List (BitVec 8)) (T : List (List (BitVec 8))) (pB pT : Option Addr) (cB cT : Nat)  (hT : Rs' w pT T) (hlT : tz T ≤ 140737480000000) :
    Calls Try.prog 43 #[.slice a n c, .agg #[.int .i64 q, .int .i64 kk, .int .i64 x, .int .i64 e], .agg #[.int .u64 U, .slice pB B.length cB, .slice pT T.length cT]] w fun e' w' => ∃ o', e' = .returned o' ∧ Ow w' w.heap.size o' (bs ++ enc 9 ⟨U, B, T⟩) ∧ Below w.heap.size w w' := by
  have PK := (show Hid _ from pick_any kk 10 (by omega) (by omega))
  rw [hk] at PK
  obtain ⟨W, hWd⟩ : ∃ W, W = (w.alloc (.cells #[.int .i64 q, .int .i64 kk, .int .i64 x, .int .i64 e] 65)).alloc (.cells #[.int .u64 U, .slice pB B.length cB, .slice pT T.length cT] 67) := ⟨_, rfl⟩
  obtain ⟨hWb, hWq, hWg, hWs⟩ := two_new w _ _ W hWd
  have M := (show Hid _ from putT_any (h.below hWb) (hT.below hWb) n c T.length cT hn rfl (by omega))
  go_enter Try.func43, Try.ntmps43
  go_wp2_with (first | (go_at_call 31; refine (PK.out _).mono ?_; rintro e2 w2 ⟨rfl, h9⟩; obtain rfl := h9.symm) | (go_at_call 56; rw [← hWd]; refine M.out.mono ?_; rintro e2 w1 ⟨v1, rfl, ho1, hb1⟩))
  go_ret
  exact ⟨_, rfl, ho1.mono hWb.size, bt hWb hb1⟩
set_option maxHeartbeats 2000000 in
set_option maxRecDepth 1000000 in
theorem again7 {w : World} {a : Option Addr} {bs : List (BitVec 8)} (h : Rd w a bs) (n c : Nat) (hn : bs.length = n) (hm : n ≤ 1048576) (q kk x e : Int) (hk : kk % 10 = 7) (U : Int) (B : List (BitVec 8)) (T : List (List (BitVec 8))) (pB pT : Option Addr) (cB cT : Nat)  (hB : Rd w pB B) (hlB : B.length ≤ 1048576) :
    Calls Try.prog 43 #[.slice a n c, .agg #[.int .i64 q, .int .i64 kk, .int .i64 x, .int .i64 e], .agg #[.int .u64 U, .slice pB B.length cB, .slice pT T.length cT]] w fun e' w' => ∃ o', e' = .returned o' ∧ Ow w' w.heap.size o' (bs ++ enc 7 ⟨U, B, T⟩) ∧ Below w.heap.size w w' := by
  have PK := (show Hid _ from pick_any kk 10 (by omega) (by omega))
  rw [hk] at PK
  obtain ⟨W, hWd⟩ : ∃ W, W = (w.alloc (.cells #[.int .i64 q, .int .i64 kk, .int .i64 x, .int .i64 e] 65)).alloc (.cells #[.int .u64 U, .slice pB B.length cB, .slice pT T.length cT] 67) := ⟨_, rfl⟩
  obtain ⟨hWb, hWq, hWg, hWs⟩ := two_new w _ _ W hWd
  have k1 := cell_of_row W (w.heap.size + 1) 1 _ _ (0, 0) hWg
  go_enter Try.func43, Try.ntmps43
  go_wp2_with (first | (go_at_call 31; refine (PK.out _).mono ?_; rintro e2 w2 ⟨rfl, h9⟩; obtain rfl := h9.symm))
  rw [← hWd]
  clear hWd
  have rB := hB.below hWb
  have rA := h.below hWb
  have dB : ∀ (W1 : World) (d : Nat), Rd W1 pB B → Rd (W1.drewN d) pB B := fun _ _ h => h
  have m1 : n ≤ 140737488355328 := by omega
  have m2 : bs.length + B.length ≤ 140737488355328 := by omega
  have rAq : ∀ X : World, X.heap = W.heap → Rd X a bs := fun X e => by
    rcases rA with h | ⟨b, of, ha, hc⟩
    · exact .inl h
    · exact .inr ⟨b, of, ha, fun i hi => by rw [← hc i hi]; exact World.cell?_of_block (a := ⟨b, of + i, none⟩) (by rw [e])⟩
  have hbq : ∀ X w1, (X = W.drew ∨ X = W.drew.drew) → Below X.heap.size X w1 → Below W.heap.size W w1 ∧ W.heap.size ≤ X.heap.size := by
    rintro X w1 (rfl | rfl) hb
    · exact ⟨(Below.refl _ _).drew.trans hb, Nat.le_refl _⟩
    · exact ⟨(Below.refl _ _).drew.drew.trans hb, Nat.le_refl _⟩
  have rBq : ∀ (w1 X : World), Below W.heap.size W w1 → X.heap = w1.heap → Rd X pB B := fun w1 X hb e => by
    rcases rB.below hb with h | ⟨b, of, ha, hc⟩
    · exact .inl h
    · exact .inr ⟨b, of, ha, fun i hi => by rw [← hc i hi]; exact World.cell?_of_block (a := ⟨b, of + i, none⟩) (by rw [e])⟩
  have owq : ∀ (w1 X : World) v, Ow w1 W.heap.size v bs → X.heap = w1.heap → Ow X W.heap.size v bs := fun w1 X v ho e => by
    refine ⟨ho.1, ?_⟩
    rcases ho.2 with h1 | ⟨g, cap, cc, hv, hg, hh, hc⟩
    · exact .inl h1
    · exact .inr ⟨g, cap, cc, hv, hg, by rw [e]; exact hh, hc⟩
  go_region_law (first
    | (refine step_cl rfl _ _ rfl rfl a n c bs rfl (rAq _ rfl) hn m1 ?_; intro v1 w1 ho1 hb1; obtain ⟨hbw, hsz⟩ := hbq _ _ (by first | exact .inl rfl | exact .inr rfl) hb1; have k2 := cell_below k1 hbw; replace ho1 := ho1.mono hsz)
    | (refine step_apa rfl _ _ rfl W.heap.size v1 bs rfl (owq w1 _ _ ho1 rfl) pB B.length cB B rfl (rBq w1 _ hbw rfl) rfl m2 hbw.size ?_; intro v2 w2 ho2 hg2))
  all_goals
    go_wp2
    go_ret
    exact ⟨_, rfl, ho2.mono hWb.size, ho1.below_append (hWb.trans (hbw.mono hWb.size)) (Nat.le_trans hWb.size hbw.size) hg2 hWb.size⟩
end
end Go.Proofs.Ytmcbeikgdcgdcaa
