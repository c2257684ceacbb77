/-
  LabelNumbers: the walk.
-/
import Derived.Test.YtlhacjenpginbaaMk15
namespace Go.Proofs.Ytlhacjenpginbaa
open Go.RowKit Go.Maps
theorem eql_lb0 (w : World) : (binOp .eql 26 (.agg #[.int .u8 0, .int .u8 0, .int .u8 0, .int .u8 0, .int .u8 0, .int .u8 0, .int .u8 0, .int .u8 0, .int .i64 0, .int .i64 0, .int .i64 0, .int .i64 0, .int .i64 0]) (.agg #[.int .u8 0, .int .u8 0, .int .u8 0, .int .u8 0, .int .u8 0, .int .u8 0, .int .u8 0, .int .u8 0, .int .i64 0, .int .i64 0, .int .i64 0, .int .i64 0, .int .i64 0])).run Try.prog w = .ok (.bool true) w := by
  have h := eql_lbl lb0 lb0 w
  rw [(lq_iff _ _).2 rfl] at h
  exact h
theorem lwrite_none0 (w : World) : Calls Try.prog 8 #[.nilIface, .agg #[.int .u8 0, .int .u8 0, .int .u8 0, .int .u8 0, .int .u8 0, .int .u8 0, .int .u8 0, .int .u8 0, .int .i64 0, .int .i64 0, .int .i64 0, .int .i64 0, .int .i64 0]] w fun e w' => e = .returned (.int .i64 1) ∧ Below w.heap.size w w' := lwrite_none lb0 w
section
attribute [local irreducible] Calls el Lbl.cs cmo rg smL ar8
set_option maxHeartbeats 8000000 in
set_option maxRecDepth 1000000 in
theorem labelNumbers_walk (w : World) : Calls Try.prog 3 #[] w fun e w' => e = .returned (.bool true) ∧ Below w.heap.size w w' := by
  have SA := (show Hid _ from fun w => sample_any w)
  have KN := (show Hid _ from fun w => known_any w)
  have RN := (show Hid _ from fun w => lread_none w)
  have WN := (show Hid _ from fun w => lwrite_none smp w)
  have W0 := (show Hid _ from fun w => lwrite_none0 w)
  have Q0 := eql_lb0
  go_enter Try.func3, Try.ntmps3
  go_wp2_with (first
    | (go_at_call 7; refine (RN.out _).mono ?_; rintro e w1 ⟨rfl, hbw⟩)
    | (refine wpList_alLb rfl rfl ?_; intro w2 ZN hbN hs; clear hs)
    | (refine wpList_storeLb rfl _ _ rfl rfl w1.heap.size rfl rfl ZN ?_; intro w3 Z3 hT3; have hb3 := hT3.2.1 _ _ hbN (Nat.le_refl _); replace hbw := bt hbw hb3; clear ZN; obtain ⟨z0, z1, z2, z3, z4, z5, z6, z7, z8, z9, z10, z11, z12⟩ := lb0_cells Z3)
    | (go_at_call 9; refine (SA.out _).mono ?_; rintro e v4 ⟨rfl, hb⟩; replace hbw := bt hbw hb)
    | (go_at_call 8; first | (refine (WN.out _).mono ?_; rintro e v5 ⟨rfl, hb⟩; replace hbw := bt hbw hb) | (refine (W0.out _).mono ?_; rintro e v5 ⟨rfl, hb⟩; replace hbw := bt hbw hb))
    | (go_at_call 10; refine (KN.out _).mono ?_; rintro e v6 ⟨rfl, hb⟩; replace hbw := bt hbw hb))
  go_ret
  exact ⟨rfl, hbw⟩
end
end Go.Proofs.Ytlhacjenpginbaa
