/-
  The walk of FieldPowers.
-/
import Derived.Test.YtgienaikcpcpeaaDoorOrdb
namespace Go.Proofs.YtgienaikcpcpeaaDoor
open Go.RowKit

theorem log_zero' {a : BitVec 8} (h : Hid (a = 0#8)) (w : World) :
    Calls Tryd.prog 5 #[.int .u8 (el a)] w fun e w' => e = .returned (.tuple #[.int .i64 0, .int .i64 10]) ∧ Below w.heap.size w w' := by
  rw [h.out]; exact log_zero w

attribute [local irreducible] el gm inv gpow Calls pwM lg ordL OrdAt

set_option maxHeartbeats 1000000 in
theorem powers_nz (a : BitVec 8) (n : Int) (ha : a ≠ 0#8) (w : World) (hO : Hid (OrdAt w)) :
    Calls Tryd.prog 3 #[.int .u8 (el a), .int .i64 n] w fun e w' => e = .returned (.bool true) ∧ Below w.heap.size w w' := by
  have hw := el_w64
  go_enter Tryd.func3, Tryd.ntmps3
  go_wp2_with (first | (go_at_call 5; refine (log_any _ ha _).mono ?_; rintro e w1 ⟨rfl, hb1⟩; have hO1 : Hid (OrdAt w1) := OrdAt.below hO.out hb1) | (go_at_call 6; refine (refLog_any _ ha _).mono ?_; rintro e w' ⟨rfl, rfl⟩) | (go_at_call 7; refine (order_any _ ha _ hO1).mono ?_; rintro e w2 ⟨rfl, hb2⟩) | (go_at_call 8; refine (refOrder_any _ ha _).mono ?_; rintro e w' ⟨rfl, rfl⟩) | (go_at_call 9; refine (exp_any _ _).mono ?_; rintro e w3 ⟨rfl, hb3⟩) | (go_at_call 10; refine (refExp_any _ _).mono ?_; rintro e w' ⟨rfl, rfl⟩) | (go_at_call 11; refine (pow_any _ _ _).mono ?_; rintro e w4 ⟨rfl, hb4⟩) | (go_at_call 12; refine (refPow_any _ _ _).mono ?_; rintro e w' ⟨rfl, rfl⟩))
  go_ret
  exact ⟨rfl, bt (bt (bt hb1 hb2) hb3) hb4⟩
set_option maxHeartbeats 1000000 in
theorem powers_z (a : BitVec 8) (n : Int) (ha : Hid (a = 0#8)) (w : World) (hO : Hid (OrdAt w)) :
    Calls Tryd.prog 3 #[.int .u8 (el a), .int .i64 n] w fun e w' => e = .returned (.bool true) ∧ Below w.heap.size w w' := by
  have hw := el_w64
  go_enter Tryd.func3, Tryd.ntmps3
  go_wp2_with (first | (go_at_call 5; refine (log_zero' ha _).mono ?_; rintro e w1 ⟨rfl, hb1⟩; have hO1 : Hid (OrdAt w1) := OrdAt.below hO.out hb1) | (go_at_call 6; refine (refLog_zero _ ha _).mono ?_; rintro e w' ⟨rfl, rfl⟩) | (go_at_call 7; refine (order_zero _ ha _ hO1).mono ?_; rintro e w2 ⟨rfl, hb2⟩) | (go_at_call 8; refine (refOrder_zero _ ha _).mono ?_; rintro e w' ⟨rfl, rfl⟩) | (go_at_call 9; refine (exp_any _ _).mono ?_; rintro e w3 ⟨rfl, hb3⟩) | (go_at_call 10; refine (refExp_any _ _).mono ?_; rintro e w' ⟨rfl, rfl⟩) | (go_at_call 11; refine (pow_any _ _ _).mono ?_; rintro e w4 ⟨rfl, hb4⟩) | (go_at_call 12; refine (refPow_any _ _ _).mono ?_; rintro e w' ⟨rfl, rfl⟩))
  go_ret
  exact ⟨rfl, bt (bt (bt hb1 hb2) hb3) hb4⟩
theorem powers_walk (a : BitVec 8) (n : Int) (w : World) (hO : Hid (OrdAt w)) :
    Calls Tryd.prog 3 #[.int .u8 (el a), .int .i64 n] w fun e w' => e = .returned (.bool true) ∧ Below w.heap.size w w' := by
  by_cases ha : a = 0#8
  · exact powers_z a n ha w hO
  · exact powers_nz a n ha w hO
end Go.Proofs.YtgienaikcpcpeaaDoor
