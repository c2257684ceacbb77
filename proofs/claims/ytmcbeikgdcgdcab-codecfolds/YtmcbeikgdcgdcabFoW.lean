/-
  CodecFolds: the walk.
-/
import Derived.Test.YtmcbeikgdcgdcabZf
import Derived.Test.YtmcbeikgdcgdcabAw7
namespace Go.Proofs.Ytmcbeikgdcgdcab
open Go.RowKit
theorem ug_range (u : Int) (h : 0 ≤ u ∧ u < 18446744073709551616) : -9223372036854775808 ≤ ug u ∧ ug u ≤ 9223372036854775807 := by
  unfold ug
  by_cases e : u % 2 = 0
  · rw [if_pos e]; omega
  · rw [if_neg e]; omega
theorem ug_small (u : Int) (h : 0 ≤ u ∧ u < 256) : -128 ≤ ug u ∧ ug u ≤ 127 := by
  unfold ug
  by_cases e : u % 2 = 0
  · rw [if_pos e]; omega
  · rw [if_neg e]; omega
theorem wrap_id (x : Int) (h : -9223372036854775808 ≤ x ∧ x ≤ 9223372036854775807) : wrap64 x = x := by unfold wrap64; omega
section
attribute [local irreducible] Calls zg ug zu
set_option maxRecDepth 1000000 in
theorem unzig_any (v : Int) (h : -128 ≤ v ∧ v ≤ 127) (w : World) : Calls Try.prog 12 #[.int .u64 (zg v)] w fun e w' => e = .returned (.int .i64 v) ∧ w' = w := by
  have h0 := zg_nn v
  have h1 := zg_lt v 128 (by omega)
  have A := (show Hid _ from zag_i8 (zg v) ⟨h0, by omega⟩ w)
  rw [zu_pos (by omega), ug_zg] at A
  have e1 := wrap_id v (by omega)
  clear h0 h1
  go_enter Try.func12, Try.ntmps12
  go_wp2_with (go_at_call 10; refine A.out.mono ?_; rintro e w1 ⟨rfl, h⟩; obtain rfl := h.symm)
  go_ret
  exact ⟨rfl, rfl⟩
set_option maxHeartbeats 2000000 in
set_option maxRecDepth 1000000 in
theorem folds_0000 (v x u : Int) (hv : -9223372036854775808 ≤ v ∧ v ≤ 9223372036854775807) (hx : -9223372036854775808 ≤ x ∧ x ≤ 9223372036854775807) (hu : 0 ≤ u ∧ u < 18446744073709551616) (w : World) (hv0 : 0 ≤ v) (hx0 : 0 ≤ x) (hc : ¬ v < x) (hu0 : ¬ u < 256) :
    Calls Try.prog 4 #[.int .i64 v, .int .i64 x, .int .u64 u] w fun e w' => e = .returned (.bool true) ∧ Below w.heap.size w w' := by
  have r8 : -128 ≤ IntKind.i8.wrap v ∧ IntKind.i8.wrap v ≤ 127 := by rw [wrap_i8]; omega
  have c8 : wrap64 (IntKind.i8.wrap v) = IntKind.i8.wrap v := wrap_id _ (by omega)
  have Z1 := (show Hid _ from zig_i64 v hv)
  have Z2 := (show Hid _ from zig_i64 x hx)
  have Z3 := (show Hid _ from zig_i64 (ug u) (ug_range u hu))
  have hzv : 0 ≤ zg v ∧ zg v < 18446744073709551616 := ⟨zg_nn v, by have := zg_lt v 9223372036854775808 (by omega); omega⟩
  have G1 := (show Hid _ from zag_i64 (zg v) hzv)
  have G2 := (show Hid _ from zag_i64 u hu)
  have G3 := (show Hid _ from zag_i8 u hu)
  have Z4 := (show Hid _ from zig_i8 _ r8)
  have U1 := (show Hid _ from unzig_any _ r8)
  have e1 := ug_zg v
  have e2 := zg_ug u hu.1
  have e3 : zu u 256 = 0 := zu_neg hu0
  have Z5 := (show Hid True from trivial)
  have n1v : ¬ v < wrap64 (-wrap64 (v + 1)) := by unfold wrap64; omega
  have n2v : wrap64 (-wrap64 (v + 1)) ≤ v := by unfold wrap64; omega
  have n3v : ¬ v < -(v + 1) := by omega
  have n4v : -(v + 1) ≤ v := by omega
  have n5v : wrap64 (-wrap64 (v + 1)) < v := by unfold wrap64; omega
  have n6v : -(v + 1) < v := by omega
  have n1x : ¬ x < wrap64 (-wrap64 (x + 1)) := by unfold wrap64; omega
  have n2x : wrap64 (-wrap64 (x + 1)) ≤ x := by unfold wrap64; omega
  have n3x : ¬ x < -(x + 1) := by omega
  have n4x : -(x + 1) ≤ x := by omega
  have n5x : wrap64 (-wrap64 (x + 1)) < x := by unfold wrap64; omega
  have n6x : -(x + 1) < x := by omega

  go_enter Try.func4, Try.ntmps4
  go_wp2_with (first
    | (go_at_call 7; (first | refine (Z1.out _).mono ?_ | refine (Z2.out _).mono ?_ | refine (Z3.out _).mono ?_); rintro e w1 ⟨rfl, h⟩; obtain rfl := h.symm)
    | (go_at_call 8; (first | refine (G1.out _).mono ?_ | refine (G2.out _).mono ?_); rintro e w1 ⟨rfl, h⟩; obtain rfl := h.symm)
    | (go_at_call 9; refine (awake_any _).mono ?_; rintro e wA ⟨rfl, hbA⟩)
    | (go_at_call 10; refine (G3.out _).mono ?_; rintro e w1 ⟨rfl, h⟩; obtain rfl := h.symm)
    | (go_at_call 11; (first | refine (Z4.out _).mono ?_ | refine (Z5.out _).mono ?_); rintro e w1 ⟨rfl, h⟩; obtain rfl := h.symm)
    | (go_at_call 12; refine (U1.out _).mono ?_; rintro e w1 ⟨rfl, h⟩; obtain rfl := h.symm))
  go_ret
  exact ⟨rfl, hbA⟩
set_option maxHeartbeats 2000000 in
set_option maxRecDepth 1000000 in
theorem folds_0001 (v x u : Int) (hv : -9223372036854775808 ≤ v ∧ v ≤ 9223372036854775807) (hx : -9223372036854775808 ≤ x ∧ x ≤ 9223372036854775807) (hu : 0 ≤ u ∧ u < 18446744073709551616) (w : World) (hv0 : 0 ≤ v) (hx0 : 0 ≤ x) (hc : ¬ v < x) (hu0 : u < 256) :
    Calls Try.prog 4 #[.int .i64 v, .int .i64 x, .int .u64 u] w fun e w' => e = .returned (.bool true) ∧ Below w.heap.size w w' := by
  have r8 : -128 ≤ IntKind.i8.wrap v ∧ IntKind.i8.wrap v ≤ 127 := by rw [wrap_i8]; omega
  have c8 : wrap64 (IntKind.i8.wrap v) = IntKind.i8.wrap v := wrap_id _ (by omega)
  have Z1 := (show Hid _ from zig_i64 v hv)
  have Z2 := (show Hid _ from zig_i64 x hx)
  have Z3 := (show Hid _ from zig_i64 (ug u) (ug_range u hu))
  have hzv : 0 ≤ zg v ∧ zg v < 18446744073709551616 := ⟨zg_nn v, by have := zg_lt v 9223372036854775808 (by omega); omega⟩
  have G1 := (show Hid _ from zag_i64 (zg v) hzv)
  have G2 := (show Hid _ from zag_i64 u hu)
  have G3 := (show Hid _ from zag_i8 u hu)
  have Z4 := (show Hid _ from zig_i8 _ r8)
  have U1 := (show Hid _ from unzig_any _ r8)
  have e1 := ug_zg v
  have e2 := zg_ug u hu.1
  have Z5 := (show Hid _ from zig_i8 _ (ug_small u ⟨hu.1, hu0⟩))
  have e3 : zu u 256 = ug u := zu_pos hu0
  have n1v : ¬ v < wrap64 (-wrap64 (v + 1)) := by unfold wrap64; omega
  have n2v : wrap64 (-wrap64 (v + 1)) ≤ v := by unfold wrap64; omega
  have n3v : ¬ v < -(v + 1) := by omega
  have n4v : -(v + 1) ≤ v := by omega
  have n5v : wrap64 (-wrap64 (v + 1)) < v := by unfold wrap64; omega
  have n6v : -(v + 1) < v := by omega
  have n1x : ¬ x < wrap64 (-wrap64 (x + 1)) := by unfold wrap64; omega
  have n2x : wrap64 (-wrap64 (x + 1)) ≤ x := by unfold wrap64; omega
  have n3x : ¬ x < -(x + 1) := by omega
  have n4x : -(x + 1) ≤ x := by omega
  have n5x : wrap64 (-wrap64 (x + 1)) < x := by unfold wrap64; omega
  have n6x : -(x + 1) < x := by omega

  go_enter Try.func4, Try.ntmps4
  go_wp2_with (first
    | (go_at_call 7; (first | refine (Z1.out _).mono ?_ | refine (Z2.out _).mono ?_ | refine (Z3.out _).mono ?_); rintro e w1 ⟨rfl, h⟩; obtain rfl := h.symm)
    | (go_at_call 8; (first | refine (G1.out _).mono ?_ | refine (G2.out _).mono ?_); rintro e w1 ⟨rfl, h⟩; obtain rfl := h.symm)
    | (go_at_call 9; refine (awake_any _).mono ?_; rintro e wA ⟨rfl, hbA⟩)
    | (go_at_call 10; refine (G3.out _).mono ?_; rintro e w1 ⟨rfl, h⟩; obtain rfl := h.symm)
    | (go_at_call 11; (first | refine (Z4.out _).mono ?_ | refine (Z5.out _).mono ?_); rintro e w1 ⟨rfl, h⟩; obtain rfl := h.symm)
    | (go_at_call 12; refine (U1.out _).mono ?_; rintro e w1 ⟨rfl, h⟩; obtain rfl := h.symm))
  go_ret
  exact ⟨rfl, hbA⟩
set_option maxHeartbeats 2000000 in
set_option maxRecDepth 1000000 in
theorem folds_0010 (v x u : Int) (hv : -9223372036854775808 ≤ v ∧ v ≤ 9223372036854775807) (hx : -9223372036854775808 ≤ x ∧ x ≤ 9223372036854775807) (hu : 0 ≤ u ∧ u < 18446744073709551616) (w : World) (hv0 : 0 ≤ v) (hx0 : 0 ≤ x) (hc : v < x) (hu0 : ¬ u < 256) :
    Calls Try.prog 4 #[.int .i64 v, .int .i64 x, .int .u64 u] w fun e w' => e = .returned (.bool true) ∧ Below w.heap.size w w' := by
  have r8 : -128 ≤ IntKind.i8.wrap v ∧ IntKind.i8.wrap v ≤ 127 := by rw [wrap_i8]; omega
  have c8 : wrap64 (IntKind.i8.wrap v) = IntKind.i8.wrap v := wrap_id _ (by omega)
  have Z1 := (show Hid _ from zig_i64 v hv)
  have Z2 := (show Hid _ from zig_i64 x hx)
  have Z3 := (show Hid _ from zig_i64 (ug u) (ug_range u hu))
  have hzv : 0 ≤ zg v ∧ zg v < 18446744073709551616 := ⟨zg_nn v, by have := zg_lt v 9223372036854775808 (by omega); omega⟩
  have G1 := (show Hid _ from zag_i64 (zg v) hzv)
  have G2 := (show Hid _ from zag_i64 u hu)
  have G3 := (show Hid _ from zag_i8 u hu)
  have Z4 := (show Hid _ from zig_i8 _ r8)
  have U1 := (show Hid _ from unzig_any _ r8)
  have e1 := ug_zg v
  have e2 := zg_ug u hu.1
  have e3 : zu u 256 = 0 := zu_neg hu0
  have Z5 := (show Hid True from trivial)
  have e4 : ¬ zg x ≤ zg v := by
    have a1 : zg v = 2 * v := zg_pos (by omega)
    have a2 : zg x = 2 * x := zg_pos (by omega)
    rw [a1, a2]
    omega
  have n1v : ¬ v < wrap64 (-wrap64 (v + 1)) := by unfold wrap64; omega
  have n2v : wrap64 (-wrap64 (v + 1)) ≤ v := by unfold wrap64; omega
  have n3v : ¬ v < -(v + 1) := by omega
  have n4v : -(v + 1) ≤ v := by omega
  have n5v : wrap64 (-wrap64 (v + 1)) < v := by unfold wrap64; omega
  have n6v : -(v + 1) < v := by omega
  have n1x : ¬ x < wrap64 (-wrap64 (x + 1)) := by unfold wrap64; omega
  have n2x : wrap64 (-wrap64 (x + 1)) ≤ x := by unfold wrap64; omega
  have n3x : ¬ x < -(x + 1) := by omega
  have n4x : -(x + 1) ≤ x := by omega
  have n5x : wrap64 (-wrap64 (x + 1)) < x := by unfold wrap64; omega
  have n6x : -(x + 1) < x := by omega

  go_enter Try.func4, Try.ntmps4
  go_wp2_with (first
    | (go_at_call 7; (first | refine (Z1.out _).mono ?_ | refine (Z2.out _).mono ?_ | refine (Z3.out _).mono ?_); rintro e w1 ⟨rfl, h⟩; obtain rfl := h.symm)
    | (go_at_call 8; (first | refine (G1.out _).mono ?_ | refine (G2.out _).mono ?_); rintro e w1 ⟨rfl, h⟩; obtain rfl := h.symm)
    | (go_at_call 9; refine (awake_any _).mono ?_; rintro e wA ⟨rfl, hbA⟩)
    | (go_at_call 10; refine (G3.out _).mono ?_; rintro e w1 ⟨rfl, h⟩; obtain rfl := h.symm)
    | (go_at_call 11; (first | refine (Z4.out _).mono ?_ | refine (Z5.out _).mono ?_); rintro e w1 ⟨rfl, h⟩; obtain rfl := h.symm)
    | (go_at_call 12; refine (U1.out _).mono ?_; rintro e w1 ⟨rfl, h⟩; obtain rfl := h.symm))
  go_ret
  exact ⟨rfl, hbA⟩
set_option maxHeartbeats 2000000 in
set_option maxRecDepth 1000000 in
theorem folds_0011 (v x u : Int) (hv : -9223372036854775808 ≤ v ∧ v ≤ 9223372036854775807) (hx : -9223372036854775808 ≤ x ∧ x ≤ 9223372036854775807) (hu : 0 ≤ u ∧ u < 18446744073709551616) (w : World) (hv0 : 0 ≤ v) (hx0 : 0 ≤ x) (hc : v < x) (hu0 : u < 256) :
    Calls Try.prog 4 #[.int .i64 v, .int .i64 x, .int .u64 u] w fun e w' => e = .returned (.bool true) ∧ Below w.heap.size w w' := by
  have r8 : -128 ≤ IntKind.i8.wrap v ∧ IntKind.i8.wrap v ≤ 127 := by rw [wrap_i8]; omega
  have c8 : wrap64 (IntKind.i8.wrap v) = IntKind.i8.wrap v := wrap_id _ (by omega)
  have Z1 := (show Hid _ from zig_i64 v hv)
  have Z2 := (show Hid _ from zig_i64 x hx)
  have Z3 := (show Hid _ from zig_i64 (ug u) (ug_range u hu))
  have hzv : 0 ≤ zg v ∧ zg v < 18446744073709551616 := ⟨zg_nn v, by have := zg_lt v 9223372036854775808 (by omega); omega⟩
  have G1 := (show Hid _ from zag_i64 (zg v) hzv)
  have G2 := (show Hid _ from zag_i64 u hu)
  have G3 := (show Hid _ from zag_i8 u hu)
  have Z4 := (show Hid _ from zig_i8 _ r8)
  have U1 := (show Hid _ from unzig_any _ r8)
  have e1 := ug_zg v
  have e2 := zg_ug u hu.1
  have Z5 := (show Hid _ from zig_i8 _ (ug_small u ⟨hu.1, hu0⟩))
  have e3 : zu u 256 = ug u := zu_pos hu0
  have e4 : ¬ zg x ≤ zg v := by
    have a1 : zg v = 2 * v := zg_pos (by omega)
    have a2 : zg x = 2 * x := zg_pos (by omega)
    rw [a1, a2]
    omega
  have n1v : ¬ v < wrap64 (-wrap64 (v + 1)) := by unfold wrap64; omega
  have n2v : wrap64 (-wrap64 (v + 1)) ≤ v := by unfold wrap64; omega
  have n3v : ¬ v < -(v + 1) := by omega
  have n4v : -(v + 1) ≤ v := by omega
  have n5v : wrap64 (-wrap64 (v + 1)) < v := by unfold wrap64; omega
  have n6v : -(v + 1) < v := by omega
  have n1x : ¬ x < wrap64 (-wrap64 (x + 1)) := by unfold wrap64; omega
  have n2x : wrap64 (-wrap64 (x + 1)) ≤ x := by unfold wrap64; omega
  have n3x : ¬ x < -(x + 1) := by omega
  have n4x : -(x + 1) ≤ x := by omega
  have n5x : wrap64 (-wrap64 (x + 1)) < x := by unfold wrap64; omega
  have n6x : -(x + 1) < x := by omega

  go_enter Try.func4, Try.ntmps4
  go_wp2_with (first
    | (go_at_call 7; (first | refine (Z1.out _).mono ?_ | refine (Z2.out _).mono ?_ | refine (Z3.out _).mono ?_); rintro e w1 ⟨rfl, h⟩; obtain rfl := h.symm)
    | (go_at_call 8; (first | refine (G1.out _).mono ?_ | refine (G2.out _).mono ?_); rintro e w1 ⟨rfl, h⟩; obtain rfl := h.symm)
    | (go_at_call 9; refine (awake_any _).mono ?_; rintro e wA ⟨rfl, hbA⟩)
    | (go_at_call 10; refine (G3.out _).mono ?_; rintro e w1 ⟨rfl, h⟩; obtain rfl := h.symm)
    | (go_at_call 11; (first | refine (Z4.out _).mono ?_ | refine (Z5.out _).mono ?_); rintro e w1 ⟨rfl, h⟩; obtain rfl := h.symm)
    | (go_at_call 12; refine (U1.out _).mono ?_; rintro e w1 ⟨rfl, h⟩; obtain rfl := h.symm))
  go_ret
  exact ⟨rfl, hbA⟩
set_option maxHeartbeats 2000000 in
set_option maxRecDepth 1000000 in
theorem folds_0100 (v x u : Int) (hv : -9223372036854775808 ≤ v ∧ v ≤ 9223372036854775807) (hx : -9223372036854775808 ≤ x ∧ x ≤ 9223372036854775807) (hu : 0 ≤ u ∧ u < 18446744073709551616) (w : World) (hv0 : 0 ≤ v) (hx0 : x < 0) (hc : ¬ v < -(x + 1)) (hu0 : ¬ u < 256) :
    Calls Try.prog 4 #[.int .i64 v, .int .i64 x, .int .u64 u] w fun e w' => e = .returned (.bool true) ∧ Below w.heap.size w w' := by
  have r8 : -128 ≤ IntKind.i8.wrap v ∧ IntKind.i8.wrap v ≤ 127 := by rw [wrap_i8]; omega
  have c8 : wrap64 (IntKind.i8.wrap v) = IntKind.i8.wrap v := wrap_id _ (by omega)
  have Z1 := (show Hid _ from zig_i64 v hv)
  have Z2 := (show Hid _ from zig_i64 x hx)
  have Z3 := (show Hid _ from zig_i64 (ug u) (ug_range u hu))
  have hzv : 0 ≤ zg v ∧ zg v < 18446744073709551616 := ⟨zg_nn v, by have := zg_lt v 9223372036854775808 (by omega); omega⟩
  have G1 := (show Hid _ from zag_i64 (zg v) hzv)
  have G2 := (show Hid _ from zag_i64 u hu)
  have G3 := (show Hid _ from zag_i8 u hu)
  have Z4 := (show Hid _ from zig_i8 _ r8)
  have U1 := (show Hid _ from unzig_any _ r8)
  have e1 := ug_zg v
  have e2 := zg_ug u hu.1
  have e3 : zu u 256 = 0 := zu_neg hu0
  have Z5 := (show Hid True from trivial)
  have n1v : ¬ v < wrap64 (-wrap64 (v + 1)) := by unfold wrap64; omega
  have n2v : wrap64 (-wrap64 (v + 1)) ≤ v := by unfold wrap64; omega
  have n3v : ¬ v < -(v + 1) := by omega
  have n4v : -(v + 1) ≤ v := by omega
  have n5v : wrap64 (-wrap64 (v + 1)) < v := by unfold wrap64; omega
  have n6v : -(v + 1) < v := by omega
  have w1x : wrap64 (x + 1) = x + 1 := by unfold wrap64; omega
  have w2x : wrap64 (-(x + 1)) = -(x + 1) := by unfold wrap64; omega
  have n2x : x < -(x + 1) := by omega
  have n3x : ¬ -(x + 1) ≤ x := by omega
  have n4x : ¬ -(x + 1) < x := by omega
  have n5x : x ≤ -(x + 1) := by omega

  go_enter Try.func4, Try.ntmps4
  go_wp2_with (first
    | (go_at_call 7; (first | refine (Z1.out _).mono ?_ | refine (Z2.out _).mono ?_ | refine (Z3.out _).mono ?_); rintro e w1 ⟨rfl, h⟩; obtain rfl := h.symm)
    | (go_at_call 8; (first | refine (G1.out _).mono ?_ | refine (G2.out _).mono ?_); rintro e w1 ⟨rfl, h⟩; obtain rfl := h.symm)
    | (go_at_call 9; refine (awake_any _).mono ?_; rintro e wA ⟨rfl, hbA⟩)
    | (go_at_call 10; refine (G3.out _).mono ?_; rintro e w1 ⟨rfl, h⟩; obtain rfl := h.symm)
    | (go_at_call 11; (first | refine (Z4.out _).mono ?_ | refine (Z5.out _).mono ?_); rintro e w1 ⟨rfl, h⟩; obtain rfl := h.symm)
    | (go_at_call 12; refine (U1.out _).mono ?_; rintro e w1 ⟨rfl, h⟩; obtain rfl := h.symm))
  go_ret
  exact ⟨rfl, hbA⟩
set_option maxHeartbeats 2000000 in
set_option maxRecDepth 1000000 in
theorem folds_0101 (v x u : Int) (hv : -9223372036854775808 ≤ v ∧ v ≤ 9223372036854775807) (hx : -9223372036854775808 ≤ x ∧ x ≤ 9223372036854775807) (hu : 0 ≤ u ∧ u < 18446744073709551616) (w : World) (hv0 : 0 ≤ v) (hx0 : x < 0) (hc : ¬ v < -(x + 1)) (hu0 : u < 256) :
    Calls Try.prog 4 #[.int .i64 v, .int .i64 x, .int .u64 u] w fun e w' => e = .returned (.bool true) ∧ Below w.heap.size w w' := by
  have r8 : -128 ≤ IntKind.i8.wrap v ∧ IntKind.i8.wrap v ≤ 127 := by rw [wrap_i8]; omega
  have c8 : wrap64 (IntKind.i8.wrap v) = IntKind.i8.wrap v := wrap_id _ (by omega)
  have Z1 := (show Hid _ from zig_i64 v hv)
  have Z2 := (show Hid _ from zig_i64 x hx)
  have Z3 := (show Hid _ from zig_i64 (ug u) (ug_range u hu))
  have hzv : 0 ≤ zg v ∧ zg v < 18446744073709551616 := ⟨zg_nn v, by have := zg_lt v 9223372036854775808 (by omega); omega⟩
  have G1 := (show Hid _ from zag_i64 (zg v) hzv)
  have G2 := (show Hid _ from zag_i64 u hu)
  have G3 := (show Hid _ from zag_i8 u hu)
  have Z4 := (show Hid _ from zig_i8 _ r8)
  have U1 := (show Hid _ from unzig_any _ r8)
  have e1 := ug_zg v
  have e2 := zg_ug u hu.1
  have Z5 := (show Hid _ from zig_i8 _ (ug_small u ⟨hu.1, hu0⟩))
  have e3 : zu u 256 = ug u := zu_pos hu0
  have n1v : ¬ v < wrap64 (-wrap64 (v + 1)) := by unfold wrap64; omega
  have n2v : wrap64 (-wrap64 (v + 1)) ≤ v := by unfold wrap64; omega
  have n3v : ¬ v < -(v + 1) := by omega
  have n4v : -(v + 1) ≤ v := by omega
  have n5v : wrap64 (-wrap64 (v + 1)) < v := by unfold wrap64; omega
  have n6v : -(v + 1) < v := by omega
  have w1x : wrap64 (x + 1) = x + 1 := by unfold wrap64; omega
  have w2x : wrap64 (-(x + 1)) = -(x + 1) := by unfold wrap64; omega
  have n2x : x < -(x + 1) := by omega
  have n3x : ¬ -(x + 1) ≤ x := by omega
  have n4x : ¬ -(x + 1) < x := by omega
  have n5x : x ≤ -(x + 1) := by omega

  go_enter Try.func4, Try.ntmps4
  go_wp2_with (first
    | (go_at_call 7; (first | refine (Z1.out _).mono ?_ | refine (Z2.out _).mono ?_ | refine (Z3.out _).mono ?_); rintro e w1 ⟨rfl, h⟩; obtain rfl := h.symm)
    | (go_at_call 8; (first | refine (G1.out _).mono ?_ | refine (G2.out _).mono ?_); rintro e w1 ⟨rfl, h⟩; obtain rfl := h.symm)
    | (go_at_call 9; refine (awake_any _).mono ?_; rintro e wA ⟨rfl, hbA⟩)
    | (go_at_call 10; refine (G3.out _).mono ?_; rintro e w1 ⟨rfl, h⟩; obtain rfl := h.symm)
    | (go_at_call 11; (first | refine (Z4.out _).mono ?_ | refine (Z5.out _).mono ?_); rintro e w1 ⟨rfl, h⟩; obtain rfl := h.symm)
    | (go_at_call 12; refine (U1.out _).mono ?_; rintro e w1 ⟨rfl, h⟩; obtain rfl := h.symm))
  go_ret
  exact ⟨rfl, hbA⟩
set_option maxHeartbeats 2000000 in
set_option maxRecDepth 1000000 in
theorem folds_0110 (v x u : Int) (hv : -9223372036854775808 ≤ v ∧ v ≤ 9223372036854775807) (hx : -9223372036854775808 ≤ x ∧ x ≤ 9223372036854775807) (hu : 0 ≤ u ∧ u < 18446744073709551616) (w : World) (hv0 : 0 ≤ v) (hx0 : x < 0) (hc : v < -(x + 1)) (hu0 : ¬ u < 256) :
    Calls Try.prog 4 #[.int .i64 v, .int .i64 x, .int .u64 u] w fun e w' => e = .returned (.bool true) ∧ Below w.heap.size w w' := by
  have r8 : -128 ≤ IntKind.i8.wrap v ∧ IntKind.i8.wrap v ≤ 127 := by rw [wrap_i8]; omega
  have c8 : wrap64 (IntKind.i8.wrap v) = IntKind.i8.wrap v := wrap_id _ (by omega)
  have Z1 := (show Hid _ from zig_i64 v hv)
  have Z2 := (show Hid _ from zig_i64 x hx)
  have Z3 := (show Hid _ from zig_i64 (ug u) (ug_range u hu))
  have hzv : 0 ≤ zg v ∧ zg v < 18446744073709551616 := ⟨zg_nn v, by have := zg_lt v 9223372036854775808 (by omega); omega⟩
  have G1 := (show Hid _ from zag_i64 (zg v) hzv)
  have G2 := (show Hid _ from zag_i64 u hu)
  have G3 := (show Hid _ from zag_i8 u hu)
  have Z4 := (show Hid _ from zig_i8 _ r8)
  have U1 := (show Hid _ from unzig_any _ r8)
  have e1 := ug_zg v
  have e2 := zg_ug u hu.1
  have e3 : zu u 256 = 0 := zu_neg hu0
  have Z5 := (show Hid True from trivial)
  have e4 : ¬ zg x ≤ zg v := by
    have a1 : zg v = 2 * v := zg_pos (by omega)
    have a2 : zg x = -2 * x - 1 := zg_neg (by omega)
    rw [a1, a2]
    omega
  have n1v : ¬ v < wrap64 (-wrap64 (v + 1)) := by unfold wrap64; omega
  have n2v : wrap64 (-wrap64 (v + 1)) ≤ v := by unfold wrap64; omega
  have n3v : ¬ v < -(v + 1) := by omega
  have n4v : -(v + 1) ≤ v := by omega
  have n5v : wrap64 (-wrap64 (v + 1)) < v := by unfold wrap64; omega
  have n6v : -(v + 1) < v := by omega
  have w1x : wrap64 (x + 1) = x + 1 := by unfold wrap64; omega
  have w2x : wrap64 (-(x + 1)) = -(x + 1) := by unfold wrap64; omega
  have n2x : x < -(x + 1) := by omega
  have n3x : ¬ -(x + 1) ≤ x := by omega
  have n4x : ¬ -(x + 1) < x := by omega
  have n5x : x ≤ -(x + 1) := by omega

  go_enter Try.func4, Try.ntmps4
  go_wp2_with (first
    | (go_at_call 7; (first | refine (Z1.out _).mono ?_ | refine (Z2.out _).mono ?_ | refine (Z3.out _).mono ?_); rintro e w1 ⟨rfl, h⟩; obtain rfl := h.symm)
    | (go_at_call 8; (first | refine (G1.out _).mono ?_ | refine (G2.out _).mono ?_); rintro e w1 ⟨rfl, h⟩; obtain rfl := h.symm)
    | (go_at_call 9; refine (awake_any _).mono ?_; rintro e wA ⟨rfl, hbA⟩)
    | (go_at_call 10; refine (G3.out _).mono ?_; rintro e w1 ⟨rfl, h⟩; obtain rfl := h.symm)
    | (go_at_call 11; (first | refine (Z4.out _).mono ?_ | refine (Z5.out _).mono ?_); rintro e w1 ⟨rfl, h⟩; obtain rfl := h.symm)
    | (go_at_call 12; refine (U1.out _).mono ?_; rintro e w1 ⟨rfl, h⟩; obtain rfl := h.symm))
  go_ret
  exact ⟨rfl, hbA⟩
set_option maxHeartbeats 2000000 in
set_option maxRecDepth 1000000 in
theorem folds_0111 (v x u : Int) (hv : -9223372036854775808 ≤ v ∧ v ≤ 9223372036854775807) (hx : -9223372036854775808 ≤ x ∧ x ≤ 9223372036854775807) (hu : 0 ≤ u ∧ u < 18446744073709551616) (w : World) (hv0 : 0 ≤ v) (hx0 : x < 0) (hc : v < -(x + 1)) (hu0 : u < 256) :
    Calls Try.prog 4 #[.int .i64 v, .int .i64 x, .int .u64 u] w fun e w' => e = .returned (.bool true) ∧ Below w.heap.size w w' := by
  have r8 : -128 ≤ IntKind.i8.wrap v ∧ IntKind.i8.wrap v ≤ 127 := by rw [wrap_i8]; omega
  have c8 : wrap64 (IntKind.i8.wrap v) = IntKind.i8.wrap v := wrap_id _ (by omega)
  have Z1 := (show Hid _ from zig_i64 v hv)
  have Z2 := (show Hid _ from zig_i64 x hx)
  have Z3 := (show Hid _ from zig_i64 (ug u) (ug_range u hu))
  have hzv : 0 ≤ zg v ∧ zg v < 18446744073709551616 := ⟨zg_nn v, by have := zg_lt v 9223372036854775808 (by omega); omega⟩
  have G1 := (show Hid _ from zag_i64 (zg v) hzv)
  have G2 := (show Hid _ from zag_i64 u hu)
  have G3 := (show Hid _ from zag_i8 u hu)
  have Z4 := (show Hid _ from zig_i8 _ r8)
  have U1 := (show Hid _ from unzig_any _ r8)
  have e1 := ug_zg v
  have e2 := zg_ug u hu.1
  have Z5 := (show Hid _ from zig_i8 _ (ug_small u ⟨hu.1, hu0⟩))
  have e3 : zu u 256 = ug u := zu_pos hu0
  have e4 : ¬ zg x ≤ zg v := by
    have a1 : zg v = 2 * v := zg_pos (by omega)
    have a2 : zg x = -2 * x - 1 := zg_neg (by omega)
    rw [a1, a2]
    omega
  have n1v : ¬ v < wrap64 (-wrap64 (v + 1)) := by unfold wrap64; omega
  have n2v : wrap64 (-wrap64 (v + 1)) ≤ v := by unfold wrap64; omega
  have n3v : ¬ v < -(v + 1) := by omega
  have n4v : -(v + 1) ≤ v := by omega
  have n5v : wrap64 (-wrap64 (v + 1)) < v := by unfold wrap64; omega
  have n6v : -(v + 1) < v := by omega
  have w1x : wrap64 (x + 1) = x + 1 := by unfold wrap64; omega
  have w2x : wrap64 (-(x + 1)) = -(x + 1) := by unfold wrap64; omega
  have n2x : x < -(x + 1) := by omega
  have n3x : ¬ -(x + 1) ≤ x := by omega
  have n4x : ¬ -(x + 1) < x := by omega
  have n5x : x ≤ -(x + 1) := by omega

  go_enter Try.func4, Try.ntmps4
  go_wp2_with (first
    | (go_at_call 7; (first | refine (Z1.out _).mono ?_ | refine (Z2.out _).mono ?_ | refine (Z3.out _).mono ?_); rintro e w1 ⟨rfl, h⟩; obtain rfl := h.symm)
    | (go_at_call 8; (first | refine (G1.out _).mono ?_ | refine (G2.out _).mono ?_); rintro e w1 ⟨rfl, h⟩; obtain rfl := h.symm)
    | (go_at_call 9; refine (awake_any _).mono ?_; rintro e wA ⟨rfl, hbA⟩)
    | (go_at_call 10; refine (G3.out _).mono ?_; rintro e w1 ⟨rfl, h⟩; obtain rfl := h.symm)
    | (go_at_call 11; (first | refine (Z4.out _).mono ?_ | refine (Z5.out _).mono ?_); rintro e w1 ⟨rfl, h⟩; obtain rfl := h.symm)
    | (go_at_call 12; refine (U1.out _).mono ?_; rintro e w1 ⟨rfl, h⟩; obtain rfl := h.symm))
  go_ret
  exact ⟨rfl, hbA⟩
set_option maxHeartbeats 2000000 in
set_option maxRecDepth 1000000 in
theorem folds_1000 (v x u : Int) (hv : -9223372036854775808 ≤ v ∧ v ≤ 9223372036854775807) (hx : -9223372036854775808 ≤ x ∧ x ≤ 9223372036854775807) (hu : 0 ≤ u ∧ u < 18446744073709551616) (w : World) (hv0 : v < 0) (hx0 : 0 ≤ x) (hc : ¬ -(v + 1) < x) (hu0 : ¬ u < 256) :
    Calls Try.prog 4 #[.int .i64 v, .int .i64 x, .int .u64 u] w fun e w' => e = .returned (.bool true) ∧ Below w.heap.size w w' := by
  have r8 : -128 ≤ IntKind.i8.wrap v ∧ IntKind.i8.wrap v ≤ 127 := by rw [wrap_i8]; omega
  have c8 : wrap64 (IntKind.i8.wrap v) = IntKind.i8.wrap v := wrap_id _ (by omega)
  have Z1 := (show Hid _ from zig_i64 v hv)
  have Z2 := (show Hid _ from zig_i64 x hx)
  have Z3 := (show Hid _ from zig_i64 (ug u) (ug_range u hu))
  have hzv : 0 ≤ zg v ∧ zg v < 18446744073709551616 := ⟨zg_nn v, by have := zg_lt v 9223372036854775808 (by omega); omega⟩
  have G1 := (show Hid _ from zag_i64 (zg v) hzv)
  have G2 := (show Hid _ from zag_i64 u hu)
  have G3 := (show Hid _ from zag_i8 u hu)
  have Z4 := (show Hid _ from zig_i8 _ r8)
  have U1 := (show Hid _ from unzig_any _ r8)
  have e1 := ug_zg v
  have e2 := zg_ug u hu.1
  have e3 : zu u 256 = 0 := zu_neg hu0
  have Z5 := (show Hid True from trivial)
  have w1v : wrap64 (v + 1) = v + 1 := by unfold wrap64; omega
  have w2v : wrap64 (-(v + 1)) = -(v + 1) := by unfold wrap64; omega
  have n2v : v < -(v + 1) := by omega
  have n3v : ¬ -(v + 1) ≤ v := by omega
  have n4v : ¬ -(v + 1) < v := by omega
  have n5v : v ≤ -(v + 1) := by omega
  have n1x : ¬ x < wrap64 (-wrap64 (x + 1)) := by unfold wrap64; omega
  have n2x : wrap64 (-wrap64 (x + 1)) ≤ x := by unfold wrap64; omega
  have n3x : ¬ x < -(x + 1) := by omega
  have n4x : -(x + 1) ≤ x := by omega
  have n5x : wrap64 (-wrap64 (x + 1)) < x := by unfold wrap64; omega
  have n6x : -(x + 1) < x := by omega

  go_enter Try.func4, Try.ntmps4
  go_wp2_with (first
    | (go_at_call 7; (first | refine (Z1.out _).mono ?_ | refine (Z2.out _).mono ?_ | refine (Z3.out _).mono ?_); rintro e w1 ⟨rfl, h⟩; obtain rfl := h.symm)
    | (go_at_call 8; (first | refine (G1.out _).mono ?_ | refine (G2.out _).mono ?_); rintro e w1 ⟨rfl, h⟩; obtain rfl := h.symm)
    | (go_at_call 9; refine (awake_any _).mono ?_; rintro e wA ⟨rfl, hbA⟩)
    | (go_at_call 10; refine (G3.out _).mono ?_; rintro e w1 ⟨rfl, h⟩; obtain rfl := h.symm)
    | (go_at_call 11; (first | refine (Z4.out _).mono ?_ | refine (Z5.out _).mono ?_); rintro e w1 ⟨rfl, h⟩; obtain rfl := h.symm)
    | (go_at_call 12; refine (U1.out _).mono ?_; rintro e w1 ⟨rfl, h⟩; obtain rfl := h.symm))
  go_ret
  exact ⟨rfl, hbA⟩
set_option maxHeartbeats 2000000 in
set_option maxRecDepth 1000000 in
theorem folds_1001 (v x u : Int) (hv : -9223372036854775808 ≤ v ∧ v ≤ 9223372036854775807) (hx : -9223372036854775808 ≤ x ∧ x ≤ 9223372036854775807) (hu : 0 ≤ u ∧ u < 18446744073709551616) (w : World) (hv0 : v < 0) (hx0 : 0 ≤ x) (hc : ¬ -(v + 1) < x) (hu0 : u < 256) :
    Calls Try.prog 4 #[.int .i64 v, .int .i64 x, .int .u64 u] w fun e w' => e = .returned (.bool true) ∧ Below w.heap.size w w' := by
  have r8 : -128 ≤ IntKind.i8.wrap v ∧ IntKind.i8.wrap v ≤ 127 := by rw [wrap_i8]; omega
  have c8 : wrap64 (IntKind.i8.wrap v) = IntKind.i8.wrap v := wrap_id _ (by omega)
  have Z1 := (show Hid _ from zig_i64 v hv)
  have Z2 := (show Hid _ from zig_i64 x hx)
  have Z3 := (show Hid _ from zig_i64 (ug u) (ug_range u hu))
  have hzv : 0 ≤ zg v ∧ zg v < 18446744073709551616 := ⟨zg_nn v, by have := zg_lt v 9223372036854775808 (by omega); omega⟩
  have G1 := (show Hid _ from zag_i64 (zg v) hzv)
  have G2 := (show Hid _ from zag_i64 u hu)
  have G3 := (show Hid _ from zag_i8 u hu)
  have Z4 := (show Hid _ from zig_i8 _ r8)
  have U1 := (show Hid _ from unzig_any _ r8)
  have e1 := ug_zg v
  have e2 := zg_ug u hu.1
  have Z5 := (show Hid _ from zig_i8 _ (ug_small u ⟨hu.1, hu0⟩))
  have e3 : zu u 256 = ug u := zu_pos hu0
  have w1v : wrap64 (v + 1) = v + 1 := by unfold wrap64; omega
  have w2v : wrap64 (-(v + 1)) = -(v + 1) := by unfold wrap64; omega
  have n2v : v < -(v + 1) := by omega
  have n3v : ¬ -(v + 1) ≤ v := by omega
  have n4v : ¬ -(v + 1) < v := by omega
  have n5v : v ≤ -(v + 1) := by omega
  have n1x : ¬ x < wrap64 (-wrap64 (x + 1)) := by unfold wrap64; omega
  have n2x : wrap64 (-wrap64 (x + 1)) ≤ x := by unfold wrap64; omega
  have n3x : ¬ x < -(x + 1) := by omega
  have n4x : -(x + 1) ≤ x := by omega
  have n5x : wrap64 (-wrap64 (x + 1)) < x := by unfold wrap64; omega
  have n6x : -(x + 1) < x := by omega

  go_enter Try.func4, Try.ntmps4
  go_wp2_with (first
    | (go_at_call 7; (first | refine (Z1.out _).mono ?_ | refine (Z2.out _).mono ?_ | refine (Z3.out _).mono ?_); rintro e w1 ⟨rfl, h⟩; obtain rfl := h.symm)
    | (go_at_call 8; (first | refine (G1.out _).mono ?_ | refine (G2.out _).mono ?_); rintro e w1 ⟨rfl, h⟩; obtain rfl := h.symm)
    | (go_at_call 9; refine (awake_any _).mono ?_; rintro e wA ⟨rfl, hbA⟩)
    | (go_at_call 10; refine (G3.out _).mono ?_; rintro e w1 ⟨rfl, h⟩; obtain rfl := h.symm)
    | (go_at_call 11; (first | refine (Z4.out _).mono ?_ | refine (Z5.out _).mono ?_); rintro e w1 ⟨rfl, h⟩; obtain rfl := h.symm)
    | (go_at_call 12; refine (U1.out _).mono ?_; rintro e w1 ⟨rfl, h⟩; obtain rfl := h.symm))
  go_ret
  exact ⟨rfl, hbA⟩
set_option maxHeartbeats 2000000 in
set_option maxRecDepth 1000000 in
theorem folds_1010 (v x u : Int) (hv : -9223372036854775808 ≤ v ∧ v ≤ 9223372036854775807) (hx : -9223372036854775808 ≤ x ∧ x ≤ 9223372036854775807) (hu : 0 ≤ u ∧ u < 18446744073709551616) (w : World) (hv0 : v < 0) (hx0 : 0 ≤ x) (hc : -(v + 1) < x) (hu0 : ¬ u < 256) :
    Calls Try.prog 4 #[.int .i64 v, .int .i64 x, .int .u64 u] w fun e w' => e = .returned (.bool true) ∧ Below w.heap.size w w' := by
  have r8 : -128 ≤ IntKind.i8.wrap v ∧ IntKind.i8.wrap v ≤ 127 := by rw [wrap_i8]; omega
  have c8 : wrap64 (IntKind.i8.wrap v) = IntKind.i8.wrap v := wrap_id _ (by omega)
  have Z1 := (show Hid _ from zig_i64 v hv)
  have Z2 := (show Hid _ from zig_i64 x hx)
  have Z3 := (show Hid _ from zig_i64 (ug u) (ug_range u hu))
  have hzv : 0 ≤ zg v ∧ zg v < 18446744073709551616 := ⟨zg_nn v, by have := zg_lt v 9223372036854775808 (by omega); omega⟩
  have G1 := (show Hid _ from zag_i64 (zg v) hzv)
  have G2 := (show Hid _ from zag_i64 u hu)
  have G3 := (show Hid _ from zag_i8 u hu)
  have Z4 := (show Hid _ from zig_i8 _ r8)
  have U1 := (show Hid _ from unzig_any _ r8)
  have e1 := ug_zg v
  have e2 := zg_ug u hu.1
  have e3 : zu u 256 = 0 := zu_neg hu0
  have Z5 := (show Hid True from trivial)
  have e4 : ¬ zg x ≤ zg v := by
    have a1 : zg v = -2 * v - 1 := zg_neg (by omega)
    have a2 : zg x = 2 * x := zg_pos (by omega)
    rw [a1, a2]
    omega
  have w1v : wrap64 (v + 1) = v + 1 := by unfold wrap64; omega
  have w2v : wrap64 (-(v + 1)) = -(v + 1) := by unfold wrap64; omega
  have n2v : v < -(v + 1) := by omega
  have n3v : ¬ -(v + 1) ≤ v := by omega
  have n4v : ¬ -(v + 1) < v := by omega
  have n5v : v ≤ -(v + 1) := by omega
  have n1x : ¬ x < wrap64 (-wrap64 (x + 1)) := by unfold wrap64; omega
  have n2x : wrap64 (-wrap64 (x + 1)) ≤ x := by unfold wrap64; omega
  have n3x : ¬ x < -(x + 1) := by omega
  have n4x : -(x + 1) ≤ x := by omega
  have n5x : wrap64 (-wrap64 (x + 1)) < x := by unfold wrap64; omega
  have n6x : -(x + 1) < x := by omega

  go_enter Try.func4, Try.ntmps4
  go_wp2_with (first
    | (go_at_call 7; (first | refine (Z1.out _).mono ?_ | refine (Z2.out _).mono ?_ | refine (Z3.out _).mono ?_); rintro e w1 ⟨rfl, h⟩; obtain rfl := h.symm)
    | (go_at_call 8; (first | refine (G1.out _).mono ?_ | refine (G2.out _).mono ?_); rintro e w1 ⟨rfl, h⟩; obtain rfl := h.symm)
    | (go_at_call 9; refine (awake_any _).mono ?_; rintro e wA ⟨rfl, hbA⟩)
    | (go_at_call 10; refine (G3.out _).mono ?_; rintro e w1 ⟨rfl, h⟩; obtain rfl := h.symm)
    | (go_at_call 11; (first | refine (Z4.out _).mono ?_ | refine (Z5.out _).mono ?_); rintro e w1 ⟨rfl, h⟩; obtain rfl := h.symm)
    | (go_at_call 12; refine (U1.out _).mono ?_; rintro e w1 ⟨rfl, h⟩; obtain rfl := h.symm))
  go_ret
  exact ⟨rfl, hbA⟩
set_option maxHeartbeats 2000000 in
set_option maxRecDepth 1000000 in
theorem folds_1011 (v x u : Int) (hv : -9223372036854775808 ≤ v ∧ v ≤ 9223372036854775807) (hx : -9223372036854775808 ≤ x ∧ x ≤ 9223372036854775807) (hu : 0 ≤ u ∧ u < 18446744073709551616) (w : World) (hv0 : v < 0) (hx0 : 0 ≤ x) (hc : -(v + 1) < x) (hu0 : u < 256) :
    Calls Try.prog 4 #[.int .i64 v, .int .i64 x, .int .u64 u] w fun e w' => e = .returned (.bool true) ∧ Below w.heap.size w w' := by
  have r8 : -128 ≤ IntKind.i8.wrap v ∧ IntKind.i8.wrap v ≤ 127 := by rw [wrap_i8]; omega
  have c8 : wrap64 (IntKind.i8.wrap v) = IntKind.i8.wrap v := wrap_id _ (by omega)
  have Z1 := (show Hid _ from zig_i64 v hv)
  have Z2 := (show Hid _ from zig_i64 x hx)
  have Z3 := (show Hid _ from zig_i64 (ug u) (ug_range u hu))
  have hzv : 0 ≤ zg v ∧ zg v < 18446744073709551616 := ⟨zg_nn v, by have := zg_lt v 9223372036854775808 (by omega); omega⟩
  have G1 := (show Hid _ from zag_i64 (zg v) hzv)
  have G2 := (show Hid _ from zag_i64 u hu)
  have G3 := (show Hid _ from zag_i8 u hu)
  have Z4 := (show Hid _ from zig_i8 _ r8)
  have U1 := (show Hid _ from unzig_any _ r8)
  have e1 := ug_zg v
  have e2 := zg_ug u hu.1
  have Z5 := (show Hid _ from zig_i8 _ (ug_small u ⟨hu.1, hu0⟩))
  have e3 : zu u 256 = ug u := zu_pos hu0
  have e4 : ¬ zg x ≤ zg v := by
    have a1 : zg v = -2 * v - 1 := zg_neg (by omega)
    have a2 : zg x = 2 * x := zg_pos (by omega)
    rw [a1, a2]
    omega
  have w1v : wrap64 (v + 1) = v + 1 := by unfold wrap64; omega
  have w2v : wrap64 (-(v + 1)) = -(v + 1) := by unfold wrap64; omega
  have n2v : v < -(v + 1) := by omega
  have n3v : ¬ -(v + 1) ≤ v := by omega
  have n4v : ¬ -(v + 1) < v := by omega
  have n5v : v ≤ -(v + 1) := by omega
  have n1x : ¬ x < wrap64 (-wrap64 (x + 1)) := by unfold wrap64; omega
  have n2x : wrap64 (-wrap64 (x + 1)) ≤ x := by unfold wrap64; omega
  have n3x : ¬ x < -(x + 1) := by omega
  have n4x : -(x + 1) ≤ x := by omega
  have n5x : wrap64 (-wrap64 (x + 1)) < x := by unfold wrap64; omega
  have n6x : -(x + 1) < x := by omega

  go_enter Try.func4, Try.ntmps4
  go_wp2_with (first
    | (go_at_call 7; (first | refine (Z1.out _).mono ?_ | refine (Z2.out _).mono ?_ | refine (Z3.out _).mono ?_); rintro e w1 ⟨rfl, h⟩; obtain rfl := h.symm)
    | (go_at_call 8; (first | refine (G1.out _).mono ?_ | refine (G2.out _).mono ?_); rintro e w1 ⟨rfl, h⟩; obtain rfl := h.symm)
    | (go_at_call 9; refine (awake_any _).mono ?_; rintro e wA ⟨rfl, hbA⟩)
    | (go_at_call 10; refine (G3.out _).mono ?_; rintro e w1 ⟨rfl, h⟩; obtain rfl := h.symm)
    | (go_at_call 11; (first | refine (Z4.out _).mono ?_ | refine (Z5.out _).mono ?_); rintro e w1 ⟨rfl, h⟩; obtain rfl := h.symm)
    | (go_at_call 12; refine (U1.out _).mono ?_; rintro e w1 ⟨rfl, h⟩; obtain rfl := h.symm))
  go_ret
  exact ⟨rfl, hbA⟩
set_option maxHeartbeats 2000000 in
set_option maxRecDepth 1000000 in
theorem folds_1100 (v x u : Int) (hv : -9223372036854775808 ≤ v ∧ v ≤ 9223372036854775807) (hx : -9223372036854775808 ≤ x ∧ x ≤ 9223372036854775807) (hu : 0 ≤ u ∧ u < 18446744073709551616) (w : World) (hv0 : v < 0) (hx0 : x < 0) (hc : ¬ -(v + 1) < -(x + 1)) (hu0 : ¬ u < 256) :
    Calls Try.prog 4 #[.int .i64 v, .int .i64 x, .int .u64 u] w fun e w' => e = .returned (.bool true) ∧ Below w.heap.size w w' := by
  have r8 : -128 ≤ IntKind.i8.wrap v ∧ IntKind.i8.wrap v ≤ 127 := by rw [wrap_i8]; omega
  have c8 : wrap64 (IntKind.i8.wrap v) = IntKind.i8.wrap v := wrap_id _ (by omega)
  have Z1 := (show Hid _ from zig_i64 v hv)
  have Z2 := (show Hid _ from zig_i64 x hx)
  have Z3 := (show Hid _ from zig_i64 (ug u) (ug_range u hu))
  have hzv : 0 ≤ zg v ∧ zg v < 18446744073709551616 := ⟨zg_nn v, by have := zg_lt v 9223372036854775808 (by omega); omega⟩
  have G1 := (show Hid _ from zag_i64 (zg v) hzv)
  have G2 := (show Hid _ from zag_i64 u hu)
  have G3 := (show Hid _ from zag_i8 u hu)
  have Z4 := (show Hid _ from zig_i8 _ r8)
  have U1 := (show Hid _ from unzig_any _ r8)
  have e1 := ug_zg v
  have e2 := zg_ug u hu.1
  have e3 : zu u 256 = 0 := zu_neg hu0
  have Z5 := (show Hid True from trivial)
  have w1v : wrap64 (v + 1) = v + 1 := by unfold wrap64; omega
  have w2v : wrap64 (-(v + 1)) = -(v + 1) := by unfold wrap64; omega
  have n2v : v < -(v + 1) := by omega
  have n3v : ¬ -(v + 1) ≤ v := by omega
  have n4v : ¬ -(v + 1) < v := by omega
  have n5v : v ≤ -(v + 1) := by omega
  have w1x : wrap64 (x + 1) = x + 1 := by unfold wrap64; omega
  have w2x : wrap64 (-(x + 1)) = -(x + 1) := by unfold wrap64; omega
  have n2x : x < -(x + 1) := by omega
  have n3x : ¬ -(x + 1) ≤ x := by omega
  have n4x : ¬ -(x + 1) < x := by omega
  have n5x : x ≤ -(x + 1) := by omega

  go_enter Try.func4, Try.ntmps4
  go_wp2_with (first
    | (go_at_call 7; (first | refine (Z1.out _).mono ?_ | refine (Z2.out _).mono ?_ | refine (Z3.out _).mono ?_); rintro e w1 ⟨rfl, h⟩; obtain rfl := h.symm)
    | (go_at_call 8; (first | refine (G1.out _).mono ?_ | refine (G2.out _).mono ?_); rintro e w1 ⟨rfl, h⟩; obtain rfl := h.symm)
    | (go_at_call 9; refine (awake_any _).mono ?_; rintro e wA ⟨rfl, hbA⟩)
    | (go_at_call 10; refine (G3.out _).mono ?_; rintro e w1 ⟨rfl, h⟩; obtain rfl := h.symm)
    | (go_at_call 11; (first | refine (Z4.out _).mono ?_ | refine (Z5.out _).mono ?_); rintro e w1 ⟨rfl, h⟩; obtain rfl := h.symm)
    | (go_at_call 12; refine (U1.out _).mono ?_; rintro e w1 ⟨rfl, h⟩; obtain rfl := h.symm))
  go_ret
  exact ⟨rfl, hbA⟩
set_option maxHeartbeats 2000000 in
set_option maxRecDepth 1000000 in
theorem folds_1101 (v x u : Int) (hv : -9223372036854775808 ≤ v ∧ v ≤ 9223372036854775807) (hx : -9223372036854775808 ≤ x ∧ x ≤ 9223372036854775807) (hu : 0 ≤ u ∧ u < 18446744073709551616) (w : World) (hv0 : v < 0) (hx0 : x < 0) (hc : ¬ -(v + 1) < -(x + 1)) (hu0 : u < 256) :
    Calls Try.prog 4 #[.int .i64 v, .int .i64 x, .int .u64 u] w fun e w' => e = .returned (.bool true) ∧ Below w.heap.size w w' := by
  have r8 : -128 ≤ IntKind.i8.wrap v ∧ IntKind.i8.wrap v ≤ 127 := by rw [wrap_i8]; omega
  have c8 : wrap64 (IntKind.i8.wrap v) = IntKind.i8.wrap v := wrap_id _ (by omega)
  have Z1 := (show Hid _ from zig_i64 v hv)
  have Z2 := (show Hid _ from zig_i64 x hx)
  have Z3 := (show Hid _ from zig_i64 (ug u) (ug_range u hu))
  have hzv : 0 ≤ zg v ∧ zg v < 18446744073709551616 := ⟨zg_nn v, by have := zg_lt v 9223372036854775808 (by omega); omega⟩
  have G1 := (show Hid _ from zag_i64 (zg v) hzv)
  have G2 := (show Hid _ from zag_i64 u hu)
  have G3 := (show Hid _ from zag_i8 u hu)
  have Z4 := (show Hid _ from zig_i8 _ r8)
  have U1 := (show Hid _ from unzig_any _ r8)
  have e1 := ug_zg v
  have e2 := zg_ug u hu.1
  have Z5 := (show Hid _ from zig_i8 _ (ug_small u ⟨hu.1, hu0⟩))
  have e3 : zu u 256 = ug u := zu_pos hu0
  have w1v : wrap64 (v + 1) = v + 1 := by unfold wrap64; omega
  have w2v : wrap64 (-(v + 1)) = -(v + 1) := by unfold wrap64; omega
  have n2v : v < -(v + 1) := by omega
  have n3v : ¬ -(v + 1) ≤ v := by omega
  have n4v : ¬ -(v + 1) < v := by omega
  have n5v : v ≤ -(v + 1) := by omega
  have w1x : wrap64 (x + 1) = x + 1 := by unfold wrap64; omega
  have w2x : wrap64 (-(x + 1)) = -(x + 1) := by unfold wrap64; omega
  have n2x : x < -(x + 1) := by omega
  have n3x : ¬ -(x + 1) ≤ x := by omega
  have n4x : ¬ -(x + 1) < x := by omega
  have n5x : x ≤ -(x + 1) := by omega

  go_enter Try.func4, Try.ntmps4
  go_wp2_with (first
    | (go_at_call 7; (first | refine (Z1.out _).mono ?_ | refine (Z2.out _).mono ?_ | refine (Z3.out _).mono ?_); rintro e w1 ⟨rfl, h⟩; obtain rfl := h.symm)
    | (go_at_call 8; (first | refine (G1.out _).mono ?_ | refine (G2.out _).mono ?_); rintro e w1 ⟨rfl, h⟩; obtain rfl := h.symm)
    | (go_at_call 9; refine (awake_any _).mono ?_; rintro e wA ⟨rfl, hbA⟩)
    | (go_at_call 10; refine (G3.out _).mono ?_; rintro e w1 ⟨rfl, h⟩; obtain rfl := h.symm)
    | (go_at_call 11; (first | refine (Z4.out _).mono ?_ | refine (Z5.out _).mono ?_); rintro e w1 ⟨rfl, h⟩; obtain rfl := h.symm)
    | (go_at_call 12; refine (U1.out _).mono ?_; rintro e w1 ⟨rfl, h⟩; obtain rfl := h.symm))
  go_ret
  exact ⟨rfl, hbA⟩
set_option maxHeartbeats 2000000 in
set_option maxRecDepth 1000000 in
theorem folds_1110 (v x u : Int) (hv : -9223372036854775808 ≤ v ∧ v ≤ 9223372036854775807) (hx : -9223372036854775808 ≤ x ∧ x ≤ 9223372036854775807) (hu : 0 ≤ u ∧ u < 18446744073709551616) (w : World) (hv0 : v < 0) (hx0 : x < 0) (hc : -(v + 1) < -(x + 1)) (hu0 : ¬ u < 256) :
    Calls Try.prog 4 #[.int .i64 v, .int .i64 x, .int .u64 u] w fun e w' => e = .returned (.bool true) ∧ Below w.heap.size w w' := by
  have r8 : -128 ≤ IntKind.i8.wrap v ∧ IntKind.i8.wrap v ≤ 127 := by rw [wrap_i8]; omega
  have c8 : wrap64 (IntKind.i8.wrap v) = IntKind.i8.wrap v := wrap_id _ (by omega)
  have Z1 := (show Hid _ from zig_i64 v hv)
  have Z2 := (show Hid _ from zig_i64 x hx)
  have Z3 := (show Hid _ from zig_i64 (ug u) (ug_range u hu))
  have hzv : 0 ≤ zg v ∧ zg v < 18446744073709551616 := ⟨zg_nn v, by have := zg_lt v 9223372036854775808 (by omega); omega⟩
  have G1 := (show Hid _ from zag_i64 (zg v) hzv)
  have G2 := (show Hid _ from zag_i64 u hu)
  have G3 := (show Hid _ from zag_i8 u hu)
  have Z4 := (show Hid _ from zig_i8 _ r8)
  have U1 := (show Hid _ from unzig_any _ r8)
  have e1 := ug_zg v
  have e2 := zg_ug u hu.1
  have e3 : zu u 256 = 0 := zu_neg hu0
  have Z5 := (show Hid True from trivial)
  have e4 : ¬ zg x ≤ zg v := by
    have a1 : zg v = -2 * v - 1 := zg_neg (by omega)
    have a2 : zg x = -2 * x - 1 := zg_neg (by omega)
    rw [a1, a2]
    omega
  have w1v : wrap64 (v + 1) = v + 1 := by unfold wrap64; omega
  have w2v : wrap64 (-(v + 1)) = -(v + 1) := by unfold wrap64; omega
  have n2v : v < -(v + 1) := by omega
  have n3v : ¬ -(v + 1) ≤ v := by omega
  have n4v : ¬ -(v + 1) < v := by omega
  have n5v : v ≤ -(v + 1) := by omega
  have w1x : wrap64 (x + 1) = x + 1 := by unfold wrap64; omega
  have w2x : wrap64 (-(x + 1)) = -(x + 1) := by unfold wrap64; omega
  have n2x : x < -(x + 1) := by omega
  have n3x : ¬ -(x + 1) ≤ x := by omega
  have n4x : ¬ -(x + 1) < x := by omega
  have n5x : x ≤ -(x + 1) := by omega

  go_enter Try.func4, Try.ntmps4
  go_wp2_with (first
    | (go_at_call 7; (first | refine (Z1.out _).mono ?_ | refine (Z2.out _).mono ?_ | refine (Z3.out _).mono ?_); rintro e w1 ⟨rfl, h⟩; obtain rfl := h.symm)
    | (go_at_call 8; (first | refine (G1.out _).mono ?_ | refine (G2.out _).mono ?_); rintro e w1 ⟨rfl, h⟩; obtain rfl := h.symm)
    | (go_at_call 9; refine (awake_any _).mono ?_; rintro e wA ⟨rfl, hbA⟩)
    | (go_at_call 10; refine (G3.out _).mono ?_; rintro e w1 ⟨rfl, h⟩; obtain rfl := h.symm)
    | (go_at_call 11; (first | refine (Z4.out _).mono ?_ | refine (Z5.out _).mono ?_); rintro e w1 ⟨rfl, h⟩; obtain rfl := h.symm)
    | (go_at_call 12; refine (U1.out _).mono ?_; rintro e w1 ⟨rfl, h⟩; obtain rfl := h.symm))
  go_ret
  exact ⟨rfl, hbA⟩
set_option maxHeartbeats 2000000 in
set_option maxRecDepth 1000000 in
theorem folds_1111 (v x u : Int) (hv : -9223372036854775808 ≤ v ∧ v ≤ 9223372036854775807) (hx : -9223372036854775808 ≤ x ∧ x ≤ 9223372036854775807) (hu : 0 ≤ u ∧ u < 18446744073709551616) (w : World) (hv0 : v < 0) (hx0 : x < 0) (hc : -(v + 1) < -(x + 1)) (hu0 : u < 256) :
    Calls Try.prog 4 #[.int .i64 v, .int .i64 x, .int .u64 u] w fun e w' => e = .returned (.bool true) ∧ Below w.heap.size w w' := by
  have r8 : -128 ≤ IntKind.i8.wrap v ∧ IntKind.i8.wrap v ≤ 127 := by rw [wrap_i8]; omega
  have c8 : wrap64 (IntKind.i8.wrap v) = IntKind.i8.wrap v := wrap_id _ (by omega)
  have Z1 := (show Hid _ from zig_i64 v hv)
  have Z2 := (show Hid _ from zig_i64 x hx)
  have Z3 := (show Hid _ from zig_i64 (ug u) (ug_range u hu))
  have hzv : 0 ≤ zg v ∧ zg v < 18446744073709551616 := ⟨zg_nn v, by have := zg_lt v 9223372036854775808 (by omega); omega⟩
  have G1 := (show Hid _ from zag_i64 (zg v) hzv)
  have G2 := (show Hid _ from zag_i64 u hu)
  have G3 := (show Hid _ from zag_i8 u hu)
  have Z4 := (show Hid _ from zig_i8 _ r8)
  have U1 := (show Hid _ from unzig_any _ r8)
  have e1 := ug_zg v
  have e2 := zg_ug u hu.1
  have Z5 := (show Hid _ from zig_i8 _ (ug_small u ⟨hu.1, hu0⟩))
  have e3 : zu u 256 = ug u := zu_pos hu0
  have e4 : ¬ zg x ≤ zg v := by
    have a1 : zg v = -2 * v - 1 := zg_neg (by omega)
    have a2 : zg x = -2 * x - 1 := zg_neg (by omega)
    rw [a1, a2]
    omega
  have w1v : wrap64 (v + 1) = v + 1 := by unfold wrap64; omega
  have w2v : wrap64 (-(v + 1)) = -(v + 1) := by unfold wrap64; omega
  have n2v : v < -(v + 1) := by omega
  have n3v : ¬ -(v + 1) ≤ v := by omega
  have n4v : ¬ -(v + 1) < v := by omega
  have n5v : v ≤ -(v + 1) := by omega
  have w1x : wrap64 (x + 1) = x + 1 := by unfold wrap64; omega
  have w2x : wrap64 (-(x + 1)) = -(x + 1) := by unfold wrap64; omega
  have n2x : x < -(x + 1) := by omega
  have n3x : ¬ -(x + 1) ≤ x := by omega
  have n4x : ¬ -(x + 1) < x := by omega
  have n5x : x ≤ -(x + 1) := by omega

  go_enter Try.func4, Try.ntmps4
  go_wp2_with (first
    | (go_at_call 7; (first | refine (Z1.out _).mono ?_ | refine (Z2.out _).mono ?_ | refine (Z3.out _).mono ?_); rintro e w1 ⟨rfl, h⟩; obtain rfl := h.symm)
    | (go_at_call 8; (first | refine (G1.out _).mono ?_ | refine (G2.out _).mono ?_); rintro e w1 ⟨rfl, h⟩; obtain rfl := h.symm)
    | (go_at_call 9; refine (awake_any _).mono ?_; rintro e wA ⟨rfl, hbA⟩)
    | (go_at_call 10; refine (G3.out _).mono ?_; rintro e w1 ⟨rfl, h⟩; obtain rfl := h.symm)
    | (go_at_call 11; (first | refine (Z4.out _).mono ?_ | refine (Z5.out _).mono ?_); rintro e w1 ⟨rfl, h⟩; obtain rfl := h.symm)
    | (go_at_call 12; refine (U1.out _).mono ?_; rintro e w1 ⟨rfl, h⟩; obtain rfl := h.symm))
  go_ret
  exact ⟨rfl, hbA⟩
end
theorem codecFolds_walk (v x u : Int) (hv : -9223372036854775808 ≤ v ∧ v ≤ 9223372036854775807) (hx : -9223372036854775808 ≤ x ∧ x ≤ 9223372036854775807) (hu : 0 ≤ u ∧ u < 18446744073709551616) (w : World) :
    Calls Try.prog 4 #[.int .i64 v, .int .i64 x, .int .u64 u] w fun e w' => e = .returned (.bool true) ∧ Below w.heap.size w w' := by
  rcases Int.lt_or_le v 0 with h0 | h0
  · rcases Int.lt_or_le x 0 with h1 | h1
    · by_cases h2 : -(v + 1) < -(x + 1)
      · by_cases h3 : u < 256
        · exact folds_1111 v x u hv hx hu w h0 h1 h2 h3
        · exact folds_1110 v x u hv hx hu w h0 h1 h2 h3
      · by_cases h3 : u < 256
        · exact folds_1101 v x u hv hx hu w h0 h1 h2 h3
        · exact folds_1100 v x u hv hx hu w h0 h1 h2 h3
    · by_cases h2 : -(v + 1) < x
      · by_cases h3 : u < 256
        · exact folds_1011 v x u hv hx hu w h0 h1 h2 h3
        · exact folds_1010 v x u hv hx hu w h0 h1 h2 h3
      · by_cases h3 : u < 256
        · exact folds_1001 v x u hv hx hu w h0 h1 h2 h3
        · exact folds_1000 v x u hv hx hu w h0 h1 h2 h3
  · rcases Int.lt_or_le x 0 with h1 | h1
    · by_cases h2 : v < -(x + 1)
      · by_cases h3 : u < 256
        · exact folds_0111 v x u hv hx hu w h0 h1 h2 h3
        · exact folds_0110 v x u hv hx hu w h0 h1 h2 h3
      · by_cases h3 : u < 256
        · exact folds_0101 v x u hv hx hu w h0 h1 h2 h3
        · exact folds_0100 v x u hv hx hu w h0 h1 h2 h3
    · by_cases h2 : v < x
      · by_cases h3 : u < 256
        · exact folds_0011 v x u hv hx hu w h0 h1 h2 h3
        · exact folds_0010 v x u hv hx hu w h0 h1 h2 h3
      · by_cases h3 : u < 256
        · exact folds_0001 v x u hv hx hu w h0 h1 h2 h3
        · exact folds_0000 v x u hv hx hu w h0 h1 h2 h3
end Go.Proofs.Ytmcbeikgdcgdcab
