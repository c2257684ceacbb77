/-
  CodecZigs: the walk.
-/
import Derived.Test.YtmcbeikgdcgdcaaZf
namespace Go.Proofs.Ytmcbeikgdcgdcaa
open Go.RowKit
theorem u_range (u : Int) (h : 0 ≤ u ∧ u < 18446744073709551616) : -9223372036854775808 ≤ ug u ∧ ug u ≤ 9223372036854775807 := by
  unfold ug
  by_cases e : u % 2 = 0
  · rw [if_pos e]; omega
  · rw [if_neg e]; omega
section
attribute [local irreducible] Calls zg ug zu
theorem wrap_id (x : Int) (h : -9223372036854775808 ≤ x ∧ x ≤ 9223372036854775807) : wrap64 x = x := by unfold wrap64; omega
theorem wrap_ite (u lim : Int) (h : 0 ≤ u ∧ u < 18446744073709551616) : wrap64 (zu u lim) = zu u lim := by
  apply wrap_id
  by_cases g : u < lim
  · rw [zu_pos g]; exact u_range u h
  · rw [zu_neg g]; omega
set_option maxHeartbeats 4000000 in
set_option maxRecDepth 1000000 in
theorem codecZigs_walk (v u : Int) (hv : -9223372036854775808 ≤ v ∧ v ≤ 9223372036854775807) (hu : 0 ≤ u ∧ u < 18446744073709551616) (w : World) :
    Calls Try.prog 4 #[.int .i64 v, .int .u64 u] w fun e w' => e = .returned (.bool true) ∧ Below w.heap.size w w' := by
  have r8 : -128 ≤ IntKind.i8.wrap v ∧ IntKind.i8.wrap v ≤ 127 := by rw [wrap_i8]; omega
  have r16 : -32768 ≤ IntKind.i16.wrap v ∧ IntKind.i16.wrap v ≤ 32767 := by rw [wrap_i16]; omega
  have r32 : -2147483648 ≤ wrap32 v ∧ wrap32 v ≤ 2147483647 := by unfold wrap32; omega
  have c8 : wrap64 (IntKind.i8.wrap v) = IntKind.i8.wrap v := wrap_id _ (by omega)
  have c16 : wrap64 (IntKind.i16.wrap v) = IntKind.i16.wrap v := wrap_id _ (by omega)
  have c32 : wrap64 (wrap32 v) = wrap32 v := wrap_id _ (by omega)
  have k8 : wrap64 (zu u 256) = zu u 256 := wrap_ite u _ hu
  have k16 : wrap64 (zu u 65536) = zu u 65536 := wrap_ite u _ hu
  have k32 : wrap64 (zu u 4294967296) = zu u 4294967296 := wrap_ite u _ hu
  have Z8 := (show Hid _ from zig_i8 _ r8 w)
  have Z16 := (show Hid _ from zig_i16 _ r16 w)
  have Zd := (show Hid _ from zig_deep _ r16 w)
  have Z32 := (show Hid _ from zig_i32 _ r32 w)
  have Z64 := (show Hid _ from zig_i64 _ hv w)
  have F8 := (show Hid _ from fold_any _ (show -9223372036854775808 ≤ IntKind.i8.wrap v ∧ IntKind.i8.wrap v ≤ 9223372036854775807 by omega) w)
  have F16 := (show Hid _ from fold_any _ (show -9223372036854775808 ≤ IntKind.i16.wrap v ∧ IntKind.i16.wrap v ≤ 9223372036854775807 by omega) w)
  have F32 := (show Hid _ from fold_any _ (show -9223372036854775808 ≤ wrap32 v ∧ wrap32 v ≤ 9223372036854775807 by omega) w)
  have F64 := (show Hid _ from fold_any _ hv w)
  have A8 := (show Hid _ from zag_i8 u hu w)
  have A16 := (show Hid _ from zag_i16 u hu w)
  have Ad := (show Hid _ from zag_deep u hu w)
  have A32 := (show Hid _ from zag_i32 u hu w)
  have A64 := (show Hid _ from zag_i64 u hu w)
  have Un := (show Hid _ from unfold_any u hu w)
  clear r8 r16 r32
  go_enter Try.func4, Try.ntmps4
  go_wp2_with (first
    | (go_at_call 16; refine Z8.out.mono ?_; rintro e w1 ⟨rfl, h⟩; obtain rfl := h.symm)
    | (go_at_call 18; refine Z16.out.mono ?_; rintro e w1 ⟨rfl, h⟩; obtain rfl := h.symm)
    | (go_at_call 19; refine Z32.out.mono ?_; rintro e w1 ⟨rfl, h⟩; obtain rfl := h.symm)
    | (go_at_call 20; refine Z64.out.mono ?_; rintro e w1 ⟨rfl, h⟩; obtain rfl := h.symm)
    | (go_at_call 21; refine Zd.out.mono ?_; rintro e w1 ⟨rfl, h⟩; obtain rfl := h.symm)
    | (go_at_call 17; (first | refine F8.out.mono ?_ | refine F16.out.mono ?_ | refine F32.out.mono ?_ | refine F64.out.mono ?_); rintro e w1 ⟨rfl, h⟩; obtain rfl := h.symm)
    | (go_at_call 22; refine A8.out.mono ?_; rintro e w1 ⟨rfl, h⟩; obtain rfl := h.symm)
    | (go_at_call 23; refine A16.out.mono ?_; rintro e w1 ⟨rfl, h⟩; obtain rfl := h.symm)
    | (go_at_call 24; refine A32.out.mono ?_; rintro e w1 ⟨rfl, h⟩; obtain rfl := h.symm)
    | (go_at_call 25; refine A64.out.mono ?_; rintro e w1 ⟨rfl, h⟩; obtain rfl := h.symm)
    | (go_at_call 26; refine Ad.out.mono ?_; rintro e w1 ⟨rfl, h⟩; obtain rfl := h.symm)
    | (go_at_call 27; refine Un.out.mono ?_; rintro e w1 ⟨rfl, h⟩; obtain rfl := h.symm)
    | (go_at_call 28; (first | refine (zag_law u _ w).mono ?_ | refine (zag_lawT _ w).mono ?_); rintro e w1 ⟨rfl, h⟩; obtain rfl := h.symm))
  go_ret
  exact ⟨rfl, Below.refl _ _⟩
end
end Go.Proofs.Ytmcbeikgdcgdcaa
