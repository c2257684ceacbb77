/-
  A wound's calls.
-/
import Derived.Test.YtjjncajfljbegaaWa
namespace Go.Proofs.Ytjjncajfljbegaa
open Go.RowKit Go.Maps
theorem WAt.set2 {w : World} {wb : Nat} {dp : Option Addr} {pl : Option Nat} {g : Gt} (h : WAt w wb dp pl g) (u : Bool) : WAt (w.setCell ⟨wb, 2, none⟩ (.bool u)) wb dp pl { g with offl := u } := by
  unfold WAt at h ⊢
  rw [heap_setCell_same w wb 2 _ _ _ h]; rfl
section
attribute [local irreducible] Calls
set_option maxRecDepth 1000000 in
theorem arm_nil (v : Value) (w : World) : Calls Try.prog 34 #[.pointer none, v] w fun e w' => (∃ v, e = .returned v) ∧ Below w.heap.size w w' := by
  go_enter Try.func34, Try.ntmps34
  go_wp2
  refine bodyPost_ret (results_none rfl _ _ _) rfl ?_
  exact ⟨⟨_, rfl⟩, (Below.refl _ _).alloc (Nat.le_refl _) _⟩
set_option maxRecDepth 1000000 in
theorem offline_nil (v : Value) (w : World) : Calls Try.prog 37 #[.pointer none, v] w fun e w' => (∃ v, e = .returned v) ∧ w' = w := by
  go_enter Try.func37, Try.ntmps37
  go_wp2
  go_end0
  exact ⟨⟨_, rfl⟩, rfl⟩
set_option maxRecDepth 1000000 in
theorem power_nil (v : Value) (w : World) : Calls Try.prog 25 #[.pointer none, v] w fun e w' => (∃ v, e = .returned v) ∧ w' = w := by
  go_enter Try.func25, Try.ntmps25
  go_wp2
  go_end0
  exact ⟨⟨_, rfl⟩, rfl⟩
set_option maxRecDepth 1000000 in
theorem fuse_nil (a b c : Value) (w : World) : Calls Try.prog 20 #[.pointer none, a, b, c] w fun e w' => (∃ v, e = .returned v) ∧ w' = w := by
  go_enter Try.func20, Try.ntmps20
  go_wp2
  go_end0
  exact ⟨⟨_, rfl⟩, rfl⟩
set_option maxRecDepth 1000000 in
theorem rest_nil (v : Value) (w : World) : Calls Try.prog 12 #[.pointer none, v] w fun e w' => (∃ v, e = .returned v) ∧ w' = w := by
  go_enter Try.func12, Try.ntmps12
  go_wp2
  refine bodyPost_ret (results_none rfl _ _ _) rfl ?_
  exact ⟨⟨_, rfl⟩, rfl⟩
set_option maxRecDepth 1000000 in
theorem wread_nil (v : Value) (w : World) : Calls Try.prog 35 #[.pointer none, v] w fun e w' => e = .returned (.tuple #[.slice none 0 0, .int .i64 1]) ∧ w' = w := by
  have AH := (show Hid _ from fun rm w => ahead_nil rm w)
  go_enter Try.func35, Try.ntmps35
  go_wp2_with (go_at_call 59; refine (AH.out _ _).mono ?_; rintro e w1 ⟨rfl, rfl⟩)
  go_ret2
  exact ⟨rfl, rfl⟩
set_option maxRecDepth 1000000 in
theorem wlist_nil (w : World) : Calls Try.prog 26 #[.pointer none] w fun e w' => e = .returned (.tuple #[.slice none 0 0, .int .i64 1]) ∧ w' = w := by
  have AH := (show Hid _ from fun rm w => ahead_nil rm w)
  go_enter Try.func26, Try.ntmps26
  go_wp2_with (go_at_call 59; refine (AH.out _ _).mono ?_; rintro e w1 ⟨rfl, rfl⟩)
  go_ret2
  exact ⟨rfl, rfl⟩
set_option maxRecDepth 1000000 in
theorem wcreate_nil (v : Value) (w : World) : Calls Try.prog 32 #[.pointer none, v] w fun e w' => e = .returned (.int .i64 1) ∧ w' = w := by
  have AH := (show Hid _ from fun rm w => ahead_nil rm w)
  go_enter Try.func32, Try.ntmps32
  go_wp2_with (go_at_call 59; refine (AH.out _ _).mono ?_; rintro e w1 ⟨rfl, rfl⟩)
  go_ret
  exact ⟨rfl, rfl⟩
set_option maxRecDepth 1000000 in
theorem wsync_nil (v : Value) (w : World) : Calls Try.prog 36 #[.pointer none, v] w fun e w' => e = .returned (.int .i64 1) ∧ w' = w := by
  have AH := (show Hid _ from fun rm w => ahead_nil rm w)
  go_enter Try.func36, Try.ntmps36
  go_wp2_with (go_at_call 59; refine (AH.out _ _).mono ?_; rintro e w1 ⟨rfl, rfl⟩)
  go_ret
  exact ⟨rfl, rfl⟩
set_option maxRecDepth 1000000 in
theorem wremove_nil (v : Value) (w : World) : Calls Try.prog 39 #[.pointer none, v] w fun e w' => e = .returned (.int .i64 1) ∧ w' = w := by
  have AH := (show Hid _ from fun rm w => ahead_nil rm w)
  go_enter Try.func39, Try.ntmps39
  go_wp2_with (go_at_call 59; refine (AH.out _ _).mono ?_; rintro e w1 ⟨rfl, rfl⟩)
  go_ret
  exact ⟨rfl, rfl⟩
set_option maxRecDepth 1000000 in
theorem wrename_nil (u v : Value) (w : World) : Calls Try.prog 38 #[.pointer none, u, v] w fun e w' => e = .returned (.int .i64 1) ∧ w' = w := by
  have AH := (show Hid _ from fun rm w => ahead_nil rm w)
  go_enter Try.func38, Try.ntmps38
  go_wp2_with (go_at_call 59; refine (AH.out _ _).mono ?_; rintro e w1 ⟨rfl, rfl⟩)
  go_ret
  exact ⟨rfl, rfl⟩
set_option maxRecDepth 1000000 in
theorem wsyncDir_nil (w : World) : Calls Try.prog 40 #[.pointer none] w fun e w' => e = .returned (.int .i64 1) ∧ w' = w := by
  have AH := (show Hid _ from fun rm w => ahead_nil rm w)
  go_enter Try.func40, Try.ntmps40
  go_wp2_with (go_at_call 59; refine (AH.out _ _).mono ?_; rintro e w1 ⟨rfl, rfl⟩)
  go_ret
  exact ⟨rfl, rfl⟩
set_option maxRecDepth 1000000 in
theorem wappend_nil (u v : Value) (w : World) : Calls Try.prog 33 #[.pointer none, u, v] w fun e w' => e = .returned (.int .i64 1) ∧ w' = w := by
  have AH := (show Hid _ from fun rm w => ahead_nil rm w)
  go_enter Try.func33, Try.ntmps33
  go_wp2_with (go_at_call 59; refine (AH.out _ _).mono ?_; rintro e w1 ⟨rfl, rfl⟩)
  go_ret
  exact ⟨rfl, rfl⟩
set_option maxRecDepth 1000000 in
theorem syncDir_none (w : World) : Calls Try.prog 46 #[.pointer none] w fun e w' => e = .returned (.int .i64 1) ∧ w' = w := by
  go_enter Try.func46, Try.ntmps46
  go_wp2
  go_ret
  exact ⟨rfl, rfl⟩
set_option maxRecDepth 1000000 in
theorem used_none (w : World) : Calls Try.prog 48 #[.pointer none] w fun e w' => e = .returned (.int .i64 0) ∧ w' = w := by
  go_enter Try.func48, Try.ntmps48
  go_wp2
  go_ret
  exact ⟨rfl, rfl⟩
set_option maxRecDepth 1000000 in
theorem new_any (n : Nat) (hn : n ≤ 1073741824) (w : World) : Calls Try.prog 7 #[.int .i64 (n : Int)] w fun e w' => e = .returned (.pointer (some ⟨w.heap.size, 0, none⟩)) ∧ w' = w.alloc (.cells #[.int .i64 (n : Int), .int .i64 0, .map none, .map none, .slice none 0 0] 75) := by
  have g1 : ¬ (n : Int) < 0 := by omega
  have g2 : decide ((n : Int) < 0) = false := by simp
  have g3 : ¬ (1073741824 : Int) < (n : Int) := by omega
  go_enter Try.func7, Try.ntmps7
  go_wp2
  go_ret
  exact ⟨rfl, rfl⟩
set_option maxRecDepth 1000000 in
theorem wnew_nil (w : World) : Calls Try.prog 9 #[.pointer none] w fun e w' => e = .returned (.pointer none) ∧ w' = w := by
  go_enter Try.func9, Try.ntmps9
  go_wp2
  go_ret
  exact ⟨rfl, rfl⟩
set_option maxRecDepth 1000000 in
theorem wnew_any (a : Addr) (w : World) : Calls Try.prog 9 #[.pointer (some a)] w fun e w' => e = .returned (.pointer (some ⟨w.heap.size, 0, none⟩)) ∧ w' = w.alloc (.cells #[.pointer (some a), .bool false, .bool false, .map none, .int .i64 0, .int .i64 0, .bool false, .int .i64 0, .int .i64 0, .int .i64 0] 60) := by
  go_enter Try.func9, Try.ntmps9
  go_wp2
  go_ret
  exact ⟨rfl, rfl⟩
set_option maxRecDepth 1000000 in
theorem offline_any {w : World} {wb : Nat} {dp : Option Addr} {pl : Option Nat} {g : Gt} (h : WAt w wb dp pl g) (u : Bool) : Calls Try.prog 37 #[.pointer (some ⟨wb, 0, none⟩), .bool u] w fun e w' => (∃ v, e = .returned v) ∧ WAt w' wb dp pl { g with offl := u } ∧ Tn (· = wb) w w' := by
  have c2 := h.cell.2.2.1
  have f2 := h.frozen 2
  have H := (show Hid _ from h)
  clear h
  go_enter Try.func37, Try.ntmps37
  go_wp2
  go_end0
  exact ⟨⟨_, rfl⟩, WAt.set2 H.out u, Tn.setCell (F := (· = wb)) _ ⟨wb, 2, none⟩ rfl _⟩
set_option maxRecDepth 1000000 in
theorem power_any {w : World} {wb : Nat} {dp : Option Addr} {pl : Option Nat} {g : Gt} (h : WAt w wb dp pl g) (u : Bool) : Calls Try.prog 25 #[.pointer (some ⟨wb, 0, none⟩), .bool u] w fun e w' => (∃ v, e = .returned v) ∧ WAt w' wb dp pl { g with off := !u } ∧ Tn (· = wb) w w' := by
  have c1 := h.cell.2.1
  have f1 := h.frozen 1
  have H := (show Hid _ from h)
  clear h
  go_enter Try.func25, Try.ntmps25
  go_wp2
  go_end0
  exact ⟨⟨_, rfl⟩, WAt.set1 H.out (!u), Tn.setCell (F := (· = wb)) _ ⟨wb, 1, none⟩ rfl _⟩
end
end Go.Proofs.Ytjjncajfljbegaa
