/-
  The deferred function of 'reading', of each kind.
-/
import Derived.Test.YtfcjkaigmlfjnaaRr
namespace Go.Proofs.Ytfcjkaigmlfjnaa
open Go.RowKit
section
attribute [local irreducible] Calls el
-- u8
set_option maxRecDepth 1000000 in
theorem catch_u8 {q r : Nat} {w : World} {v : Value} {f : Int} (c : Int) (older : List PanicEntry) (hq : w.cell? ⟨q, 0, none⟩ = some (.pointer (some ⟨r, 0, none⟩))) (hr : w.heap[r]? = some (.cells #[v, .int .i64 f] 94 (0, 0))) :
    CallsD Try.prog 65 #[.pointer (some ⟨q, 0, none⟩)] (.panicking ({ v := .iface 36 (.int .i64 c), recovered := false } :: older)) w fun e u' w' =>
      e = .returned (.tuple #[]) ∧ u' = .panicking ({ v := .iface 36 (.int .i64 c), recovered := true } :: older) ∧ w' = w.setCell ⟨r, 1, none⟩ (.int .i64 c) := by
  have h1 : w.cell? ⟨r, 1, none⟩ = some (.int .i64 f) := cell_of_row w r 1 _ _ (0, 0) hr
  have h2 := frozen_of_row w r 1 _ _ hr
  refine callsD_of_wpS Try.func65 rfl fun c₀ cs hu => ?_
  apply wpS_seq
  apply wpS_region
  simp [wpOpsS, go_sem, recoverD, hu, ta_errno, Try.ntmps65, Exit.thenS]
  apply wpS_seq
  apply wpS_region
  simp [wpOpsS, go_sem, Exit.thenS]
  refine wpS_cond (t := true) (by simp [Act.eval, Array.replicate]) ?_
  simp only [if_true]
  apply wpS_region
  simp [wpOpsS, go_sem, hq, h1, h2, bodyPostS, results, Try.results65]
set_option maxRecDepth 1000000 in
theorem idle_u8 {q : Nat} {w : World} :
    CallsD Try.prog 65 #[.pointer (some ⟨q, 0, none⟩)] .returning w fun e u' w' => e = .returned (.tuple #[]) ∧ u' = .returning ∧ w' = w := by
  refine callsD_of_wpS Try.func65 rfl fun c₀ cs hu => ?_
  apply wpS_seq
  apply wpS_region
  simp [wpOpsS, go_sem, recoverD, hu, ta_nil, Try.ntmps65, Exit.thenS]
  apply wpS_seq
  apply wpS_region
  simp [wpOpsS, go_sem, Exit.thenS]
  refine wpS_cond (t := false) (by simp [Act.eval, Array.replicate]) ?_
  simp only [Bool.false_eq_true, if_false]
  refine wpS_of_wp (wp_skip ?_)
  cases c₀
  simp_all [bodyPostS, results, Try.results65]
-- u16
set_option maxRecDepth 1000000 in
theorem catch_u32 {q r : Nat} {w : World} {v : Value} {f : Int} (c : Int) (older : List PanicEntry) (hq : w.cell? ⟨q, 0, none⟩ = some (.pointer (some ⟨r, 0, none⟩))) (hr : w.heap[r]? = some (.cells #[v, .int .i64 f] 94 (0, 0))) :
    CallsD Try.prog 61 #[.pointer (some ⟨q, 0, none⟩)] (.panicking ({ v := .iface 36 (.int .i64 c), recovered := false } :: older)) w fun e u' w' =>
      e = .returned (.tuple #[]) ∧ u' = .panicking ({ v := .iface 36 (.int .i64 c), recovered := true } :: older) ∧ w' = w.setCell ⟨r, 1, none⟩ (.int .i64 c) := by
  have h1 : w.cell? ⟨r, 1, none⟩ = some (.int .i64 f) := cell_of_row w r 1 _ _ (0, 0) hr
  have h2 := frozen_of_row w r 1 _ _ hr
  refine callsD_of_wpS Try.func61 rfl fun c₀ cs hu => ?_
  apply wpS_seq
  apply wpS_region
  simp [wpOpsS, go_sem, recoverD, hu, ta_errno, Try.ntmps61, Exit.thenS]
  apply wpS_seq
  apply wpS_region
  simp [wpOpsS, go_sem, Exit.thenS]
  refine wpS_cond (t := true) (by simp [Act.eval, Array.replicate]) ?_
  simp only [if_true]
  apply wpS_region
  simp [wpOpsS, go_sem, hq, h1, h2, bodyPostS, results, Try.results61]
set_option maxRecDepth 1000000 in
theorem idle_u32 {q : Nat} {w : World} :
    CallsD Try.prog 61 #[.pointer (some ⟨q, 0, none⟩)] .returning w fun e u' w' => e = .returned (.tuple #[]) ∧ u' = .returning ∧ w' = w := by
  refine callsD_of_wpS Try.func61 rfl fun c₀ cs hu => ?_
  apply wpS_seq
  apply wpS_region
  simp [wpOpsS, go_sem, recoverD, hu, ta_nil, Try.ntmps61, Exit.thenS]
  apply wpS_seq
  apply wpS_region
  simp [wpOpsS, go_sem, Exit.thenS]
  refine wpS_cond (t := false) (by simp [Act.eval, Array.replicate]) ?_
  simp only [Bool.false_eq_true, if_false]
  refine wpS_of_wp (wp_skip ?_)
  cases c₀
  simp_all [bodyPostS, results, Try.results61]
-- u64
set_option maxRecDepth 1000000 in
theorem catch_by {q r : Nat} {w : World} {v : Value} {f : Int} (c : Int) (older : List PanicEntry) (hq : w.cell? ⟨q, 0, none⟩ = some (.pointer (some ⟨r, 0, none⟩))) (hr : w.heap[r]? = some (.cells #[v, .int .i64 f] 94 (0, 0))) :
    CallsD Try.prog 62 #[.pointer (some ⟨q, 0, none⟩)] (.panicking ({ v := .iface 36 (.int .i64 c), recovered := false } :: older)) w fun e u' w' =>
      e = .returned (.tuple #[]) ∧ u' = .panicking ({ v := .iface 36 (.int .i64 c), recovered := true } :: older) ∧ w' = w.setCell ⟨r, 1, none⟩ (.int .i64 c) := by
  have h1 : w.cell? ⟨r, 1, none⟩ = some (.int .i64 f) := cell_of_row w r 1 _ _ (0, 0) hr
  have h2 := frozen_of_row w r 1 _ _ hr
  refine callsD_of_wpS Try.func62 rfl fun c₀ cs hu => ?_
  apply wpS_seq
  apply wpS_region
  simp [wpOpsS, go_sem, recoverD, hu, ta_errno, Try.ntmps62, Exit.thenS]
  apply wpS_seq
  apply wpS_region
  simp [wpOpsS, go_sem, Exit.thenS]
  refine wpS_cond (t := true) (by simp [Act.eval, Array.replicate]) ?_
  simp only [if_true]
  apply wpS_region
  simp [wpOpsS, go_sem, hq, h1, h2, bodyPostS, results, Try.results62]
set_option maxRecDepth 1000000 in
theorem idle_by {q : Nat} {w : World} :
    CallsD Try.prog 62 #[.pointer (some ⟨q, 0, none⟩)] .returning w fun e u' w' => e = .returned (.tuple #[]) ∧ u' = .returning ∧ w' = w := by
  refine callsD_of_wpS Try.func62 rfl fun c₀ cs hu => ?_
  apply wpS_seq
  apply wpS_region
  simp [wpOpsS, go_sem, recoverD, hu, ta_nil, Try.ntmps62, Exit.thenS]
  apply wpS_seq
  apply wpS_region
  simp [wpOpsS, go_sem, Exit.thenS]
  refine wpS_cond (t := false) (by simp [Act.eval, Array.replicate]) ?_
  simp only [Bool.false_eq_true, if_false]
  refine wpS_of_wp (wp_skip ?_)
  cases c₀
  simp_all [bodyPostS, results, Try.results62]
-- tx
end
end Go.Proofs.Ytfcjkaigmlfjnaa
