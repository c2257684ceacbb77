/-
  The deferred function of 'reading', of each kind.
-/
import Derived.Test.YtmcbeikgdcgdcaaRr
namespace Go.Proofs.Ytmcbeikgdcgdcaa
open Go.RowKit
section
attribute [local irreducible] Calls el
-- u8
set_option maxRecDepth 1000000 in
theorem catch_u8 {q r : Nat} {w : World} {v : Value} {f : Int} (c : Int) (older : List PanicEntry) (hq : w.cell? ⟨q, 0, none⟩ = some (.pointer (some ⟨r, 0, none⟩))) (hr : w.heap[r]? = some (.cells #[v, .int .i64 f] 63 (0, 0))) :
    CallsD Try.prog 111 #[.pointer (some ⟨q, 0, none⟩)] (.panicking ({ v := .iface 61 (.int .i64 c), recovered := false } :: older)) w fun e u' w' =>
      e = .returned (.tuple #[]) ∧ u' = .panicking ({ v := .iface 61 (.int .i64 c), recovered := true } :: older) ∧ w' = w.setCell ⟨r, 1, none⟩ (.int .i64 c) := by
  have h1 : w.cell? ⟨r, 1, none⟩ = some (.int .i64 f) := cell_of_row w r 1 _ _ (0, 0) hr
  have h2 := frozen_of_row w r 1 _ _ hr
  refine callsD_of_wpS Try.func111 rfl fun c₀ cs hu => ?_
  apply wpS_seq
  apply wpS_region
  simp [wpOpsS, go_sem, recoverD, hu, ta_errno, Try.ntmps111, Exit.thenS]
  apply wpS_seq
  apply wpS_region
  simp [wpOpsS, go_sem, Exit.thenS]
  refine wpS_cond (t := true) (by simp [Act.eval, Array.replicate]) ?_
  simp only [if_true]
  apply wpS_region
  simp [wpOpsS, go_sem, hq, h1, h2, bodyPostS, results, Try.results111]
set_option maxRecDepth 1000000 in
theorem idle_u8 {q : Nat} {w : World} :
    CallsD Try.prog 111 #[.pointer (some ⟨q, 0, none⟩)] .returning w fun e u' w' => e = .returned (.tuple #[]) ∧ u' = .returning ∧ w' = w := by
  refine callsD_of_wpS Try.func111 rfl fun c₀ cs hu => ?_
  apply wpS_seq
  apply wpS_region
  simp [wpOpsS, go_sem, recoverD, hu, ta_nil, Try.ntmps111, Exit.thenS]
  apply wpS_seq
  apply wpS_region
  simp [wpOpsS, go_sem, Exit.thenS]
  refine wpS_cond (t := false) (by simp [Act.eval, Array.replicate]) ?_
  simp only [Bool.false_eq_true, if_false]
  refine wpS_of_wp (wp_skip ?_)
  cases c₀
  simp_all [bodyPostS, results, Try.results111]
-- u16
set_option maxRecDepth 1000000 in
theorem catch_u16 {q r : Nat} {w : World} {v : Value} {f : Int} (c : Int) (older : List PanicEntry) (hq : w.cell? ⟨q, 0, none⟩ = some (.pointer (some ⟨r, 0, none⟩))) (hr : w.heap[r]? = some (.cells #[v, .int .i64 f] 63 (0, 0))) :
    CallsD Try.prog 112 #[.pointer (some ⟨q, 0, none⟩)] (.panicking ({ v := .iface 61 (.int .i64 c), recovered := false } :: older)) w fun e u' w' =>
      e = .returned (.tuple #[]) ∧ u' = .panicking ({ v := .iface 61 (.int .i64 c), recovered := true } :: older) ∧ w' = w.setCell ⟨r, 1, none⟩ (.int .i64 c) := by
  have h1 : w.cell? ⟨r, 1, none⟩ = some (.int .i64 f) := cell_of_row w r 1 _ _ (0, 0) hr
  have h2 := frozen_of_row w r 1 _ _ hr
  refine callsD_of_wpS Try.func112 rfl fun c₀ cs hu => ?_
  apply wpS_seq
  apply wpS_region
  simp [wpOpsS, go_sem, recoverD, hu, ta_errno, Try.ntmps112, Exit.thenS]
  apply wpS_seq
  apply wpS_region
  simp [wpOpsS, go_sem, Exit.thenS]
  refine wpS_cond (t := true) (by simp [Act.eval, Array.replicate]) ?_
  simp only [if_true]
  apply wpS_region
  simp [wpOpsS, go_sem, hq, h1, h2, bodyPostS, results, Try.results112]
set_option maxRecDepth 1000000 in
theorem idle_u16 {q : Nat} {w : World} :
    CallsD Try.prog 112 #[.pointer (some ⟨q, 0, none⟩)] .returning w fun e u' w' => e = .returned (.tuple #[]) ∧ u' = .returning ∧ w' = w := by
  refine callsD_of_wpS Try.func112 rfl fun c₀ cs hu => ?_
  apply wpS_seq
  apply wpS_region
  simp [wpOpsS, go_sem, recoverD, hu, ta_nil, Try.ntmps112, Exit.thenS]
  apply wpS_seq
  apply wpS_region
  simp [wpOpsS, go_sem, Exit.thenS]
  refine wpS_cond (t := false) (by simp [Act.eval, Array.replicate]) ?_
  simp only [Bool.false_eq_true, if_false]
  refine wpS_of_wp (wp_skip ?_)
  cases c₀
  simp_all [bodyPostS, results, Try.results112]
-- u32
set_option maxRecDepth 1000000 in
theorem catch_u32 {q r : Nat} {w : World} {v : Value} {f : Int} (c : Int) (older : List PanicEntry) (hq : w.cell? ⟨q, 0, none⟩ = some (.pointer (some ⟨r, 0, none⟩))) (hr : w.heap[r]? = some (.cells #[v, .int .i64 f] 63 (0, 0))) :
    CallsD Try.prog 113 #[.pointer (some ⟨q, 0, none⟩)] (.panicking ({ v := .iface 61 (.int .i64 c), recovered := false } :: older)) w fun e u' w' =>
      e = .returned (.tuple #[]) ∧ u' = .panicking ({ v := .iface 61 (.int .i64 c), recovered := true } :: older) ∧ w' = w.setCell ⟨r, 1, none⟩ (.int .i64 c) := by
  have h1 : w.cell? ⟨r, 1, none⟩ = some (.int .i64 f) := cell_of_row w r 1 _ _ (0, 0) hr
  have h2 := frozen_of_row w r 1 _ _ hr
  refine callsD_of_wpS Try.func113 rfl fun c₀ cs hu => ?_
  apply wpS_seq
  apply wpS_region
  simp [wpOpsS, go_sem, recoverD, hu, ta_errno, Try.ntmps113, Exit.thenS]
  apply wpS_seq
  apply wpS_region
  simp [wpOpsS, go_sem, Exit.thenS]
  refine wpS_cond (t := true) (by simp [Act.eval, Array.replicate]) ?_
  simp only [if_true]
  apply wpS_region
  simp [wpOpsS, go_sem, hq, h1, h2, bodyPostS, results, Try.results113]
set_option maxRecDepth 1000000 in
theorem idle_u32 {q : Nat} {w : World} :
    CallsD Try.prog 113 #[.pointer (some ⟨q, 0, none⟩)] .returning w fun e u' w' => e = .returned (.tuple #[]) ∧ u' = .returning ∧ w' = w := by
  refine callsD_of_wpS Try.func113 rfl fun c₀ cs hu => ?_
  apply wpS_seq
  apply wpS_region
  simp [wpOpsS, go_sem, recoverD, hu, ta_nil, Try.ntmps113, Exit.thenS]
  apply wpS_seq
  apply wpS_region
  simp [wpOpsS, go_sem, Exit.thenS]
  refine wpS_cond (t := false) (by simp [Act.eval, Array.replicate]) ?_
  simp only [Bool.false_eq_true, if_false]
  refine wpS_of_wp (wp_skip ?_)
  cases c₀
  simp_all [bodyPostS, results, Try.results113]
-- u64
set_option maxRecDepth 1000000 in
theorem catch_u64 {q r : Nat} {w : World} {v : Value} {f : Int} (c : Int) (older : List PanicEntry) (hq : w.cell? ⟨q, 0, none⟩ = some (.pointer (some ⟨r, 0, none⟩))) (hr : w.heap[r]? = some (.cells #[v, .int .i64 f] 63 (0, 0))) :
    CallsD Try.prog 114 #[.pointer (some ⟨q, 0, none⟩)] (.panicking ({ v := .iface 61 (.int .i64 c), recovered := false } :: older)) w fun e u' w' =>
      e = .returned (.tuple #[]) ∧ u' = .panicking ({ v := .iface 61 (.int .i64 c), recovered := true } :: older) ∧ w' = w.setCell ⟨r, 1, none⟩ (.int .i64 c) := by
  have h1 : w.cell? ⟨r, 1, none⟩ = some (.int .i64 f) := cell_of_row w r 1 _ _ (0, 0) hr
  have h2 := frozen_of_row w r 1 _ _ hr
  refine callsD_of_wpS Try.func114 rfl fun c₀ cs hu => ?_
  apply wpS_seq
  apply wpS_region
  simp [wpOpsS, go_sem, recoverD, hu, ta_errno, Try.ntmps114, Exit.thenS]
  apply wpS_seq
  apply wpS_region
  simp [wpOpsS, go_sem, Exit.thenS]
  refine wpS_cond (t := true) (by simp [Act.eval, Array.replicate]) ?_
  simp only [if_true]
  apply wpS_region
  simp [wpOpsS, go_sem, hq, h1, h2, bodyPostS, results, Try.results114]
set_option maxRecDepth 1000000 in
theorem idle_u64 {q : Nat} {w : World} :
    CallsD Try.prog 114 #[.pointer (some ⟨q, 0, none⟩)] .returning w fun e u' w' => e = .returned (.tuple #[]) ∧ u' = .returning ∧ w' = w := by
  refine callsD_of_wpS Try.func114 rfl fun c₀ cs hu => ?_
  apply wpS_seq
  apply wpS_region
  simp [wpOpsS, go_sem, recoverD, hu, ta_nil, Try.ntmps114, Exit.thenS]
  apply wpS_seq
  apply wpS_region
  simp [wpOpsS, go_sem, Exit.thenS]
  refine wpS_cond (t := false) (by simp [Act.eval, Array.replicate]) ?_
  simp only [Bool.false_eq_true, if_false]
  refine wpS_of_wp (wp_skip ?_)
  cases c₀
  simp_all [bodyPostS, results, Try.results114]
-- tall
set_option maxRecDepth 1000000 in
theorem catch_tall {q r : Nat} {w : World} {v : Value} {f : Int} (c : Int) (older : List PanicEntry) (hq : w.cell? ⟨q, 0, none⟩ = some (.pointer (some ⟨r, 0, none⟩))) (hr : w.heap[r]? = some (.cells #[v, .int .i64 f] 63 (0, 0))) :
    CallsD Try.prog 115 #[.pointer (some ⟨q, 0, none⟩)] (.panicking ({ v := .iface 61 (.int .i64 c), recovered := false } :: older)) w fun e u' w' =>
      e = .returned (.tuple #[]) ∧ u' = .panicking ({ v := .iface 61 (.int .i64 c), recovered := true } :: older) ∧ w' = w.setCell ⟨r, 1, none⟩ (.int .i64 c) := by
  have h1 : w.cell? ⟨r, 1, none⟩ = some (.int .i64 f) := cell_of_row w r 1 _ _ (0, 0) hr
  have h2 := frozen_of_row w r 1 _ _ hr
  refine callsD_of_wpS Try.func115 rfl fun c₀ cs hu => ?_
  apply wpS_seq
  apply wpS_region
  simp [wpOpsS, go_sem, recoverD, hu, ta_errno, Try.ntmps115, Exit.thenS]
  apply wpS_seq
  apply wpS_region
  simp [wpOpsS, go_sem, Exit.thenS]
  refine wpS_cond (t := true) (by simp [Act.eval, Array.replicate]) ?_
  simp only [if_true]
  apply wpS_region
  simp [wpOpsS, go_sem, hq, h1, h2, bodyPostS, results, Try.results115]
set_option maxRecDepth 1000000 in
theorem idle_tall {q : Nat} {w : World} :
    CallsD Try.prog 115 #[.pointer (some ⟨q, 0, none⟩)] .returning w fun e u' w' => e = .returned (.tuple #[]) ∧ u' = .returning ∧ w' = w := by
  refine callsD_of_wpS Try.func115 rfl fun c₀ cs hu => ?_
  apply wpS_seq
  apply wpS_region
  simp [wpOpsS, go_sem, recoverD, hu, ta_nil, Try.ntmps115, Exit.thenS]
  apply wpS_seq
  apply wpS_region
  simp [wpOpsS, go_sem, Exit.thenS]
  refine wpS_cond (t := false) (by simp [Act.eval, Array.replicate]) ?_
  simp only [Bool.false_eq_true, if_false]
  refine wpS_of_wp (wp_skip ?_)
  cases c₀
  simp_all [bodyPostS, results, Try.results115]
-- i64
set_option maxRecDepth 1000000 in
theorem catch_i64 {q r : Nat} {w : World} {v : Value} {f : Int} (c : Int) (older : List PanicEntry) (hq : w.cell? ⟨q, 0, none⟩ = some (.pointer (some ⟨r, 0, none⟩))) (hr : w.heap[r]? = some (.cells #[v, .int .i64 f] 63 (0, 0))) :
    CallsD Try.prog 116 #[.pointer (some ⟨q, 0, none⟩)] (.panicking ({ v := .iface 61 (.int .i64 c), recovered := false } :: older)) w fun e u' w' =>
      e = .returned (.tuple #[]) ∧ u' = .panicking ({ v := .iface 61 (.int .i64 c), recovered := true } :: older) ∧ w' = w.setCell ⟨r, 1, none⟩ (.int .i64 c) := by
  have h1 : w.cell? ⟨r, 1, none⟩ = some (.int .i64 f) := cell_of_row w r 1 _ _ (0, 0) hr
  have h2 := frozen_of_row w r 1 _ _ hr
  refine callsD_of_wpS Try.func116 rfl fun c₀ cs hu => ?_
  apply wpS_seq
  apply wpS_region
  simp [wpOpsS, go_sem, recoverD, hu, ta_errno, Try.ntmps116, Exit.thenS]
  apply wpS_seq
  apply wpS_region
  simp [wpOpsS, go_sem, Exit.thenS]
  refine wpS_cond (t := true) (by simp [Act.eval, Array.replicate]) ?_
  simp only [if_true]
  apply wpS_region
  simp [wpOpsS, go_sem, hq, h1, h2, bodyPostS, results, Try.results116]
set_option maxRecDepth 1000000 in
theorem idle_i64 {q : Nat} {w : World} :
    CallsD Try.prog 116 #[.pointer (some ⟨q, 0, none⟩)] .returning w fun e u' w' => e = .returned (.tuple #[]) ∧ u' = .returning ∧ w' = w := by
  refine callsD_of_wpS Try.func116 rfl fun c₀ cs hu => ?_
  apply wpS_seq
  apply wpS_region
  simp [wpOpsS, go_sem, recoverD, hu, ta_nil, Try.ntmps116, Exit.thenS]
  apply wpS_seq
  apply wpS_region
  simp [wpOpsS, go_sem, Exit.thenS]
  refine wpS_cond (t := false) (by simp [Act.eval, Array.replicate]) ?_
  simp only [Bool.false_eq_true, if_false]
  refine wpS_of_wp (wp_skip ?_)
  cases c₀
  simp_all [bodyPostS, results, Try.results116]
-- by
set_option maxRecDepth 1000000 in
theorem catch_by {q r : Nat} {w : World} {v : Value} {f : Int} (c : Int) (older : List PanicEntry) (hq : w.cell? ⟨q, 0, none⟩ = some (.pointer (some ⟨r, 0, none⟩))) (hr : w.heap[r]? = some (.cells #[v, .int .i64 f] 63 (0, 0))) :
    CallsD Try.prog 117 #[.pointer (some ⟨q, 0, none⟩)] (.panicking ({ v := .iface 61 (.int .i64 c), recovered := false } :: older)) w fun e u' w' =>
      e = .returned (.tuple #[]) ∧ u' = .panicking ({ v := .iface 61 (.int .i64 c), recovered := true } :: older) ∧ w' = w.setCell ⟨r, 1, none⟩ (.int .i64 c) := by
  have h1 : w.cell? ⟨r, 1, none⟩ = some (.int .i64 f) := cell_of_row w r 1 _ _ (0, 0) hr
  have h2 := frozen_of_row w r 1 _ _ hr
  refine callsD_of_wpS Try.func117 rfl fun c₀ cs hu => ?_
  apply wpS_seq
  apply wpS_region
  simp [wpOpsS, go_sem, recoverD, hu, ta_errno, Try.ntmps117, Exit.thenS]
  apply wpS_seq
  apply wpS_region
  simp [wpOpsS, go_sem, Exit.thenS]
  refine wpS_cond (t := true) (by simp [Act.eval, Array.replicate]) ?_
  simp only [if_true]
  apply wpS_region
  simp [wpOpsS, go_sem, hq, h1, h2, bodyPostS, results, Try.results117]
set_option maxRecDepth 1000000 in
theorem idle_by {q : Nat} {w : World} :
    CallsD Try.prog 117 #[.pointer (some ⟨q, 0, none⟩)] .returning w fun e u' w' => e = .returned (.tuple #[]) ∧ u' = .returning ∧ w' = w := by
  refine callsD_of_wpS Try.func117 rfl fun c₀ cs hu => ?_
  apply wpS_seq
  apply wpS_region
  simp [wpOpsS, go_sem, recoverD, hu, ta_nil, Try.ntmps117, Exit.thenS]
  apply wpS_seq
  apply wpS_region
  simp [wpOpsS, go_sem, Exit.thenS]
  refine wpS_cond (t := false) (by simp [Act.eval, Array.replicate]) ?_
  simp only [Bool.false_eq_true, if_false]
  refine wpS_of_wp (wp_skip ?_)
  cases c₀
  simp_all [bodyPostS, results, Try.results117]
-- tx
set_option maxRecDepth 1000000 in
theorem catch_tx {q r : Nat} {w : World} {v : Value} {f : Int} (c : Int) (older : List PanicEntry) (hq : w.cell? ⟨q, 0, none⟩ = some (.pointer (some ⟨r, 0, none⟩))) (hr : w.heap[r]? = some (.cells #[v, .int .i64 f] 63 (0, 0))) :
    CallsD Try.prog 119 #[.pointer (some ⟨q, 0, none⟩)] (.panicking ({ v := .iface 61 (.int .i64 c), recovered := false } :: older)) w fun e u' w' =>
      e = .returned (.tuple #[]) ∧ u' = .panicking ({ v := .iface 61 (.int .i64 c), recovered := true } :: older) ∧ w' = w.setCell ⟨r, 1, none⟩ (.int .i64 c) := by
  have h1 : w.cell? ⟨r, 1, none⟩ = some (.int .i64 f) := cell_of_row w r 1 _ _ (0, 0) hr
  have h2 := frozen_of_row w r 1 _ _ hr
  refine callsD_of_wpS Try.func119 rfl fun c₀ cs hu => ?_
  apply wpS_seq
  apply wpS_region
  simp [wpOpsS, go_sem, recoverD, hu, ta_errno, Try.ntmps119, Exit.thenS]
  apply wpS_seq
  apply wpS_region
  simp [wpOpsS, go_sem, Exit.thenS]
  refine wpS_cond (t := true) (by simp [Act.eval, Array.replicate]) ?_
  simp only [if_true]
  apply wpS_region
  simp [wpOpsS, go_sem, hq, h1, h2, bodyPostS, results, Try.results119]
set_option maxRecDepth 1000000 in
theorem idle_tx {q : Nat} {w : World} :
    CallsD Try.prog 119 #[.pointer (some ⟨q, 0, none⟩)] .returning w fun e u' w' => e = .returned (.tuple #[]) ∧ u' = .returning ∧ w' = w := by
  refine callsD_of_wpS Try.func119 rfl fun c₀ cs hu => ?_
  apply wpS_seq
  apply wpS_region
  simp [wpOpsS, go_sem, recoverD, hu, ta_nil, Try.ntmps119, Exit.thenS]
  apply wpS_seq
  apply wpS_region
  simp [wpOpsS, go_sem, Exit.thenS]
  refine wpS_cond (t := false) (by simp [Act.eval, Array.replicate]) ?_
  simp only [Bool.false_eq_true, if_false]
  refine wpS_of_wp (wp_skip ?_)
  cases c₀
  simp_all [bodyPostS, results, Try.results119]
end
end Go.Proofs.Ytmcbeikgdcgdcaa
