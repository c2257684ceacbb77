/-
  The law's helpers: 'fit', 'places', 'cut'.
-/
import Derived.Test.YtgokkppojhokbaaCl
namespace Go.Proofs.Ytgokkppojhokbaa
open Go.RowKit
theorem infoBo : (Try.prog.info? 4).map (fun i => (i.zero, i.size, i.bytes)) = some (some (.bool false), 1, 1) := by kernel_rfl
theorem makeBo (n : Nat) (hn : n ≤ 1000) (w : World) : (Instr.makeSlice 40 (.int .i64 (n : Int)) (.int .i64 (n : Int))).run Try.prog w = .ok (.slice (some ⟨w.heap.size, 0, none⟩) n n) (w.alloc (.cells (Array.replicate (n * 1) (.bool false)) 4)) :=
  make_any Try.underlying40 infoBo rfl (by decide) n (by omega) (by omega) w
section
attribute [local irreducible] Calls
end
/-- Marks at the places of a list. -/
def bm (P : List Nat) (i : Nat) : Value := .bool (decide (i ∈ P))
theorem bm_nil (i : Nat) : bm [] i = .bool false := by unfold bm; simp
theorem bm_cons (P : List Nat) (t i : Nat) : (if i = t then .bool true else bm P i) = bm (t :: P) i := by
  unfold bm
  by_cases e : i = t
  · simp [e]
  · simp [e]
section
attribute [local irreducible] Calls Jr Ov bm
end
/-- How many of the first N places are in the list. -/
def hit (P : List Nat) (N : Nat) : Nat := ((List.range N).filter (fun i => decide (i ∈ P))).length
theorem hit_succ (P : List Nat) (N : Nat) : hit P (N + 1) = hit P N + (if N ∈ P then 1 else 0) := by
  unfold hit
  rw [List.range_succ, List.filter_append, List.length_append]
  by_cases h : N ∈ P
  · simp [h]
  · simp [h]
theorem hit_cons (a : Nat) (P : List Nat) (N : Nat) : hit (a :: P) N ≤ hit P N + (if a < N then 1 else 0) := by
  induction N with
  | zero => simp [hit]
  | succ N ih =>
    rw [hit_succ, hit_succ]
    by_cases h1 : N ∈ P
    · rw [if_pos h1, if_pos (List.mem_cons_of_mem _ h1)]
      by_cases h2 : a < N
      · rw [if_pos h2] at ih; rw [if_pos (by omega)]; omega
      · rw [if_neg h2] at ih; omega
    · rw [if_neg h1]
      by_cases h3 : N = a
      · subst h3
        rw [if_neg (by omega)] at ih
        rw [if_pos (show N ∈ N :: P by simp), if_pos (show N < N + 1 by omega)]; omega
      · rw [if_neg (by simp [h1, h3])]
        by_cases h2 : a < N
        · rw [if_pos h2] at ih; rw [if_pos (by omega)]; omega
        · rw [if_neg h2] at ih; omega
theorem hit_le (P : List Nat) (N : Nat) : hit P N ≤ P.length := by
  induction P with
  | nil => simp [hit]
  | cons a P ih =>
    have := hit_cons a P N
    rw [List.length_cons]
    by_cases h : a < N
    · rw [if_pos h] at this; omega
    · rw [if_neg h] at this; omega
/-- The lengths of what is left. -/
def lo (P : List Nat) (n i : Nat) : Nat := if i ∈ P then 0 else n
theorem thr_hit (P : List Nat) {n : Nat} (hn : 0 < n) (N : Nat) : (thr (lo P n) N).length + hit P N = N := by
  induction N with
  | zero => rfl
  | succ N ih =>
    rw [hit_succ]
    by_cases h : N ∈ P
    · rw [thr_neg (by unfold lo; rw [if_pos h]; omega), if_pos h]; omega
    · rw [thr_pos (by unfold lo; rw [if_neg h]; exact hn), if_neg h, List.length_append]
      simp
      omega
theorem thr_enough (P : List Nat) {n k m : Nat} (hn : 0 < n) (hP : P.length ≤ m) : k ≤ (thr (lo P n) (k + m)).length := by
  have := thr_hit P hn (k + m)
  have := hit_le P (k + m)
  omega
theorem wrap_nat (z : Nat) (h : z ≤ 140737488355328) : wrap64 (z : Int) = (z : Int) := by unfold wrap64; omega
theorem cut_piece {w : World} {p : Option Addr} {nb cb lo n : Nat} {x : Nat → BitVec 8} (h : NrE w (.slice p nb cb) nb x) (hc : nb ≤ cb) (hl : lo + n ≤ nb) : ∃ V : Value, (∀ w', (Instr.slice 23 (.slice p nb cb) (some (.int .i64 (lo : Int))) (some (.int .i64 ((lo : Int) + (n : Int)))) none).run Try.prog w' = .ok V w') ∧ NrE w V n (fun j => x (lo + j)) := by
  refine ⟨sliced p lo (lo + n) cb 1, fun w' => ?_, ?_⟩
  · have hu : Try.prog.underlying 23 = some (.slice (Try.prog.elem 23)) := by kernel_rfl
    have hz : (sizeOf (Try.prog.elem 23)).run Try.prog w' = .ok 1 w' := by
      obtain ⟨i0, hi, hz0, hz1, hz2⟩ := info_parts info5
      have e : Try.prog.elem 23 = 5 := by kernel_rfl
      rw [e]
      simp [sizeOf, typeInfo, hi, hz1]
    rw [run_slice_lh w' 23 p nb cb hu .i64 .i64 (lo : Int) ((lo : Int) + (n : Int)) (by omega) (by omega) (by omega), hz]
    rfl
  · obtain ⟨p', c', e, h⟩ := nr_un h
    injection e with e1 e2 e3
    subst e1
    unfold sliced
    refine ⟨_, _, by rw [Nat.add_sub_cancel_left], ?_⟩
    by_cases h0 : n = 0
    · exact .inl h0
    · obtain ⟨b, o, e, hcell⟩ := h (by omega)
      subst e
      refine .inr ⟨b, o + lo, ?_, fun i hi => ?_⟩
      · rw [if_neg (by omega), Nat.mul_one]
        exact congrArg some (add_pl b o lo)
      · have := hcell (lo + i) (by omega)
        rw [Nat.add_assoc]; exact this
section
attribute [local irreducible] Calls NmE NrE Br lv
end
end Go.Proofs.Ytgokkppojhokbaa
