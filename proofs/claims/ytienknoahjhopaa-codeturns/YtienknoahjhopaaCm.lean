/-
  The law's helpers: 'fit', 'places', 'cut'.
-/
import Derived.Test.YtienknoahjhopaaCl
namespace Go.Proofs.Ytienknoahjhopaa
open Go.RowKit
theorem infoBo : (Try.prog.info? 4).map (fun i => (i.zero, i.size, i.bytes)) = some (some (.bool false), 1, 1) := by kernel_rfl
section
attribute [local irreducible] Calls
set_option maxHeartbeats 4000000 in
set_option maxRecDepth 1000000 in
theorem pick_int (k n : Int) (h1 : 1 ≤ n) (h2 : n ≤ 255) (w : World) : Calls Try.prog 22 #[.int .i64 k, .int .i64 n] w fun e w' => ∃ t : Nat, e = .returned (.int .i64 (t : Int)) ∧ (t : Int) < n ∧ w' = w := by
  obtain ⟨m, rfl⟩ : ∃ m : Nat, n = (m : Int) := ⟨n.toNat, by omega⟩
  exact (pick_ok k m (by omega) (by omega) w).mono fun e w' ⟨t, he, ht, hw⟩ => ⟨t, he, by omega, hw⟩
end
/-- Marks at the places of a list. -/
def bm (P : List Nat) (i : Nat) : Value := .bool (decide (i ∈ P))
theorem bm_nil (i : Nat) : bm [] i = .bool false := by unfold bm; simp
theorem bm_cons (P : List Nat) (t i : Nat) : (if i = t then .bool true else bm P i) = bm (t :: P) i := by
  unfold bm
  by_cases e : i = t
  · simp [e]
  · simp [e]
section
attribute [local irreducible] Calls Jr Ov bm
end
/-- How many of the first N places are in the list. -/
def hit (P : List Nat) (N : Nat) : Nat := ((List.range N).filter (fun i => decide (i ∈ P))).length
theorem hit_succ (P : List Nat) (N : Nat) : hit P (N + 1) = hit P N + (if N ∈ P then 1 else 0) := by
  unfold hit
  rw [List.range_succ, List.filter_append, List.length_append]
  by_cases h : N ∈ P
  · simp [h]
  · simp [h]
theorem hit_cons (a : Nat) (P : List Nat) (N : Nat) : hit (a :: P) N ≤ hit P N + (if a < N then 1 else 0) := by
  induction N with
  | zero => simp [hit]
  | succ N ih =>
    rw [hit_succ, hit_succ]
    by_cases h1 : N ∈ P
    · rw [if_pos h1, if_pos (List.mem_cons_of_mem _ h1)]
      by_cases h2 : a < N
      · rw [if_pos h2] at ih; rw [if_pos (by omega)]; omega
      · rw [if_neg h2] at ih; omega
    · rw [if_neg h1]
      by_cases h3 : N = a
      · subst h3
        rw [if_neg (by omega)] at ih
        rw [if_pos (show N ∈ N :: P by simp), if_pos (show N < N + 1 by omega)]; omega
      · rw [if_neg (by simp [h1, h3])]
        by_cases h2 : a < N
        · rw [if_pos h2] at ih; rw [if_pos (by omega)]; omega
        · rw [if_neg h2] at ih; omega
theorem hit_le (P : List Nat) (N : Nat) : hit P N ≤ P.length := by
  induction P with
  | nil => simp [hit]
  | cons a P ih =>
    have := hit_cons a P N
    rw [List.length_cons]
    by_cases h : a < N
    · rw [if_pos h] at this; omega
    · rw [if_neg h] at this; omega
/-- The lengths of what is left. -/
def lo (P : List Nat) (n i : Nat) : Nat := if i ∈ P then 0 else n
theorem thr_hit (P : List Nat) {n : Nat} (hn : 0 < n) (N : Nat) : (thr (lo P n) N).length + hit P N = N := by
  induction N with
  | zero => rfl
  | succ N ih =>
    rw [hit_succ]
    by_cases h : N ∈ P
    · rw [thr_neg (by unfold lo; rw [if_pos h]; omega), if_pos h]; omega
    · rw [thr_pos (by unfold lo; rw [if_neg h]; exact hn), if_neg h, List.length_append]
      simp
      omega
theorem thr_enough (P : List Nat) {n k m : Nat} (hn : 0 < n) (hP : P.length ≤ m) : k ≤ (thr (lo P n) (k + m)).length := by
  have := thr_hit P hn (k + m)
  have := hit_le P (k + m)
  omega
theorem wrap_nat (z : Nat) (h : z ≤ 140737488355328) : wrap64 (z : Int) = (z : Int) := by unfold wrap64; omega
theorem cut_piece {w : World} {p : Option Addr} {nb cb lo n : Nat} {x : Nat → BitVec 8} (h : NrE w (.slice p nb cb) nb x) (hc : nb ≤ cb) (hl : lo + n ≤ nb) : ∃ V : Value, (∀ w', (Instr.slice 23 (.slice p nb cb) (some (.int .i64 (lo : Int))) (some (.int .i64 ((lo : Int) + (n : Int)))) none).run Try.prog w' = .ok V w') ∧ NrE w V n (fun j => x (lo + j)) := by
  refine ⟨sliced p lo (lo + n) cb 1, fun w' => ?_, ?_⟩
  · have hu : Try.prog.underlying 23 = some (.slice (Try.prog.elem 23)) := by kernel_rfl
    have hz : (sizeOf (Try.prog.elem 23)).run Try.prog w' = .ok 1 w' := by
      obtain ⟨i0, hi, hz0, hz1, hz2⟩ := info_parts info5
      have e : Try.prog.elem 23 = 5 := by kernel_rfl
      rw [e]
      simp [sizeOf, typeInfo, hi, hz1]
    rw [run_slice_lh w' 23 p nb cb hu .i64 .i64 (lo : Int) ((lo : Int) + (n : Int)) (by omega) (by omega) (by omega), hz]
    rfl
  · obtain ⟨p', c', e, h⟩ := nr_un h
    injection e with e1 e2 e3
    subst e1
    unfold sliced
    refine ⟨_, _, by rw [Nat.add_sub_cancel_left], ?_⟩
    by_cases h0 : n = 0
    · exact .inl h0
    · obtain ⟨b, o, e, hcell⟩ := h (by omega)
      subst e
      refine .inr ⟨b, o + lo, ?_, fun i hi => ?_⟩
      · rw [if_neg (by omega), Nat.mul_one]
        exact congrArg some (add_pl b o lo)
      · have := hcell (lo + i) (by omega)
        rw [Nat.add_assoc]; exact this
section
attribute [local irreducible] Calls NmE NrE Br lv
set_option maxHeartbeats 8000000 in
set_option maxRecDepth 1000000 in
theorem cut_core (p : Option Addr) (nb cb n k : Nat) (x : Nat → BitVec 8) (w : World) (hk1 : 1 ≤ k) (hk : k ≤ 255) (hnb : nb ≤ 140737488355328) (hc : nb ≤ cb) (hn : Hid (nb / k = n)) (H1 : Hid (NrE w (.slice p nb cb) nb x)) :
    Calls Try.prog 23 #[.slice p nb cb, .int .i64 (k : Int)] w fun e w' => ∃ v, e = .returned v ∧ Bm w.heap.size w' v k (fun _ => n) (fun i j => x (i * n + j)) ∧ Below w.heap.size w w' := by
  obtain ⟨i0, hif, hz0, hz1, hz2⟩ := info_parts infoY
  have j0 : ¬ (k : Int) = 0 := by omega
  have j00 : ¬ k = 0 := by omega
  have hn1 : Hid (k * n ≤ nb) := by show _ ≤ _; rw [← hn.out]; exact Nat.mul_div_le nb k
  have hn2 : n ≤ nb := by rw [← hn.out]; exact Nat.div_le_self nb k
  have d1 : (nb : Int) / (k : Int) = (n : Int) := by rw [← Int.natCast_ediv, hn.out]
  have d2 : (nb : Int).tdiv (k : Int) = (n : Int) := by rw [Int.tdiv_eq_ediv_of_nonneg (by omega), d1]
  go_enter Try.func23, Try.ntmps23
  go_wp2
  go_loopw [6, 7] (fun v i wr => ∃ (t : Nat) (rows : Nat → Value), t ≤ k ∧ i = .int .i64 t ∧ wr.ownsRow w.heap.size 23 1 v t (lv rows t) ∧ Hid (∀ i, i < t → Br wr (rows i) n (fun j => x (i * n + j))) ∧ Below w.heap.size w wr) (fun _ i _ => k - (intOf i).toNat)
  case atStart => exact ⟨0, fun _ => .bool false, Nat.zero_le _, rfl, lv_none _ _ _ _ _, fun i hi => by omega, Below.refl _ _⟩
  case round =>
    clear d1 d2
    obtain ⟨t, rows, ht, rfl, hown, hR, hb⟩ := hrel
    by_cases hlt : t < k
    · have j1 : (t : Int) < (k : Int) := by omega
      have M1 : Hid (t + 1 ≤ maxLen) := by show _ ≤ _; unfold maxLen; omega
      have a1 : (t + 1) * n ≤ k * n := Nat.mul_le_mul_right n hlt
      have a2 : (t + 1) * n = t * n + n := Nat.succ_mul t n
      have a3 := hn1.out
      have b1 : ((t : Int) * (n : Int)) = ((t * n : Nat) : Int) := (Int.natCast_mul t n).symm
      have b2 : (((t : Int) + 1) * (n : Int)) = ((t * n + n : Nat) : Int) := by rw [← a2, Int.natCast_mul]; rfl
      obtain ⟨lo, hlo⟩ : ∃ lo, lo = t * n := ⟨_, rfl⟩
      rw [← hlo] at b1 b2 a2
      have y1 : wrap64 ((t : Int) * (n : Int)) = (lo : Int) := by rw [b1]; exact wrap_nat _ (Nat.le_trans (Nat.le_add_right lo n) (a2 ▸ Nat.le_trans a1 (Nat.le_trans a3 hnb)))
      have y2 : wrap64 (((t : Int) + 1) * (n : Int)) = (lo : Int) + (n : Int) := by rw [b2]; exact wrap_nat _ (a2 ▸ Nat.le_trans a1 (Nat.le_trans a3 hnb))
      obtain ⟨V, hV, hNV⟩ := cut_piece (lo := lo) (n := n) (NrE.below H1.out hb) hc (a2 ▸ Nat.le_trans a1 a3)
      have HNV := (show Hid _ from hNV)
      have HLO : Hid (lo = t * n) := hlo
      clear hlo a1 a2 a3 b1 b2 hNV
      go_wp2_with (first
        | (at_builtin; refine wpList_clone_b rfl _ _ rfl rfl _ n _ rfl HNV.out (by omega) ?_; intro v1 w2 hI2 hb2; obtain ⟨px, cx, ex⟩ := hI2.form; subst ex; have hown2 := owns_below hown hb2)
        | (at_builtin; refine wpList_append_own _ rfl _ _ 22 rfl w.heap.size 23 i0 (.slice none 0 0) 1 24 Try.underlying22 hif hz0 hz1 hz2 rfl (by decide) _ _ _ rfl (hown2.alloc _) ⟨_, 0, none⟩ 1 1 [.slice px n cx] rfl rfl (one_new _ _ _) (one_cellv rfl) M1.out (by omega) (by have := hb.size; have := hb2.size; simp at *; omega) ?_; intro v' w3 hown' hgrow _))
      have hb3 := below_append ((bt hb hb2).alloc (by have := hb.size; have := hb2.size; omega) _) (by have := hb.size; have := hb2.size; simp at *; omega) hgrow (hown2.alloc _) (Nat.le_refl _)
      rw [push_lv] at hown'
      rw [HLO.out] at hI2
      have hR3 : Hid (∀ i, i < t + 1 → Br w3 ((fun i => if i = t then .slice px n cx else rows i) i) n (fun j => x (i * n + j))) := push_br (l := fun _ => n) (M := fun i j => x (i * n + j)) hown2 hgrow (fun i hi => (hR.out i hi).below hb2) hI2
      clear hown hgrow hR hown2 hI2
      go_roundw
      case rel => exact ⟨t + 1, _, by omega, by go_num, hown', hR3, hb3⟩
      case measure => simp [intOf]; omega
    · obtain rfl : t = k := by omega
      go_wp2
      go_ret
      exact ⟨_, rfl, ⟨rows, hown, hR.out⟩, hb⟩
end
end Go.Proofs.Ytienknoahjhopaa
