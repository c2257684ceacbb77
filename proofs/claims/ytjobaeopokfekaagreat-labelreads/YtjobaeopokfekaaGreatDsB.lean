/-
  rising; List of a drive.
-/
import Derived.Test.YtjobaeopokfekaaGreatDsA
import Derived.Test.YtjobaeopokfekaaGreatIt
namespace Go.Proofs.YtjobaeopokfekaaGreat
open Go.RowKit Go.Maps Go.Sort
/-- A directory's names, rising. -/
def nms (D : Dir) : List Tx := (strKeys D).mergeSort (fun x y => decide (x ≤ y))
theorem nms_perm {ss : List Tx} {D : Dir} (h : ss.Perm (strKeys D)) : ss.mergeSort (fun x y => decide (x ≤ y)) = nms D := by
  have tr : ∀ a b c : Tx, decide (a ≤ b) = true → decide (b ≤ c) = true → decide (a ≤ c) = true := fun a b c h1 h2 => by simp only [decide_eq_true_eq] at *; exact List.le_trans h1 h2
  have to : ∀ a b : Tx, (decide (a ≤ b) || decide (b ≤ a)) = true := fun a b => by simp only [Bool.or_eq_true, decide_eq_true_eq]; exact List.le_total a b
  have h1 := List.pairwise_mergeSort tr to ss
  have h2 := List.pairwise_mergeSort tr to (strKeys D)
  have hp : (ss.mergeSort (fun x y => decide (x ≤ y))).Perm (nms D) := ((List.mergeSort_perm ss _).trans h).trans (List.mergeSort_perm (strKeys D) _).symm
  exact hp.eq_of_pairwise (le := fun a b : Tx => decide (a ≤ b) = true) (fun x y _ _ a b => by simp only [decide_eq_true_eq] at a b; exact List.le_antisymm a b) h1 h2
theorem nms_nil : nms (.map []) = [] := by simp [nms, strKeys]
theorem nms_mem {D : Dir} {x : Tx} : x ∈ nms D ↔ x ∈ strKeys D := (List.mergeSort_perm (strKeys D) _).mem_iff
theorem nms_len {D : Dir} : (nms D).length = (strKeys D).length := (List.mergeSort_perm (strKeys D) _).length_eq
/-- A list of texts of the call's own. -/
def Ts (w : World) (base : Nat) (v : Value) (xs : List Tx) : Prop := w.ownsRow base 9 1 v xs.length (xs.map encStr)
theorem ts_nil (w : World) (base : Nat) : Ts w base (.slice none 0 0) [] := ⟨rfl, .inl ⟨rfl, rfl⟩⟩
section
attribute [local irreducible] Calls
set_option maxHeartbeats 1000000 in
theorem rising_any {w : World} {m : List Nat} {s : Nat} {D : Dir} (h : MpAt w m s D) (hs : Maps.size D ≤ 8000000000000) : Calls Tryz.prog 73 #[.map (some s)] w fun e w' => ∃ v, e = .returned v ∧ Ts w' w.heap.size v (nms D) ∧ Below w.heap.size w w' := by
  refine (callsIn_wide (n := 6)).1 ?_
  have hfK : Fence.wide.fn 81 := trivial
  have hfS : Fence.wide.fn 80 := trivial
  refine callsIn_of_wp Tryz.func73 rfl trivial ?_ rfl
  simp only [Tryz.ntmps73, List.size_toArray, List.length_cons, List.length_nil, Nat.reduceAdd, Nat.reduceSub, Array.replicate_succ, Array.replicate_zero, List.push_toArray, List.append_toArray, List.nil_append, List.cons_append]
  gi_wp2_with (first
    | (gi_at_call 81; refine (Tryz.maps_Keys _ _).mono ?_; rintro e w' ⟨rfl, rfl⟩)
    | (gi_at_call 80; refine (Tryz.slices_Sorted_keys s (Maps.size D) D (ptR m) w h (by unfold maxLen; omega) (by omega)).mono ?_; rintro e w' ⟨v, ss, rfl, hS, hrow, hnil, hb⟩))
  go_ret
  refine ⟨v, rfl, ?_, ((Below.refl _ w).alloc (Nat.le_refl _) _).trans (hb.mono (by simp))⟩
  have h1 := ownsRow_base_a hrow (show w.heap.size ≤ _ by simp)
  rw [nms_perm hS] at h1
  have h2 : ss.length = (nms D).length := by rw [nms_len]; exact hS.length_eq
  rw [h2] at h1
  exact h1
set_option maxHeartbeats 1000000 in
theorem rising_nil (w : World) : Calls Tryz.prog 73 #[.map none] w fun e w' => e = .returned (.slice none 0 0) ∧ Below w.heap.size w w' := by
  refine (callsIn_wide (n := 6)).1 ?_
  have hfK : Fence.wide.fn 81 := trivial
  have hfS : Fence.wide.fn 80 := trivial
  refine callsIn_of_wp Tryz.func73 rfl trivial ?_ rfl
  simp only [Tryz.ntmps73, List.size_toArray, List.length_cons, List.length_nil, Nat.reduceAdd, Nat.reduceSub, Array.replicate_succ, Array.replicate_zero, List.push_toArray, List.append_toArray, List.nil_append, List.cons_append]
  gi_wp2_with (first
    | (gi_at_call 81; refine (Tryz.maps_Keys _ _).mono ?_; rintro e w' ⟨rfl, rfl⟩)
    | (gi_at_call 80; refine (Tryz.slices_Sorted_keys_nil w).mono ?_; rintro e w' ⟨v, ss, rfl, hS, hrow, hnil, hb⟩))
  go_ret
  exact ⟨by rw [hnil.2 hS]; rfl, ((Below.refl _ w).alloc (Nat.le_refl _) _).trans (hb.mono (by simp))⟩
theorem rising_st {w : World} {F : Nat → Prop} {σ : Ds} {m : List Nat} {rv : Nat → Value} {st sf : Option Nat} {pv : Value} (h : Rest w F σ m rv st sf pv) (hs : Maps.size σ.st ≤ 8000000000000) : Calls Tryz.prog 73 #[.map st] w fun e w' => ∃ v, e = .returned v ∧ Ts w' w.heap.size v (nms σ.st) ∧ Below w.heap.size w w' := by
  rcases h.dirs with ⟨rfl, rfl, e1, _⟩ | ⟨s, f, rfl, rfl, _, _, _, h1, _⟩
  · rw [e1, nms_nil]
    exact (rising_nil w).mono (fun e w' h => ⟨_, h.1, ts_nil _ _, h.2⟩)
  · exact rising_any h1 hs
theorem rising_sf {w : World} {F : Nat → Prop} {σ : Ds} {m : List Nat} {rv : Nat → Value} {st sf : Option Nat} {pv : Value} (h : Rest w F σ m rv st sf pv) (hs : Maps.size σ.sf ≤ 8000000000000) : Calls Tryz.prog 73 #[.map sf] w fun e w' => ∃ v, e = .returned v ∧ Ts w' w.heap.size v (nms σ.sf) ∧ Below w.heap.size w w' := by
  rcases h.dirs with ⟨rfl, rfl, _, e1, _⟩ | ⟨s, f, rfl, rfl, _, _, _, _, h1⟩
  · rw [e1, nms_nil]
    exact (rising_nil w).mono (fun e w' h => ⟨_, h.1, ts_nil _ _, h.2⟩)
  · exact rising_any h1 hs
end
end Go.Proofs.YtjobaeopokfekaaGreat
