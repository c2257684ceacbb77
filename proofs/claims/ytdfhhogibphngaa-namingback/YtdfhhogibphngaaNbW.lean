/-
  The law of the way there and back: the walk.
-/
import Derived.Test.YtdfhhogibphngaaNw
namespace Go.Proofs.Ytdfhhogibphngaa
open Go.RowKit Go.Maps Go.Sort
section
attribute [local irreducible] Calls
set_option maxRecDepth 1000000 in
theorem fit_any (k : Tx) (w : World) : Calls Try.prog 19 #[encStr k] w fun e w' => e = .returned (.bool (decide (1 ≤ k.length ∧ k.length ≤ 255))) ∧ w' = w := by
  go_enter Try.func19, Try.ntmps19
  go_wp2
  all_goals
    go_ret
    refine ⟨ret_bool ?_, rfl⟩
    first | (rw [decide_eq_decide]; omega) | (rw [Bool.eq_iff_iff]; simp; omega)
set_option maxHeartbeats 4000000 in
set_option maxRecDepth 1000000 in
theorem back_ok (k : Tx) (h : fitK k) (w : World) : Calls Try.prog 8 #[encStr k] w fun e w' => e = .returned (.bool true) ∧ Below w.heap.size w w' := by
  have hf := fit_any k
  have h' := h
  unfold fitK at h'
  rw [decide_eq_true h'] at hf
  obtain ⟨t, htk⟩ : ∃ t, t = nm k := ⟨_, rfl⟩
  have ho := object_ok k h
  have hky := key_any t
  have hkd := kind_any t
  rw [← htk] at ho
  have hl : Hid (t.length = 1 + 2 * k.length) := by show _ = _; rw [htk, nm_len]
  have hl' := hl.out
  have hne : ((t.length : Int) != 1 + 2 * (k.length : Int)) = false := by simp; omega
  have hb3 : ¬ t.length = 1 := by omega
  have b1 : (t == [116]) = false := by
    have : ¬ t = [116] := fun e => hb3 (by rw [e]; rfl)
    simp [this]
  have b2 : (t == [108]) = false := by
    have : ¬ t = [108] := fun e => hb3 (by rw [e]; rfl)
    simp [this]
  have hx0 : ∀ w, (Instr.index 9 (.string ⟨t.toArray⟩) (.int .i64 0)).run Try.prog w = .ok (.int .u8 111) w := fun w => by have := idx_at t 0 (by omega) w; rw [htk] at this ⊢; exact this
  have hkt : ky t = some k := by rw [htk]; exact ky_nm h
  rw [hkt] at hky
  have hk1 : knd t = 1 := by
    unfold knd
    rw [if_neg (fun e => hb3 (by rw [e]; rfl)), if_neg (fun e => hb3 (by rw [e]; rfl)), hkt]
    rfl
  rw [hk1] at hkd
  have hdg : Hid (∀ i, 1 ≤ i → i < t.length → ∃ E : Int, (∀ w, (Instr.index 9 (.string ⟨t.toArray⟩) (.int .i64 (i : Int))).run Try.prog w = .ok (.int .u8 E) w) ∧ (48 ≤ E ∧ E ≤ 57 ∨ 97 ≤ E ∧ E ≤ 102)) := fun i h1 h2 => by
    refine ⟨((t.getD i 0).toNat : Int), fun w => idx_at t i h2 w, ?_⟩
    have hm : t.getD i 0 ∈ dgs k := by
      rw [htk] at h2 ⊢
      cases i with
      | zero => omega
      | succ i =>
        have h3 : i < (dgs k).length := by simp [nm] at h2; exact h2
        simp only [nm, List.getD, List.getElem?_cons_succ, List.getElem?_eq_getElem h3, Option.getD_some]
        exact List.getElem_mem h3
    have := dgs_nu k _ hm
    unfold nu at this
    split at this
    · left; omega
    · split at this
      · right; omega
      · omega
  have l255 : (k.length : Int) ≤ 255 := by omega
  have hL : (t.length : Int) ≤ 511 := by omega
  have hf := hf
  clear hkt hk1 htk hb3 hl' h h'
  go_enter Try.func8, Try.ntmps8
  go_wp2_with (first
    | (go_at_call 11; refine (ho _).mono ?_; rintro e w2 ⟨rfl, hb2⟩)
    | (go_at_call 19; refine (hf _).mono ?_; rintro e w3 ⟨rfl, hw⟩; rw [hw]; clear hw w3)
    | (go_at_call 9; refine (known_any _).mono ?_; rintro e w1 ⟨rfl, hb1⟩))
  have hb12 := below_trans hb1 hb2 hb1.size
  go_loopw [5] (fun i wr => ∃ j : Nat, 1 ≤ j ∧ j ≤ t.length ∧ i = .int .i64 j ∧ Below w.heap.size w wr) (fun i _ => t.length - (intOf i).toNat)
  case atStart => exact ⟨1, Nat.le_refl _, by have := hl.out; omega, rfl, hb12⟩
  case round =>
    obtain ⟨j, hj1, hj, rfl, hb⟩ := hrel
    by_cases hlt : j < t.length
    · have hi1 : (j : Int) < (t.length : Int) := by omega
      obtain ⟨E, hx, hE⟩ := hdg.out j hj1 hlt
      rcases hE with ⟨e1, e2⟩ | ⟨e1, e2⟩
      · go_wp2
        go_roundw
        case rel => exact ⟨j + 1, by omega, by omega, by go_num, hb⟩
        case measure => simp [intOf]; omega
      · have e3 : 48 ≤ E := by omega
        have e4 : ¬ E ≤ 57 := by omega
        go_wp2
        go_roundw
        case rel => exact ⟨j + 1, by omega, by omega, by go_num, hb⟩
        case measure => simp [intOf]; omega
    · obtain rfl : j = t.length := by omega
      go_wp2_with (first
        | (go_at_call 13; refine (hky _).mono ?_; rintro e w3 ⟨rfl, hb3⟩; unfold kres)
        | (go_at_call 14; refine (hkd _).mono ?_; rintro e w4 ⟨rfl, hb4⟩))
      go_ret
      exact ⟨rfl, below_trans (below_trans hb hb3 hb.size) hb4 (Nat.le_trans hb.size hb3.size)⟩
set_option maxRecDepth 1000000 in
theorem back_no (k : Tx) (h : ¬ fitK k) (w : World) : Calls Try.prog 8 #[encStr k] w fun e w' => e = .returned (.bool true) ∧ Below w.heap.size w w' := by
  have hf := fit_any k
  have h' := h
  unfold fitK at h'
  rw [decide_eq_false h'] at hf
  have ho := object_no k h
  clear h h'
  go_enter Try.func8, Try.ntmps8
  go_wp2_with (first
    | (go_at_call 11; refine (ho _).mono ?_; rintro e w2 ⟨rfl, hw⟩; rw [hw]; clear hw w2)
    | (go_at_call 19; refine (hf _).mono ?_; rintro e w3 ⟨rfl, hw⟩; rw [hw]; clear hw w3)
    | (go_at_call 9; refine (known_any _).mono ?_; rintro e w1 ⟨rfl, hb1⟩))
  go_ret
  exact ⟨rfl, hb1⟩
theorem back_walk (k : Tx) (w : World) : Calls Try.prog 8 #[encStr k] w fun e w' => e = .returned (.bool true) ∧ Below w.heap.size w w' := by
  by_cases h : fitK k
  · exact back_ok k h w
  · exact back_no k h w
end
end Go.Proofs.Ytdfhhogibphngaa
