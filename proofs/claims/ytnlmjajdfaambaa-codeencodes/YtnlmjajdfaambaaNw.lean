/-
  What is no code; CodeNews: the walk.
-/
import Derived.Test.YtnlmjajdfaambaaRmx
import Derived.Test.YtnlmjajdfaambaaMx
namespace Go.Proofs.Ytnlmjajdfaambaa
open Go.RowKit
/-- No code: a nil one, or one that was never made. -/
def NoC (w : World) (v : Value) : Prop := v = .pointer none ∨ ∃ b, v = .pointer (some ⟨b, 0, none⟩) ∧ w.cell? ⟨b, 0, none⟩ = some (.int .i64 0)
theorem NoC.below {w w' : World} {v : Value} (h : NoC w v) (hb : Below w.heap.size w w') : NoC w' v := by
  rcases h with h | ⟨b, h, hc⟩
  · exact .inl h
  · exact .inr ⟨b, h, cell_below hc hb⟩
section
attribute [local irreducible] Calls
set_option maxRecDepth 1000000 in
theorem none_yes {w : World} {v : Value} (h : NoC w v) : Calls Try.prog 39 #[v] w fun e w' => e = .returned (.bool true) ∧ w' = w := by
  rcases h with rfl | ⟨b, rfl, hc⟩
  · go_enter Try.func39, Try.ntmps39
    go_wp2
    go_ret
    exact ⟨rfl, rfl⟩
  · go_enter Try.func39, Try.ntmps39
    go_wp2
    go_ret
    exact ⟨rfl, rfl⟩
set_option maxRecDepth 1000000 in
theorem encode_no {w : World} {v : Value} (h : NoC w v) (u : Value) : Calls Try.prog 11 #[v, u] w fun e w' => e = .returned (.tuple #[.slice none 0 0, .int .i64 1]) ∧ w' = w := by
  have NO := (show Hid _ from none_yes h)
  clear h
  go_enter Try.func11, Try.ntmps11
  go_wp2_with (go_at_call 39; refine NO.out.mono ?_; rintro e w' ⟨rfl, h⟩; obtain rfl := h.symm)
  go_ret2
  exact ⟨rfl, rfl⟩
set_option maxRecDepth 1000000 in
theorem rebuild_no {w : World} {v : Value} (h : NoC w v) (u : Value) : Calls Try.prog 12 #[v, u] w fun e w' => e = .returned (.tuple #[.slice none 0 0, .int .i64 1]) ∧ w' = w := by
  have NO := (show Hid _ from none_yes h)
  clear h
  go_enter Try.func12, Try.ntmps12
  go_wp2_with (go_at_call 39; refine NO.out.mono ?_; rintro e w' ⟨rfl, h⟩; obtain rfl := h.symm)
  go_ret2
  exact ⟨rfl, rfl⟩
set_option maxRecDepth 1000000 in
theorem check_no {w : World} {v : Value} (h : NoC w v) (u : Value) : Calls Try.prog 13 #[v, u] w fun e w' => e = .returned (.tuple #[.bool false, .int .i64 1]) ∧ w' = w := by
  have NO := (show Hid _ from none_yes h)
  clear h
  go_enter Try.func13, Try.ntmps13
  go_wp2_with (go_at_call 39; refine NO.out.mono ?_; rintro e w' ⟨rfl, h⟩; obtain rfl := h.symm)
  go_ret2
  exact ⟨rfl, rfl⟩
set_option maxRecDepth 1000000 in
theorem turn_no {w : World} {v : Value} (h : NoC w v) (u a d : Value) : Calls Try.prog 14 #[v, u, a, d] w fun e w' => e = .returned (.tuple #[.slice none 0 0, .int .i64 1]) ∧ w' = w := by
  have NO := (show Hid _ from none_yes h)
  clear h
  go_enter Try.func14, Try.ntmps14
  go_wp2_with (go_at_call 39; refine NO.out.mono ?_; rintro e w' ⟨rfl, h⟩; obtain rfl := h.symm)
  go_ret2
  exact ⟨rfl, rfl⟩
set_option maxRecDepth 1000000 in
theorem matrix_no {w : World} {v : Value} (h : NoC w v) : Calls Try.prog 15 #[v] w fun e w' => e = .returned (.slice none 0 0) ∧ w' = w := by
  have NO := (show Hid _ from none_yes h)
  clear h
  go_enter Try.func15, Try.ntmps15
  go_wp2_with (go_at_call 39; refine NO.out.mono ?_; rintro e w' ⟨rfl, h⟩; obtain rfl := h.symm)
  go_ret
  exact ⟨rfl, rfl⟩
/-- Which numbers make no code. -/
def Shp (k m : Int) : Prop := 1 ≤ m ∧ m ≤ k ∧ k ≤ 255 - m
theorem w255 {m : Int} (h1 : 1 ≤ m) (h2 : m ≤ 9223372036854775807) : wrap64 (255 - m) = 255 - m := by unfold wrap64; omega
set_option maxHeartbeats 1000000 in
set_option maxRecDepth 1000000 in
theorem new_no (k m : Int) (w : World) (h : ¬ Shp k m) (HW : Hid (1 ≤ m → wrap64 (255 - m) = 255 - m)) : Calls Try.prog 9 #[.int .i64 k, .int .i64 m] w fun e w' => e = .returned (.tuple #[.pointer none, .int .i64 4]) ∧ w' = w := by
  unfold Shp at h
  by_cases h1 : m < 1
  · clear h
    go_enter Try.func9, Try.ntmps9
    go_wp2
    go_ret2
    exact ⟨rfl, rfl⟩
  · have e1 := HW.out (by omega)
    by_cases h2 : k < m
    · clear h
      go_enter Try.func9, Try.ntmps9
      go_wp2
      go_ret2
      exact ⟨rfl, rfl⟩
    · have h3 : 255 - m < k := by omega
      clear h
      go_enter Try.func9, Try.ntmps9
      go_wp2
      go_ret2
      exact ⟨rfl, rfl⟩
set_option maxHeartbeats 1000000 in
set_option maxRecDepth 1000000 in
theorem maybe_yes (k m : Int) (w : World) (h : Shp k m) : Calls Try.prog 10 #[.int .i64 k, .int .i64 m] w fun e w' => e = .returned (.bool true) ∧ w' = w := by
  obtain ⟨h1, h2, h3⟩ := h
  have h4 : k ≤ 254 := by omega
  have e1 : wrap64 (255 - k) = 255 - k := by unfold wrap64; omega
  have h5 : m ≤ 255 - k := by omega
  go_enter Try.func10, Try.ntmps10
  go_wp2
  go_ret
  exact ⟨rfl, rfl⟩
set_option maxHeartbeats 1000000 in
set_option maxRecDepth 1000000 in
theorem maybe_no (k m : Int) (w : World) (h : ¬ Shp k m) : Calls Try.prog 10 #[.int .i64 k, .int .i64 m] w fun e w' => e = .returned (.bool false) ∧ w' = w := by
  unfold Shp at h
  by_cases h1 : 1 ≤ m
  · by_cases h2 : m ≤ k
    · by_cases h4 : k ≤ 254
      · have e1 : wrap64 (255 - k) = 255 - k := by unfold wrap64; omega
        have h5 : ¬ m ≤ 255 - k := by omega
        clear h
        go_enter Try.func10, Try.ntmps10
        go_wp2
        go_ret
        exact ⟨rfl, rfl⟩
      · clear h
        go_enter Try.func10, Try.ntmps10
        go_wp2
        go_ret
        exact ⟨rfl, rfl⟩
    · clear h
      go_enter Try.func10, Try.ntmps10
      go_wp2
      go_ret
      exact ⟨rfl, rfl⟩
  · clear h
    go_enter Try.func10, Try.ntmps10
    go_wp2
    go_ret
    exact ⟨rfl, rfl⟩
end
section
attribute [local irreducible] Calls NoC
set_option maxHeartbeats 4000000 in
set_option maxRecDepth 1000000 in
theorem zero_ok (w : World) : Calls Try.prog 16 #[] w fun e w' => e = .returned (.bool true) ∧ Below w.heap.size w w' := by
  have HB : Hid (Below w.heap.size w (w.alloc (.cells #[.int .i64 0, .slice none 0 0] 72))) := (Below.refl _ _).alloc (Nat.le_refl _) _
  have HN : Hid (NoC (w.alloc (.cells #[.int .i64 0, .slice none 0 0] 72)) (.pointer (some ⟨w.heap.size, 0, none⟩))) := by
    show NoC _ _
    unfold NoC
    exact .inr ⟨_, rfl, by rw [cell_of_row _ _ _ _ _ (0, 0) (heap_alloc_new w _)]; rfl⟩
  go_enter Try.func16, Try.ntmps16
  go_wp2_with (first
    | (go_at_call 11; refine (encode_no HN.out _).mono ?_; rintro e w' ⟨rfl, h⟩; obtain rfl := h.symm)
    | (go_at_call 12; refine (rebuild_no HN.out _).mono ?_; rintro e w' ⟨rfl, h⟩; obtain rfl := h.symm)
    | (go_at_call 13; refine (check_no HN.out _).mono ?_; rintro e w' ⟨rfl, h⟩; obtain rfl := h.symm)
    | (go_at_call 14; refine (turn_no HN.out _ _ _).mono ?_; rintro e w' ⟨rfl, h⟩; obtain rfl := h.symm)
    | (go_at_call 15; refine (matrix_no HN.out).mono ?_; rintro e w' ⟨rfl, h⟩; obtain rfl := h.symm))
  go_ret
  exact ⟨rfl, HB.out⟩
end
section
attribute [local irreducible] Calls NoC NmE NrE Cd Fac shr Br lv
set_option maxHeartbeats 8000000 in
set_option maxRecDepth 1000000 in
theorem codeNews_walk (k m : Int) (w : World) (HW : Hid (1 ≤ m → wrap64 (255 - m) = 255 - m)) : Calls Try.prog 3 #[.int .i64 k, .int .i64 m] w fun e w' => e = .returned (.bool true) ∧ Below w.heap.size w w' := by
  by_cases h : Shp k m
  · have MY := (show Hid _ from fun w => maybe_yes k m w h)
    obtain ⟨h1, h2, h3⟩ := h
    obtain ⟨K, rfl⟩ : ∃ K : Nat, k = (K : Int) := ⟨k.toNat, by omega⟩
    obtain ⟨M, rfl⟩ : ∃ M : Nat, m = (M : Int) := ⟨m.toNat, by omega⟩
    have hM1 : 1 ≤ M := by omega
    have hMK : M ≤ K := by omega
    have hKM : K + M ≤ 255 := by omega
    clear h1 h2 h3 HW
    go_enter Try.func3, Try.ntmps3
    go_wp2_with (first
      | (go_at_call 9; refine (new_ok K M hM1 hMK hKM w).mono ?_; rintro e w1 ⟨v1, F, rfl, hC1, hF1, hb1⟩; have HC := (show Hid _ from hC1); have HF := (show Hid _ from hF1); obtain ⟨cb, _, _, ev, _⟩ := cd_open hC1; subst ev; clear hC1 hF1)
      | (go_at_call 10; refine (MY.out _).mono ?_; rintro e w' ⟨rfl, h⟩; obtain rfl := h.symm)
      | (go_at_call 15; refine (matrix_core (by omega) hKM HC.out).mono ?_; rintro e w2 ⟨B2, ρ2, rfl, hG2, _, hb2⟩; have HG2 := (show Hid _ from gr_nm hG2); clear hG2)
      | (go_at_call 18; refine (refMatrix_core K M (by omega) hKM w2).mono ?_; rintro e w3 ⟨v3, rows3, rfl, ho3, hR3, hb3⟩; have HN3 := (show Hid _ from Bm.nm (L := fun _ => K) (M := shr (fun t => t) K) ⟨rows3, ho3, hR3⟩); obtain ⟨p3, c3, e3⟩ := nmE_form HN3.out; subst e3; clear ho3 hR3)
      | (go_at_call 17; refine (same_core _ p3 (K + M) (K + M) c3 (fun _ => K) _ _ w3 (by omega) (NmE.below HG2.out hb3) HN3 (fun i _ j hj => shr_id HF.out (by omega) hj i)).mono ?_; rintro e w4 ⟨rfl, hb4⟩))
    go_ret
    exact ⟨rfl, bt (bt (bt hb1 hb2) hb3) hb4⟩
  · have NN := (show Hid _ from new_no k m w h HW)
    have MN := (show Hid _ from fun w => maybe_no k m w h)
    have HN : Hid (∀ w : World, NoC w (.pointer none)) := fun w => by show NoC w _; unfold NoC; exact .inl rfl
    clear h HW
    go_enter Try.func3, Try.ntmps3
    go_wp2_with (first
      | (go_at_call 9; refine NN.out.mono ?_; rintro e w' ⟨rfl, h⟩; obtain rfl := h.symm)
      | (go_at_call 10; refine (MN.out _).mono ?_; rintro e w' ⟨rfl, h⟩; obtain rfl := h.symm)
      | (go_at_call 11; refine (encode_no (HN.out _) _).mono ?_; rintro e w' ⟨rfl, h⟩; obtain rfl := h.symm)
      | (go_at_call 12; refine (rebuild_no (HN.out _) _).mono ?_; rintro e w' ⟨rfl, h⟩; obtain rfl := h.symm)
      | (go_at_call 13; refine (check_no (HN.out _) _).mono ?_; rintro e w' ⟨rfl, h⟩; obtain rfl := h.symm)
      | (go_at_call 14; refine (turn_no (HN.out _) _ _ _).mono ?_; rintro e w' ⟨rfl, h⟩; obtain rfl := h.symm)
      | (go_at_call 15; refine (matrix_no (HN.out _)).mono ?_; rintro e w' ⟨rfl, h⟩; obtain rfl := h.symm)
      | (go_at_call 16; refine (zero_ok _).mono ?_; rintro e w2 ⟨rfl, hb2⟩))
    go_ret
    exact ⟨rfl, hb2⟩
end
end Go.Proofs.Ytnlmjajdfaambaa
