/-
  Which numbers may be: isNoChance, isNoSample; slices.ContainsFunc of floats.
-/
import Derived.Test.YtcfjinpjijcheabFx27
import Derived.Test.YtcfjinpjijcheabIh27
namespace Go.Proofs.Ytcfjinpjijcheab
open Go.RowKit
/-- The test 'from -2^40 to 2^40'. -/
def isSa (x : Nat) : Bool := (F6.order 14010698440749613056 x == some .lt || F6.order 14010698440749613056 x == some .eq) && (F6.order x 4787326403894837248 == some .lt || F6.order x 4787326403894837248 == some .eq)
section
attribute [local irreducible] Calls
set_option maxRecDepth 1000000 in
theorem noChance_any (x : Nat) (w : World) : Calls Try.prog 34 #[.float .f64 x] w fun e w' => e = .returned (.bool (!isCh x)) ∧ w' = w := by
  unfold isCh
  cases h1 : (FloatKind.f64.format.order 0 x == some .lt || FloatKind.f64.format.order 0 x == some .eq)
  · go_enter Try.func34, Try.ntmps34
    go_wp2
    go_ret
    simp
  · go_enter Try.func34, Try.ntmps34
    go_wp2
    go_ret
    simp
set_option maxRecDepth 1000000 in
theorem noSample_any (x : Nat) (w : World) : Calls Try.prog 36 #[.float .f64 x] w fun e w' => e = .returned (.bool (!isSa x)) ∧ w' = w := by
  unfold isSa
  cases h1 : (FloatKind.f64.format.order 14010698440749613056 x == some .lt || FloatKind.f64.format.order 14010698440749613056 x == some .eq)
  · go_enter Try.func36, Try.ntmps36
    go_wp2
    go_ret
    simp
  · go_enter Try.func36, Try.ntmps36
    go_wp2
    go_ret
    simp
set_option maxRecDepth 1000000 in
set_option maxHeartbeats 1000000 in
theorem indexC_any {w : World} {a : Option Addr} {xs : List Nat} (h : Fr w a xs) (n c : Nat) (hn : xs.length = n) (hm : n ≤ 140737488355328) :
    Calls Try.prog 43 #[.slice a n c, .func (.func 34) #[] #[]] w fun e w' => ∃ z : Int, e = .returned (.int .i64 z) ∧ decide (0 ≤ z) = xs.any (fun y => !isCh y) ∧ Below w.heap.size w w' := by
  have HG := (show Hid _ from noChance_any)
  have HH := (show Hid (Fr w a xs) from h)
  clear h
  go_enter Try.func43, Try.ntmps43
  go_wp2
  go_loopw [8] (fun i wr => ∃ t : Nat, t ≤ n ∧ i = .int .i64 (t : Int) ∧ Hid (∀ j, j < t → (!isCh (xs.getD j 0)) = false) ∧ Below w.heap.size w wr) (fun i _ => n - (intOf i).toNat)
  case atStart => exact ⟨0, Nat.zero_le _, rfl, fun j hj => by omega, Below.refl _ _⟩
  case round =>
    obtain ⟨t, ht, rfl, hf, hb⟩ := hrel
    by_cases hlt : t < n
    · have hi : (t : Int) < (n : Int) := by omega
      obtain ⟨b, o, rfl, hd⟩ := HH.out.at (by omega)
      have g1 := cell_below (hd t (by omega)) hb
      clear hd
      obtain ⟨y, hy⟩ : ∃ y, xs.getD t 0 = y := ⟨_, rfl⟩
      rw [hy] at g1
      cases ht2 : (!isCh y) with
      | true =>
        go_wp2_with (go_at_call 34; refine (HG.out _ _).mono ?_; rintro e w2 ⟨rfl, h⟩; obtain rfl := h.symm; rw [ht2])
        go_ret
        refine ⟨_, rfl, ?_, hb⟩
        have : xs.any (fun y => !isCh y) = true := by
          rw [List.any_eq_true]
          refine ⟨y, ?_, ht2⟩
          have ht' : t < xs.length := by omega
          rw [← hy, show xs.getD t 0 = xs[t] by simp [List.getD, ht']]
          exact List.getElem_mem _
        rw [this]
        simp
      | false =>
        go_wp2_with (go_at_call 34; refine (HG.out _ _).mono ?_; rintro e w2 ⟨rfl, h⟩; obtain rfl := h.symm; rw [ht2])
        go_roundw
        case rel =>
          refine ⟨t + 1, hlt, by go_num, fun j hj => ?_, hb⟩
          by_cases e : j = t
          · rw [e, hy]; exact ht2
          · exact hf.out j (by omega)
        case measure => simp [intOf]; omega
    · obtain rfl : t = n := by omega
      go_wp2
      go_ret
      refine ⟨_, rfl, ?_, hb⟩
      have : xs.any (fun y => !isCh y) = false := by
        rw [Bool.eq_false_iff]
        intro h
        rw [List.any_eq_true] at h
        obtain ⟨y, hy, h2⟩ := h
        obtain ⟨i, hi, rfl⟩ := List.getElem_of_mem hy
        have := hf.out i (by omega)
        rw [show xs.getD i 0 = xs[i] by simp [List.getD, hi], h2] at this
        cases this
      rw [this]
      simp
theorem contC_any {w : World} {a : Option Addr} {xs : List Nat} (h : Fr w a xs) (n c : Nat) (hn : xs.length = n) (hm : n ≤ 140737488355328) :
    Calls Try.prog 33 #[.slice a n c, .func (.func 34) #[] #[]] w fun e w' => e = .returned (.bool (xs.any (fun y => !isCh y))) ∧ Below w.heap.size w w' := by
  have H := (show Hid _ from indexC_any h n c hn hm)
  clear h
  go_enter Try.func33, Try.ntmps33
  go_wp2_with (go_at_call 43; refine H.out.mono ?_; rintro e w2 ⟨z, rfl, hz, hb⟩)
  go_ret
  exact ⟨by rw [← hz]; rfl, hb⟩
set_option maxRecDepth 1000000 in
set_option maxHeartbeats 1000000 in
theorem indexS_any {w : World} {a : Option Addr} {xs : List Nat} (h : Fr w a xs) (n c : Nat) (hn : xs.length = n) (hm : n ≤ 140737488355328) :
    Calls Try.prog 43 #[.slice a n c, .func (.func 36) #[] #[]] w fun e w' => ∃ z : Int, e = .returned (.int .i64 z) ∧ decide (0 ≤ z) = xs.any (fun y => !isSa y) ∧ Below w.heap.size w w' := by
  have HG := (show Hid _ from noSample_any)
  have HH := (show Hid (Fr w a xs) from h)
  clear h
  go_enter Try.func43, Try.ntmps43
  go_wp2
  go_loopw [8] (fun i wr => ∃ t : Nat, t ≤ n ∧ i = .int .i64 (t : Int) ∧ Hid (∀ j, j < t → (!isSa (xs.getD j 0)) = false) ∧ Below w.heap.size w wr) (fun i _ => n - (intOf i).toNat)
  case atStart => exact ⟨0, Nat.zero_le _, rfl, fun j hj => by omega, Below.refl _ _⟩
  case round =>
    obtain ⟨t, ht, rfl, hf, hb⟩ := hrel
    by_cases hlt : t < n
    · have hi : (t : Int) < (n : Int) := by omega
      obtain ⟨b, o, rfl, hd⟩ := HH.out.at (by omega)
      have g1 := cell_below (hd t (by omega)) hb
      clear hd
      obtain ⟨y, hy⟩ : ∃ y, xs.getD t 0 = y := ⟨_, rfl⟩
      rw [hy] at g1
      cases ht2 : (!isSa y) with
      | true =>
        go_wp2_with (go_at_call 36; refine (HG.out _ _).mono ?_; rintro e w2 ⟨rfl, h⟩; obtain rfl := h.symm; rw [ht2])
        go_ret
        refine ⟨_, rfl, ?_, hb⟩
        have : xs.any (fun y => !isSa y) = true := by
          rw [List.any_eq_true]
          refine ⟨y, ?_, ht2⟩
          have ht' : t < xs.length := by omega
          rw [← hy, show xs.getD t 0 = xs[t] by simp [List.getD, ht']]
          exact List.getElem_mem _
        rw [this]
        simp
      | false =>
        go_wp2_with (go_at_call 36; refine (HG.out _ _).mono ?_; rintro e w2 ⟨rfl, h⟩; obtain rfl := h.symm; rw [ht2])
        go_roundw
        case rel =>
          refine ⟨t + 1, hlt, by go_num, fun j hj => ?_, hb⟩
          by_cases e : j = t
          · rw [e, hy]; exact ht2
          · exact hf.out j (by omega)
        case measure => simp [intOf]; omega
    · obtain rfl : t = n := by omega
      go_wp2
      go_ret
      refine ⟨_, rfl, ?_, hb⟩
      have : xs.any (fun y => !isSa y) = false := by
        rw [Bool.eq_false_iff]
        intro h
        rw [List.any_eq_true] at h
        obtain ⟨y, hy, h2⟩ := h
        obtain ⟨i, hi, rfl⟩ := List.getElem_of_mem hy
        have := hf.out i (by omega)
        rw [show xs.getD i 0 = xs[i] by simp [List.getD, hi], h2] at this
        cases this
      rw [this]
      simp
theorem contS_any {w : World} {a : Option Addr} {xs : List Nat} (h : Fr w a xs) (n c : Nat) (hn : xs.length = n) (hm : n ≤ 140737488355328) :
    Calls Try.prog 33 #[.slice a n c, .func (.func 36) #[] #[]] w fun e w' => e = .returned (.bool (xs.any (fun y => !isSa y))) ∧ Below w.heap.size w w' := by
  have H := (show Hid _ from indexS_any h n c hn hm)
  clear h
  go_enter Try.func33, Try.ntmps33
  go_wp2_with (go_at_call 43; refine H.out.mono ?_; rintro e w2 ⟨z, rfl, hz, hb⟩)
  go_ret
  exact ⟨by rw [← hz]; rfl, hb⟩
end
end Go.Proofs.Ytcfjinpjijcheab
