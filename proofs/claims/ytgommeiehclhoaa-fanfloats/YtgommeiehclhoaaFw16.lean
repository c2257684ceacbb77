/-
  FanFloats: the walk.
-/
import Derived.Test.YtgommeiehclhoaaFq16
import Derived.BigQuiet
import Derived.Deep.QuietTactic
namespace Go.Proofs.Ytgommeiehclhoaa
open Go.RowKit
theorem three_ok : List.countP (feq 4607182418800017408) [4607182418800017408, 4611686018427387904, 4607182418800017408] = 2 := by decide +kernel
theorem below_drewN {B : Nat} {a w : World} (h : Below B a w) (n : Nat) : Below B a (w.drewN n) := ⟨h.os, h.tape, h.output, h.size, h.block⟩
theorem zero_ok : feq 0 0 = true := by decide +kernel
section
attribute [local irreducible] Calls
set_option maxRecDepth 1000000 in
set_option maxHeartbeats 4000000 in
theorem fanFloats_walk {w : World} {a : Option Addr} {xs : List Nat} (h : FrAt w a xs) (n cap x : Nat) (hn : xs.length = n) (hm : n ≤ 140737488355328) :
    Calls Try.prog 4 #[.slice a n cap, fvl x] w fun e w' => e = .returned (.bool true) ∧ Below w.heap.size w w' := by
  obtain ⟨W1, hW1⟩ : ∃ W1, W1 = w.alloc (.cells #[Value.float .f64 4607182418800017408, .float .f64 4611686018427387904, .float .f64 4607182418800017408] 38) := ⟨_, rfl⟩
  have hb1 : Below w.heap.size w W1 := by rw [hW1]; exact (Below.refl _ _).alloc (Nat.le_refl _) _
  have hF3 : FrAt W1 (some ⟨w.heap.size, 0, none⟩) [4607182418800017408, 4611686018427387904, 4607182418800017408] := .inr ⟨w.heap.size, 0, rfl, fun i hi => by
    have hr : W1.heap[w.heap.size]? = some (.cells #[Value.float .f64 4607182418800017408, .float .f64 4611686018427387904, .float .f64 4607182418800017408] 38 (0, 0)) := by rw [hW1]; exact heap_alloc_new w _
    rw [cell_of_row W1 w.heap.size (0 + i) _ _ (0, 0) hr]
    rcases i with _ | _ | _ | i
    · rfl
    · rfl
    · rfl
    · simp at hi; omega⟩
  have hF1 := h.below hb1
  have A1 := fcount_any hF3 3 3 4607182418800017408 rfl (by omega)
  rw [three_ok] at A1
  have A2 := fcount_any hF1 n cap x hn hm
  have A3 := ftimes_any hF1 n cap x hn hm
  have A4 := fmost_any hF1 n cap hn hm
  obtain ⟨c, hc⟩ : ∃ c, List.countP (feq x) xs = c := ⟨_, rfl⟩
  rw [hc] at A2 A3
  clear hc
  have HA := (show Hid (_ ∧ _ ∧ _ ∧ _) from ⟨A1, A2, A3, A4⟩)
  have HW := (show Hid _ from hW1)
  have HB := (show Hid (_ ∧ _) from ⟨hb1, hF1⟩)
  have HN := (show Hid (xs.length = n) from hn)
  clear A1 A2 A3 A4 hW1 hb1 hF3 hF1 h hn
  by_cases hz : n = 0
  · subst hz
    obtain rfl := List.length_eq_zero_iff.1 HN.out
    have z1 : ∀ W : World, (binOp .eql 38 (.float .f64 0) (.float .f64 0)).run Try.prog W = .ok (.bool true) W := fun W => (feq_run 0 0 W).trans (by rw [zero_ok])
    have z2 : ∀ (a b : Operand) (W : World), (eqGuard .eql 38 a b (.float .f64 0) (.float .f64 0)).run Try.prog W = .ok () W := fun a b W => feg_run .eql a b 0 0 W
    unfold fvl at HA
    simp only [mst] at HA
    go_enter Try.func4, Try.ntmps4
    go_wp2_with (first
    | (go_at_call 12; rw [← HW.out]; refine HA.out.1.mono ?_; rintro e w1 ⟨rfl, h⟩; obtain rfl := h.symm)
    | (go_at_call 12; refine HA.out.2.1.mono ?_; rintro e w1 ⟨rfl, h⟩; obtain rfl := h.symm)
    | (go_at_call 13; refine HA.out.2.2.1.mono ?_; rintro e w1 ⟨rfl, h⟩; obtain rfl := h.symm)
    | (go_at_call 14; refine HA.out.2.2.2.mono ?_; rintro e w2 ⟨rfl, hb2⟩))
    go_ret
    exact ⟨rfl, HB.out.1.trans (hb2.mono HB.out.1.size)⟩
  · obtain ⟨p, hp, e1, e2, e3, e4⟩ := mst_spec feq_per 0 xs (by intro e; subst e; exact hz HN.out.symm)
    obtain ⟨E, hE⟩ : ∃ E, (mst feq 0 xs).1 = E := ⟨_, rfl⟩
    obtain ⟨M, hM⟩ : ∃ M, (mst feq 0 xs).2 = M := ⟨_, rfl⟩
    rw [hE, hM] at HA
    rw [hE] at e1
    rw [hM] at e2
    simp only [hM] at e3 e4
    have ES := (show Hid ((E = xs.getD p 0) ∧ p < n ∧ (xs.countP (feq E) = M) ∧ (∀ i, i < p → xs.countP (feq (xs.getD i 0)) < M)) from by
      have hpp := hp
      rw [HN.out] at hpp
      refine ⟨by rw [e1]; simp [List.getD, hp], hpp, by rw [e1]; exact e2, fun i hi => ?_⟩
      have hil : i < xs.length := by omega
      have := e3 i hil hi
      rw [show xs.getD i 0 = xs[i] by simp [List.getD, hil]]
      exact this)
    clear e1 e2 e3 e4 hE hM hp
    have hz' : ((n : Int) == 0) = false := by simp; omega
    obtain ⟨hb1, hF⟩ := HB.out
    have HF := (show Hid (FrAt W1 a xs) from hF)
    have HB1 := (show Hid (Below w.heap.size w W1) from hb1)
    clear HB hb1
    rcases hF with rfl | ⟨b, o, rfl, hcell⟩
    · exact absurd HN.out.symm hz
    have HC := (show Hid _ from hcell)
    clear hcell
    have r1 := feq_run
    have r2 := feg_run
    have r3 := fne_run
    go_enter Try.func4, Try.ntmps4
    go_wp2_with (first
    | (go_at_call 12; rw [← HW.out]; refine HA.out.1.mono ?_; rintro e w1 ⟨rfl, h⟩; obtain rfl := h.symm)
    | (go_at_call 12; refine HA.out.2.1.mono ?_; rintro e w1 ⟨rfl, h⟩; obtain rfl := h.symm)
    | (go_at_call 13; refine HA.out.2.2.1.mono ?_; rintro e w1 ⟨rfl, h⟩; obtain rfl := h.symm)
    | (go_at_call 14; refine HA.out.2.2.2.mono ?_; rintro e w2 ⟨rfl, hb2⟩))
    have HB2 := (show Hid (Below W1.heap.size W1 w2) from hb2)
    clear hb2
    obtain ⟨hE, hp, hT, hlt⟩ := ES.out
    go_loopw [7] (fun i wr => ∃ k : Nat, k ≤ p ∧ i = .int .i64 k ∧ Below w2.heap.size w2 wr) (fun i _ => n - (intOf i).toNat)
    case atStart => exact ⟨0, Nat.zero_le _, rfl, Below.refl _ _⟩
    case round =>
      obtain ⟨k, hk, rfl, hbr⟩ := hrel
      have hkn : (k : Int) < (n : Int) := by omega
      have hall : Below W1.heap.size W1 wr := HB2.out.trans (hbr.mono HB2.out.size)
      have hFr := (show Hid (FrAt wr (some ⟨b, o, none⟩) xs) from HF.out.below hall)
      have g1 := cell_belowF (HC.out k (by rw [HN.out]; omega)) hall
      have HBB := (show Hid (Below W1.heap.size W1 wr ∧ Below w2.heap.size w2 wr) from ⟨hall, hbr⟩)
      clear hall hbr
      by_cases hkp : k < p
      · have hT1 := hlt k hkp
        obtain ⟨y, hy⟩ : ∃ y, xs.getD k 0 = y := ⟨_, rfl⟩
        rw [hy] at g1 hT1
        obtain ⟨T, hTT⟩ : ∃ T, xs.countP (feq y) = T := ⟨_, rfl⟩
        have AT := (show Hid _ from ftimes_any hFr.out n cap y HN.out hm)
        rw [hTT] at hT1 AT
        have t1 : ¬ (M : Int) < (T : Int) := by omega
        have t2 : ((T : Int) == (M : Int)) = false := by simp; omega
        clear hTT hy hE hT hlt
        go_wp2_with (go_at_call 13; refine AT.out.mono ?_; rintro e w3 ⟨rfl, h⟩; obtain rfl := h.symm)
        go_roundw
        case rel => exact ⟨k + 1, by omega, by go_num, HBB.out.2⟩
        case measure => simp [intOf]; omega
      · obtain rfl : k = p := by omega
        rw [← hE] at g1
        have AT := (show Hid _ from ftimes_any hFr.out n cap E HN.out hm)
        rw [hT] at AT
        have t2 : ((M : Int) == (M : Int)) = true := by simp
        clear hE hT hlt
        by_cases hq : feq E E = true
        · go_wp2_with (go_at_call 13; refine AT.out.mono ?_; rintro e w3 ⟨rfl, h⟩; obtain rfl := h.symm)
          go_quiet (fail)
          go_wp2
          go_ret
          exact ⟨rfl, HB1.out.trans ((below_drewN HBB.out.1 _).mono HB1.out.size)⟩
        · have hq' : feq E E = false := by simpa using hq
          go_wp2_with (go_at_call 13; refine AT.out.mono ?_; rintro e w3 ⟨rfl, h⟩; obtain rfl := h.symm)
          go_quiet (fail)
          go_wp2
          go_ret
          exact ⟨rfl, HB1.out.trans ((below_drewN HBB.out.1 _).mono HB1.out.size)⟩
end
end Go.Proofs.Ytgommeiehclhoaa
