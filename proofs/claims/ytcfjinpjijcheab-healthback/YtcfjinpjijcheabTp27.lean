/-
  health.Turn, cairnref27.Turn.
-/
import Derived.Test.YtcfjinpjijcheabTn27
namespace Go.Proofs.Ytcfjinpjijcheab
open Go.RowKit
/-- By how many quarters the sample t is turned. -/
def qtr (k : Int) (t : Nat) : Nat := ((k % 4).toNat * t) % 4
def stpT (k : Int) (t x : Nat) (s : Nat × Nat) : Nat × Nat :=
  if qtr k t = 0 then (fad s.1 x, s.2) else if qtr k t = 1 then (s.1, fad s.2 x) else if qtr k t = 2 then (fsu s.1 x, s.2) else (s.1, fsu s.2 x)
def acc (k : Int) (xs : List Nat) : Nat → Nat × Nat
  | 0 => (0, 0)
  | t + 1 => stpT k t (xs.getD t 0) (acc k xs t)
theorem acc_succ (k : Int) (xs : List Nat) (t : Nat) : acc k xs (t + 1) = stpT k t (xs.getD t 0) (acc k xs t) := rfl
theorem acc_ok {k : Int} {xs : List Nat} (h : ∀ x ∈ xs, isSa x = true) (t : Nat) (ht : t ≤ xs.length) (ht2 : t ≤ 1000000) : Ac t (acc k xs t).1 ∧ Ac t (acc k xs t).2 := by
  induction t with
  | zero => exact ⟨Ac.zero 0, Ac.zero 0⟩
  | succ t ih =>
    obtain ⟨h1, h2⟩ := ih (by omega) (by omega)
    have hx : Sm (xs.getD t 0) := isSa_ok (h _ (by rw [show xs.getD t 0 = xs[t] by simp [List.getD, show t < xs.length by omega]]; exact List.getElem_mem _))
    show Ac (t + 1) (stpT k t (xs.getD t 0) (acc k xs t)).1 ∧ Ac (t + 1) (stpT k t (xs.getD t 0) (acc k xs t)).2
    unfold stpT
    split
    · exact ⟨(add_ac (by omega) h1 hx).2, h2.mono (by omega)⟩
    · split
      · exact ⟨h1.mono (by omega), (add_ac (by omega) h2 hx).2⟩
      · split
        · exact ⟨(sub_ac (by omega) h1 hx).2, h2.mono (by omega)⟩
        · exact ⟨h1.mono (by omega), (sub_ac (by omega) h2 hx).2⟩
/-- What Turn answers. -/
def trv (xs : List Nat) (k : Int) : (Nat × Nat) × Int :=
  if 65536 < xs.length then ((0, 0), 3) else if (xs.any fun y => !isSa y) = true then ((0, 0), 2) else (acc k xs xs.length, 0)
theorem any_falseS {fs : List Nat} (h : (fs.any fun y => !isSa y) = false) : ∀ f ∈ fs, isSa f = true := by
  intro f hf
  cases hc : isSa f with
  | true => rfl
  | false =>
    have h2 : (fs.any fun y => !isSa y) = true := List.any_eq_true.2 ⟨f, hf, by simp [hc]⟩
    rw [h] at h2
    cases h2
theorem cx_run {op : BinOp} (hop : op = .add ∨ op = .sub) {a b c d re im : Nat} (h1 : floatBits op .f64 a c = some re) (h2 : floatBits op .f64 b d = some im) : ∀ (t : TypeId) (W : World), (binOp op t (.complex .f64 a b) (.complex .f64 c d)).run Try.prog W = .ok (.complex .f64 re im) W := fun t W =>
  run_complex_sum W op hop t .f64 a b c d re im (by unfold cSumBits; rw [h1, h2]; rfl)
theorem k4 (k : Int) : ∃ K : Nat, K < 4 ∧ k % 4 = (K : Int) := ⟨(k % 4).toNat, by omega, by omega⟩
section
attribute [local irreducible] Calls fad fmu fsu isSa acc qtr
set_option maxRecDepth 1000000 in
set_option maxHeartbeats 4000000 in
theorem turn_any {w : World} {a : Option Addr} {xs : List Nat} (h : Fr w a xs) (n c : Nat) (k : Int) (hn : xs.length = n) (hm : n ≤ 140737488355328) :
    Calls Try.prog 21 #[.slice a n c, .int .i64 k] w fun e w' => e = .returned (.tuple #[.complex .f64 (trv xs k).1.1 (trv xs k).1.2, .int .i64 (trv xs k).2]) ∧ Below w.heap.size w w' := by
  unfold trv
  rw [hn]
  by_cases h1 : 65536 < n
  · rw [if_pos h1]
    have i1 : (65536 : Int) < (n : Int) := by omega
    go_enter Try.func21, Try.ntmps21
    go_wp2
    go_ret2
    exact ⟨rfl, Below.refl _ _⟩
  · rw [if_neg h1]
    have i1 : ¬ (65536 : Int) < (n : Int) := by omega
    have HC := (show Hid _ from contS_any h n c hn hm)
    cases h3 : (xs.any fun y => !isSa y) with
    | true =>
      rw [if_pos rfl]
      rw [h3] at HC
      go_enter Try.func21, Try.ntmps21
      go_wp2_with (go_at_call 33; refine HC.out.mono ?_; rintro e w1 ⟨rfl, hb1⟩)
      go_ret2
      exact ⟨rfl, hb1⟩
    | false =>
      rw [if_neg (by simp)]
      rw [h3] at HC
      have hall := (show Hid _ from any_falseS h3)
      have HH := (show Hid (Fr w a xs) from h)
      obtain ⟨K, hK, hk4⟩ := k4 k
      have b1 : bits .and .i64 k 3 = (K : Int) := by rw [i64_and3, hk4]
      have HK := (show Hid (∀ t, qtr k t = (K * t) % 4) from fun t => by unfold qtr; rw [hk4, Int.toNat_natCast])
      clear h h3 hk4
      go_enter Try.func21, Try.ntmps21
      go_wp2_with (go_at_call 33; refine HC.out.mono ?_; rintro e w1 ⟨rfl, hb1⟩)
      go_loopw [6, 16] (fun o i wr => ∃ t : Nat, t ≤ n ∧ i = .int .i64 (t : Int) ∧ o = .complex .f64 (acc k xs t).1 (acc k xs t).2 ∧ Below w.heap.size w wr) (fun _ i _ => n - (intOf i).toNat)
      case atStart => exact ⟨0, Nat.zero_le _, rfl, by unfold acc; rfl, hb1⟩
      case round =>
        obtain ⟨t, ht, rfl, rfl, hb⟩ := hrel
        by_cases hlt : t < n
        · have hi : (t : Int) < (n : Int) := by omega
          obtain ⟨b, o, rfl, hd⟩ := Fr.at HH.out (by omega)
          have g1 := cell_below (hd t (by omega)) hb
          clear hd
          obtain ⟨A1, A2⟩ := acc_ok (k := k) hall.out t (by omega) (by omega)
          have hx : Sm (xs.getD t 0) := isSa_ok (hall.out _ (by rw [show xs.getD t 0 = xs[t]'(by omega) by simp [List.getD, show t < xs.length by omega]]; exact List.getElem_mem _))
          have hac : Hid (acc k xs (t + 1) = stpT k t (xs.getD t 0) (acc k xs t)) := acc_succ k xs t
          obtain ⟨y, hy⟩ : ∃ y, xs.getD t 0 = y := ⟨_, rfl⟩
          obtain ⟨re, hre⟩ : ∃ y, (acc k xs t).1 = y := ⟨_, rfl⟩
          obtain ⟨im, him⟩ : ∃ y, (acc k xs t).2 = y := ⟨_, rfl⟩
          have hac2 : Hid (acc k xs (t + 1) = stpT k t y (re, im)) := by rw [hac.out, hy, ← hre, ← him]; rfl
          rw [hy] at g1 hx
          rw [hre] at A1 ⊢
          rw [him] at A2 ⊢
          obtain ⟨P, hP⟩ : ∃ P : Nat, K * t = P := ⟨_, rfl⟩
          have hP2 : (K : Int) * (t : Int) = (P : Int) := by rw [← hP, Int.natCast_mul]
          have hPb : P ≤ 200000 := by rw [← hP]; have := Nat.mul_le_mul (show K ≤ 3 by omega) (show t ≤ 65536 by omega); omega
          have hq : Hid (qtr k t = P % 4) := by rw [HK.out t, hP]; rfl
          have b2 : bits .and .i64 (P : Int) 3 = ((P % 4 : Nat) : Int) := by rw [i64_and3]; omega
          have a1 := cx_run (op := .add) (.inl rfl) (add_ac (by omega) A1 hx).1 (add_zero_ac A2)
          have a2 := cx_run (op := .add) (.inl rfl) (add_zero_ac A1) (add_ac (by omega) A2 hx).1
          have a3 := cx_run (op := .sub) (.inr rfl) (sub_ac (by omega) A1 hx).1 (sub_zero_ac A2)
          have a4 := cx_run (op := .sub) (.inr rfl) (sub_zero_ac A1) (sub_ac (by omega) A2 hx).1
          clear hac hy hP hre him A1 A2 hx
          have h4 : P % 4 = 0 ∨ P % 4 = 1 ∨ P % 4 = 2 ∨ P % 4 = 3 := by omega
          rcases h4 with h4 | h4 | h4 | h4
          · rw [h4] at b2
            have e9 : acc k xs (t + 1) = (fad re y, im) := by rw [hac2.out]; unfold stpT; rw [hq.out, if_pos h4]
            have HE := (show Hid _ from e9)
            clear e9 a2 a3 a4
            go_wp2
            go_roundw
            case rel => exact ⟨t + 1, hlt, by go_num, by rw [HE.out], hb⟩
            case measure => simp [intOf]; omega
          · rw [h4] at b2
            have e9 : acc k xs (t + 1) = (re, fad im y) := by rw [hac2.out]; unfold stpT; rw [hq.out, h4]; rfl
            have HE := (show Hid _ from e9)
            clear e9 a1 a3 a4
            go_wp2
            go_roundw
            case rel => exact ⟨t + 1, hlt, by go_num, by rw [HE.out], hb⟩
            case measure => simp [intOf]; omega
          · rw [h4] at b2
            have e9 : acc k xs (t + 1) = (fsu re y, im) := by rw [hac2.out]; unfold stpT; rw [hq.out, h4]; rfl
            have HE := (show Hid _ from e9)
            clear e9 a1 a2 a4
            go_wp2
            go_roundw
            case rel => exact ⟨t + 1, hlt, by go_num, by rw [HE.out], hb⟩
            case measure => simp [intOf]; omega
          · rw [h4] at b2
            have e9 : acc k xs (t + 1) = (re, fsu im y) := by rw [hac2.out]; unfold stpT; rw [hq.out, h4]; rfl
            have HE := (show Hid _ from e9)
            clear e9 a1 a2 a3
            go_wp2
            go_roundw
            case rel => exact ⟨t + 1, hlt, by go_num, by rw [HE.out], hb⟩
            case measure => simp [intOf]; omega
        · obtain rfl : t = n := by omega
          go_wp2
          go_ret2
          exact ⟨rfl, hb⟩
end
end Go.Proofs.Ytcfjinpjijcheab
