/-
  health.Chance.
-/
import Derived.Test.YtcfjinpjijcheabCh27
namespace Go.Proofs.Ytcfjinpjijcheab
open Go.RowKit
attribute [local irreducible] dR dW p2 fR fW fV fval
def sdn (l : List Nat) : Nat → Nat
  | 0 => 0
  | t + 1 => fad (sdn l t) (l.getD (l.length - 1 - t) 0)
theorem sdn_all {k : Nat} {l : List Nat} (h : ∀ x ∈ l, Cn k x) (t : Nat) (hk : k + t ≤ 1020) : Cn (k + t) (sdn l t) := by
  induction t with
  | zero => exact cn_zero _
  | succ t ih => exact (fad_ok (by omega) (ih (by omega)) (.inl (((get_all h _).mono (Nat.le_add_right k t)).nn (by omega)))).2.1
theorem sdn_step {k : Nat} {l : List Nat} (h : ∀ x ∈ l, Cn k x) (t : Nat) (hk : k + t ≤ 1020) : floatBits .add .f64 (sdn l t) (l.getD (l.length - 1 - t) 0) = some (sdn l (t + 1)) :=
  (fad_ok (by omega) (sdn_all h t hk) (.inl (((get_all h _).mono (Nat.le_add_right k t)).nn (by omega)))).1
def fin1 (s : Nat) : Nat := if (F6.order s 4607182418800017408 == some .gt) = true then 4607182418800017408 else s
theorem fin_order {k s : Nat} (h : Cn k s) (hk : k ≤ 1023) : F6.order s 4607182418800017408 = some (compare s 4607182418800017408) := by
  have hs : s ≤ 9218868437227405312 := by unfold Cn at h; omega
  rw [order_nn hk (h.nn hk) ((cn_one k).nn hk), frg_small hs, frg_small (by omega)]
theorem min_run {k s : Nat} (h : Cn k s) (hk : k ≤ 1023) (ts : Array TypeId) (ty : TypeId) (W : World) : (Builtin.min_ ts ty #[.float .f64 s, .float .f64 4607182418800017408]).run Try.prog W = .ok (.float .f64 (fin1 s)) W := by
  have hs : s ≤ 9218868437227405312 := by unfold Cn at h; omega
  have ho : FloatKind.f64.format.order s 4607182418800017408 = some (compare s 4607182418800017408) := fin_order h hk
  unfold fin1
  rw [show F6.order s 4607182418800017408 = some (compare s 4607182418800017408) from ho]
  simp only [Builtin.min_, List.foldlM_cons, List.foldlM_nil, Builtin.min2, ho]
  cases hc : compare s 4607182418800017408 with
  | lt => simp
  | gt => simp
  | eq =>
    have : s = 4607182418800017408 := Nat.compare_eq_eq.1 hc
    subst this
    simp
theorem fin1_cn {k s : Nat} (h : Cn k s) : Cn k (fin1 s) := by
  unfold fin1
  split
  · exact cn_one k
  · exact h
/-- What Chance answers. -/
def chv (fs : List Nat) (m : Int) : Nat × Int :=
  if 255 < fs.length then (0, 3) else if m < 0 ∨ (fs.any fun y => !isCh y) = true then (0, 2) else (fin1 (sdn (chl fs) (fs.length - m.toNat)), 0)
theorem chl_all {fs : List Nat} (h : ∀ f ∈ fs, isCh f = true) (t : Nat) (ht : t ≤ fs.length) (hl : t ≤ 1000) : ∀ x ∈ chl (fs.take t), Cn t x := by
  induction t with
  | zero => intro x hx; simp [chl] at hx; subst hx; exact cn_one _
  | succ t ih =>
    have e : fs.take (t + 1) = fs.take t ++ [fs[t]] := by rw [List.take_add_one, List.getElem?_eq_getElem (by omega)]; rfl
    rw [e, chl_snoc]
    exact stp_all (ih (by omega) (by omega)) (by omega) (isCh_ok (h _ (List.getElem_mem _)))
theorem chl_take (fs : List Nat) (t : Nat) (ht : t < fs.length) : chl (fs.take (t + 1)) = stp (chl (fs.take t)) (fs.getD t 0) := by
  rw [List.take_add_one, List.getElem?_eq_getElem ht]
  simp only [Option.toList_some]
  rw [chl_snoc]
  simp [List.getD, ht]
theorem any_false {fs : List Nat} (h : ¬ (fs.any fun y => !isCh y) = true) : ∀ f ∈ fs, isCh f = true := by
  intro f hf
  cases hc : isCh f with
  | true => rfl
  | false => exact absurd (List.any_eq_true.2 ⟨f, hf, by simp [hc]⟩) h
section
attribute [local irreducible] Calls fad fmu fsu stn fls cel stp sdn isCh fin1
set_option maxRecDepth 1000000 in
set_option maxHeartbeats 4000000 in
theorem chance_any {w : World} {a : Option Addr} {fs : List Nat} (h : Fr w a fs) (n c : Nat) (m : Int) (hn : fs.length = n) (hm : n ≤ 140737488355328) :
    Calls Try.prog 19 #[.slice a n c, .int .i64 m] w fun e w' => e = .returned (.tuple #[.float .f64 (chv fs m).1, .int .i64 (chv fs m).2]) ∧ Below w.heap.size w w' := by
  unfold chv
  rw [hn]
  by_cases h1 : 255 < n
  · rw [if_pos h1]
    have i1 : (255 : Int) < (n : Int) := by omega
    go_enter Try.func19, Try.ntmps19
    go_wp2
    go_ret2
    exact ⟨rfl, Below.refl _ _⟩
  · rw [if_neg h1]
    have i1 : ¬ (255 : Int) < (n : Int) := by omega
    by_cases h2 : m < 0
    · rw [if_pos (.inl h2)]
      go_enter Try.func19, Try.ntmps19
      go_wp2
      go_ret2
      exact ⟨rfl, Below.refl _ _⟩
    · have HC := (show Hid _ from contC_any h n c hn hm)
      cases h3 : (fs.any fun y => !isCh y) with
      | true =>
        rw [if_pos (.inr rfl)]
        rw [h3] at HC
        go_enter Try.func19, Try.ntmps19
        go_wp2_with (go_at_call 33; refine HC.out.mono ?_; rintro e w1 ⟨rfl, hb1⟩)
        go_ret2
        exact ⟨rfl, hb1⟩
      | false =>
        rw [if_neg (by simp [h2])]
        rw [h3] at HC
        have hall := (show Hid _ from any_false (fs := fs) (by simp [h3]))
        obtain ⟨M, rfl⟩ : ∃ M : Nat, m = (M : Int) := ⟨m.toNat, by omega⟩
        rw [Int.toNat_natCast]
        have HH := (show Hid (Fr w a fs) from h)
        obtain ⟨L, hL⟩ : ∃ L, Hid (chl fs = L) := ⟨_, rfl⟩
        obtain ⟨s, hs⟩ : ∃ s, n - M = s := ⟨_, rfl⟩
        rw [hL.out, hs]
        have HD := (show Hid (fin1 (sdn L s) = _) from rfl)
        clear h h3
        go_enter Try.func19, Try.ntmps19
        go_wp2_with (go_at_call 33; refine HC.out.mono ?_; rintro e w1 ⟨rfl, hb1⟩)
        go_loopw [6, 23] (fun o i wr => ∃ t : Nat, t ≤ n ∧ i = .int .i64 (t : Int) ∧ (∃ g, o = .slice (some ⟨g, 0, none⟩) (t + 1) (t + 1) ∧ w.heap.size ≤ g ∧ Bl wr 22 g (fc (chl (fs.take t)))) ∧ Below w.heap.size w wr) (fun _ i _ => n - (intOf i).toNat)
        case atStart => exact ⟨0, Nat.zero_le _, rfl, ⟨_, rfl, hb1.size, bl_new w1 22 [.float .f64 4607182418800017408]⟩, bt hb1 (balloc _ _)⟩
        case round =>
          obtain ⟨t, ht, rfl, ⟨g, rfl, hg, hO⟩, hb⟩ := hrel
          have hlc : (chl (fs.take t)).length = t + 1 := by rw [chl_len, List.length_take]; omega
          have hal := chl_all hall.out t (by omega) (by omega)
          by_cases hlt : t < n
          · have hi : (t : Int) < (n : Int) := by omega
            obtain ⟨b, o, rfl, hd⟩ := Fr.at HH.out (by omega)
            have g1 := cell_below (hd t (by omega)) hb
            have hf := isCh_ok (hall.out (fs.getD t 0) (by rw [show fs.getD t 0 = fs[t]'(by omega) by simp [List.getD, hn, hlt]]; exact List.getElem_mem _))
            have HO := (show Hid _ from oneMore_any (f := fs.getD t 0) hO.rd (t + 1) (t + 1) hlc (by omega) hal (by omega) hf)
            have hct := chl_take fs t (by omega)
            obtain ⟨y, hy⟩ : ∃ y, fs.getD t 0 = y := ⟨_, rfl⟩
            rw [hy] at g1 HO hct
            rw [← hct] at HO
            go_wp2_with (go_at_call 35; refine HO.out.mono ?_; rintro e w2 ⟨rfl, hB2, hb2⟩)
            go_roundw
            case rel => exact ⟨t + 1, hlt, by go_num, ⟨_, rfl, hb.size, hB2⟩, bt hb hb2⟩
            case measure => simp [intOf]; omega
          · obtain rfl : t = n := by omega
            rw [List.take_of_length_le (by omega)] at hO hlc hal
            have HO := (show Hid _ from hO)
            have HL := (show Hid (_ ∧ _) from ⟨hlc, hal⟩)
            clear hO hlc hal
            rw [hL.out] at HO HL
            have HB := (show Hid _ from hb)
            clear hb
            go_wp2
            clear i1
            go_loopw [9, 10] (fun o i wr' => ∃ j : Nat, j ≤ s ∧ o = .float .f64 (sdn L j) ∧ i = .int .i64 ((t : Int) - (j : Int)) ∧ Below wr.heap.size wr wr') (fun _ i _ => (intOf i - (M : Int)).toNat)
            case atStart => exact ⟨0, Nat.zero_le _, by unfold sdn; rfl, by simp, Below.refl _ _⟩
            case round =>
              obtain ⟨j, hj, rfl, rfl, hb'⟩ := hrel
              by_cases hjs : j < s
              · have hi : (M : Int) < (t : Int) - (j : Int) := by omega
                have g1 := (Bl.below HO.out hb').cell (t - j)
                rw [fc_at _ _ (by rw [HL.out.1]; omega)] at g1
                have a1 := fl_run (sdn_step HL.out.2 j (by omega))
                rw [HL.out.1, show t + 1 - 1 - j = t - j by omega] at a1
                obtain ⟨y, hy⟩ : ∃ y, L.getD (t - j) 0 = y := ⟨_, rfl⟩
                obtain ⟨z, hz⟩ : ∃ z, sdn L j = z := ⟨_, rfl⟩
                obtain ⟨z2, hz2⟩ : ∃ z2, Hid (sdn L (j + 1) = z2) := ⟨_, rfl⟩
                rw [hy] at g1 a1
                rw [hz, hz2.out] at a1
                rw [hz]
                obtain ⟨i, hij⟩ : ∃ i, t - j = i := ⟨_, rfl⟩
                rw [hij] at g1
                rw [show (t : Int) - (j : Int) = (i : Int) by omega] at hi ⊢
                have i2 : (i : Int) < (t : Int) + 1 := by omega
                go_wp2
                go_roundw
                case rel => exact ⟨j + 1, by omega, by rw [hz2.out], by congr 1; omega, hb'⟩
                case measure => simp [intOf]; omega
              · obtain rfl : j = s := by omega
                have hi : ¬ (M : Int) < (t : Int) - (j : Int) := by omega
                have mr := min_run (sdn_all HL.out.2 j (by omega)) (by omega)
                go_wp2
                go_ret2
                exact ⟨rfl, bt HB.out hb'⟩
end
end Go.Proofs.Ytcfjinpjijcheab
