/-
  cairnref27.Chance.
-/
import Derived.Test.YtcfjinpjijcheaaCj27
namespace Go.Proofs.Ytcfjinpjijcheaa
open Go.RowKit
attribute [local irreducible] dR dW p2 fR fW fV fval
theorem order_swap (f : Ieee.Format) (x y : Nat) : f.order y x = (f.order x y).map Ordering.swap := by
  unfold Ieee.Format.order
  cases f.read x <;> cases f.read y <;> simp [Ieee.Datum.order]
  case number.number a b c d e g => rw [Int.min_comm g c]; exact (Int.compare_swap _ _).symm
  case number.infinity => split <;> rfl
  case infinity.number => split <;> rfl
  case infinity.infinity a b => cases a <;> cases b <;> rfl
theorem geq_leq (x y : Nat) : (F6.order x y == some .gt || F6.order x y == some .eq) = (F6.order y x == some .lt || F6.order y x == some .eq) := by
  rw [order_swap F6 x y]
  cases F6.order x y with
  | none => rfl
  | some o => cases o <;> rfl
section
attribute [local irreducible] Calls fad fmu fsu stn fls cel sdn fin1
set_option maxRecDepth 1000000 in
set_option maxHeartbeats 8000000 in
theorem rchance_any {w : World} {a : Option Addr} {fs : List Nat} (h : Fr w a fs) (n c : Nat) (m : Int) (hn : fs.length = n) (hm : n ≤ 140737488355328) :
    Calls Try.prog 22 #[.slice a n c, .int .i64 m] w fun e w' => e = .returned (.tuple #[.float .f64 (chv fs m).1, .int .i64 (chv fs m).2]) ∧ Below w.heap.size w w' := by
  unfold chv
  rw [hn]
  by_cases h1 : 255 < n
  · rw [if_pos h1]
    have i1 : (255 : Int) < (n : Int) := by omega
    go_enter Try.func22, Try.ntmps22
    go_wp2
    go_ret2
    exact ⟨rfl, Below.refl _ _⟩
  · rw [if_neg h1]
    have i1 : ¬ (255 : Int) < (n : Int) := by omega
    have HH := (show Hid (Fr w a fs) from h)
    clear h
    obtain ⟨R, hR⟩ : ∃ R : Nat × Int, Hid ((if m < 0 ∨ (fs.any fun y => !isCh y) = true then (0, 2) else (fin1 (sdn (chl fs) (n - m.toNat)), 0)) = R) := ⟨_, rfl⟩
    rw [hR.out]
    go_enter Try.func22, Try.ntmps22
    go_wp2
    go_loopw [6] (fun i wr => ∃ t : Nat, t ≤ n ∧ i = .int .i64 (t : Int) ∧ Hid (∀ j, j < t → isCh (fs.getD j 0) = true) ∧ Below w.heap.size w wr) (fun i _ => n - (intOf i).toNat)
    case atStart => exact ⟨0, Nat.zero_le _, rfl, fun j hj => by omega, Below.refl _ _⟩
    case round =>
      obtain ⟨t, ht, rfl, hf, hb⟩ := hrel
      by_cases hlt : t < n
      · have hi : (t : Int) < (n : Int) := by omega
        obtain ⟨b, o, rfl, hd⟩ := Fr.at HH.out (by omega)
        have g1 := cell_below (hd t (by omega)) hb
        clear hd
        have bad : isCh (fs.getD t 0) = false → (m < 0 ∨ (fs.any fun y => !isCh y) = true) := fun hh => .inr (List.any_eq_true.2 ⟨fs.getD t 0, by rw [show fs.getD t 0 = fs[t]'(by omega) by simp [List.getD, hn, hlt]]; exact List.getElem_mem _, by rw [hh]; rfl⟩)
        have good : isCh (fs.getD t 0) = true → Hid (∀ j, j < t + 1 → isCh (fs.getD j 0) = true) := fun hh j hj => by
          by_cases e : j = t
          · rw [e]; exact hh
          · exact hf.out j (by omega)
        have HBG := (show Hid (_ ∧ _) from ⟨bad, good⟩)
        clear bad good
        obtain ⟨y, hy⟩ : ∃ y, fs.getD t 0 = y := ⟨_, rfl⟩
        rw [hy] at g1 HBG
        have q0 := geq_leq y 0
        cases c1 : (F6.order 0 y == some .lt || F6.order 0 y == some .eq) with
        | false =>
          have hch : isCh y = false := by unfold isCh; rw [c1]; rfl
          rw [c1] at q0
          go_wp2
          go_ret2
          obtain rfl : R = (0, 2) := by rw [← hR.out, if_pos (HBG.out.1 hch)]
          exact ⟨rfl, hb⟩
        | true =>
          rw [c1] at q0
          cases c2 : (F6.order y 4607182418800017408 == some .lt || F6.order y 4607182418800017408 == some .eq) with
          | false =>
            have hch : isCh y = false := by unfold isCh; rw [c1, c2]; rfl
            go_wp2
            go_ret2
            obtain rfl : R = (0, 2) := by rw [← hR.out, if_pos (HBG.out.1 hch)]
            exact ⟨rfl, hb⟩
          | true =>
            have hch : isCh y = true := by unfold isCh; rw [c1, c2]; rfl
            go_wp2
            go_roundw
            case rel => exact ⟨t + 1, hlt, by go_num, HBG.out.2 hch, hb⟩
            case measure => simp [intOf]; omega
      · obtain rfl : t = n := by omega
        have hall : Hid (∀ f ∈ fs, isCh f = true) := fun f hf' => by
          obtain ⟨i, hi, rfl⟩ := List.getElem_of_mem hf'
          have := hf.out i (by omega)
          rwa [show fs.getD i 0 = fs[i] by simp [List.getD, hi]] at this
        clear hf
        by_cases h2 : m < 0
        · obtain rfl : R = (0, 2) := by rw [← hR.out, if_pos (.inl h2)]
          go_wp2
          go_ret2
          exact ⟨rfl, hb⟩
        · have hany : ¬ (fs.any fun y => !isCh y) = true := fun hh => by
            obtain ⟨y, hy, h3⟩ := List.any_eq_true.1 hh
            rw [hall.out y hy] at h3
            cases h3
          obtain ⟨M, rfl⟩ : ∃ M : Nat, m = (M : Int) := ⟨m.toNat, by omega⟩
          obtain ⟨F, hF⟩ : ∃ F, Hid (fin1 (sdn (chl fs) (t - M)) = F) := ⟨_, rfl⟩
          obtain rfl : R = (F, 0) := by rw [← hR.out, if_neg (fun hh => hh.elim h2 hany), Int.toNat_natCast, hF.out]
          clear hR hany
          have HB := (show Hid _ from hb)
          have al : ∀ (W : World) (o : Obj), Below W.heap.size W (W.alloc o) := balloc
          go_wp2
          go_loopw [7, 8] (fun o i wr' => ∃ j : Nat, j ≤ t ∧ i = .int .i64 (j : Int) ∧ (∃ g, o = .slice (some ⟨g, 0, none⟩) (j + 1) (j + 1) ∧ w.heap.size ≤ g ∧ Bl wr' 23 g (fc (chl (fs.take j)))) ∧ Below w.heap.size w wr') (fun _ i _ => t - (intOf i).toNat)
          case atStart => exact ⟨0, Nat.zero_le _, rfl, ⟨_, rfl, hb.size, bl_new wr 23 [.float .f64 4607182418800017408]⟩, bt hb (balloc _ _)⟩
          case round =>
            obtain ⟨j, hj, rfl, ⟨g, rfl, hg, hO⟩, hb'⟩ := hrel
            obtain ⟨V, hV⟩ : ∃ V, V = wr := ⟨_, rfl⟩
            subst hV
            have hlc : (chl (fs.take j)).length = j + 1 := by rw [chl_len, List.length_take]; omega
            have hal := chl_all hall.out j (by omega) (by omega)
            by_cases hlj : j < t
            · have hi : (j : Int) < (t : Int) := by omega
              obtain ⟨b, o, rfl, hd⟩ := Fr.at HH.out (by omega)
              have g1 := cell_below (hd j (by omega)) hb'
              have hf := isCh_ok (hall.out (fs.getD j 0) (by rw [show fs.getD j 0 = fs[j]'(by omega) by simp [List.getD, hn, hlj]]; exact List.getElem_mem _))
              have hct := chl_take fs j (by omega)
              obtain ⟨f, hy⟩ : ∃ y, fs.getD j 0 = y := ⟨_, rfl⟩
              rw [hy] at g1 hct hf
              obtain ⟨l, hl⟩ : ∃ l, chl (fs.take j) = l := ⟨_, rfl⟩
              rw [hl] at hO hlc hal hct
              obtain ⟨e, hg'⟩ : ∃ e, fsu 4607182418800017408 f = e := ⟨_, rfl⟩
              have s1 := fl_run (op := .sub) (x := 4607182418800017408) (y := f) (fsu_ok hf).1
              rw [hg'] at s1
              have mk : ∀ W : World, (Instr.makeSlice 58 (.int .i64 ((j : Int) + 1 + 1)) (.int .i64 ((j : Int) + 1 + 1))).run Try.prog W = .ok (.slice (some ⟨W.heap.size, 0, none⟩) (j + 1 + 1) (j + 1 + 1)) (W.alloc (.cells (fc (fil (cel l f) (j + 1 + 1) 0)).toArray 23)) := fun W => by
                rw [fil_zero]
                exact make_F (j + 1 + 1) (by omega) W
              have M1 : ∀ q, floatBits .mul .f64 (l.getD q 0) e = some (fmu (l.getD q 0) e) := fun q => (fmu_ok (by omega) (get_all hal q) (.inl (hg' ▸ (fsu_ok hf).2.1))).1
              have M2 : ∀ q, floatBits .mul .f64 (l.getD q 0) f = some (fmu (l.getD q 0) f) := fun q => (fmu_ok (by omega) (get_all hal q) hf).1
              have M3 : ∀ q, floatBits .add .f64 (stn l f q) (fls l f q) = some (cel l f q) := fun q => (cel_ok hal (by omega) hf q).1
              have HM := (show Hid (_ ∧ _ ∧ _) from ⟨M1, M2, M3⟩)
              have HG := (show Hid _ from hg')
              have HC := (show Hid (_ ∧ _) from ⟨hct, hlc⟩)
              have HO := (show Hid _ from hO)
              have HB2 := (show Hid _ from hb')
              have hst := run_store_flt
              clear M1 M2 M3 hg' hf hy hl hct hlc hal hd hO
              go_wp2
              clear mk s1
              go_loopw [12] (fun i wr'' => ∃ q : Nat, q ≤ j + 1 + 1 ∧ i = .int .i64 (q : Int) ∧ Bl wr'' 23 V.heap.size (fc (fil (cel l f) (j + 1 + 1) q)) ∧ Below V.heap.size V wr'') (fun i _ => j + 1 + 1 - (intOf i).toNat)
              case atStart => exact ⟨0, Nat.zero_le _, rfl, bl_new _ _ _, balloc _ _⟩
              case round =>
                obtain ⟨q, hq, rfl, hP, hb3⟩ := hrel
                by_cases hlt : q < j + 1 + 1
                · have hi : (q : Int) < (j : Int) + 1 + 1 := by omega
                  have fz := hP.frozen q
                  obtain ⟨old, g0⟩ : ∃ old, wr.cell? ⟨V.heap.size, q, none⟩ = some (.float .f64 old) := by
                    rw [hP.cell]
                    exact ⟨_, fc_at _ _ (by rw [fil_len]; exact hlt)⟩
                  have st : Bl (wr.setCell ⟨V.heap.size, q, none⟩ (.float .f64 (cel l f q))) 23 V.heap.size (fc (fil (cel l f) (j + 1 + 1) (q + 1))) := by
                    rw [← fil_set _ _ _ hlt]; exact hP.set q _
                  have hbs : Below V.heap.size V (wr.setCell ⟨V.heap.size, q, none⟩ (.float .f64 (cel l f q))) := hb3.setCell (Nat.le_refl _) _
                  have HS := (show Hid (_ ∧ _) from ⟨st, hbs⟩)
                  have HA := (show Hid _ from fl_run (HM.out.2.2 q))
                  have HP := (show Hid _ from Bl.below HO.out hb3)
                  clear st hbs hP
                  by_cases h1 : q < j + 1
                  · have g1 := (Bl.cell HP.out q)
                    rw [fc_at _ _ (by rw [HC.out.2]; omega)] at g1
                    have e1 : stn l f q = fmu (l.getD q 0) e := by unfold stn; rw [HC.out.2, if_pos h1, HG.out]
                    have a1 := fl_run (HM.out.1 q)
                    obtain ⟨y, hy⟩ : ∃ y, l.getD q 0 = y := ⟨_, rfl⟩
                    rw [hy] at g1 a1 e1
                    have HA2 := (show Hid _ from HA.out)
                    rw [e1] at HA2
                    obtain ⟨v, hs⟩ : ∃ s, fmu y e = s := ⟨_, rfl⟩
                    rw [hs] at a1 HA2
                    have i1 : (q : Int) < (j : Int) + 1 := by omega
                    by_cases h2 : 0 < q
                    · have g2 := (Bl.cell HP.out (q - 1))
                      rw [fc_at _ _ (by rw [HC.out.2]; omega)] at g2
                      have e2 : fls l f q = fmu (l.getD (q - 1) 0) f := by unfold fls; rw [if_pos h2]
                      have a2 := fl_run (HM.out.2.1 (q - 1))
                      obtain ⟨z, hz⟩ : ∃ z, l.getD (q - 1) 0 = z := ⟨_, rfl⟩
                      rw [hz] at g2 a2 e2
                      rw [e2] at HA2
                      obtain ⟨u, hu⟩ : ∃ t, fmu z f = t := ⟨_, rfl⟩
                      rw [hu] at a2 HA2
                      obtain ⟨i, rfl⟩ : ∃ i, q = i + 1 := ⟨q - 1, by omega⟩
                      rw [Nat.add_sub_cancel] at g2
                      have a4 := HA2.out
                      have i2 : (0 : Int) < ((i + 1 : Nat) : Int) := by omega
                      have i3 : ((i + 1 : Nat) : Int) - 1 = (i : Int) := by omega
                      have i4 : (i : Int) < (j : Int) + 1 := by omega
                      go_wp2
                      go_roundw
                      case rel => exact ⟨i + 1 + 1, by omega, by go_num, HS.out.1, HS.out.2⟩
                      case measure => simp [intOf]; omega
                    · obtain rfl : q = 0 := by omega
                      have e2 : fls l f 0 = 0 := by unfold fls; rw [if_neg h2]
                      rw [e2] at HA2
                      have a4 := HA2.out
                      go_wp2
                      go_roundw
                      case rel => exact ⟨0 + 1, by omega, by go_num, HS.out.1, HS.out.2⟩
                      case measure => simp [intOf]
                  · obtain rfl : q = j + 1 := by omega
                    have e1 : stn l f (j + 1) = 0 := by unfold stn; rw [HC.out.2, if_neg h1]
                    have HA2 := (show Hid _ from HA.out)
                    rw [e1] at HA2
                    have g2 := (Bl.cell HP.out j)
                    rw [fc_at _ _ (by rw [HC.out.2]; omega)] at g2
                    have e2 : fls l f (j + 1) = fmu (l.getD j 0) f := by unfold fls; rw [if_pos (by omega), Nat.add_sub_cancel]
                    have a2 := fl_run (HM.out.2.1 j)
                    obtain ⟨z, hz⟩ : ∃ z, l.getD j 0 = z := ⟨_, rfl⟩
                    rw [hz] at g2 a2 e2
                    rw [e2] at HA2
                    obtain ⟨u, hu⟩ : ∃ t, fmu z f = t := ⟨_, rfl⟩
                    rw [hu] at a2 HA2
                    have a4 := HA2.out
                    have i1 : ¬ ((j + 1 : Nat) : Int) < (j : Int) + 1 := by omega
                    have i2 : (0 : Int) < ((j + 1 : Nat) : Int) := by omega
                    have i3 : ((j + 1 : Nat) : Int) - 1 = (j : Int) := by omega
                    have i4 : (j : Int) < (j : Int) + 1 := by omega
                    go_wp2
                    go_roundw
                    case rel => exact ⟨j + 1 + 1, by omega, by go_num, HS.out.1, HS.out.2⟩
                    case measure => simp [intOf]; omega
                · obtain rfl : q = j + 1 + 1 := by omega
                  rw [fil_full] at hP
                  go_wp2
                  go_roundw
                  case rel =>
                    refine ⟨j + 1, by omega, by go_num, ⟨_, rfl, HB2.out.size, ?_⟩, bt HB2.out hb3⟩
                    rw [HC.out.1]
                    unfold stp
                    rw [HC.out.2]
                    exact hP
                  case measure => simp [intOf]; omega
            · obtain rfl : j = t := by omega
              rw [List.take_of_length_le (by omega)] at hO hlc hal
              have HO := (show Hid _ from hO)
              have HL := (show Hid (_ ∧ _) from ⟨hlc, hal⟩)
              obtain ⟨L, hL⟩ : ∃ L, Hid (chl fs = L) := ⟨_, rfl⟩
              rw [hL.out] at HO HL
              obtain ⟨s, hs⟩ : ∃ s, Hid (j - M = s) := ⟨_, rfl⟩
              have hs' := hs.out
              clear hO hlc hal i1
              have HB2 := (show Hid _ from hb')
              go_wp2
              go_loopw [15, 16] (fun o i wr'' => ∃ q : Nat, q ≤ s ∧ o = .float .f64 (sdn L q) ∧ i = .int .i64 ((j : Int) - (q : Int)) ∧ Below V.heap.size V wr'') (fun _ i _ => (intOf i - (M : Int)).toNat)
              case atStart => exact ⟨0, Nat.zero_le _, by unfold sdn; rfl, by simp, Below.refl _ _⟩
              case round =>
                obtain ⟨q, hq, rfl, rfl, hb3⟩ := hrel
                by_cases hqs : q < s
                · have hi : (M : Int) < (j : Int) - (q : Int) := by omega
                  have g1 := (Bl.below HO.out hb3).cell (j - q)
                  rw [fc_at _ _ (by rw [HL.out.1]; omega)] at g1
                  have a1 := fl_run (sdn_step HL.out.2 q (by omega))
                  rw [HL.out.1, show j + 1 - 1 - q = j - q by omega] at a1
                  obtain ⟨y, hy⟩ : ∃ y, L.getD (j - q) 0 = y := ⟨_, rfl⟩
                  obtain ⟨z, hz⟩ : ∃ z, sdn L q = z := ⟨_, rfl⟩
                  obtain ⟨z2, hz2⟩ : ∃ z2, Hid (sdn L (q + 1) = z2) := ⟨_, rfl⟩
                  rw [hy] at g1 a1
                  rw [hz, hz2.out] at a1
                  rw [hz]
                  obtain ⟨i, hij⟩ : ∃ i, j - q = i := ⟨_, rfl⟩
                  rw [hij] at g1
                  rw [show (j : Int) - (q : Int) = (i : Int) by omega] at hi ⊢
                  have i2 : (i : Int) < (j : Int) + 1 := by omega
                  go_wp2
                  go_roundw
                  case rel => exact ⟨q + 1, by omega, by rw [hz2.out], by congr 1; omega, hb3⟩
                  case measure => simp [intOf]; omega
                · obtain rfl : q = s := by omega
                  have hi : ¬ (M : Int) < (j : Int) - (q : Int) := by omega
                  obtain ⟨z, hz⟩ : ∃ z, Hid (sdn L q = z) := ⟨_, rfl⟩
                  rw [hz.out]
                  cases ho : (F6.order z 4607182418800017408 == some .gt) with
                  | true =>
                    go_wp2
                    go_ret2
                    have e9 : fin1 z = F := by rw [← hz.out, ← hs.out, ← hL.out]; exact hF.out
                    unfold fin1 at e9
                    rw [ho] at e9
                    refine ⟨?_, bt HB2.out hb3⟩
                    rw [← e9]
                    rfl
                  | false =>
                    go_wp2
                    go_ret2
                    have e9 : fin1 z = F := by rw [← hz.out, ← hs.out, ← hL.out]; exact hF.out
                    unfold fin1 at e9
                    rw [ho] at e9
                    refine ⟨?_, bt HB2.out hb3⟩
                    rw [← e9]
                    rfl
end
end Go.Proofs.Ytcfjinpjijcheaa
