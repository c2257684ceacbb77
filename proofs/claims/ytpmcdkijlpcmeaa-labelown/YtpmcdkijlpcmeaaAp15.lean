/-
  'apart' of layer 15's laws: four rows of bytes.
-/
import Derived.Test.YtpmcdkijlpcmeaaApk
namespace Go.Proofs.Ytpmcdkijlpcmeaa
open Go.RowKit

def mkA (i : Nat) : Value := .int .u8 (1 + (i : Int))
def mkB (i : Nat) : Value := .int .u8 (128 + (i : Int))
theorem infB15 : Inf Try.prog 29 5 1 (.int .u8 0) := by
  obtain ⟨i, h1, h2, h3, h4⟩ := info_parts (show (Try.prog.info? 5).map (fun i => (i.zero, i.size, i.bytes)) = some (some (.int .u8 0), 1, 1) by kernel_rfl)
  exact ⟨Try.underlying29, ⟨i, h1, h2, h3, h4⟩, rfl⟩
theorem infS15 : Inf Try.prog 37 29 24 (.slice none 0 0) := by
  obtain ⟨i, h1, h2, h3, h4⟩ := info_parts (show (Try.prog.info? 29).map (fun i => (i.zero, i.size, i.bytes)) = some (some (.slice none 0 0), 1, 24) by kernel_rfl)
  exact ⟨Try.underlying37, ⟨i, h1, h2, h3, h4⟩, rfl⟩
theorem infI15 : Inf Try.prog 53 3 8 (.int .i64 0) := by
  obtain ⟨i, h1, h2, h3, h4⟩ := info_parts (show (Try.prog.info? 3).map (fun i => (i.zero, i.size, i.bytes)) = some (some (.int .i64 0), 1, 8) by kernel_rfl)
  exact ⟨Try.underlying53, ⟨i, h1, h2, h3, h4⟩, rfl⟩
section
attribute [local irreducible] Calls el gm
set_option maxHeartbeats 4000000 in
set_option maxRecDepth 1000000 in
theorem apart15_any (G cG : Nat) (gs cs : Nat → Nat) (f : Nat → Nat → Value) (w : World)
    (HG : Hid (∀ m, m < 4 → w.cell? ⟨G, m, none⟩ = some (.slice (some ⟨gs m, 0, none⟩) 31 (cs m)))) (HO : Hid (∀ m, m < 4 → Mde 5 w (gs m) (cs m) 31 (f m)))
    (HD : Hid (Apt 4 gs w)) (HS : Hid (∀ m, m < 4 → G ≠ gs m)) :
    Calls Try.prog 9 #[.slice (some ⟨G, 0, none⟩) 4 cG] w fun e w' => e = .returned (.bool true) ∧ Kpt 4 gs w w' := by
  go_enter Try.func9, Try.ntmps9
  go_wp2
  go_loopw [3] (fun s3 wr => ∃ i : Nat, i ≤ 4 ∧ s3 = .int .i64 i ∧ Hid (∀ m, m < 4 → Mde 5 wr (gs m) (cs m) ((fun _ => 31) m) (fiv mkA f i 0 m)) ∧ Kpt 4 gs w wr) (fun s3 _ => 4 - (intOf s3).toNat)
  case atStart => exact ⟨0, Nat.zero_le _, rfl, fiv_start HO.out, Kpt.refl _ _ _⟩
  case round =>
    obtain ⟨i, hi6, rfl, HF, hk⟩ := hrel
    by_cases hlt : i < 4
    · have hii : (i : Int) < 4 := by omega
      go_wp2
      go_loopw [4] (fun s4 wr => ∃ j : Nat, j ≤ 31 ∧ s4 = .int .i64 j ∧ Hid (∀ m, m < 4 → Mde 5 wr (gs m) (cs m) ((fun _ => 31) m) (fiv mkA f i j m)) ∧ Kpt 4 gs w wr) (fun s4 _ => 31 - (intOf s4).toNat)
      case atStart => exact ⟨0, Nat.zero_le _, rfl, HF, hk⟩
      case round =>
        clear HF hk
        obtain ⟨j, hj, rfl, HF, hk⟩ := hrel
        have gc := hk.cell (HG.out i hlt) HS.out
        by_cases hjl : j < 31
        · have hji : (j : Int) < 31 := by omega
          have g1 := (HF.out i hlt).cell hjl
          have g2 := (HF.out i hlt).frozen j
          go_wp2
          go_roundw
          case rel => exact ⟨j + 1, by omega, by go_num, fiv_set HF.out HD.out.ne hlt rfl, hk.set hlt _⟩
          case measure => simp [intOf]; omega
        · have hjn : j = 31 := by omega
          go_wp2
          go_roundw
          case rel => exact ⟨i + 1, by omega, by go_num, fiv_next (by rw [hjn] at HF; exact HF.out), hk⟩
          case measure => simp [intOf]; omega
    · obtain rfl : i = 4 := by omega
      have HW : Hid (∀ m, m < 4 → Mde 5 wr (gs m) (cs m) ((fun _ => 31) m) (fun _ => mkA m)) := fiv_done HF.out
      have HC : Hid (∀ m, m < 4 → wr.cell? ⟨G, m, none⟩ = some (.slice (some ⟨gs m, 0, none⟩) 31 (cs m))) := fun m hm => hk.cell (HG.out m hm) HS.out
      have AP : Hid (Apt 4 gs wr) := ⟨HD.out.ne, fun m hm => (HW.out m hm).lt⟩
      clear HF
      obtain ⟨w1, hw1⟩ : ∃ w1, w1 = wr := ⟨wr, rfl⟩
      subst hw1
      go_wp2
      go_loopw [5, 6, 7] (fun vl vw s7 wr => ∃ (i : Nat) (K : List Enk), i ≤ 4 ∧ s7 = .int .i64 i ∧ Hid (wr.ownsRow w1.heap.size 29 1 vl K.length (K.map Enk.V) ∧ wr.ownsRow w1.heap.size 3 1 vw K.length (K.map Enk.I) ∧ (∀ e ∈ K, Gdk 5 4 70 gs (fun _ => 31) mkA mkB w1.heap.size wr e ∧ e.i < i) ∧ K.length ≤ 70 * i ∧ (∀ m, m < 4 → Mde 5 wr (gs m) (cs m) ((fun _ => 31) m) (fun _ => mkA m)) ∧ Kpt 4 gs w1 wr)) (fun _ _ s7 _ => 4 - (intOf s7).toNat)
      case atStart => exact ⟨0, [], Nat.zero_le _, rfl, World.ownsRow_nil _ _ _ _, World.ownsRow_nil _ _ _ _, (fun e he => by cases he), Nat.zero_le _, HW.out, Kpt.refl _ _ _⟩
      case round =>
        obtain ⟨i, K, hi6, rfl, HX⟩ := hrel
        by_cases hlt : i < 4
        · have hii : (i : Int) < 4 := by omega
          have gc := HX.out.2.2.2.2.2.cell (HC.out i hlt) (fun m hm => HS.out m hm)
          go_wp2
          go_loopw [5, 6, 8, 9] (fun vl vw s8 s9 wr => ∃ (k B C : Nat) (K : List Enk), k ≤ 70 ∧ s9 = .int .i64 k ∧ s8 = .slice (some ⟨B, 0, none⟩) (31 + k) C ∧ Hid (Sta 5 29 3 4 70 gs cs (fun _ => 31) mkA mkB w1 wr i (31 + k) B C K K vl vw ∧ K.length ≤ 70 * i + k ∧ ∀ e ∈ K, e.i ≤ i)) (fun _ _ _ s9 _ => 70 - (intOf s9).toNat)
          case atStart =>
            obtain ⟨x1, x2, x3, x4, x5, x6⟩ := HX.out
            refine ⟨0, gs i, cs i, K, Nat.zero_le _, rfl, rfl, ⟨x1, x2, fun e he => (x3 e he).1, x5, x6, (x5 i hlt).congr (fun t ht => (mfv_lt ht).symm), .inl ⟨rfl, rfl⟩, fun e he eb => ?_⟩, by omega, fun e he => Nat.le_of_lt (x3 e he).2⟩
            exfalso
            obtain ⟨y1, y2⟩ := x3 e he
            rcases y1.pl with h | h
            · exact HD.out.ne e.i i y1.lt hlt (by omega) (h.symm.trans eb)
            · have := AP.out.lt i hlt
              omega
          case round =>
            clear HX gc
            obtain ⟨k, B, C, K, hk64, rfl, rfl, HY⟩ := hrel
            by_cases hkl : k < 70
            · have hki : (k : Int) < 70 := by omega
              by_cases k16 : k < 16
              · have k16i : (k : Int) < 16 := by omega
                go_wp2_with (first
                  | (at_builtin; refine wpList_akG rfl _ _ rfl infB15 (HY.out.1.alloc _) AP.out hlt (by decide) (by decide) (by show 31 ≤ 31 + k; omega) rfl _ _ rfl (cell_one _ _ _) rfl (by unfold maxLen; omega) (by omega) ?_; intro B2 C2 w2 hS2; have HZ := (show Hid _ from hS2); clear hS2)
                  | (at_builtin; refine wpList_akL rfl _ _ rfl infS15 (HZ.out.alloc _) hlt (by decide) (by decide) (by show 31 ≤ 31 + k + 1; omega) (by show 31 + k + 1 ≤ 31 + 70; omega) rfl _ _ rfl (cell_one _ _ _) (by have := HY.out.2.1; omega) ?_; intro vl3 w3 hS3; have HU := (show Hid _ from hS3); clear hS3)
                  | (at_builtin; refine wpList_akW rfl _ _ rfl infI15 (HU.out.alloc _) (by decide) (by decide) ⟨i, B2, C2, 31 + k + 1⟩ rfl rfl _ _ rfl (cell_one _ _ _) (by have := HY.out.2.1; omega) ?_; intro vw4 w4 hS4; have HV := (show Hid _ from hS4); clear hS4))
                go_roundw
                case rel =>
                  have E1 : K.length + 1 ≤ 70 * i + (k + 1) := by have := HY.out.2.1; omega
                  have E2 : ∀ e ∈ K ++ [(⟨i, B2, C2, 31 + k + 1⟩ : Enk)], e.i ≤ i := fun e he => by
                    rcases List.mem_append.1 he with he | he
                    · exact HY.out.2.2 e he
                    · simp at he; subst he; exact Nat.le_refl _
                  have E3 : (K ++ [(⟨i, B2, C2, 31 + k + 1⟩ : Enk)]).length ≤ 70 * i + (k + 1) := by simp; omega
                  first | exact ⟨k + 1, B2, C2, K ++ [⟨i, B2, C2, 31 + k + 1⟩], by omega, by go_num, rfl, ⟨HV.out, E3, E2⟩⟩ | exact ⟨_, _, _, _, ⟨k + 1, by omega, rfl, B2, C2, rfl, K ++ [⟨i, B2, C2, 31 + k + 1⟩], ⟨HV.out, E3, E2⟩⟩, rfl, rfl, rfl, by go_num⟩ | ((repeat apply Exists.intro); exact ⟨⟨k + 1, B2, C2, K ++ [⟨i, B2, C2, 31 + k + 1⟩], by omega, by go_num, rfl, ⟨HV.out, E3, E2⟩⟩, rfl⟩)
                case measure => simp [intOf]; omega
              · have k16n : ¬ (k : Int) < 16 := by omega
                by_cases k63 : k = 69
                · have k63i : ((k : Int) == 69) = true := by rw [k63]; rfl
                  have K63 : Hid (k = 69) := k63
                  clear k63
                  go_wp2_with (first
                    | (at_builtin; refine wpList_akG rfl _ _ rfl infB15 (HY.out.1.alloc _) AP.out hlt (by decide) (by decide) (by show 31 ≤ 31 + k; omega) rfl _ _ rfl (cell_one _ _ _) rfl (by unfold maxLen; omega) (by omega) ?_; intro B2 C2 w2 hS2; have HZ := (show Hid _ from hS2); clear hS2)
                    | (at_builtin; refine wpList_akL rfl _ _ rfl infS15 (HZ.out.alloc _) hlt (by decide) (by decide) (by show 31 ≤ 31 + k + 1; omega) (by show 31 + k + 1 ≤ 31 + 70; omega) rfl _ _ rfl (cell_one _ _ _) (by have := HY.out.2.1; omega) ?_; intro vl3 w3 hS3; have HU := (show Hid _ from hS3); clear hS3)
                    | (at_builtin; refine wpList_akW rfl _ _ rfl infI15 (HU.out.alloc _) (by decide) (by decide) ⟨i, B2, C2, 31 + k + 1⟩ rfl rfl _ _ rfl (cell_one _ _ _) (by have := HY.out.2.1; omega) ?_; intro vw4 w4 hS4; have HV := (show Hid _ from hS4); clear hS4))
                  go_roundw
                  case rel =>
                    have E1 : K.length + 1 ≤ 70 * i + (k + 1) := by have := HY.out.2.1; omega
                    have E2 : ∀ e ∈ K ++ [(⟨i, B2, C2, 31 + k + 1⟩ : Enk)], e.i ≤ i := fun e he => by
                      rcases List.mem_append.1 he with he | he
                      · exact HY.out.2.2 e he
                      · simp at he; subst he; exact Nat.le_refl _
                    have E3 : (K ++ [(⟨i, B2, C2, 31 + k + 1⟩ : Enk)]).length ≤ 70 * i + (k + 1) := by simp; omega
                    first | exact ⟨k + 1, B2, C2, K ++ [⟨i, B2, C2, 31 + k + 1⟩], by omega, by go_num, rfl, ⟨HV.out, E3, E2⟩⟩ | exact ⟨_, _, _, _, ⟨k + 1, by omega, rfl, B2, C2, rfl, K ++ [⟨i, B2, C2, 31 + k + 1⟩], ⟨HV.out, E3, E2⟩⟩, rfl, rfl, rfl, by go_num⟩ | ((repeat apply Exists.intro); exact ⟨⟨k + 1, B2, C2, K ++ [⟨i, B2, C2, 31 + k + 1⟩], by omega, by go_num, rfl, ⟨HV.out, E3, E2⟩⟩, rfl⟩)
                  case measure => simp [intOf]; omega
                · have k63i : ((k : Int) == 69) = false := by simp; omega
                  go_wp2_with (at_builtin; refine wpList_akG rfl _ _ rfl infB15 (HY.out.1.alloc _) AP.out hlt (by decide) (by decide) (by show 31 ≤ 31 + k; omega) rfl _ _ rfl (cell_one _ _ _) rfl (by unfold maxLen; omega) (by omega) ?_; intro B2 C2 w2 hS2; have HZ := (show Hid _ from hS2); clear hS2)
                  go_roundw
                  case rel =>
                    have E1 : K.length ≤ 70 * i + (k + 1) := by have := HY.out.2.1; omega
                    first | exact ⟨k + 1, B2, C2, K, by omega, by go_num, rfl, ⟨HZ.out, E1, HY.out.2.2⟩⟩ | exact ⟨_, _, _, _, ⟨k + 1, by omega, rfl, B2, C2, rfl, K, ⟨HZ.out, E1, HY.out.2.2⟩⟩, rfl, rfl, rfl, by go_num⟩ | ((repeat apply Exists.intro); exact ⟨⟨k + 1, B2, C2, K, by omega, by go_num, rfl, ⟨HZ.out, E1, HY.out.2.2⟩⟩, rfl⟩)
                  case measure => simp [intOf]; omega
            · obtain rfl : k = 70 := by omega
              go_wp2
              go_roundw
              case rel => exact ⟨i + 1, K, by omega, by go_num, HY.out.1.long, HY.out.1.whose, fun e he => ⟨HY.out.1.good e he, by have := HY.out.2.2 e he; omega⟩, by have := HY.out.2.1; omega, HY.out.1.rows, HY.out.1.kept⟩
              case measure => simp [intOf]; omega
        · obtain rfl : i = 4 := by omega
          obtain ⟨x1, x2, x3, x4, x5, x6⟩ := HX.out
          clear HX
          have hK384 : K.length ≤ 280 := by omega
          have HK : Hid (∀ e ∈ K, Gdk 5 4 70 gs (fun _ => 31) mkA mkB w1.heap.size wr e) := fun e he => (x3 e he).1
          have HRo : Hid (∀ m, m < 4 → Mde 5 wr (gs m) (cs m) 31 (fun _ => mkA m)) := x5
          have HKe : Hid (Kpt 4 gs w wr) := hk.trans x6
          have HCe : Hid (∀ m, m < 4 → wr.cell? ⟨G, m, none⟩ = some (.slice (some ⟨gs m, 0, none⟩) 31 (cs m))) := fun m hm => x6.cell (HC.out m hm) HS.out
          clear x3 x4 x5 x6 hk HW HC AP
          obtain ⟨al, cl, hal, Hl⟩ := rowForm x1
          obtain ⟨aw, cw, haw, Hw⟩ := rowForm x2
          rw [hal, haw]
          clear hal haw x1 x2
          obtain ⟨w9, hw9⟩ : ∃ w9, w9 = wr := ⟨wr, rfl⟩
          subst hw9
          go_wp2
          go_loopw [10] (fun s10 wq => ∃ q : Nat, q ≤ K.length ∧ s10 = .int .i64 q ∧ Below w9.heap.size w9 wq) (fun s10 _ => K.length - (intOf s10).toNat)
          case atStart => exact ⟨0, Nat.zero_le _, rfl, Below.refl _ _⟩
          case round =>
            obtain ⟨q, hq, rfl, hb9⟩ := hrel
            by_cases hql : q < K.length
            · have hqi : (q : Int) < (K.length : Int) := by omega
              obtain ⟨e, hme, gl, gw, rfl, rfl, hce, hcw⟩ := entAt Hl.out Hw.out hql
              have hgood := HK.out e hme
              obtain ⟨ei, eB, eC, eL⟩ := e
              obtain ⟨h6, hlo, hhi, _, hM⟩ := hgood
              replace h6 : ei < 4 := h6
              replace hlo : 31 ≤ eL := hlo
              replace hhi : eL ≤ 101 := hhi
              have HCI : Hid (w9.cell? ⟨gl, q, none⟩ = some (.slice (some ⟨eB, 0, none⟩) eL eC)) := hce
              have hcj : wr.cell? ⟨gw, q, none⟩ = some (.int .i64 (ei : Int)) := cell_below hcw hb9
              have GC : Hid (w9.cell? ⟨G, ei, none⟩ = some (.slice (some ⟨gs ei, 0, none⟩) 31 (cs ei))) := HCe.out ei h6
              have hei : (ei : Int) < 4 := by omega
              have HO1 : Hid (Mde 5 w9 (gs ei) (cs ei) 31 (fun _ => mkA ei)) := HRo.out ei h6
              have HM : Hid (Mde 5 w9 eB eC eL (mfv (fun _ => 31) mkA mkB ei)) := hM
              clear hM hce hcw hme
              go_wp2
              go_loopw [12] (fun s12 wq => ∃ j : Nat, j ≤ eL ∧ s12 = .int .i64 j ∧ Below w9.heap.size w9 wq) (fun s12 _ => eL - (intOf s12).toNat)
              case atStart => exact ⟨0, Nat.zero_le _, rfl, hb9⟩
              case round =>
                clear hb9 hcj
                obtain ⟨j, hj, rfl, hb9⟩ := hrel
                have hci := cell_below HCI.out hb9
                have gc := cell_below GC.out hb9
                by_cases hjl : j < eL
                · have hji : (j : Int) < (eL : Int) := by omega
                  have g2 := cell_below (HM.out.cell hjl) hb9
                  by_cases hjn : j < 31
                  · have hjni : (j : Int) < 31 := by omega
                    have g1 := cell_below (HO1.out.cell hjn) hb9
                    rw [mfv_lt hjn] at g2
                    unfold mkA at g1 g2
                    go_wp2
                    go_roundw
                    case rel => first | exact ⟨j + 1, by omega, by go_num, hb9⟩ | ((repeat apply Exists.intro); refine ⟨?_, rfl⟩; exact ⟨j + 1, by omega, by go_num, hb9⟩) | ((repeat apply Exists.intro); exact ⟨⟨j + 1, by omega, by go_num, hb9⟩, rfl⟩)
                    case measure => simp [intOf]; omega
                  · have hjni : ¬ (j : Int) < 31 := by omega
                    rw [mfv_ge (Nat.le_of_not_lt hjn)] at g2
                    unfold mkB at g2
                    go_wp2
                    go_roundw
                    case rel => first | exact ⟨j + 1, by omega, by go_num, hb9⟩ | ((repeat apply Exists.intro); refine ⟨?_, rfl⟩; exact ⟨j + 1, by omega, by go_num, hb9⟩) | ((repeat apply Exists.intro); exact ⟨⟨j + 1, by omega, by go_num, hb9⟩, rfl⟩)
                    case measure => simp [intOf]; omega
                · go_wp2
                  go_roundw
                  case rel => first | exact ⟨q + 1, by omega, by go_num, hb9⟩ | ((repeat apply Exists.intro); refine ⟨?_, rfl⟩; exact ⟨q + 1, by omega, by go_num, hb9⟩) | ((repeat apply Exists.intro); exact ⟨⟨q + 1, by omega, by go_num, hb9⟩, rfl⟩)
                  case measure => simp [intOf]; omega
            · go_wp2
              go_ret
              exact ⟨rfl, HKe.out.below hb9⟩
end
end Go.Proofs.Ytpmcdkijlpcmeaa
