/-
  'apart' of layer 9's laws: three rows of texts.
-/
import Derived.Test.YtkljlfhplnoldaaApl
namespace Go.Proofs.Ytkljlfhplnoldaa
open Go.RowKit

def mkA (i : Nat) : Value := encStr (mk i true)
def mkB (i : Nat) : Value := encStr (mk i false)
theorem mkA_one (i : Nat) : (mkA i).oneCell' = true := rfl
theorem mkB_one (i : Nat) : (mkB i).oneCell' = true := rfl
theorem infB9 : Inf Try.prog 22 9 16 (.string ⟨#[]⟩) := by
  obtain ⟨i, h1, h2, h3, h4⟩ := info_parts (show (Try.prog.info? 9).map (fun i => (i.zero, i.size, i.bytes)) = some (some (.string ⟨#[]⟩), 1, 16) by kernel_rfl)
  exact ⟨Try.underlying22, ⟨i, h1, h2, h3, h4⟩, rfl⟩
theorem infS9 : Inf Try.prog 26 22 24 (.slice none 0 0) := by
  obtain ⟨i, h1, h2, h3, h4⟩ := info_parts (show (Try.prog.info? 22).map (fun i => (i.zero, i.size, i.bytes)) = some (some (.slice none 0 0), 1, 24) by kernel_rfl)
  exact ⟨Try.underlying26, ⟨i, h1, h2, h3, h4⟩, rfl⟩
theorem infI9 : Inf Try.prog 34 3 8 (.int .i64 0) := by
  obtain ⟨i, h1, h2, h3, h4⟩ := info_parts (show (Try.prog.info? 3).map (fun i => (i.zero, i.size, i.bytes)) = some (some (.int .i64 0), 1, 8) by kernel_rfl)
  exact ⟨Try.underlying34, ⟨i, h1, h2, h3, h4⟩, rfl⟩
theorem takeHr {P : Program} {ops : Array Oper} {Q : Exit → Act → World → Prop} {md : Region.Mode} {S : World → Prop} {i : Nat} {oi : Oper} {d : Option Tmp} {v : Value} {fuel : Nat} {listed : Array Bool} {a : Act} {w : World} (hi : ops[i]? = some oi) (hd : oi.dst = d)
    (hs : Region.noSelect ops = true) (hf : Region.free md ops listed i = true) (hr : (Region.ready md ops listed).contains i = true)
    (hQ : ∀ c a w, Q (.panic c) (a.put oi.dst v) w → Q (.panic c) a w) (hy : YieldsIf P ops S oi v a) (hS : S w)
    (h : wpAnyH P md ops Q S fuel (listed.setIfInBounds i true) (a.put d v) w) : wpAnyH P md ops Q S (fuel + 1) listed a w := by
  subst hd; exact wpAnyH_take hi hs hf hr hQ hy hS h
section
attribute [local irreducible] Calls mk
set_option maxHeartbeats 4000000 in
set_option maxRecDepth 1000000 in
theorem apart09_any (G cG : Nat) (gs cs ns : Nat → Nat) (f : Nat → Nat → Value) (w : World)
    (HG : Hid (∀ m, m < 3 → w.cell? ⟨G, m, none⟩ = some (.slice (some ⟨gs m, 0, none⟩) (ns m) (cs m)))) (HO : Hid (∀ m, m < 3 → Mde 9 w (gs m) (cs m) (ns m) (f m)))
    (HD : Hid (Apt 3 gs w)) (HS : Hid (∀ m, m < 3 → G ≠ gs m)) (HN : Hid (∀ m, m < 3 → ns m ≤ 8796093021952)) :
    Calls Try.prog 7 #[.slice (some ⟨G, 0, none⟩) 3 cG] w fun e w' => e = .returned (.bool true) ∧ Kpt 3 gs w w' := by
  go_enter Try.func7, Try.ntmps7
  go_wp2
  go_loopw [3] (fun s3 wr => ∃ i : Nat, i ≤ 3 ∧ s3 = .int .i64 i ∧ Hid (∀ m, m < 3 → Mde 9 wr (gs m) (cs m) (ns m) (fiv mkA f i 0 m)) ∧ Kpt 3 gs w wr) (fun s3 _ => 3 - (intOf s3).toNat)
  case atStart => exact ⟨0, Nat.zero_le _, rfl, fiv_start HO.out, Kpt.refl _ _ _⟩
  case round =>
    obtain ⟨i, hi6, rfl, HF, hk⟩ := hrel
    by_cases hlt : i < 3
    · have hii : (i : Int) < 3 := by omega
      have hNi := HN.out i hlt
      obtain ⟨N, hNe⟩ : ∃ N, ns i = N := ⟨_, rfl⟩
      have HNe := (show Hid (ns i = N) from hNe)
      rw [hNe] at hNi
      clear hNe
      go_wp2
      go_loopw [4] (fun s4 wr => ∃ j : Nat, j ≤ N ∧ s4 = .int .i64 j ∧ Hid (∀ m, m < 3 → Mde 9 wr (gs m) (cs m) (ns m) (fiv mkA f i j m)) ∧ Kpt 3 gs w wr) (fun s4 _ => N - (intOf s4).toNat)
      case atStart => exact ⟨0, Nat.zero_le _, rfl, HF, hk⟩
      case round =>
        clear HF hk
        obtain ⟨j, hj, rfl, HF, hk⟩ := hrel
        have gc := hk.cell (HG.out i hlt) HS.out
        rw [HNe.out] at gc
        have HGC := (show Hid (G < wr.heap.size) from block_lt_of_cell gc)
        by_cases hjl : j < N
        · have hji : (j : Int) < (N : Int) := by omega
          have KS := (show Hid (wr.cell? ⟨G, i, none⟩ = some (.slice (some ⟨gs i, 0, none⟩) N (cs i))) from gc)
          go_wp2
          go_region_held3 (fun X => X.cell? ⟨G, i, none⟩ = some (.slice (some ⟨gs i, 0, none⟩) N (cs i))) (first | exact KU.out _ | exact KT.out | exact KS.out | go_keep)
            (first | (go_at_call 12; refine (mark_any i (by omega) true _).mono ?_; rintro e w1 ⟨rfl, hb0⟩; have hb1 := (show Below wr.heap.size wr w1 from ⟨hb0.os, hb0.tape, hb0.output, hb0.size, hb0.block⟩); clear hb0; have HF1 := (show Hid (∀ m, m < 3 → Mde 9 w1 (gs m) (cs m) (ns m) (fiv mkA f i j m)) from fun m hm => (HF.out m hm).below hb1); have hk1 := (show Hid (Kpt 3 gs w w1) from hk.below hb1); have KT := (show Hid (w1.cell? ⟨G, i, none⟩ = some (.slice (some ⟨gs i, 0, none⟩) N (cs i))) from cell_below KS.out hb1); have g1 := (HF1.out i hlt).cell (i := j) (by rw [HNe.out]; exact hjl); have g2 := (HF1.out i hlt).frozen j; have KU := (show Hid (∀ v, (w1.setCell ⟨gs i, j, none⟩ v).cell? ⟨G, i, none⟩ = some (.slice (some ⟨gs i, 0, none⟩) N (cs i))) from fun v => by rw [World.cell?_of_block (w := w1) (Below.heap_setCell _ _ _ _ (HS.out i hlt))]; exact KT.out)))
          all_goals (
            go_wp2
            go_roundw
            case rel => exact ⟨j + 1, by omega, by go_num, fiv_set HF1.out HD.out.ne hlt rfl, hk1.out.set hlt _⟩
            case measure => simp [intOf]; omega)
        · have hjn : j = N := by omega
          have hjNn : ¬ (j : Int) < (N : Int) := by omega
          go_wp2
          go_roundw
          case rel => exact ⟨i + 1, by omega, by go_num, fiv_next (by rw [hjn, ← HNe.out] at HF; exact HF.out), hk⟩
          case measure => simp [intOf]; omega
    · obtain rfl : i = 3 := by omega
      have HW : Hid (∀ m, m < 3 → Mde 9 wr (gs m) (cs m) (ns m) (fun _ => mkA m)) := fiv_done HF.out
      have HC : Hid (∀ m, m < 3 → wr.cell? ⟨G, m, none⟩ = some (.slice (some ⟨gs m, 0, none⟩) (ns m) (cs m))) := fun m hm => hk.cell (HG.out m hm) HS.out
      have AP : Hid (Apt 3 gs wr) := ⟨HD.out.ne, fun m hm => (HW.out m hm).lt⟩
      clear HF
      obtain ⟨w1, hw1⟩ : ∃ w1, w1 = wr := ⟨wr, rfl⟩
      subst hw1
      go_wp2
      go_loopw [5, 6, 7] (fun vl vw s7 wr => ∃ (i : Nat) (K : List Enk), i ≤ 3 ∧ s7 = .int .i64 i ∧ Hid (wr.ownsRow w1.heap.size 22 1 vl K.length (K.map Enk.V) ∧ wr.ownsRow w1.heap.size 3 1 vw K.length (K.map Enk.I) ∧ (∀ e ∈ K, Gdk 9 3 70 gs ns mkA mkB w1.heap.size wr e ∧ e.i < i) ∧ K.length ≤ 70 * i ∧ (∀ m, m < 3 → Mde 9 wr (gs m) (cs m) (ns m) (fun _ => mkA m)) ∧ Kpt 3 gs w1 wr)) (fun _ _ s7 _ => 3 - (intOf s7).toNat)
      case atStart => exact ⟨0, [], Nat.zero_le _, rfl, World.ownsRow_nil _ _ _ _, World.ownsRow_nil _ _ _ _, (fun e he => by cases he), Nat.zero_le _, HW.out, Kpt.refl _ _ _⟩
      case round =>
        obtain ⟨i, K, hi6, rfl, HX⟩ := hrel
        by_cases hlt : i < 3
        · have hii : (i : Int) < 3 := by omega
          have gc := HX.out.2.2.2.2.2.cell (HC.out i hlt) (fun m hm => HS.out m hm)
          have hNi := HN.out i hlt
          obtain ⟨N, hNe⟩ : ∃ N, ns i = N := ⟨_, rfl⟩
          have HNe := (show Hid (ns i = N) from hNe)
          rw [hNe] at hNi gc
          clear hNe
          go_wp2
          go_loopw [5, 6, 8, 9] (fun vl vw s8 s9 wr => ∃ (k B C : Nat) (K : List Enk), k ≤ 70 ∧ s9 = .int .i64 k ∧ s8 = .slice (some ⟨B, 0, none⟩) (N + k) C ∧ Hid (Sta 9 22 3 3 70 gs cs ns mkA mkB w1 wr i (N + k) B C K K vl vw ∧ K.length ≤ 70 * i + k ∧ ∀ e ∈ K, e.i ≤ i)) (fun _ _ _ s9 _ => 70 - (intOf s9).toNat)
          case atStart =>
            obtain ⟨x1, x2, x3, x4, x5, x6⟩ := HX.out
            refine ⟨0, gs i, cs i, K, Nat.zero_le _, rfl, rfl, ⟨x1, x2, fun e he => (x3 e he).1, x5, x6, by rw [← HNe.out]; exact (x5 i hlt).congr (fun t ht => (mfv_lt ht).symm), .inl ⟨rfl, rfl⟩, fun e he eb => ?_⟩, by omega, fun e he => Nat.le_of_lt (x3 e he).2⟩
            exfalso
            obtain ⟨y1, y2⟩ := x3 e he
            rcases y1.pl with h | h
            · exact HD.out.ne e.i i y1.lt hlt (by omega) (h.symm.trans eb)
            · have := AP.out.lt i hlt
              omega
          case round =>
            clear HX gc
            obtain ⟨k, B, C, K, hk64, rfl, rfl, HY⟩ := hrel
            by_cases hkl : k < 70
            · have hki : (k : Int) < 70 := by omega
              by_cases k16 : k < 16
              · have k16i : (k : Int) < 16 := by omega
                go_wp2_with (first
                  | (go_at_call 12; refine (mark_any i (by omega) false _).mono ?_; rintro e w0 ⟨rfl, hb0⟩; have HM := (show Hid _ from HY.out.1.next hb0); clear hb0)
                  | (at_builtin; refine wpList_akG rfl _ _ rfl infB9 (HM.out.alloc _) AP.out hlt (by decide) (by decide) (by rw [HNe.out]; omega) rfl _ _ rfl (cell_one _ _ _) rfl (by unfold maxLen; omega) (by omega) ?_; intro B2 C2 w2 hS2; have HZ := (show Hid _ from hS2); clear hS2)
                  | (at_builtin; refine wpList_akL rfl _ _ rfl infS9 (HZ.out.alloc _) hlt (by decide) (by decide) (by rw [HNe.out]; omega) (by rw [HNe.out]; omega) rfl _ _ rfl (cell_one _ _ _) (by have := HY.out.2.1; omega) ?_; intro vl3 w3 hS3; have HU := (show Hid _ from hS3); clear hS3)
                  | (at_builtin; refine wpList_akW rfl _ _ rfl infI9 (HU.out.alloc _) (by decide) (by decide) ⟨i, B2, C2, N + k + 1⟩ rfl rfl _ _ rfl (cell_one _ _ _) (by have := HY.out.2.1; omega) ?_; intro vw4 w4 hS4; have HV := (show Hid _ from hS4); clear hS4))
                go_roundw
                case rel =>
                  have E1 : K.length + 1 ≤ 70 * i + (k + 1) := by have := HY.out.2.1; omega
                  have E2 : ∀ e ∈ K ++ [(⟨i, B2, C2, N + k + 1⟩ : Enk)], e.i ≤ i := fun e he => by
                    rcases List.mem_append.1 he with he | he
                    · exact HY.out.2.2 e he
                    · simp at he; subst he; exact Nat.le_refl _
                  have E3 : (K ++ [(⟨i, B2, C2, N + k + 1⟩ : Enk)]).length ≤ 70 * i + (k + 1) := by simp; omega
                  first | exact ⟨k + 1, B2, C2, K ++ [⟨i, B2, C2, N + k + 1⟩], by omega, by go_num, rfl, ⟨HV.out, E3, E2⟩⟩ | exact ⟨_, _, _, _, ⟨k + 1, by omega, rfl, B2, C2, rfl, K ++ [⟨i, B2, C2, N + k + 1⟩], ⟨HV.out, E3, E2⟩⟩, rfl, rfl, rfl, by go_num⟩ | ((repeat apply Exists.intro); exact ⟨⟨k + 1, B2, C2, K ++ [⟨i, B2, C2, N + k + 1⟩], by omega, by go_num, rfl, ⟨HV.out, E3, E2⟩⟩, rfl⟩)
                case measure => simp [intOf]; omega
              · have k16n : ¬ (k : Int) < 16 := by omega
                by_cases k63 : k = 69
                · have k63i : ((k : Int) == 69) = true := by rw [k63]; rfl
                  have K63 : Hid (k = 69) := k63
                  clear k63
                  go_wp2_with (first
                    | (go_at_call 12; refine (mark_any i (by omega) false _).mono ?_; rintro e w0 ⟨rfl, hb0⟩; have HM := (show Hid _ from HY.out.1.next hb0); clear hb0)
                    | (at_builtin; refine wpList_akG rfl _ _ rfl infB9 (HM.out.alloc _) AP.out hlt (by decide) (by decide) (by rw [HNe.out]; omega) rfl _ _ rfl (cell_one _ _ _) rfl (by unfold maxLen; omega) (by omega) ?_; intro B2 C2 w2 hS2; have HZ := (show Hid _ from hS2); clear hS2)
                    | (at_builtin; refine wpList_akL rfl _ _ rfl infS9 (HZ.out.alloc _) hlt (by decide) (by decide) (by rw [HNe.out]; omega) (by rw [HNe.out]; omega) rfl _ _ rfl (cell_one _ _ _) (by have := HY.out.2.1; omega) ?_; intro vl3 w3 hS3; have HU := (show Hid _ from hS3); clear hS3)
                    | (at_builtin; refine wpList_akW rfl _ _ rfl infI9 (HU.out.alloc _) (by decide) (by decide) ⟨i, B2, C2, N + k + 1⟩ rfl rfl _ _ rfl (cell_one _ _ _) (by have := HY.out.2.1; omega) ?_; intro vw4 w4 hS4; have HV := (show Hid _ from hS4); clear hS4))
                  go_roundw
                  case rel =>
                    have E1 : K.length + 1 ≤ 70 * i + (k + 1) := by have := HY.out.2.1; omega
                    have E2 : ∀ e ∈ K ++ [(⟨i, B2, C2, N + k + 1⟩ : Enk)], e.i ≤ i := fun e he => by
                      rcases List.mem_append.1 he with he | he
                      · exact HY.out.2.2 e he
                      · simp at he; subst he; exact Nat.le_refl _
                    have E3 : (K ++ [(⟨i, B2, C2, N + k + 1⟩ : Enk)]).length ≤ 70 * i + (k + 1) := by simp; omega
                    first | exact ⟨k + 1, B2, C2, K ++ [⟨i, B2, C2, N + k + 1⟩], by omega, by go_num, rfl, ⟨HV.out, E3, E2⟩⟩ | exact ⟨_, _, _, _, ⟨k + 1, by omega, rfl, B2, C2, rfl, K ++ [⟨i, B2, C2, N + k + 1⟩], ⟨HV.out, E3, E2⟩⟩, rfl, rfl, rfl, by go_num⟩ | ((repeat apply Exists.intro); exact ⟨⟨k + 1, B2, C2, K ++ [⟨i, B2, C2, N + k + 1⟩], by omega, by go_num, rfl, ⟨HV.out, E3, E2⟩⟩, rfl⟩)
                  case measure => simp [intOf]; omega
                · have k63i : ((k : Int) == 69) = false := by simp; omega
                  go_wp2_with (first
                    | (go_at_call 12; refine (mark_any i (by omega) false _).mono ?_; rintro e w0 ⟨rfl, hb0⟩; have HM := (show Hid _ from HY.out.1.next hb0); clear hb0)
                    | (at_builtin; refine wpList_akG rfl _ _ rfl infB9 (HM.out.alloc _) AP.out hlt (by decide) (by decide) (by rw [HNe.out]; omega) rfl _ _ rfl (cell_one _ _ _) rfl (by unfold maxLen; omega) (by omega) ?_; intro B2 C2 w2 hS2; have HZ := (show Hid _ from hS2); clear hS2))
                  go_roundw
                  case rel =>
                    have E1 : K.length ≤ 70 * i + (k + 1) := by have := HY.out.2.1; omega
                    first | exact ⟨k + 1, B2, C2, K, by omega, by go_num, rfl, ⟨HZ.out, E1, HY.out.2.2⟩⟩ | exact ⟨_, _, _, _, ⟨k + 1, by omega, rfl, B2, C2, rfl, K, ⟨HZ.out, E1, HY.out.2.2⟩⟩, rfl, rfl, rfl, by go_num⟩ | ((repeat apply Exists.intro); exact ⟨⟨k + 1, B2, C2, K, by omega, by go_num, rfl, ⟨HZ.out, E1, HY.out.2.2⟩⟩, rfl⟩)
                  case measure => simp [intOf]; omega
            · obtain rfl : k = 70 := by omega
              go_wp2
              go_roundw
              case rel => exact ⟨i + 1, K, by omega, by go_num, HY.out.1.long, HY.out.1.whose, fun e he => ⟨HY.out.1.good e he, by have := HY.out.2.2 e he; omega⟩, by have := HY.out.2.1; omega, HY.out.1.rows, HY.out.1.kept⟩
              case measure => simp [intOf]; omega
        · obtain rfl : i = 3 := by omega
          obtain ⟨x1, x2, x3, x4, x5, x6⟩ := HX.out
          clear HX
          have hK384 : K.length ≤ 210 := by omega
          have HK : Hid (∀ e ∈ K, Gdk 9 3 70 gs ns mkA mkB w1.heap.size wr e) := fun e he => (x3 e he).1
          have HRo : Hid (∀ m, m < 3 → Mde 9 wr (gs m) (cs m) (ns m) (fun _ => mkA m)) := x5
          have HKe : Hid (Kpt 3 gs w wr) := hk.trans x6
          have HCe : Hid (∀ m, m < 3 → wr.cell? ⟨G, m, none⟩ = some (.slice (some ⟨gs m, 0, none⟩) (ns m) (cs m))) := fun m hm => x6.cell (HC.out m hm) HS.out
          clear x3 x4 x5 x6 hk HW HC AP
          obtain ⟨al, cl, hal, Hl⟩ := rowForm x1
          obtain ⟨aw, cw, haw, Hw⟩ := rowForm x2
          rw [hal, haw]
          clear hal haw x1 x2
          obtain ⟨w9, hw9⟩ : ∃ w9, w9 = wr := ⟨wr, rfl⟩
          subst hw9
          go_wp2
          go_loopw [10] (fun s10 wq => ∃ q : Nat, q ≤ K.length ∧ s10 = .int .i64 q ∧ Below w9.heap.size w9 wq) (fun s10 _ => K.length - (intOf s10).toNat)
          case atStart => exact ⟨0, Nat.zero_le _, rfl, Below.refl _ _⟩
          case round =>
            obtain ⟨q, hq, rfl, hb9⟩ := hrel
            by_cases hql : q < K.length
            · have hqi : (q : Int) < (K.length : Int) := by omega
              obtain ⟨e, hme, gl, gw, rfl, rfl, hce, hcw⟩ := entAt Hl.out Hw.out hql
              have hgood := HK.out e hme
              obtain ⟨ei, eB, eC, eL⟩ := e
              obtain ⟨h6, hlo, hhi, _, hM⟩ := hgood
              replace h6 : ei < 3 := h6
              have hNi := HN.out ei h6
              obtain ⟨N, hNe⟩ : ∃ N, ns ei = N := ⟨_, rfl⟩
              have HNe := (show Hid (ns ei = N) from hNe)
              replace hlo : ns ei ≤ eL := hlo
              replace hhi : eL ≤ ns ei + 70 := hhi
              have GC : Hid (w9.cell? ⟨G, ei, none⟩ = some (.slice (some ⟨gs ei, 0, none⟩) N (cs ei))) := by rw [← hNe]; exact HCe.out ei h6
              rw [hNe] at hlo hhi hNi
              clear hNe
              have HCI : Hid (w9.cell? ⟨gl, q, none⟩ = some (.slice (some ⟨eB, 0, none⟩) eL eC)) := hce
              have hcj : wr.cell? ⟨gw, q, none⟩ = some (.int .i64 (ei : Int)) := cell_below hcw hb9
              have hei : (ei : Int) < 3 := by omega
              have HO1 : Hid (Mde 9 w9 (gs ei) (cs ei) (ns ei) (fun _ => mkA ei)) := HRo.out ei h6
              have HM : Hid (Mde 9 w9 eB eC eL (mfv ns mkA mkB ei)) := hM
              clear hM hce hcw hme
              go_wp2
              go_loopw [12] (fun s12 wq => ∃ j : Nat, j ≤ eL ∧ s12 = .int .i64 j ∧ Below w9.heap.size w9 wq) (fun s12 _ => eL - (intOf s12).toNat)
              case atStart => exact ⟨0, Nat.zero_le _, rfl, hb9⟩
              case round =>
                clear hb9 hcj
                obtain ⟨j, hj, rfl, hb9⟩ := hrel
                have hci := cell_below HCI.out hb9
                have gc := cell_below GC.out hb9
                by_cases hjl : j < eL
                · have hji : (j : Int) < (eL : Int) := by omega
                  have g2 := cell_below (HM.out.cell hjl) hb9
                  by_cases hjn : j < N
                  · have hjni : (j : Int) < (N : Int) := by omega
                    have hjn' : j < ns ei := by rw [HNe.out]; exact hjn
                    have g1 := cell_below (HO1.out.cell hjn') hb9
                    rw [mfv_lt hjn'] at g2
                    unfold mkA at g1 g2
                    have HB := (show Hid (Below w9.heap.size w9 wr) from hb9)
                    have KS := (show Hid (wr.cell? ⟨gl, q, none⟩ = some (.slice (some ⟨eB, 0, none⟩) eL eC) ∧ wr.cell? ⟨eB, j, none⟩ = some (encStr (mk ei true)) ∧ wr.cell? ⟨G, ei, none⟩ = some (.slice (some ⟨gs ei, 0, none⟩) N (cs ei)) ∧ wr.cell? ⟨gs ei, j, none⟩ = some (encStr (mk ei true))) from ⟨hci, g2, gc, g1⟩)
                    clear hb9 hjn'
                    go_wp2
                    go_region_held3 (fun X => X.cell? ⟨gl, q, none⟩ = some (.slice (some ⟨eB, 0, none⟩) eL eC) ∧ X.cell? ⟨eB, j, none⟩ = some (encStr (mk ei true)) ∧ X.cell? ⟨G, ei, none⟩ = some (.slice (some ⟨gs ei, 0, none⟩) N (cs ei)) ∧ X.cell? ⟨gs ei, j, none⟩ = some (encStr (mk ei true))) (first | exact KU.out | exact KT.out | exact KS.out | go_keep)
                      (first
                        | (have hx := KT; go_at_call 12; refine (mark_any ei (by omega) true _).mono ?_; rintro e w11 ⟨rfl, hb0⟩; have hb11 := (show Below w10.heap.size w10 w11 from ⟨hb0.os, hb0.tape, hb0.output, hb0.size, hb0.block⟩); have HE := (show Hid (Below w9.heap.size w9 w11) from HD1.out.trans (hb11.mono HD1.out.size)); have KU := (show Hid (w11.cell? ⟨gl, q, none⟩ = some (.slice (some ⟨eB, 0, none⟩) eL eC) ∧ w11.cell? ⟨eB, j, none⟩ = some (encStr (mk ei true)) ∧ w11.cell? ⟨G, ei, none⟩ = some (.slice (some ⟨gs ei, 0, none⟩) N (cs ei)) ∧ w11.cell? ⟨gs ei, j, none⟩ = some (encStr (mk ei true))) from ⟨cell_below KT.out.1 hb11, cell_below KT.out.2.1 hb11, cell_below KT.out.2.2.1 hb11, cell_below KT.out.2.2.2 hb11⟩); clear hb0 hb11 hx)
                        | (go_at_call 12; refine (mark_any ei (by omega) true _).mono ?_; rintro e w10 ⟨rfl, hb0⟩; have hb10 := (show Below wr.heap.size wr w10 from ⟨hb0.os, hb0.tape, hb0.output, hb0.size, hb0.block⟩); have HD1 := (show Hid (Below w9.heap.size w9 w10) from HB.out.trans (hb10.mono HB.out.size)); have KT := (show Hid (w10.cell? ⟨gl, q, none⟩ = some (.slice (some ⟨eB, 0, none⟩) eL eC) ∧ w10.cell? ⟨eB, j, none⟩ = some (encStr (mk ei true)) ∧ w10.cell? ⟨G, ei, none⟩ = some (.slice (some ⟨gs ei, 0, none⟩) N (cs ei)) ∧ w10.cell? ⟨gs ei, j, none⟩ = some (encStr (mk ei true))) from ⟨cell_below KS.out.1 hb10, cell_below KS.out.2.1 hb10, cell_below KS.out.2.2.1 hb10, cell_below KS.out.2.2.2 hb10⟩); clear hb0 hb10))
                    all_goals (
                      go_wp2
                      go_roundw
                      case rel => first | exact ⟨j + 1, by omega, by go_num, HE.out⟩ | ((repeat apply Exists.intro); refine ⟨?_, rfl⟩; exact ⟨j + 1, by omega, by go_num, HE.out⟩) | ((repeat apply Exists.intro); exact ⟨⟨j + 1, by omega, by go_num, HE.out⟩, rfl⟩)
                      case measure => simp [intOf]; omega)
                  · have hjni : decide ((j : Int) < (N : Int)) = false := decide_eq_false (by omega)
                    have hjn' : ns ei ≤ j := by rw [HNe.out]; exact Nat.le_of_not_lt hjn
                    rw [mfv_ge hjn'] at g2
                    unfold mkB at g2
                    have HB := (show Hid (Below w9.heap.size w9 wr) from hb9)
                    have KS := (show Hid (wr.cell? ⟨gl, q, none⟩ = some (.slice (some ⟨eB, 0, none⟩) eL eC) ∧ wr.cell? ⟨eB, j, none⟩ = some (encStr (mk ei false)) ∧ wr.cell? ⟨G, ei, none⟩ = some (.slice (some ⟨gs ei, 0, none⟩) N (cs ei))) from ⟨hci, g2, gc⟩)
                    clear hb9 hjn'
                    go_wp2
                    refine wp_region_held_drew (S := fun X => X.cell? ⟨gl, q, none⟩ = some (.slice (some ⟨eB, 0, none⟩) eL eC) ∧ X.cell? ⟨eB, j, none⟩ = some (encStr (mk ei false)) ∧ X.cell? ⟨G, ei, none⟩ = some (.slice (some ⟨gs ei, 0, none⟩) N (cs ei))) (by kernel_rfl) KS.out (fun hHeld => ?_)
                    refine takeHr (i := 0) (d := some 96) (v := ?v1) rfl rfl (by kernel_rfl) (by kernel_rfl) (by kernel_rfl) (fun _ _ _ h => h) (Or.inl ⟨by rfl, ?hy1⟩) hHeld ?rest1
                    case hy1 => intro X hSw; obtain ⟨c1, c2, c3⟩ := hSw; go_simp <;> with_reducible rfl
                    try simp only [Act.put, List.setIfInBounds_toArray, List.set_cons_zero, List.set_cons_succ]
                    refine takeHr (i := 1) (d := some 97) (v := ?v2) rfl rfl (by kernel_rfl) (by kernel_rfl) (by kernel_rfl) (fun _ _ _ h => h) (Or.inl ⟨by rfl, ?hy2⟩) hHeld ?rest2
                    case hy2 => intro X hSw; obtain ⟨c1, c2, c3⟩ := hSw; go_simp <;> with_reducible rfl
                    try simp only [Act.put, List.setIfInBounds_toArray, List.set_cons_zero, List.set_cons_succ]
                    refine takeHr (i := 2) (d := some 98) (v := ?v3) rfl rfl (by kernel_rfl) (by kernel_rfl) (by kernel_rfl) (fun _ _ _ h => h) (Or.inl ⟨by rfl, ?hy3⟩) hHeld ?rest3
                    case hy3 => intro X hSw; obtain ⟨c1, c2, c3⟩ := hSw; go_simp <;> with_reducible rfl
                    try simp only [Act.put, List.setIfInBounds_toArray, List.set_cons_zero, List.set_cons_succ]
                    refine takeHr (i := 3) (d := some 99) (v := ?v4) rfl rfl (by kernel_rfl) (by kernel_rfl) (by kernel_rfl) (fun _ _ _ h => h) (Or.inl ⟨by rfl, ?hy4⟩) hHeld ?rest4
                    case hy4 => intro X hSw; obtain ⟨c1, c2, c3⟩ := hSw; go_simp <;> with_reducible rfl
                    try simp only [Act.put, List.setIfInBounds_toArray, List.set_cons_zero, List.set_cons_succ]
                    refine takeHr (i := 4) (d := some 100) (v := ?v5) rfl rfl (by kernel_rfl) (by kernel_rfl) (by kernel_rfl) (fun _ _ _ h => h) (Or.inl ⟨by rfl, ?hy5⟩) hHeld ?rest5
                    case hy5 => intro X hSw; obtain ⟨c1, c2, c3⟩ := hSw; go_simp <;> with_reducible rfl
                    try simp only [Act.put, List.setIfInBounds_toArray, List.set_cons_zero, List.set_cons_succ]
                    refine takeHr (i := 5) (d := some 101) (v := ?v6) rfl rfl (by kernel_rfl) (by kernel_rfl) (by kernel_rfl) (fun _ _ _ h => h) (Or.inl ⟨by rfl, ?hy6⟩) hHeld ?rest6
                    case hy6 => intro X hSw; obtain ⟨c1, c2, c3⟩ := hSw; go_simp <;> with_reducible rfl
                    try simp only [Act.put, List.setIfInBounds_toArray, List.set_cons_zero, List.set_cons_succ]
                    refine takeHr (i := 6) (d := some 102) (v := ?v7) rfl rfl (by kernel_rfl) (by kernel_rfl) (by kernel_rfl) (fun _ _ _ h => h) (Or.inl ⟨by rfl, ?hy7⟩) hHeld ?rest7
                    case hy7 => intro X hSw; obtain ⟨c1, c2, c3⟩ := hSw; go_simp <;> with_reducible rfl
                    try simp only [Act.put, List.setIfInBounds_toArray, List.set_cons_zero, List.set_cons_succ]
                    refine takeHr (i := 7) (d := some 103) (v := ?v8) rfl rfl (by kernel_rfl) (by kernel_rfl) (by kernel_rfl) (fun _ _ _ h => h) (Or.inl ⟨by rfl, ?hy8⟩) hHeld ?rest8
                    case hy8 => intro X hSw; obtain ⟨c1, c2, c3⟩ := hSw; go_simp <;> with_reducible rfl
                    try simp only [Act.put, List.setIfInBounds_toArray, List.set_cons_zero, List.set_cons_succ]
                    refine takeHr (i := 8) (d := some 104) (v := ?v9) rfl rfl (by kernel_rfl) (by kernel_rfl) (by kernel_rfl) (fun _ _ _ h => h) (Or.inl ⟨by rfl, ?hy9⟩) hHeld ?rest9
                    case hy9 => intro X hSw; obtain ⟨c1, c2, c3⟩ := hSw; go_simp <;> with_reducible rfl
                    try simp only [Act.put, List.setIfInBounds_toArray, List.set_cons_zero, List.set_cons_succ]
                    refine wpAnyH_ready (rs := [9]) (by kernel_rfl) (by simp) ?_
                    refine AllReadyH.cons (o := { dst := some 105, op := Op.call { callee := Callee.value (Operand.func 12), args := #[Operand.tmp 103, Operand.tmp 104], argTypes := #[3, 4] }, type := 9, pos := "outright.go:191", after := #[{ on := 7, ground := Ground.data }, { on := 8, ground := Ground.data }], guard := none }) rfl (fun Kq hKq => ?_) AllReadyH.nil
                    · go_simp
                      refine (mark_any ei (by omega) false _).mono ?_
                      rintro e w10 ⟨rfl, hb0⟩
                      have hb10 := (show Below wr.heap.size wr w10 from ⟨hb0.os, hb0.tape, hb0.output, hb0.size, hb0.block⟩)
                      have HE := (show Hid (Below w9.heap.size w9 w10) from HB.out.trans (hb10.mono HB.out.size))
                      have KT := (show Hid (w10.cell? ⟨gl, q, none⟩ = some (.slice (some ⟨eB, 0, none⟩) eL eC) ∧ w10.cell? ⟨eB, j, none⟩ = some (encStr (mk ei false)) ∧ w10.cell? ⟨G, ei, none⟩ = some (.slice (some ⟨gs ei, 0, none⟩) N (cs ei))) from ⟨cell_below KS.out.1 hb10, cell_below KS.out.2.1 hb10, cell_below KS.out.2.2 hb10⟩)
                      clear hb0 hb10
                      refine hKq.out _ _ KT.out (fun hHeld => ?_)
                      clear hKq Kq
                      try simp only [Act.put, List.setIfInBounds_toArray, List.set_cons_zero, List.set_cons_succ]
                      refine takeHr (i := 10) (d := some 106) (v := .bool false) rfl rfl (by kernel_rfl) (by kernel_rfl) (by kernel_rfl) (fun _ _ _ h => h) (Or.inl ⟨by rfl, ?hy11⟩) hHeld ?rest11
                      case hy11 => intro X hSw; obtain ⟨c1, c2, c3⟩ := hSw; go_simp <;> with_reducible rfl
                      try simp only [Act.put, List.setIfInBounds_toArray, List.set_cons_zero, List.set_cons_succ]
                      refine takeHr (i := 11) (d := some 107) (v := .bool false) rfl rfl (by kernel_rfl) (by kernel_rfl) (by kernel_rfl) (fun _ _ _ h => h) (Or.inl ⟨by rfl, ?hy12⟩) hHeld ?rest12
                      case hy12 => intro X hSw; obtain ⟨c1, c2, c3⟩ := hSw; go_simp <;> with_reducible rfl
                      try simp only [Act.put, List.setIfInBounds_toArray, List.set_cons_zero, List.set_cons_succ]
                      refine takeHr (i := 12) (d := some 108) (v := .bool false) rfl rfl (by kernel_rfl) (by kernel_rfl) (by kernel_rfl) (fun _ _ _ h => h) (Or.inl ⟨by rfl, ?hy13⟩) hHeld ?rest13
                      case hy13 => intro X hSw; obtain ⟨c1, c2, c3⟩ := hSw; go_simp <;> with_reducible rfl
                      try simp only [Act.put, List.setIfInBounds_toArray, List.set_cons_zero, List.set_cons_succ]
                      refine takeHr (i := 13) (d := some 109) (v := .bool false) rfl rfl (by kernel_rfl) (by kernel_rfl) (by kernel_rfl) (fun _ _ _ h => h) (Or.inl ⟨by rfl, ?hy14⟩) hHeld ?rest14
                      case hy14 => intro X hSw; obtain ⟨c1, c2, c3⟩ := hSw; go_simp <;> with_reducible rfl
                      try simp only [Act.put, List.setIfInBounds_toArray, List.set_cons_zero, List.set_cons_succ]
                      refine takeHr (i := 14) (d := some 110) (v := undef) rfl rfl (by kernel_rfl) (by kernel_rfl) (by kernel_rfl) (fun _ _ _ h => h) (Or.inr ⟨by rfl, rfl⟩) hHeld ?_
                      try simp only [Act.put, List.setIfInBounds_toArray, List.set_cons_zero, List.set_cons_succ]
                      refine takeHr (i := 15) (d := some 111) (v := undef) rfl rfl (by kernel_rfl) (by kernel_rfl) (by kernel_rfl) (fun _ _ _ h => h) (Or.inr ⟨by rfl, rfl⟩) hHeld ?_
                      try simp only [Act.put, List.setIfInBounds_toArray, List.set_cons_zero, List.set_cons_succ]
                      refine takeHr (i := 16) (d := some 112) (v := undef) rfl rfl (by kernel_rfl) (by kernel_rfl) (by kernel_rfl) (fun _ _ _ h => h) (Or.inr ⟨by rfl, rfl⟩) hHeld ?_
                      try simp only [Act.put, List.setIfInBounds_toArray, List.set_cons_zero, List.set_cons_succ]
                      refine takeHr (i := 17) (d := some 113) (v := undef) rfl rfl (by kernel_rfl) (by kernel_rfl) (by kernel_rfl) (fun _ _ _ h => h) (Or.inr ⟨by rfl, rfl⟩) hHeld ?_
                      try simp only [Act.put, List.setIfInBounds_toArray, List.set_cons_zero, List.set_cons_succ]
                      refine takeHr (i := 18) (d := some 114) (v := undef) rfl rfl (by kernel_rfl) (by kernel_rfl) (by kernel_rfl) (fun _ _ _ h => h) (Or.inr ⟨by rfl, rfl⟩) hHeld ?_
                      try simp only [Act.put, List.setIfInBounds_toArray, List.set_cons_zero, List.set_cons_succ]
                      refine takeHr (i := 19) (d := some 115) (v := undef) rfl rfl (by kernel_rfl) (by kernel_rfl) (by kernel_rfl) (fun _ _ _ h => h) (Or.inr ⟨by rfl, rfl⟩) hHeld ?_
                      try simp only [Act.put, List.setIfInBounds_toArray, List.set_cons_zero, List.set_cons_succ]
                      refine takeHr (i := 20) (d := some 116) (v := undef) rfl rfl (by kernel_rfl) (by kernel_rfl) (by kernel_rfl) (fun _ _ _ h => h) (Or.inr ⟨by rfl, rfl⟩) hHeld ?_
                      try simp only [Act.put, List.setIfInBounds_toArray, List.set_cons_zero, List.set_cons_succ]
                      refine takeHr (i := 21) (d := some 117) (v := undef) rfl rfl (by kernel_rfl) (by kernel_rfl) (by kernel_rfl) (fun _ _ _ h => h) (Or.inr ⟨by rfl, rfl⟩) hHeld ?_
                      try simp only [Act.put, List.setIfInBounds_toArray, List.set_cons_zero, List.set_cons_succ]
                      refine takeHr (i := 22) (d := some 118) (v := undef) rfl rfl (by kernel_rfl) (by kernel_rfl) (by kernel_rfl) (fun _ _ _ h => h) (Or.inr ⟨by rfl, rfl⟩) hHeld ?_
                      try simp only [Act.put, List.setIfInBounds_toArray, List.set_cons_zero, List.set_cons_succ]
                      refine takeHr (i := 23) (d := some 119) (v := undef) rfl rfl (by kernel_rfl) (by kernel_rfl) (by kernel_rfl) (fun _ _ _ h => h) (Or.inr ⟨by rfl, rfl⟩) hHeld ?_
                      try simp only [Act.put, List.setIfInBounds_toArray, List.set_cons_zero, List.set_cons_succ]
                      refine takeHr (i := 24) (d := some 120) (v := .bool false) rfl rfl (by kernel_rfl) (by kernel_rfl) (by kernel_rfl) (fun _ _ _ h => h) (Or.inl ⟨by rfl, ?hy25⟩) hHeld ?rest25
                      case hy25 => intro X hSw; obtain ⟨c1, c2, c3⟩ := hSw; go_simp <;> with_reducible rfl
                      try simp only [Act.put, List.setIfInBounds_toArray, List.set_cons_zero, List.set_cons_succ]
                      refine takeHr (i := 25) (d := some 121) (v := .bool false) rfl rfl (by kernel_rfl) (by kernel_rfl) (by kernel_rfl) (fun _ _ _ h => h) (Or.inl ⟨by rfl, ?hy26⟩) hHeld ?rest26
                      case hy26 => intro X hSw; obtain ⟨c1, c2, c3⟩ := hSw; go_simp <;> with_reducible rfl
                      try simp only [Act.put, List.setIfInBounds_toArray, List.set_cons_zero, List.set_cons_succ]
                      refine wpAnyH_done (by kernel_rfl) ?_ _
                      clear hHeld
                      go_wp2
                      go_roundw
                      case rel => first | exact ⟨j + 1, by omega, by go_num, HE.out⟩ | ((repeat apply Exists.intro); refine ⟨?_, rfl⟩; exact ⟨j + 1, by omega, by go_num, HE.out⟩) | ((repeat apply Exists.intro); exact ⟨⟨j + 1, by omega, by go_num, HE.out⟩, rfl⟩)
                      case measure => simp [intOf]; omega
                · have hjln : ¬ (j : Int) < (eL : Int) := by omega
                  go_wp2
                  go_roundw
                  case rel => first | exact ⟨q + 1, by omega, by omega⟩ | exact ⟨q + 1, by omega, by go_num, hb9⟩ | ((repeat apply Exists.intro); refine ⟨?_, rfl⟩; exact ⟨q + 1, by omega, by go_num, hb9⟩) | ((repeat apply Exists.intro); exact ⟨⟨q + 1, by omega, by go_num, hb9⟩, rfl⟩)
                  case measure => simp [intOf]; omega
            · have hqln : ¬ (q : Int) < (K.length : Int) := by omega
              go_wp2
              go_ret
              exact ⟨rfl, HKe.out.below hb9⟩
end
end Go.Proofs.Ytkljlfhplnoldaa
