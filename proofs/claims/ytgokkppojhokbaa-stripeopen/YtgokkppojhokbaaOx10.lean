/-
  StripeOpen: the walk.
-/
import Derived.Test.YtgokkppojhokbaaOw10
import Derived.Deep.CutRange
import Derived.Deep.DeepCutAuto
import Derived.BigQuiet
import Derived.Deep.RegionHeld3
namespace Go.Proofs.Ytgokkppojhokbaa
open Go.RowKit
section
attribute [local irreducible] Calls el Hd.cs plC PlAt NrE NmE NmT Fac mm dm flat lsp spc str bstr Ov bm shc sel ord od qo pvs lv pad obm
set_option maxHeartbeats 32000000 in
set_option maxRecDepth 1000000 in
theorem stripeOpen_walk (x : Hd) (pd : Option Addr) (n c : Nat) (d : Nat → BitVec 8) (pp : Option Addr) (np cp : Nat) (f : Nat → Int) (py : Option Addr) (ny cy : Nat) (y : Nat → BitVec 8) (w : World) (hnc : n ≤ c) (hD : NrE w (.slice pd n c) n d) (HX : 0 < np → ∃ b o, pp = some ⟨b, o, none⟩ ∧ ∀ i, i < np → w.cell? ⟨b, o + i, none⟩ = some (.int .i64 (f i))) (hY : NrE w (.slice py ny cy) ny y) (hny : ny ≤ 9223372036854775807) :
    Calls Try.prog 3 #[.agg (plC x (.slice pd n c) (.slice pp np cp)), .slice py ny cy] w fun e w' => e = .returned (.bool true) ∧ Below w.heap.size w w' := by
  have al : ∀ (W : World) (o : Obj), Below W.heap.size W (W.alloc o) := fun W o => (Below.refl _ _).alloc (Nat.le_refl _) o
  have H0 := (show Hid _ from PlAt.new w x (.slice pd n c) (.slice pp np cp))
  have HD := (show Hid _ from NrE.below hD (al w (.cells (plC x (.slice pd n c) (.slice pp np cp)) 26)))
  have HYh := (show Hid (NrE w (.slice py ny cy) ny y) from hY)
  have HNY := (show Hid (ny ≤ 9223372036854775807) from hny)
  have HXh := (show Hid _ from HX)
  have HA := (show Hid _ from al w (.cells (plC x (.slice pd n c) (.slice pp np cp)) 26))
  have AW := (show Hid _ from awake10)
  clear hD HX hY hny
  go_enter Try.func3, Try.ntmps3
  go_wp2_with (first
    | (go_at_call 4; refine (AW.out _).mono ?_; rintro e w1 ⟨rfl, hb1⟩; have P1 := (show Hid _ from H0.out.below hb1); have D1 := (show Hid _ from NrE.below HD.out hb1); clear H0 HD)
    | (refine wpList_ldPl rfl _ rfl w.heap.size rfl P1.out ?_)
    | (go_at_call 5; refine (fit_any x pd n c (.slice pp np cp) d w1 hnc D1.out).mono ?_; rintro e w2 ⟨K, M, B, N, ep, ct, key, q, r, rfl, hf, hr, hN2, hb2⟩; have P2 := (show Hid _ from P1.out.below hb2); have N2 := (show Hid _ from hN2); have HF0 := (show Hid _ from hf); clear P1 D1 hN2 hf)
    | (refine wpList_alHd rfl rfl ?_; intro wa Za hba hsa)
    | (refine wpList_stHd (ftH x K M B key ep ct) rfl _ _ rfl rfl w2.heap.size rfl rfl Za ?_; intro w3 H3 hBu3; have hb3 := (show Hid (Below w2.heap.size w2 w3) from hba.trans hBu3.bl); obtain ⟨m0, hm0, r1, r2, r3, r4⟩ := cut_nums N K HF0.out.n1; obtain ⟨NN, hNN⟩ : ∃ NN, N - m0 = NN := ⟨_, rfl⟩; rw [hNN] at r2 r4; have N3 := (show Hid (NrE w3 (.slice q NN r) NN d) from nr_cut (NrE.below N2.out hb3.out) (by omega)); have P3 := (show Hid _ from P2.out.below hb3.out); have HF := (show Hid (Fits K M B NN ep ct key) from HF0.out.less (by omega)); have HR4 := (show Hid (NN % K = 0) from r4); have hrr := (show Hid (NN ≤ r) from by show _ ≤ _; omega); have r5 : (NN : Int) ≤ (r : Int) := (by omega); have r6 : ¬ (K : Int) = 0 := (by have := HF0.out.k1; omega); have a7 := (show w3.cell? ⟨w2.heap.size, 8, none⟩ = some (.int .i64 (K : Int)) from H3.cells.1); clear Za hba hBu3 P2 N2 hm0 hNN r3 r4)
    | (refine wpList_loadHd rfl _ rfl w2.heap.size rfl H3 ?_)
    | (go_at_call 6; obtain ⟨L, nu, z1, z2⟩ := ft_nu (x := x) HF.out; refine (split_own (ftH x K M B key ep ct) (ft_in HF.out) HF.out.y q NN r HF.out.n hrr.out d w3 N3.out ((chk_ok _).2 (ft_ok HF.out)) K M B L nu z1 z2).mono ?_; rintro e w4 ⟨g, F, vs, bd, rfl, hF, hO, hR, hgb, hbd, hg, hb4⟩; have NU := (show Hid ((ftH x K M B key ep ct).Nu NN K M B L ∧ szC (ftH x K M B key ep ct).k (ftH x K M B key ep ct).m (ftH x K M B key ep ct).b NN = 0 ∧ szL (ftH x K M B key ep ct).k (ftH x K M B key ep ct).m (ftH x K M B key ep ct).b NN = L) from ⟨nu, z1, z2⟩); have FA := (show Hid _ from hF); have O4 := (show Hid _ from hO); have R4 := (show Hid _ from hR); have BD := (show Hid ((∀ i, i ≤ K + M → g < bd i) ∧ bd (K + M) ≤ w4.heap.size) from ⟨hgb, hbd⟩); have H4 := (show Hid (HdAt w4 w2.heap.size (ftH x K M B key ep ct)) from H3.below hb4); have P4 := (show Hid _ from P3.out.below hb4); have p15 := P4.out.nums.2.2.2; have a8 := (show w4.cell? ⟨w2.heap.size, 8, none⟩ = some (.int .i64 (K : Int)) from H4.out.cells.1); have a9 := (show w4.cell? ⟨w2.heap.size, 9, none⟩ = some (.int .i64 (M : Int)) from H4.out.cells.2.1); have x1 := wrap_km HF.out.km; have x2 : ((K : Int) + (M : Int) != (K : Int) + (M : Int)) = false := (by simp); have hbw4 := (show Hid (Below w.heap.size w w4) from bt (bt (bt (bt HA.out hb1) hb2) hb3.out) hb4); have PL := (show Hid _ from places10 pp np cp (K + M) (M + 1) f w4 HF.out.pl.1 HF.out.pl.2.1 (by have := HF.out.km; have := HF.out.k1; omega) (fun h => by obtain ⟨b, o, e, hc⟩ := HXh.out h; exact ⟨b, o, e, fun i hi => cell_below (hc i hi) hbw4.out⟩)); rw [Int.natCast_add] at PL; have x3 : wrap64 ((M : Int) + 1) = ((M + 1 : Nat) : Int) := (by have := HF.out.km; unfold wrap64; omega); clear hF hO hR hgb hbd nu z1 z2 P3 r1 r2 r5 r6 a7)
    | (go_at_call 7; refine PL.out.mono ?_; rintro e w5 ⟨P, rfl, hP, hO5, hb5⟩; clear PL))
  have HP := (show Hid (P.length ≤ M + 1) from hP)
  obtain ⟨T, hT⟩ : ∃ T, K + M = T := ⟨_, rfl⟩
  have HTe := (show Hid (K + M = T) from hT)
  have HT := (show Hid (T ≤ 255 ∧ 1 ≤ T ∧ M < T) from fits_T HF.out hT)
  have hT2 : T ≤ 255 := HT.out.1
  have O5 := (show Hid (Ov w5 44 g (flat (spc ((ftH x K M B key ep ct).of NN) (K + M) vs)) ((K + M) * 17)) from Ov.below O4.out hb5)
  have R5 := (show Hid (∀ i, i < K + M → ShO w5 (vs i) L (fun j x => mm fdE K F (dm K L (pad NN d)) i ((L.take j).sum + x)) (bd i) (bd (i + 1))) from fun i hi => (R4.out i hi).below hb5)
  have H5 := (show Hid (HdAt w5 w2.heap.size (ftH x K M B key ep ct)) from H4.out.below hb5)
  have BD5 := (show Hid ((∀ i, i ≤ K + M → g < bd i) ∧ bd (K + M) ≤ w5.heap.size) from ⟨BD.out.1, Nat.le_trans BD.out.2 hb5.size⟩)
  have hlt2 : w2.heap.size < w3.heap.size := H3.lt
  have GL := (show Hid (w2.heap.size < g ∧ g < w4.heap.size) from ⟨Nat.lt_of_lt_of_le hlt2 hg, O4.out.lt⟩)
  have HB5 := (show Hid (Below w.heap.size w w5) from bt hbw4.out hb5)
  have GW := (show Hid (w.heap.size ≤ g) from Nat.le_trans (bt (bt (bt HA.out hb1) hb2) hb3.out).size hg)
  have SZ5 := (show Hid (w4.heap.size < w5.heap.size) from hO5.lt)
  have HY5 := (show Hid (NrE w5 (.slice py ny cy) ny y) from NrE.below HYh.out HB5.out)
  have OB5 := (show Hid (Ov w5 4 w4.heap.size (bm P) (K + M)) from hO5)
  rw [hT] at O5 R5 BD5 OB5 ⊢
  clear hP hO5 hb5 O4 R4 BD H4 P4 H3 hg hlt2 hT a8 a9 p15 x1 x2 x3
  obtain ⟨i1, hi1, hz01, hz11, hz21⟩ := info_parts infoI
  have hown00 : w5.ownsRow w5.heap.size 3 1 (.slice none 0 0) 0 [] := World.ownsRow_nil _ _ _ _
  have hOB5 := OB5.out
  go_loopw [9, 11] (fun v t wr => ∃ s : Nat, s ≤ 2 ∧ t = .int .i64 s ∧ wr.ownsRow w5.heap.size 3 1 v (ot P T s).length (pvs (ot P T s)) ∧ Ov wr 4 w4.heap.size (bm P) T ∧ Below w5.heap.size w5 wr) (fun _ t _ => 2 - (intOf t).toNat)
  case atStart => exact ⟨0, by omega, rfl, by unfold ot pvs; exact hown00, hOB5, Below.refl _ _⟩
  case round =>
    clear hown00 hOB5
    obtain ⟨s, hs, rfl, hown, hO, hb⟩ := hrel
    by_cases h2 : s < 2
    · rcases (show s = 0 ∨ s = 1 by omega) with rfl | rfl
      · have hown0 : wr.ownsRow w5.heap.size 3 1 _ _ _ := hown
        clear hown
        go_wp2
        go_loopw [9, 12] (fun v t wr => ∃ j : Nat, j ≤ T ∧ t = .int .i64 j ∧ wr.ownsRow w5.heap.size 3 1 v (([] ++ sel P true j) : List Nat).length (pvs ([] ++ sel P true j)) ∧ Ov wr 4 w4.heap.size (bm P) T ∧ Below w5.heap.size w5 wr) (fun _ t _ => T - (intOf t).toNat)
        case atStart => exact ⟨0, Nat.zero_le _, rfl, by rw [sel_zero, List.append_nil]; exact hown0, hO, hb⟩
        case round =>
          clear hown0 hO hb
          obtain ⟨j, hj, rfl, hown2, hO2, hb2⟩ := hrel
          by_cases hlt : j < T
          · have j1 : (j : Int) < (T : Int) := by omega
            have g1 := hO2.cell hlt
            have hl1 := sel_le P true T
            have hl2 := sel_le P true j
            have hl3 := sel_le P false j
            have hl4 : (([] ++ sel P true j) : List Nat).length ≤ 510 := by rw [List.length_append]; first | omega | (simp; omega)
            have M1 : Hid ((([] ++ sel P true j) : List Nat).length + 1 ≤ maxLen) := by show _ ≤ _; unfold maxLen; omega
            have M3 : Hid (∀ o : Obj, w5.heap.size ≤ (wr.alloc o).heap.size) := fun o => by have := hb2.size; simp; omega
            clear hl1 hl2 hl3
            by_cases hin : j ∈ P
            · have T0 : Hid True := trivial
              rw [bm_in10 hin] at g1
              go_wp2_with (at_builtin; refine wpList_append_own _ rfl _ _ 24 rfl w5.heap.size 3 i1 (.int .i64 0) 1 8 Try.underlying24 hi1 hz01 hz11 hz21 rfl (by decide) _ _ _ rfl (hown2.alloc _) ⟨wr.heap.size, 0, none⟩ 1 1 [.int .i64 (j : Int)] rfl rfl (one_new _ _ _) (one_cellv rfl) M1.out (by omega) (M3.out _) ?_; intro v' w8 hown' hgrow _)
              have hb8 := below_append (hb2.alloc hb2.size _) (M3.out _) hgrow (hown2.alloc _) (Nat.le_refl _)
              have hO8 := Ov.grown (hO2.below ((Below.refl _ wr).alloc (Nat.le_refl _) (.cells #[.int .i64 (j : Int)] 3))) (hown2.alloc _) hgrow (by decide)
              rw [pvs_app] at hown'
              have hl : (([] ++ sel P true j) : List Nat).length + 1 = (([] ++ sel P true j) ++ [j] : List Nat).length := by rw [List.length_append (bs := [j])]; rfl
              rw [hl, List.append_assoc, ← sel_yes (b := true) (by rw [decide_eq_true hin]; rfl)] at hown'
              clear hown2 hgrow
              go_roundw
              case rel => first | exact ⟨j + 1, by omega, by go_num, hown', hO8, hb8⟩ | exact ⟨_, _, ⟨j + 1, by omega, rfl, hown', hO8, hb8⟩, rfl, by go_num⟩ | ((repeat apply Exists.intro); exact ⟨⟨j + 1, by omega, by go_num, hown', hO8, hb8⟩, rfl⟩)
              case measure => simp [intOf]; omega
            · have T0 : Hid True := trivial
              rw [bm_out10 hin] at g1
              rw [← sel_no (b := true) (by rw [decide_eq_false hin]; decide)] at hown2
              go_wp2
              go_roundw
              case rel => exact ⟨j + 1, by omega, by go_num, hown2, hO2, hb2⟩
              case measure => simp [intOf]; omega
          · obtain rfl : j = T := by omega
            go_wp2
            go_roundw
            case rel => exact ⟨1, by omega, by go_num, hown2, hO2, hb2⟩
            case measure => simp [intOf]
      · have hown0 : wr.ownsRow w5.heap.size 3 1 _ _ _ := hown
        clear hown
        go_wp2
        go_loopw [9, 12] (fun v t wr => ∃ j : Nat, j ≤ T ∧ t = .int .i64 j ∧ wr.ownsRow w5.heap.size 3 1 v ((sel P true T ++ sel P false j) : List Nat).length (pvs (sel P true T ++ sel P false j)) ∧ Ov wr 4 w4.heap.size (bm P) T ∧ Below w5.heap.size w5 wr) (fun _ t _ => T - (intOf t).toNat)
        case atStart => exact ⟨0, Nat.zero_le _, rfl, by rw [sel_zero, List.append_nil]; exact hown0, hO, hb⟩
        case round =>
          clear hown0 hO hb
          obtain ⟨j, hj, rfl, hown2, hO2, hb2⟩ := hrel
          by_cases hlt : j < T
          · have j1 : (j : Int) < (T : Int) := by omega
            have g1 := hO2.cell hlt
            have hl1 := sel_le P true T
            have hl2 := sel_le P true j
            have hl3 := sel_le P false j
            have hl4 : ((sel P true T ++ sel P false j) : List Nat).length ≤ 510 := by rw [List.length_append]; first | omega | (simp; omega)
            have M1 : Hid (((sel P true T ++ sel P false j) : List Nat).length + 1 ≤ maxLen) := by show _ ≤ _; unfold maxLen; omega
            have M3 : Hid (∀ o : Obj, w5.heap.size ≤ (wr.alloc o).heap.size) := fun o => by have := hb2.size; simp; omega
            clear hl1 hl2 hl3
            by_cases hin : j ∈ P
            · have T0 : Hid True := trivial
              rw [bm_in10 hin] at g1
              rw [← sel_no (b := false) (by rw [decide_eq_true hin]; decide)] at hown2
              go_wp2
              go_roundw
              case rel => exact ⟨j + 1, by omega, by go_num, hown2, hO2, hb2⟩
              case measure => simp [intOf]; omega
            · have T0 : Hid True := trivial
              rw [bm_out10 hin] at g1
              go_wp2_with (at_builtin; refine wpList_append_own _ rfl _ _ 24 rfl w5.heap.size 3 i1 (.int .i64 0) 1 8 Try.underlying24 hi1 hz01 hz11 hz21 rfl (by decide) _ _ _ rfl (hown2.alloc _) ⟨wr.heap.size, 0, none⟩ 1 1 [.int .i64 (j : Int)] rfl rfl (one_new _ _ _) (one_cellv rfl) M1.out (by omega) (M3.out _) ?_; intro v' w8 hown' hgrow _)
              have hb8 := below_append (hb2.alloc hb2.size _) (M3.out _) hgrow (hown2.alloc _) (Nat.le_refl _)
              have hO8 := Ov.grown (hO2.below ((Below.refl _ wr).alloc (Nat.le_refl _) (.cells #[.int .i64 (j : Int)] 3))) (hown2.alloc _) hgrow (by decide)
              rw [pvs_app] at hown'
              have hl : ((sel P true T ++ sel P false j) : List Nat).length + 1 = ((sel P true T ++ sel P false j) ++ [j] : List Nat).length := by rw [List.length_append (bs := [j])]; rfl
              rw [hl, List.append_assoc, ← sel_yes (b := false) (by rw [decide_eq_false hin]; rfl)] at hown'
              clear hown2 hgrow
              go_roundw
              case rel => first | exact ⟨j + 1, by omega, by go_num, hown', hO8, hb8⟩ | exact ⟨_, _, ⟨j + 1, by omega, rfl, hown', hO8, hb8⟩, rfl, by go_num⟩ | ((repeat apply Exists.intro); exact ⟨⟨j + 1, by omega, by go_num, hown', hO8, hb8⟩, rfl⟩)
              case measure => simp [intOf]; omega
          · obtain rfl : j = T := by omega
            go_wp2
            go_roundw
            case rel => exact ⟨2, by omega, by go_num, hown2, hO2, hb2⟩
            case measure => simp [intOf]
    · obtain rfl : s = 2 := by omega
      rw [ot_two] at hown
      obtain ⟨gO, cO, eO, hgO, hcO⟩ := ord_own hown HT.out.2.1
      subst eO
      have HBr := (show Hid (Below w5.heap.size w5 wr) from hb)
      have HCO : Hid (∀ i, i < T → wr.cell? ⟨gO, i, none⟩ = some (.int .i64 (od P T i : Nat))) := hcO
      obtain ⟨o0, ho0⟩ : ∃ o0, od P T 0 = o0 := ⟨_, rfl⟩
      have HO0 : Hid (od P T 0 = o0) := ho0
      have lo0 : o0 < T := by rw [← ho0]; exact od_lt HT.out.2.1
      have HLo0 := (show Hid (o0 < T) from lo0)
      obtain ⟨B0, ρ, hv0, hA0, hR0, hρ, hup, hlo, hhi⟩ := R5.out o0 lo0
      have HV0 := (show Hid (vs o0 = .slice (some ⟨B0, 0, none⟩) L.length L.length) from hv0)
      have HRo := (show Hid (∀ j, j < L.length → bd o0 ≤ ρ j ∧ ρ j < bd (o0 + 1)) from fun j hj => ⟨Nat.le_trans hlo (Nat.le_of_lt (hρ j hj).1), (hρ j hj).2⟩)
      obtain ⟨C0, hC0⟩ : ∃ C0 : Nat → BitVec 8, (fun c => mm fdE K F (dm K L (pad NN d)) o0 c) = C0 := ⟨_, rfl⟩
      have HC0 := (show Hid ((fun c => mm fdE K F (dm K L (pad NN d)) o0 c) = C0) from hC0)
      have hWb5 : Wb w5 L B0 ρ C0 := ⟨hA0, fun j hj => by rw [← hC0]; exact hR0 j hj, fun j hj => (hρ j hj).1, hup⟩
      have HBd := (show Hid (g < bd o0 ∧ bd (o0 + 1) ≤ w5.heap.size) from ⟨BD5.out.1 o0 (Nat.le_of_lt lo0), Nat.le_trans (bd_up R5.out (i := o0 + 1) (j := T) lo0 (Nat.le_refl _)) BD5.out.2⟩)
      have HW0 := (show Hid (Wb wr L B0 ρ C0) from hWb5.below hb)
      have HOr := (show Hid (Ov wr 44 g (flat (spc ((ftH x K M B key ep ct).of NN) T vs)) (T * 17)) from O5.out.below hb)
      have HHr := (show Hid (HdAt wr w2.heap.size (ftH x K M B key ep ct)) from H5.out.below hb)
      have HYr := (show Hid (NrE wr (.slice py ny cy) ny y) from NrE.below HY5.out hb)
      have HGO := (show Hid (w5.heap.size ≤ gO) from hgO)
      have HLr := (show Hid (L.length ≤ 1000000000 ∧ ∀ j, L.getD j 0 ≤ 140737488355328) from len_bd NU.out.1)
      have k0 : (o0 : Int) < (T : Int) := Int.ofNat_lt.2 lo0
      have kT : 0 < T := HT.out.2.1
      obtain ⟨lw, hlo'⟩ : ∃ lw, bd o0 = lw := ⟨_, rfl⟩
      obtain ⟨hi', hhi'⟩ : ∃ hi', bd (o0 + 1) = hi' := ⟨_, rfl⟩
      have HLH := (show Hid (bd o0 = lw ∧ bd (o0 + 1) = hi') from ⟨hlo', hhi'⟩)
      rw [hlo', hhi'] at HRo HBd
      obtain ⟨w6, hw6⟩ : ∃ w6, w6 = wr := ⟨_, rfl⟩
      subst hw6
      clear hown hcO ho0 hO hb hv0 hA0 hR0 hρ hup hlo hhi hWb5 hgO hlo' hhi' hC0 O5 H5 HY5 lo0
      have cO : w6.cell? ⟨gO, 0, none⟩ = some (.int .i64 (o0 : Int)) := by
        have h := HCO.out 0 kT
        rw [HO0.out] at h; exact h
      go_wp2_with (fail)
      clear cO
      go_loopw [13, 14] (fun u j wq => ∃ (used t : Nat) (C : Nat → BitVec 8), t ≤ L.length ∧ used ≤ ny ∧ u = .int .i64 (used : Int) ∧ j = .int .i64 (t : Int) ∧ Hid (Wb wq L B0 ρ C) ∧ Hid (Kp lw hi' w6 wq)) (fun _ j _ => L.length - (intOf j).toNat)
      case atStart => exact ⟨0, 0, C0, Nat.zero_le _, Nat.zero_le _, rfl, rfl, HW0.out, Kp.refl _ _ _⟩
      case round =>
        obtain ⟨used, t, C, ht, hu, rfl, rfl, hW, hKp⟩ := hrel
        have cO := hKp.out.cell (HCO.out 0 kT) (bd_out HBd.out HGO.out)
        rw [HO0.out] at cO
        have cG := hKp.out.ov HOr.out (bd_in HBd.out)
        have cB : wr.cell? ⟨g, o0 * 17 + 16, none⟩ = some (.slice (some ⟨B0, 0, none⟩) L.length L.length) := by
          rw [flat_at cG o0 16 HLo0.out (by decide)]
          unfold spc
          rw [if_pos HLo0.out, shc_blocks, HV0.out]
        by_cases hlt : t < L.length
        · have j1 : (t : Int) < (L.length : Int) := Int.ofNat_lt.2 hlt
          have HTt := (show Hid (t < L.length) from hlt)
          have WT := (show Hid (wrap64 ((t : Int) + 1) = ((t + 1 : Nat) : Int)) from w_succ HTt.out (Nat.le_trans HLr.out.1 (by decide)))
          obtain ⟨l, hl⟩ : ∃ l, L.getD t 0 = l := ⟨_, rfl⟩
          have HLl := (show Hid (L.getD t 0 = l) from hl)
          have HUs := (show Hid (used ≤ ny) from hu)
          obtain ⟨W0, hW0⟩ : ∃ W0, W0 = wr := ⟨_, rfl⟩
          subst hW0
          have HWs := (show Hid (Wb W0 L B0 ρ C) from hW.out)
          have HKs := (show Hid (Kp lw hi' w6 W0) from hKp.out)
          clear hW hKp cG hl hlt ht hu
          go_wp2_with (fail)
          clear cO cB
          go_loopw [13, 15] (fun u kk wq => ∃ (us k : Nat) (C : Nat → BitVec 8), k ≤ l ∧ us ≤ ny ∧ u = .int .i64 (us : Int) ∧ kk = .int .i64 (k : Int) ∧ Hid (Wb wq L B0 ρ C) ∧ Hid (Kp lw hi' w6 wq)) (fun _ kk _ => l - (intOf kk).toNat)
          case atStart => exact ⟨used, 0, C, Nat.zero_le _, HUs.out, rfl, rfl, HWs.out, HKs.out⟩
          case round =>
            obtain ⟨us, k, C2, hk, hus, rfl, rfl, hW, hKp⟩ := hrel
            have cO := hKp.out.cell (HCO.out 0 kT) (bd_out HBd.out HGO.out)
            rw [HO0.out] at cO
            have cG := hKp.out.ov HOr.out (bd_in HBd.out)
            have cB : wr.cell? ⟨g, o0 * 17 + 16, none⟩ = some (.slice (some ⟨B0, 0, none⟩) L.length L.length) := by
              rw [flat_at cG o0 16 HLo0.out (by decide)]
              unfold spc
              rw [if_pos HLo0.out, shc_blocks, HV0.out]
            have cA := hW.out.arr.cell HTt.out
            rw [HLl.out] at cA
            have j1 : (t : Int) < (L.length : Int) := Int.ofNat_lt.2 HTt.out
            clear cG
            by_cases hlk : k < l
            · have j2 : (k : Int) < (l : Int) := Int.ofNat_lt.2 hlk
              by_cases hlu : us < ny
              · have j3 : (us : Int) < (ny : Int) := Int.ofNat_lt.2 hlu
                have cR := (hW.out.row t HTt.out).cell (i := k) (by rw [HLl.out]; exact hlk)
                have cF := (hW.out.row t HTt.out).frozen k
                obtain ⟨by', oy', epy, hcy⟩ := (nr_un10 HYh.out) (Nat.lt_of_le_of_lt (Nat.zero_le _) hlu)
                have cY0 := hcy us hlu
                have hby : by' < w.heap.size := block_lt_of_cell cY0
                have cY := hKp.out.cell (cell_below cY0 (bt HB5.out HBr.out)) (bd_low hby GW.out HBd.out.1)
                have HUl := (show Hid (us < ny) from hlu)
                have HKl := (show Hid (k < l) from hlk)
                have WU := (show Hid (wrap64 ((us : Int) + 1) = ((us + 1 : Nat) : Int)) from w_succ hlu HNY.out)
                have WK := (show Hid (wrap64 ((k : Int) + 1) = ((k + 1 : Nat) : Int)) from w_succ hlk (Nat.le_trans (by rw [← HLl.out]; exact HLr.out.2 t) (by decide : 140737488355328 ≤ 9223372036854775807)))
                have HWn := (show Hid (Wb (wr.drew.setCell ⟨ρ t, k, none⟩ (.int .u8 (el (y us)))) L B0 ρ (fun c => if c = (L.take t).sum + k then y us else C2 c)) from (hW.out.below (bdr wr)).set HTt.out (by rw [HLl.out]; exact hlk) (y us))
                have HKn := (show Hid (Kp lw hi' w6 (wr.drew.setCell ⟨ρ t, k, none⟩ (.int .u8 (el (y us))))) from hKp.out.drew.set (HRo.out t HTt.out).1 (HRo.out t HTt.out).2 _ _)
                subst epy
                clear hW hKp hlk hlu hcy cY0 hk hus hby
                unfold clE at cY cR
                go_wp2_with (fail)
                go_region
                all_goals
                  go_wp2_with (fail)
                  go_roundw
                  case rel => first | exact ⟨us + 1, k + 1, _, HKl.out, HUl.out, by rw [WU.out], by rw [WK.out], HWn.out, HKn.out⟩ | ((repeat apply Exists.intro); exact ⟨⟨us + 1, k + 1, _, HKl.out, HUl.out, by rw [WU.out], by rw [WK.out], HWn.out, HKn.out⟩, rfl⟩)
                  case measure => first | (rw [WK.out]; exact meas10 HKl.out) | exact meas10 HKl.out
              · have j3 : ¬ (us : Int) < (ny : Int) := fun h => hlu (Int.ofNat_lt.1 h)
                go_wp2_with (fail)
                rw [WT.out]
                exact ⟨⟨us, t + 1, C2, HTt.out, hus, rfl, rfl, hW.out, hKp.out⟩, meas10 HTt.out⟩
            · have j2 : ¬ (k : Int) < (l : Int) := fun h => hlk (Int.ofNat_lt.1 h)
              go_wp2_with (fail)
              rw [WT.out]
              exact ⟨⟨us, t + 1, C2, HTt.out, hus, rfl, rfl, hW.out, hKp.out⟩, meas10 HTt.out⟩
        · have j1 : ¬ (t : Int) < (L.length : Int) := fun h => hlt (Int.ofNat_lt.1 h)
          obtain rfl : t = L.length := Nat.le_antisymm ht (Nat.le_of_not_lt hlt)
          have HKf := (show Hid (Kp lw hi' w6 wr) from hKp.out)
          have HWf := (show Hid (Wb wr L B0 ρ C) from hW.out)
          have O7 := (show Hid (Ov wr 44 g (flat (lsp (ftH x K M B key ep ct) NN vs (qo P T (1 - 1)) T)) (T * 17)) from by rw [show (1 - 1 : Nat) = 0 from rfl, qo_zero, lsp_nil]; exact lsp_zero [] cG)
          have H7 := (show Hid (HdAt wr w2.heap.size (ftH x K M B key ep ct)) from HdAt.kp HHr.out hKp.out (bd_low2 GL.out.1 HBd.out.1))
          have HC7 : Hid (∀ i, i < T → wr.cell? ⟨gO, i, none⟩ = some (.int .i64 (od P T i : Nat))) := fun i hi => hKp.out.cell (HCO.out i hi) (bd_out HBd.out HGO.out)
          have HGg := (show Hid (gO ≠ g ∧ w2.heap.size ≠ g) from ⟨Nat.ne_of_gt (Nat.lt_of_lt_of_le GL.out.2 (Nat.le_trans (Nat.le_of_lt SZ5.out) HGO.out)), Nat.ne_of_lt GL.out.1⟩)
          obtain ⟨w7, hw7⟩ : ∃ w7, w7 = wr := ⟨_, rfl⟩
          subst hw7
          clear cG hW hKp
          go_wp2_with (fail)
          clear cO cB j1
          go_loopw [16] (fun i wr => ∃ s : Nat, 1 ≤ s ∧ s ≤ M + 1 ∧ i = .int .i64 (s : Int) ∧ Hid (Ov wr 44 g (flat (lsp (ftH x K M B key ep ct) NN vs (qo P T (s - 1)) T)) (T * 17)) ∧ Hid (But g w7 wr)) (fun i _ => M + 1 - (intOf i).toNat)
          case atStart => exact ⟨1, Nat.le_refl _, Nat.succ_le_succ (Nat.zero_le _), rfl, O7.out, But.refl _ _⟩
          case round =>
            obtain ⟨s, hs1, hs2, rfl, hO, hbu⟩ := hrel
            have a9 := (show wr.cell? ⟨w2.heap.size, 9, none⟩ = some (.int .i64 (M : Int)) from (H7.out.but hbu.out HGg.out.2).cells.2.1)
            by_cases hlt : s ≤ M
            · have j5 : (s : Int) ≤ (M : Int) := Int.ofNat_le.2 hlt
              have hsT : s < T := Nat.lt_of_le_of_lt hlt HT.out.2.2
              have j6 : (s : Int) < (T : Int) := Int.ofNat_lt.2 hsT
              have cS := hbu.out.cell (HC7.out s hsT) HGg.out.1
              obtain ⟨os, hos⟩ : ∃ os, od P T s = os := ⟨_, rfl⟩
              have HOs := (show Hid (od P T s = os) from hos)
              have los : os < T := by rw [← hos]; exact od_lt hsT
              rw [hos] at cS
              have j7 : (os : Int) < (T : Int) := Int.ofNat_lt.2 los
              have HLos := (show Hid (os < T) from los)
              have HS1 := (show Hid (1 ≤ s ∧ s ≤ M) from ⟨hs1, hlt⟩)
              have WS := (show Hid (wrap64 ((s : Int) + 1) = ((s + 1 : Nat) : Int)) from w_succ hsT (Nat.le_trans HT.out.1 (by decide)))
              clear hos los hsT hlt hs1 hs2
              go_wp2_with (first
                | (refine wpList_stSd rfl _ _ rfl rfl g os T (shc hd0 (.slice none 0 0)) rfl sh0 (shc_size _ _) (shc_all _ _ rfl) 44 _ hO.out HLos.out ?_; intro w8 hO8 hBu8))
              go_roundw
              case rel =>
                rw [lsp_add _ _ _ _ _ _ HLos.out, ← HOs.out, ← qo_step P T s HS1.out.1] at hO8
                exact ⟨s + 1, Nat.succ_le_succ (Nat.zero_le _), Nat.succ_le_succ HS1.out.2, by first | rfl | rw [WS.out], hO8, hbu.out.trans hBu8⟩
              case measure => first | exact meas10 (Nat.lt_succ_of_le HS1.out.2) | (rw [WS.out]; exact meas10 (Nat.lt_succ_of_le HS1.out.2))
            · have j5 : ¬ (s : Int) ≤ (M : Int) := fun h => hlt (Int.ofNat_le.1 h)
              obtain rfl : s = M + 1 := Nat.le_antisymm hs2 (Nat.lt_of_not_le hlt)
              have eT := HTe.out
              obtain ⟨Q, hQ⟩ : ∃ Q, qo P T M = Q := ⟨_, rfl⟩
              have HQf := (show Hid (¬ o0 ∈ Q) from by show ¬ o0 ∈ Q; rw [← HO0.out, ← hQ]; exact qo_first HT.out.2.2)
              have HQl := (show Hid (Q.length ≤ M) from by show _ ≤ _; rw [← hQ, qo_len]; exact Nat.le_refl _)
              have HQT : (thr (lo Q 1) (K + M)).length = K := by rw [← hQ, ← eT]; exact qo_thr HF.out.k1 (by decide)
              have hOq : Ov wr 44 g (flat (lsp (ftH x K M B key ep ct) NN vs Q T)) (T * 17) := by rw [← hQ]; exact hO.out
              obtain ⟨D, hDD⟩ := Fac.open FA.out HF.out.km HQT (fun i c => if i = o0 then C c else mm fdE K F (dm K L (pad NN d)) i c)
              have HDD := (show Hid (∀ i, i < K + M → ¬ i ∈ Q → ∀ c, (if i = o0 then C c else mm fdE K F (dm K L (pad NN d)) i c) = mm fdE K F D i c) from fun i hi hq c => hDD i hi (lo_pos hq (by decide)) c)
              have g7 : w7.heap[g]? = some (.cells (rv (flat (lsp (ftH x K M B key ep ct) NN vs (qo P T (1 - 1)) T)) (T * 17)) 44 (0, 0)) := ov_heap O7.out
              have HNM := (show Hid (∀ i, i < K + M → i ∉ Q → NmT wr (vs i) L.length (fun j => L.getD j 0) (fun j x => mm fdE K F D i ((L.take j).sum + x))) from fun i hi hq => by
                have hfun := HDD.out i hi hq
                by_cases e : i = o0
                · subst e
                  rw [HV0.out]
                  have h1 := HWf.out.nmt.but hbu.out g7 (by decide) (by decide)
                  have e2 : (fun (j : Nat) (x : Nat) => C ((L.take j).sum + x)) = (fun j x => mm fdE K F D i ((L.take j).sum + x)) := by
                    funext j x
                    have := hfun ((L.take j).sum + x)
                    rw [if_pos rfl] at this
                    exact this
                  rw [← e2]; exact h1
                · have h0 := R5.out i (by rw [← eT]; exact hi)
                  have hd : bd (i + 1) ≤ lw ∨ hi' ≤ bd i := by
                    rw [← HLH.out.1, ← HLH.out.2]
                    rcases Nat.lt_or_ge i o0 with h9 | h9
                    · exact .inl (bd_up R5.out h9 (Nat.le_of_lt HLo0.out))
                    · exact .inr (bd_up R5.out (Nat.lt_of_le_of_ne h9 (Ne.symm e)) (by rw [← eT]; exact Nat.le_of_lt hi))
                  have h1 := ((h0.below HBr.out).kp HKf.out hd).nmt.but hbu.out g7 (by decide) (by decide)
                  have e2 : (fun (j : Nat) (x : Nat) => mm fdE K F (dm K L (pad NN d)) i ((L.take j).sum + x)) = (fun j x => mm fdE K F D i ((L.take j).sum + x)) := by
                    funext j x
                    have := hfun ((L.take j).sum + x)
                    rw [if_neg e] at this
                    exact this
                  rw [← e2]; exact h1)
              have HVF := (show Hid (∀ i, i < K + M → ∃ b, vs i = .slice (some ⟨b, 0, none⟩) L.length L.length) from fun i hi => (R5.out i (by rw [← eT]; exact hi)).form)
              obtain ⟨mh, ob⟩ := obs_of2 (ft_in HF.out) HF.out.y HF.out.n ((chk_ok _).2 (ft_ok HF.out)) NU.out.1 NU.out.2.1 NU.out.2.2 FA.out (by rw [eT]; exact hOq) HVF.out HNM.out HQl.out
              have JO := (show Hid _ from join_ok ob)
              rw [eT] at JO
              have HOq := (show Hid (Ov wr 44 g (flat (lsp (ftH x K M B key ep ct) NN vs Q T)) (T * 17)) from hOq)
              have HHq := (show Hid (HdAt wr w2.heap.size (ftH x K M B key ep ct)) from H7.out.but hbu.out HGg.out.2)
              have HBq := (show Hid (Below w.heap.size w wr) from ((HB5.out.trans (HBr.out.mono HB5.out.size)).trans (HKf.out.bl.mono (Nat.le_of_lt (Nat.lt_of_le_of_lt GW.out HBd.out.1)))).trans (hbu.out.bl.mono GW.out))
              have x5 : ((NN : Int) != (NN : Int)) = false := by simp
              have x6 : ((K : Int) + (M : Int) != (T : Int)) = false := by rw [← eT]; simp
              clear ob hOq g7 HQT hDD hO hbu hs1 hs2 hlt hQ H7 O7 HC7 HWf HKf HCO HC0 HW0 HOr HHr HYr HYh
              go_wp2_with (first
                | (go_at_call 8; refine JO.out.mono ?_; rintro e w8 ⟨qj, dj, rfl, hdj, hNj, hb8⟩; have H8 := (show HdAt w8 w2.heap.size (ftH x K M B key ep ct) from HHq.out.below hb8); have NJ := (show Hid (NrE w8 (.slice qj NN dj) NN (obm K L D)) from hNj); clear hNj)
                | (refine wpList_loadHd rfl _ rfl w2.heap.size rfl H8 ?_)
                | (go_at_call 6; refine (split_ok (ftH x K M B key ep ct) (ft_in HF.out) HF.out.y qj NN dj HF.out.n hdj (obm K L D) w8 NJ.out ((chk_ok _).2 (ft_ok HF.out)) K M B L NU.out.1 NU.out.2.1 NU.out.2.2).mono ?_; rintro e w9 ⟨g9, F9, vs9, rfl, hF9, hO9, hR9, hg9, hb9⟩))
              have HF9 := (show Hid (Fac K F9) from hF9)
              have HB9 := (show Hid (Below wr.heap.size wr w9) from bt hb8 hb9)
              have HO9 := (show Hid (Ov w9 44 g9 (flat (spc ((ftH x K M B key ep ct).of NN) (K + M) vs9)) ((K + M) * 17)) from hO9)
              have HR9 := (show Hid (∀ i, i < K + M → (∃ b, vs9 i = .slice (some ⟨b, 0, none⟩) L.length L.length) ∧ NmT w9 (vs9 i) L.length (fun j => L.getD j 0) (fun j x => mm fdE K F9 (dm K L (pad NN (obm K L D))) i ((L.take j).sum + x))) from hR9)
              have HOp := (show Hid (Ov w9 44 g (flat (lsp (ftH x K M B key ep ct) NN vs Q T)) (T * 17)) from HOq.out.below HB9.out)
              have HNp := (show Hid (∀ i, i < K + M → i ∉ Q → NmT w9 (vs i) L.length (fun j => L.getD j 0) (fun j x => mm fdE K F D i ((L.take j).sum + x))) from fun i hi hq => (HNM.out i hi hq).below HB9.out)
              have HBz := (show Hid (Below w.heap.size w w9) from bt HBq.out HB9.out)
              clear hF9 hO9 hR9 hb8 hb9 hg9 hdj x5 x6 JO HNM HOq NJ H8 HHq
              go_loopw [21] (fun i wr => ∃ t : Nat, t ≤ T ∧ i = .int .i64 (t : Int) ∧ Hid (Below w9.heap.size w9 wr)) (fun i _ => T - (intOf i).toNat)
              case atStart => exact ⟨0, Nat.zero_le _, rfl, Below.refl _ _⟩
              case round =>
                obtain ⟨t, ht, rfl, hB⟩ := hrel
                by_cases hlt : t < T
                · have j1 : (t : Int) < (T : Int) := Int.ofNat_lt.2 hlt
                  have HTt := (show Hid (t < T) from hlt)
                  have hKM : t < K + M := by rw [eT]; exact hlt
                  have j2 : (t : Int) < (K : Int) + (M : Int) := by rw [← Int.natCast_add]; exact Int.ofNat_lt.2 hKM
                  have WT := (show Hid (wrap64 ((t : Int) + 1) = ((t + 1 : Nat) : Int)) from w_succ hlt (Nat.le_trans HT.out.1 (by decide)))
                  have hbd : Below wr.heap.size wr wr.drew := bdr wr
                  by_cases hq : t ∈ Q
                  · have S1 := sd_of (HOp.out.below (bt hB.out hbd)) hlt (lsp_in hlt hq)
                    have RS := S1.runS
                    clear S1
                    clear hlt ht
                    go_wp2_with (fail)
                    refine wp_region_held_drew (S := fun X => (loadVar 29 ⟨g, t * 17 + 8, none⟩).run Try.prog X = .ok (.agg #[.int .i64 0, .int .i64 0, .int .i64 0]) X) (by kernel_rfl) RS (fun hHeld => ?_)
                    refine takeHr (i := 0) (d := some 190) (v := ?v1) rfl rfl (by kernel_rfl) (by kernel_rfl) (by kernel_rfl) (fun _ _ _ h => h) (Or.inl ⟨by rfl, ?hy1⟩) hHeld ?rest1
                    case hy1 => intro X hSw; go_simp <;> with_reducible rfl
                    try simp only [Act.put, List.setIfInBounds_toArray, List.set_cons_zero, List.set_cons_succ]
                    refine takeHr (i := 1) (d := some 191) (v := ?v2) rfl rfl (by kernel_rfl) (by kernel_rfl) (by kernel_rfl) (fun _ _ _ h => h) (Or.inl ⟨by rfl, ?hy2⟩) hHeld ?rest2
                    case hy2 => intro X hSw; go_simp <;> with_reducible rfl
                    try simp only [Act.put, List.setIfInBounds_toArray, List.set_cons_zero, List.set_cons_succ]
                    refine takeHr (i := 2) (d := some 192) (v := ?v3) rfl rfl (by kernel_rfl) (by kernel_rfl) (by kernel_rfl) (fun _ _ _ h => h) (Or.inl ⟨by rfl, ?hy3⟩) hHeld ?rest3
                    case hy3 => intro X hSw; go_simp <;> with_reducible rfl
                    try simp only [Act.put, List.setIfInBounds_toArray, List.set_cons_zero, List.set_cons_succ]
                    refine takeHr (i := 3) (d := some 193) (v := ?v4) rfl rfl (by kernel_rfl) (by kernel_rfl) (by kernel_rfl) (fun _ _ _ h => h) (Or.inl ⟨by rfl, ?hy4⟩) hHeld ?rest4
                    case hy4 => intro X hSw; go_simp <;> with_reducible rfl
                    try simp only [Act.put, List.setIfInBounds_toArray, List.set_cons_zero, List.set_cons_succ]
                    refine takeHr (i := 4) (d := some 194) (v := ?v5) rfl rfl (by kernel_rfl) (by kernel_rfl) (by kernel_rfl) (fun _ _ _ h => h) (Or.inl ⟨by rfl, ?hy5⟩) hHeld ?rest5
                    case hy5 => intro X hSw; go_simp <;> with_reducible rfl
                    try simp only [Act.put, List.setIfInBounds_toArray, List.set_cons_zero, List.set_cons_succ]
                    refine takeHr (i := 5) (d := some 195) (v := .agg #[.int .i64 0, .int .i64 0, .int .i64 0]) rfl rfl (by kernel_rfl) (by kernel_rfl) (by kernel_rfl) (fun _ _ _ h => h) (Or.inl ⟨by rfl, ?hy6⟩) hHeld ?rest6
                    case hy6 => intro X hSw; exact ex_ldR rfl rfl hSw
                    try simp only [Act.put, List.setIfInBounds_toArray, List.set_cons_zero, List.set_cons_succ]
                    refine takeHr (i := 6) (d := some 196) (v := ?v7) rfl rfl (by kernel_rfl) (by kernel_rfl) (by kernel_rfl) (fun _ _ _ h => h) (Or.inl ⟨by rfl, ?hy7⟩) hHeld ?rest7
                    case hy7 => intro X hSw; go_simp <;> with_reducible rfl
                    try simp only [Act.put, List.setIfInBounds_toArray, List.set_cons_zero, List.set_cons_succ]
                    refine takeHr (i := 7) (d := some 197) (v := .bool false) rfl rfl (by kernel_rfl) (by kernel_rfl) (by kernel_rfl) (fun _ _ _ h => h) (Or.inl ⟨by rfl, ?hy8⟩) hHeld ?rest8
                    case hy8 => intro X hSw; exact ex_bin rfl rfl rfl (by kernel_rfl) (neq_shape 0 0 0 _)
                    try simp only [Act.put, List.setIfInBounds_toArray, List.set_cons_zero, List.set_cons_succ]
                    refine takeHr (i := 8) (d := some 198) (v := ?v9) rfl rfl (by kernel_rfl) (by kernel_rfl) (by kernel_rfl) (fun _ _ _ h => h) (Or.inl ⟨by rfl, ?hy9⟩) hHeld ?rest9
                    case hy9 => intro X hSw; go_simp <;> with_reducible rfl
                    try simp only [Act.put, List.setIfInBounds_toArray, List.set_cons_zero, List.set_cons_succ]
                    refine takeHr (i := 9) (d := some 199) (v := undef) rfl rfl (by kernel_rfl) (by kernel_rfl) (by kernel_rfl) (fun _ _ _ h => h) (Or.inr ⟨by rfl, rfl⟩) hHeld ?_
                    try simp only [Act.put, List.setIfInBounds_toArray, List.set_cons_zero, List.set_cons_succ]
                    refine takeHr (i := 10) (d := some 200) (v := undef) rfl rfl (by kernel_rfl) (by kernel_rfl) (by kernel_rfl) (fun _ _ _ h => h) (Or.inr ⟨by rfl, rfl⟩) hHeld ?_
                    try simp only [Act.put, List.setIfInBounds_toArray, List.set_cons_zero, List.set_cons_succ]
                    refine takeHr (i := 11) (d := some 201) (v := undef) rfl rfl (by kernel_rfl) (by kernel_rfl) (by kernel_rfl) (fun _ _ _ h => h) (Or.inr ⟨by rfl, rfl⟩) hHeld ?_
                    try simp only [Act.put, List.setIfInBounds_toArray, List.set_cons_zero, List.set_cons_succ]
                    refine takeHr (i := 12) (d := some 202) (v := undef) rfl rfl (by kernel_rfl) (by kernel_rfl) (by kernel_rfl) (fun _ _ _ h => h) (Or.inr ⟨by rfl, rfl⟩) hHeld ?_
                    try simp only [Act.put, List.setIfInBounds_toArray, List.set_cons_zero, List.set_cons_succ]
                    refine takeHr (i := 13) (d := some 203) (v := undef) rfl rfl (by kernel_rfl) (by kernel_rfl) (by kernel_rfl) (fun _ _ _ h => h) (Or.inr ⟨by rfl, rfl⟩) hHeld ?_
                    try simp only [Act.put, List.setIfInBounds_toArray, List.set_cons_zero, List.set_cons_succ]
                    refine takeHr (i := 14) (d := some 204) (v := undef) rfl rfl (by kernel_rfl) (by kernel_rfl) (by kernel_rfl) (fun _ _ _ h => h) (Or.inr ⟨by rfl, rfl⟩) hHeld ?_
                    try simp only [Act.put, List.setIfInBounds_toArray, List.set_cons_zero, List.set_cons_succ]
                    refine takeHr (i := 15) (d := some 205) (v := undef) rfl rfl (by kernel_rfl) (by kernel_rfl) (by kernel_rfl) (fun _ _ _ h => h) (Or.inr ⟨by rfl, rfl⟩) hHeld ?_
                    try simp only [Act.put, List.setIfInBounds_toArray, List.set_cons_zero, List.set_cons_succ]
                    refine takeHr (i := 16) (d := some 206) (v := undef) rfl rfl (by kernel_rfl) (by kernel_rfl) (by kernel_rfl) (fun _ _ _ h => h) (Or.inr ⟨by rfl, rfl⟩) hHeld ?_
                    try simp only [Act.put, List.setIfInBounds_toArray, List.set_cons_zero, List.set_cons_succ]
                    refine takeHr (i := 17) (d := some 207) (v := undef) rfl rfl (by kernel_rfl) (by kernel_rfl) (by kernel_rfl) (fun _ _ _ h => h) (Or.inr ⟨by rfl, rfl⟩) hHeld ?_
                    try simp only [Act.put, List.setIfInBounds_toArray, List.set_cons_zero, List.set_cons_succ]
                    refine takeHr (i := 18) (d := some 208) (v := undef) rfl rfl (by kernel_rfl) (by kernel_rfl) (by kernel_rfl) (fun _ _ _ h => h) (Or.inr ⟨by rfl, rfl⟩) hHeld ?_
                    try simp only [Act.put, List.setIfInBounds_toArray, List.set_cons_zero, List.set_cons_succ]
                    refine takeHr (i := 19) (d := some 209) (v := undef) rfl rfl (by kernel_rfl) (by kernel_rfl) (by kernel_rfl) (fun _ _ _ h => h) (Or.inr ⟨by rfl, rfl⟩) hHeld ?_
                    try simp only [Act.put, List.setIfInBounds_toArray, List.set_cons_zero, List.set_cons_succ]
                    refine takeHr (i := 20) (d := some 210) (v := undef) rfl rfl (by kernel_rfl) (by kernel_rfl) (by kernel_rfl) (fun _ _ _ h => h) (Or.inr ⟨by rfl, rfl⟩) hHeld ?_
                    try simp only [Act.put, List.setIfInBounds_toArray, List.set_cons_zero, List.set_cons_succ]
                    refine takeHr (i := 21) (d := some 211) (v := undef) rfl rfl (by kernel_rfl) (by kernel_rfl) (by kernel_rfl) (fun _ _ _ h => h) (Or.inr ⟨by rfl, rfl⟩) hHeld ?_
                    try simp only [Act.put, List.setIfInBounds_toArray, List.set_cons_zero, List.set_cons_succ]
                    refine takeHr (i := 22) (d := some 212) (v := undef) rfl rfl (by kernel_rfl) (by kernel_rfl) (by kernel_rfl) (fun _ _ _ h => h) (Or.inr ⟨by rfl, rfl⟩) hHeld ?_
                    try simp only [Act.put, List.setIfInBounds_toArray, List.set_cons_zero, List.set_cons_succ]
                    refine takeHr (i := 23) (d := some 213) (v := undef) rfl rfl (by kernel_rfl) (by kernel_rfl) (by kernel_rfl) (fun _ _ _ h => h) (Or.inr ⟨by rfl, rfl⟩) hHeld ?_
                    try simp only [Act.put, List.setIfInBounds_toArray, List.set_cons_zero, List.set_cons_succ]
                    refine takeHr (i := 24) (d := some 214) (v := undef) rfl rfl (by kernel_rfl) (by kernel_rfl) (by kernel_rfl) (fun _ _ _ h => h) (Or.inr ⟨by rfl, rfl⟩) hHeld ?_
                    try simp only [Act.put, List.setIfInBounds_toArray, List.set_cons_zero, List.set_cons_succ]
                    refine takeHr (i := 25) (d := some 215) (v := undef) rfl rfl (by kernel_rfl) (by kernel_rfl) (by kernel_rfl) (fun _ _ _ h => h) (Or.inr ⟨by rfl, rfl⟩) hHeld ?_
                    try simp only [Act.put, List.setIfInBounds_toArray, List.set_cons_zero, List.set_cons_succ]
                    refine takeHr (i := 26) (d := some 216) (v := undef) rfl rfl (by kernel_rfl) (by kernel_rfl) (by kernel_rfl) (fun _ _ _ h => h) (Or.inr ⟨by rfl, rfl⟩) hHeld ?_
                    try simp only [Act.put, List.setIfInBounds_toArray, List.set_cons_zero, List.set_cons_succ]
                    refine takeHr (i := 27) (d := some 217) (v := undef) rfl rfl (by kernel_rfl) (by kernel_rfl) (by kernel_rfl) (fun _ _ _ h => h) (Or.inr ⟨by rfl, rfl⟩) hHeld ?_
                    try simp only [Act.put, List.setIfInBounds_toArray, List.set_cons_zero, List.set_cons_succ]
                    refine takeHr (i := 28) (d := some 218) (v := undef) rfl rfl (by kernel_rfl) (by kernel_rfl) (by kernel_rfl) (fun _ _ _ h => h) (Or.inr ⟨by rfl, rfl⟩) hHeld ?_
                    try simp only [Act.put, List.setIfInBounds_toArray, List.set_cons_zero, List.set_cons_succ]
                    refine takeHr (i := 29) (d := some 219) (v := undef) rfl rfl (by kernel_rfl) (by kernel_rfl) (by kernel_rfl) (fun _ _ _ h => h) (Or.inr ⟨by rfl, rfl⟩) hHeld ?_
                    try simp only [Act.put, List.setIfInBounds_toArray, List.set_cons_zero, List.set_cons_succ]
                    refine takeHr (i := 30) (d := some 220) (v := undef) rfl rfl (by kernel_rfl) (by kernel_rfl) (by kernel_rfl) (fun _ _ _ h => h) (Or.inr ⟨by rfl, rfl⟩) hHeld ?_
                    try simp only [Act.put, List.setIfInBounds_toArray, List.set_cons_zero, List.set_cons_succ]
                    refine takeHr (i := 31) (d := some 221) (v := undef) rfl rfl (by kernel_rfl) (by kernel_rfl) (by kernel_rfl) (fun _ _ _ h => h) (Or.inr ⟨by rfl, rfl⟩) hHeld ?_
                    try simp only [Act.put, List.setIfInBounds_toArray, List.set_cons_zero, List.set_cons_succ]
                    refine takeHr (i := 32) (d := some 222) (v := undef) rfl rfl (by kernel_rfl) (by kernel_rfl) (by kernel_rfl) (fun _ _ _ h => h) (Or.inr ⟨by rfl, rfl⟩) hHeld ?_
                    try simp only [Act.put, List.setIfInBounds_toArray, List.set_cons_zero, List.set_cons_succ]
                    refine takeHr (i := 33) (d := some 223) (v := undef) rfl rfl (by kernel_rfl) (by kernel_rfl) (by kernel_rfl) (fun _ _ _ h => h) (Or.inr ⟨by rfl, rfl⟩) hHeld ?_
                    try simp only [Act.put, List.setIfInBounds_toArray, List.set_cons_zero, List.set_cons_succ]
                    refine takeHr (i := 34) (d := some 224) (v := ?v35) rfl rfl (by kernel_rfl) (by kernel_rfl) (by kernel_rfl) (fun _ _ _ h => h) (Or.inl ⟨by rfl, ?hy35⟩) hHeld ?rest35
                    case hy35 => intro X hSw; go_simp <;> with_reducible rfl
                    try simp only [Act.put, List.setIfInBounds_toArray, List.set_cons_zero, List.set_cons_succ]
                    refine wpAnyH_done (by kernel_rfl) ?_ _
                    clear hHeld RS
                    go_wp2_with (fail)
                    go_roundw
                    case rel => exact ⟨t + 1, HTt.out, by first | rfl | rw [WT.out], hB.out.drew⟩
                    case measure => first | exact meas10 HTt.out | (rw [WT.out]; exact meas10 HTt.out)
                  · have S1 := sd_of (HOp.out.below (bt hB.out hbd)) hlt (lsp_out hq)
                    have S2 := sd_of (HO9.out.below (bt hB.out hbd)) hKM (spc_at hKM)
                    obtain ⟨b1, e1⟩ := HVF.out t hKM
                    obtain ⟨⟨b2, e2⟩, hN2⟩ := HR9.out t hKM
                    have hN1 := HNp.out t hKM hq
                    rw [e1] at S1 hN1
                    rw [e2] at S2 hN2
                    have SA := (show Hid (∀ X, Below wr.drew.heap.size wr.drew X → _) from fun X hX => same10 (some ⟨b1, 0, none⟩) (some ⟨b2, 0, none⟩) L.length L.length L.length (fun j => L.getD j 0) _ _ X (Nat.le_trans HLr.out.1 (by decide)) ((hN1.below (bt (bt hB.out hbd) hX)).nm) ((hN2.below (bt (bt hB.out hbd) hX)).nm) (fun j hj x hx => by
                      rw [Fac.word_one FA.out HF9.out]
                      exact (nu_obj NU.out.1 HR4.out F9 D t hj hx).symm))
                    have SD1 := (show Hid (Sd wr.drew g (t * 17) ({ (ftH x K M B key ep ct).of NN with ix := (t : Int) } : Hd) (.slice (some ⟨b1, 0, none⟩) L.length L.length)) from S1)
                    have SD2 := (show Hid (Sd wr.drew g9 (t * 17) ({ (ftH x K M B key ep ct).of NN with ix := (t : Int) } : Hd) (.slice (some ⟨b2, 0, none⟩) L.length L.length)) from S2)
                    clear S1 S2 hN1 hN2 hlt ht
                    go_wp2_with (fail)
                    refine wp_region_held_drew (S := fun X => (loadVar 29 ⟨g, t * 17 + 8, none⟩).run Try.prog X = .ok (.agg #[.int .i64 (K : Int), .int .i64 (M : Int), .int .i64 (B : Int)]) X ∧ (loadVar 33 ⟨g, t * 17, none⟩).run Try.prog X = .ok (.agg ({ (ftH x K M B key ep ct).of NN with ix := (t : Int) } : Hd).cs) X ∧ (loadVar 33 ⟨g9, t * 17, none⟩).run Try.prog X = .ok (.agg ({ (ftH x K M B key ep ct).of NN with ix := (t : Int) } : Hd).cs) X ∧ X.cell? ⟨g, t * 17 + 16, none⟩ = some (.slice (some ⟨b1, 0, none⟩) L.length L.length) ∧ X.cell? ⟨g9, t * 17 + 16, none⟩ = some (.slice (some ⟨b2, 0, none⟩) L.length L.length)) (by kernel_rfl) ⟨SD1.out.runS, SD1.out.runH, SD2.out.runH, SD1.out.last, SD2.out.last⟩ (fun hHeld => ?_)
                    refine takeHr (i := 0) (d := some 190) (v := ?v36) rfl rfl (by kernel_rfl) (by kernel_rfl) (by kernel_rfl) (fun _ _ _ h => h) (Or.inl ⟨by rfl, ?hy36⟩) hHeld ?rest36
                    case hy36 => intro X hSw; obtain ⟨g1, g2, g3, g4, g5⟩ := hSw; go_simp <;> with_reducible rfl
                    try simp only [Act.put, List.setIfInBounds_toArray, List.set_cons_zero, List.set_cons_succ]
                    refine takeHr (i := 1) (d := some 191) (v := ?v37) rfl rfl (by kernel_rfl) (by kernel_rfl) (by kernel_rfl) (fun _ _ _ h => h) (Or.inl ⟨by rfl, ?hy37⟩) hHeld ?rest37
                    case hy37 => intro X hSw; obtain ⟨g1, g2, g3, g4, g5⟩ := hSw; go_simp <;> with_reducible rfl
                    try simp only [Act.put, List.setIfInBounds_toArray, List.set_cons_zero, List.set_cons_succ]
                    refine takeHr (i := 2) (d := some 192) (v := ?v38) rfl rfl (by kernel_rfl) (by kernel_rfl) (by kernel_rfl) (fun _ _ _ h => h) (Or.inl ⟨by rfl, ?hy38⟩) hHeld ?rest38
                    case hy38 => intro X hSw; obtain ⟨g1, g2, g3, g4, g5⟩ := hSw; go_simp <;> with_reducible rfl
                    try simp only [Act.put, List.setIfInBounds_toArray, List.set_cons_zero, List.set_cons_succ]
                    refine takeHr (i := 3) (d := some 193) (v := ?v39) rfl rfl (by kernel_rfl) (by kernel_rfl) (by kernel_rfl) (fun _ _ _ h => h) (Or.inl ⟨by rfl, ?hy39⟩) hHeld ?rest39
                    case hy39 => intro X hSw; obtain ⟨g1, g2, g3, g4, g5⟩ := hSw; go_simp <;> with_reducible rfl
                    try simp only [Act.put, List.setIfInBounds_toArray, List.set_cons_zero, List.set_cons_succ]
                    refine takeHr (i := 4) (d := some 194) (v := ?v40) rfl rfl (by kernel_rfl) (by kernel_rfl) (by kernel_rfl) (fun _ _ _ h => h) (Or.inl ⟨by rfl, ?hy40⟩) hHeld ?rest40
                    case hy40 => intro X hSw; obtain ⟨g1, g2, g3, g4, g5⟩ := hSw; go_simp <;> with_reducible rfl
                    try simp only [Act.put, List.setIfInBounds_toArray, List.set_cons_zero, List.set_cons_succ]
                    refine takeHr (i := 5) (d := some 195) (v := .agg #[.int .i64 (K : Int), .int .i64 (M : Int), .int .i64 (B : Int)]) rfl rfl (by kernel_rfl) (by kernel_rfl) (by kernel_rfl) (fun _ _ _ h => h) (Or.inl ⟨by rfl, ?hy41⟩) hHeld ?rest41
                    case hy41 => intro X hSw; exact ex_ldR rfl rfl hSw.1
                    try simp only [Act.put, List.setIfInBounds_toArray, List.set_cons_zero, List.set_cons_succ]
                    refine takeHr (i := 6) (d := some 196) (v := ?v42) rfl rfl (by kernel_rfl) (by kernel_rfl) (by kernel_rfl) (fun _ _ _ h => h) (Or.inl ⟨by rfl, ?hy42⟩) hHeld ?rest42
                    case hy42 => intro X hSw; obtain ⟨g1, g2, g3, g4, g5⟩ := hSw; go_simp <;> with_reducible rfl
                    try simp only [Act.put, List.setIfInBounds_toArray, List.set_cons_zero, List.set_cons_succ]
                    refine takeHr (i := 7) (d := some 197) (v := .bool true) rfl rfl (by kernel_rfl) (by kernel_rfl) (by kernel_rfl) (fun _ _ _ h => h) (Or.inl ⟨by rfl, ?hy43⟩) hHeld ?rest43
                    case hy43 => intro X hSw; exact ex_bin rfl rfl rfl (by kernel_rfl) (neq_shp0 HF.out.k1 _ _ _)
                    try simp only [Act.put, List.setIfInBounds_toArray, List.set_cons_zero, List.set_cons_succ]
                    refine takeHr (i := 8) (d := some 198) (v := ?v44) rfl rfl (by kernel_rfl) (by kernel_rfl) (by kernel_rfl) (fun _ _ _ h => h) (Or.inl ⟨by rfl, ?hy44⟩) hHeld ?rest44
                    case hy44 => intro X hSw; obtain ⟨g1, g2, g3, g4, g5⟩ := hSw; go_simp <;> with_reducible rfl
                    try simp only [Act.put, List.setIfInBounds_toArray, List.set_cons_zero, List.set_cons_succ]
                    refine takeHr (i := 9) (d := some 199) (v := ?v45) rfl rfl (by kernel_rfl) (by kernel_rfl) (by kernel_rfl) (fun _ _ _ h => h) (Or.inl ⟨by rfl, ?hy45⟩) hHeld ?rest45
                    case hy45 => intro X hSw; obtain ⟨g1, g2, g3, g4, g5⟩ := hSw; go_simp <;> with_reducible rfl
                    try simp only [Act.put, List.setIfInBounds_toArray, List.set_cons_zero, List.set_cons_succ]
                    refine takeHr (i := 10) (d := some 200) (v := ?v46) rfl rfl (by kernel_rfl) (by kernel_rfl) (by kernel_rfl) (fun _ _ _ h => h) (Or.inl ⟨by rfl, ?hy46⟩) hHeld ?rest46
                    case hy46 => intro X hSw; obtain ⟨g1, g2, g3, g4, g5⟩ := hSw; go_simp <;> with_reducible rfl
                    try simp only [Act.put, List.setIfInBounds_toArray, List.set_cons_zero, List.set_cons_succ]
                    refine takeHr (i := 11) (d := some 201) (v := ?v47) rfl rfl (by kernel_rfl) (by kernel_rfl) (by kernel_rfl) (fun _ _ _ h => h) (Or.inl ⟨by rfl, ?hy47⟩) hHeld ?rest47
                    case hy47 => intro X hSw; obtain ⟨g1, g2, g3, g4, g5⟩ := hSw; go_simp <;> with_reducible rfl
                    try simp only [Act.put, List.setIfInBounds_toArray, List.set_cons_zero, List.set_cons_succ]
                    refine takeHr (i := 12) (d := some 202) (v := ?v48) rfl rfl (by kernel_rfl) (by kernel_rfl) (by kernel_rfl) (fun _ _ _ h => h) (Or.inl ⟨by rfl, ?hy48⟩) hHeld ?rest48
                    case hy48 => intro X hSw; obtain ⟨g1, g2, g3, g4, g5⟩ := hSw; go_simp <;> with_reducible rfl
                    try simp only [Act.put, List.setIfInBounds_toArray, List.set_cons_zero, List.set_cons_succ]
                    refine takeHr (i := 13) (d := some 203) (v := .agg ({ (ftH x K M B key ep ct).of NN with ix := (t : Int) } : Hd).cs) rfl rfl (by kernel_rfl) (by kernel_rfl) (by kernel_rfl) (fun _ _ _ h => h) (Or.inl ⟨by rfl, ?hy49⟩) hHeld ?rest49
                    case hy49 => intro X hSw; exact ex_ldR rfl rfl hSw.2.1
                    try simp only [Act.put, List.setIfInBounds_toArray, List.set_cons_zero, List.set_cons_succ]
                    refine takeHr (i := 14) (d := some 204) (v := ?v50) rfl rfl (by kernel_rfl) (by kernel_rfl) (by kernel_rfl) (fun _ _ _ h => h) (Or.inl ⟨by rfl, ?hy50⟩) hHeld ?rest50
                    case hy50 => intro X hSw; obtain ⟨g1, g2, g3, g4, g5⟩ := hSw; go_simp <;> with_reducible rfl
                    try simp only [Act.put, List.setIfInBounds_toArray, List.set_cons_zero, List.set_cons_succ]
                    refine takeHr (i := 15) (d := some 205) (v := ?v51) rfl rfl (by kernel_rfl) (by kernel_rfl) (by kernel_rfl) (fun _ _ _ h => h) (Or.inl ⟨by rfl, ?hy51⟩) hHeld ?rest51
                    case hy51 => intro X hSw; obtain ⟨g1, g2, g3, g4, g5⟩ := hSw; go_simp <;> with_reducible rfl
                    try simp only [Act.put, List.setIfInBounds_toArray, List.set_cons_zero, List.set_cons_succ]
                    refine takeHr (i := 16) (d := some 206) (v := ?v52) rfl rfl (by kernel_rfl) (by kernel_rfl) (by kernel_rfl) (fun _ _ _ h => h) (Or.inl ⟨by rfl, ?hy52⟩) hHeld ?rest52
                    case hy52 => intro X hSw; obtain ⟨g1, g2, g3, g4, g5⟩ := hSw; go_simp <;> with_reducible rfl
                    try simp only [Act.put, List.setIfInBounds_toArray, List.set_cons_zero, List.set_cons_succ]
                    refine takeHr (i := 17) (d := some 207) (v := ?v53) rfl rfl (by kernel_rfl) (by kernel_rfl) (by kernel_rfl) (fun _ _ _ h => h) (Or.inl ⟨by rfl, ?hy53⟩) hHeld ?rest53
                    case hy53 => intro X hSw; obtain ⟨g1, g2, g3, g4, g5⟩ := hSw; go_simp <;> with_reducible rfl
                    try simp only [Act.put, List.setIfInBounds_toArray, List.set_cons_zero, List.set_cons_succ]
                    refine takeHr (i := 18) (d := some 208) (v := .agg ({ (ftH x K M B key ep ct).of NN with ix := (t : Int) } : Hd).cs) rfl rfl (by kernel_rfl) (by kernel_rfl) (by kernel_rfl) (fun _ _ _ h => h) (Or.inl ⟨by rfl, ?hy54⟩) hHeld ?rest54
                    case hy54 => intro X hSw; exact ex_ldR rfl rfl hSw.2.2.1
                    try simp only [Act.put, List.setIfInBounds_toArray, List.set_cons_zero, List.set_cons_succ]
                    refine takeHr (i := 19) (d := some 209) (v := .bool false) rfl rfl (by kernel_rfl) (by kernel_rfl) (by kernel_rfl) (fun _ _ _ h => h) (Or.inl ⟨by rfl, ?hy55⟩) hHeld ?rest55
                    case hy55 => intro X hSw; exact ex_bin rfl rfl rfl (by kernel_rfl) (neq_head_self _ _)
                    try simp only [Act.put, List.setIfInBounds_toArray, List.set_cons_zero, List.set_cons_succ]
                    refine takeHr (i := 20) (d := some 210) (v := ?v56) rfl rfl (by kernel_rfl) (by kernel_rfl) (by kernel_rfl) (fun _ _ _ h => h) (Or.inl ⟨by rfl, ?hy56⟩) hHeld ?rest56
                    case hy56 => intro X hSw; obtain ⟨g1, g2, g3, g4, g5⟩ := hSw; go_simp <;> with_reducible rfl
                    try simp only [Act.put, List.setIfInBounds_toArray, List.set_cons_zero, List.set_cons_succ]
                    refine takeHr (i := 21) (d := some 211) (v := ?v57) rfl rfl (by kernel_rfl) (by kernel_rfl) (by kernel_rfl) (fun _ _ _ h => h) (Or.inl ⟨by rfl, ?hy57⟩) hHeld ?rest57
                    case hy57 => intro X hSw; obtain ⟨g1, g2, g3, g4, g5⟩ := hSw; go_simp <;> with_reducible rfl
                    try simp only [Act.put, List.setIfInBounds_toArray, List.set_cons_zero, List.set_cons_succ]
                    refine takeHr (i := 22) (d := some 212) (v := ?v58) rfl rfl (by kernel_rfl) (by kernel_rfl) (by kernel_rfl) (fun _ _ _ h => h) (Or.inl ⟨by rfl, ?hy58⟩) hHeld ?rest58
                    case hy58 => intro X hSw; obtain ⟨g1, g2, g3, g4, g5⟩ := hSw; go_simp <;> with_reducible rfl
                    try simp only [Act.put, List.setIfInBounds_toArray, List.set_cons_zero, List.set_cons_succ]
                    refine takeHr (i := 23) (d := some 213) (v := ?v59) rfl rfl (by kernel_rfl) (by kernel_rfl) (by kernel_rfl) (fun _ _ _ h => h) (Or.inl ⟨by rfl, ?hy59⟩) hHeld ?rest59
                    case hy59 => intro X hSw; obtain ⟨g1, g2, g3, g4, g5⟩ := hSw; go_simp <;> with_reducible rfl
                    try simp only [Act.put, List.setIfInBounds_toArray, List.set_cons_zero, List.set_cons_succ]
                    refine takeHr (i := 24) (d := some 214) (v := ?v60) rfl rfl (by kernel_rfl) (by kernel_rfl) (by kernel_rfl) (fun _ _ _ h => h) (Or.inl ⟨by rfl, ?hy60⟩) hHeld ?rest60
                    case hy60 => intro X hSw; obtain ⟨g1, g2, g3, g4, g5⟩ := hSw; go_simp <;> with_reducible rfl
                    try simp only [Act.put, List.setIfInBounds_toArray, List.set_cons_zero, List.set_cons_succ]
                    refine takeHr (i := 25) (d := some 215) (v := ?v61) rfl rfl (by kernel_rfl) (by kernel_rfl) (by kernel_rfl) (fun _ _ _ h => h) (Or.inl ⟨by rfl, ?hy61⟩) hHeld ?rest61
                    case hy61 => intro X hSw; obtain ⟨g1, g2, g3, g4, g5⟩ := hSw; go_simp <;> with_reducible rfl
                    try simp only [Act.put, List.setIfInBounds_toArray, List.set_cons_zero, List.set_cons_succ]
                    refine takeHr (i := 26) (d := some 216) (v := ?v62) rfl rfl (by kernel_rfl) (by kernel_rfl) (by kernel_rfl) (fun _ _ _ h => h) (Or.inl ⟨by rfl, ?hy62⟩) hHeld ?rest62
                    case hy62 => intro X hSw; obtain ⟨g1, g2, g3, g4, g5⟩ := hSw; go_simp <;> with_reducible rfl
                    try simp only [Act.put, List.setIfInBounds_toArray, List.set_cons_zero, List.set_cons_succ]
                    refine takeHr (i := 27) (d := some 217) (v := ?v63) rfl rfl (by kernel_rfl) (by kernel_rfl) (by kernel_rfl) (fun _ _ _ h => h) (Or.inl ⟨by rfl, ?hy63⟩) hHeld ?rest63
                    case hy63 => intro X hSw; obtain ⟨g1, g2, g3, g4, g5⟩ := hSw; go_simp <;> with_reducible rfl
                    try simp only [Act.put, List.setIfInBounds_toArray, List.set_cons_zero, List.set_cons_succ]
                    refine takeHr (i := 28) (d := some 218) (v := ?v64) rfl rfl (by kernel_rfl) (by kernel_rfl) (by kernel_rfl) (fun _ _ _ h => h) (Or.inl ⟨by rfl, ?hy64⟩) hHeld ?rest64
                    case hy64 => intro X hSw; obtain ⟨g1, g2, g3, g4, g5⟩ := hSw; go_simp <;> with_reducible rfl
                    try simp only [Act.put, List.setIfInBounds_toArray, List.set_cons_zero, List.set_cons_succ]
                    refine takeHr (i := 29) (d := some 219) (v := ?v65) rfl rfl (by kernel_rfl) (by kernel_rfl) (by kernel_rfl) (fun _ _ _ h => h) (Or.inl ⟨by rfl, ?hy65⟩) hHeld ?rest65
                    case hy65 => intro X hSw; obtain ⟨g1, g2, g3, g4, g5⟩ := hSw; go_simp <;> with_reducible rfl
                    try simp only [Act.put, List.setIfInBounds_toArray, List.set_cons_zero, List.set_cons_succ]
                    refine takeHr (i := 30) (d := some 220) (v := ?v66) rfl rfl (by kernel_rfl) (by kernel_rfl) (by kernel_rfl) (fun _ _ _ h => h) (Or.inl ⟨by rfl, ?hy66⟩) hHeld ?rest66
                    case hy66 => intro X hSw; obtain ⟨g1, g2, g3, g4, g5⟩ := hSw; go_simp <;> with_reducible rfl
                    try simp only [Act.put, List.setIfInBounds_toArray, List.set_cons_zero, List.set_cons_succ]
                    refine wpAnyH_ready (rs := [31]) (by kernel_rfl) (by simp) ?_
                    refine AllReadyH.cons (o := { dst := some 221, op := Op.call { callee := Callee.value (Operand.func 9), args := #[Operand.tmp 215, Operand.tmp 220], argTypes := #[42, 42] }, type := 4, pos := "outright.go:237", after := #[{ on := 25, ground := Ground.data }, { on := 30, ground := Ground.data }, { on := 20, ground := Ground.chain }, { on := 20, ground := Ground.guard }], guard := some (20, false) }) rfl (fun Kq hKq => ?_) AllReadyH.nil
                    · go_simp
                      refine (SA.out wr.drew (Below.refl _ _)).mono ?_
                      rintro e y67 ⟨rfl, hb67⟩
                      have HBy := (show Hid (Below wr.drew.heap.size wr.drew y67) from hb67)
                      refine hKq.out _ _ ⟨(SD1.out.below HBy.out).runS, (SD1.out.below HBy.out).runH, (SD2.out.below HBy.out).runH, (SD1.out.below HBy.out).last, (SD2.out.below HBy.out).last⟩ (fun hHeld => ?_)
                      clear hKq Kq
                      try simp only [Act.put, List.setIfInBounds_toArray, List.set_cons_zero, List.set_cons_succ]
                      refine takeHr (i := 32) (d := some 222) (v := ?v68) rfl rfl (by kernel_rfl) (by kernel_rfl) (by kernel_rfl) (fun _ _ _ h => h) (Or.inl ⟨by rfl, ?hy68⟩) hHeld ?rest68
                      case hy68 => intro X hSw; obtain ⟨g1, g2, g3, g4, g5⟩ := hSw; go_simp <;> with_reducible rfl
                      try simp only [Act.put, List.setIfInBounds_toArray, List.set_cons_zero, List.set_cons_succ]
                      refine takeHr (i := 33) (d := some 223) (v := ?v69) rfl rfl (by kernel_rfl) (by kernel_rfl) (by kernel_rfl) (fun _ _ _ h => h) (Or.inl ⟨by rfl, ?hy69⟩) hHeld ?rest69
                      case hy69 => intro X hSw; obtain ⟨g1, g2, g3, g4, g5⟩ := hSw; go_simp <;> with_reducible rfl
                      try simp only [Act.put, List.setIfInBounds_toArray, List.set_cons_zero, List.set_cons_succ]
                      refine takeHr (i := 34) (d := some 224) (v := ?v70) rfl rfl (by kernel_rfl) (by kernel_rfl) (by kernel_rfl) (fun _ _ _ h => h) (Or.inl ⟨by rfl, ?hy70⟩) hHeld ?rest70
                      case hy70 => intro X hSw; obtain ⟨g1, g2, g3, g4, g5⟩ := hSw; go_simp <;> with_reducible rfl
                      try simp only [Act.put, List.setIfInBounds_toArray, List.set_cons_zero, List.set_cons_succ]
                      refine wpAnyH_done (by kernel_rfl) ?_ _
                      clear hHeld SA
                      go_wp2_with (fail)
                      go_roundw
                      case rel => exact ⟨t + 1, HTt.out, by first | rfl | rw [WT.out], bt (bt hB.out hbd) HBy.out⟩
                      case measure => first | exact meas10 HTt.out | (rw [WT.out]; exact meas10 HTt.out)
                · have j1 : ¬ (t : Int) < (T : Int) := fun h => hlt (Int.ofNat_lt.1 h)
                  obtain rfl : t = T := Nat.le_antisymm ht (Nat.le_of_not_lt hlt)
                  go_wp2_with (fail)
                  go_ret
                  exact ⟨rfl, bt HBz.out hB.out⟩
end
end Go.Proofs.Ytgokkppojhokbaa
