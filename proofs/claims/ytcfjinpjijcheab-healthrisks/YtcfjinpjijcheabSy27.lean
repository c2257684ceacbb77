/-
  HealthStays: the walk.
-/
import Derived.Test.YtcfjinpjijcheabPk27
import Derived.Test.YtcfjinpjijcheabTd27
namespace Go.Proofs.Ytcfjinpjijcheab
open Go.RowKit
attribute [local irreducible] dW dR p2 fR fW fV fval sW sR
theorem cv6_mono {a b : Nat} (ha : Sc a) (hb : Sc b) (h : a ≤ b) : cv6 a ≤ cv6 b := by
  rw [(sc_cv ha).2.2.2.2, (sc_cv hb).2.2.2.2]
  exact dR_mono (sW_le h)
theorem cn_frg {x : Nat} (h : Cn 0 x) : frg F6 x = x := frg_small (by unfold Cn at h; omega)
theorem cn_order {x y : Nat} (hx : Cn 0 x) (hy : Cn 0 y) : FloatKind.f64.format.order x y = some (compare x y) := by
  have := order_nn (by omega) (hx.nn (by omega)) (hy.nn (by omega))
  rw [cn_frg hx, cn_frg hy] at this
  exact this
theorem isCh_cn {x : Nat} (h : Cn 0 x) : (FloatKind.f64.format.order x 0 == some .gt || FloatKind.f64.format.order x 0 == some .eq) = true ∧ (FloatKind.f64.format.order x 4607182418800017408 == some .lt || FloatKind.f64.format.order x 4607182418800017408 == some .eq) = true := by
  rw [cn_order h (cn_zero 0), cn_order h (cn_one 0)]
  have h2 : x ≤ 4607182418800017408 := by unfold Cn at h; omega
  constructor
  · by_cases h0 : x = 0
    · rw [Nat.compare_eq_eq.2 h0]; rfl
    · rw [Nat.compare_eq_gt.2 (by omega)]; rfl
  · by_cases h0 : x = 4607182418800017408
    · rw [Nat.compare_eq_eq.2 h0]; rfl
    · rw [Nat.compare_eq_lt.2 (by omega)]; rfl
theorem cn_self {x : Nat} (h : Cn 0 x) : (FloatKind.f64.format.order x x != some .eq) = false := by rw [cn_order h h, Nat.compare_eq_eq.2 rfl]; rfl
theorem cn_ge {x y : Nat} (hx : Cn 0 x) (hy : Cn 0 y) (h : y ≤ x) : (FloatKind.f64.format.order x y == some .lt) = false := by
  rw [cn_order hx hy]
  by_cases h0 : x = y
  · rw [Nat.compare_eq_eq.2 h0]; rfl
  · rw [Nat.compare_eq_gt.2 (by omega)]; rfl
theorem cn_le {x y : Nat} (hx : Cn 0 x) (hy : Cn 0 y) (h : x ≤ y) : (FloatKind.f64.format.order x y == some .gt) = false := by
  rw [cn_order hx hy]
  by_cases h0 : x = y
  · rw [Nat.compare_eq_eq.2 h0]; rfl
  · rw [Nat.compare_eq_lt.2 (by omega)]; rfl
theorem Of.mono {w : World} {base base' : Nat} {v : Value} {xs : List Nat} (h : Of w base v xs) (hb : base' ≤ base) : Of w base' v xs := by
  refine ⟨h.1, ?_⟩
  rcases h.2 with h1 | ⟨g, cap, c, hv, hg, hh, hc⟩
  · exact .inl h1
  · exact .inr ⟨g, cap, c, hv, Nat.le_trans hb hg, hh, hc⟩
theorem of_ne {w : World} {base s : Nat} {v : Value} {xs : List Nat} {ys : List Value} (h : Of w base v xs) (hB : Bl w 57 s ys) : v.ownBlock ≠ some s := by
  intro e
  have h' := h
  unfold Of at h'
  rcases h'.2 with ⟨hv, _⟩ | ⟨g, cap, cur, hv, _, hh, _⟩
  · rw [hv] at e; cases e
  · rw [hv] at e
    simp [Value.ownBlock] at e
    subst e
    unfold Bl at hB
    rw [hB] at hh
    injection hh with hh
    injection hh with _ hh
    exact absurd hh (by decide)
theorem Of.keep {w w' : World} {base : Nat} {v : Value} {xs : List Nat} {r : Option Nat} (h : Of w base v xs) (hg : w.grownBy w' r) (hne : v.ownBlock ≠ r) : Of w' base v xs := World.ownsRow.kept h hg (.inr hne)
theorem sc_all_set {ss : List Nat} (h : ∀ x ∈ ss, Sc x) (p v : Nat) (hv : Sc v) : ∀ x ∈ ss.set p v, Sc x := by
  intro x hx
  rcases List.mem_or_eq_of_mem_set hx with h1 | rfl
  · exact h x h1
  · exact hv
theorem map_get {ss : List Nat} {f : Nat → Nat} (j : Nat) (hj : j < ss.length) : (ss.map f).getD j 0 = f (ss.getD j 0) := by simp [List.getD, hj]
section
attribute [local irreducible] Calls tel cv6 nPl
set_option maxRecDepth 1000000 in
set_option maxHeartbeats 8000000 in
theorem healthStays_walk {w : World} {a : Option Addr} {T : List (Bool × Int × Bool)} (h : TdAt w a T) (n : Int) (x m c : Nat) (hm : T.length = m) (hm2 : m ≤ 1000000000000000) :
    Calls Try.prog 3 #[.int .i64 n, .float .f64 x, .slice a m c] w fun e w' => e = .returned (.bool true) ∧ Below w.heap.size w w' := by
  have AW := (show Hid _ from awake_any w)
  have BO := (show Hid _ from board_any n x)
  have PK := (show Hid _ from fun (W : World) => pick_any (wrap64 (n - 1)) 255 (by omega) (by omega) W)
  obtain ⟨N, hN⟩ : ∃ N, Hid (nPl n = N) := ⟨_, rfl⟩
  have h1 := nPl_le n
  have e1 := nPl_eq n
  rw [hN.out] at h1 e1 BO
  have e2 : wrap64 (1 + wrap64 (n - 1) % 255) = (N : Int) := by rw [e1]; unfold wrap64; omega
  have HT := (show Hid (TdAt w a T) from h)
  have S0 : ∀ x ∈ List.replicate N 1065353216, Sc x := fun x hx => by obtain ⟨-, rfl⟩ := List.mem_replicate.1 hx; exact Nat.le_refl _
  clear h
  go_enter Try.func3, Try.ntmps3
  go_wp2_with (first
    | (go_at_call 9; refine AW.out.mono ?_; rintro e w1 ⟨rfl, hb1⟩)
    | (go_at_call 10; refine (BO.out _).mono ?_; rintro e w2 ⟨b, s, k, rfl, hk, hB, hb, hs, hb2⟩)
    | (go_at_call 11; refine (PK.out _).mono ?_; rintro e w3 ⟨rfl, h⟩; obtain rfl := h.symm)
    | (go_at_call 12; refine (scores_any hB S0 N (by simp) h1.2).mono ?_; rintro e w4 ⟨v, rfl, hO, hb4⟩))
  have hsz1 := hb1.size
  have hsz2 := hb2.size
  have hB4 := hB.below hb4
  have hbW : Below w.heap.size w w4 := bt hb1 (bt hb2 hb4)
  have hO4 : Of w4 w.heap.size v ((List.replicate N 1065353216).map cv6) := Of.mono hO (by omega)
  have HKp := (show Hid (Kp k ∧ w.heap.size ≤ b ∧ w.heap.size ≤ s) from ⟨hk, by omega, by omega⟩)
  clear AW BO PK hb1 hb2 hb4 hB hO hk hb hs hsz1 hsz2
  go_loopw [8, 9] (fun o i wr => ∃ (t : Nat) (ss : List Nat), t ≤ m ∧ i = .int .i64 (t : Int) ∧ Of wr w.heap.size o (ss.map cv6) ∧ ss.length = N ∧ Hid (∀ x ∈ ss, Sc x) ∧ Bd wr b s k ss ∧ Below w.heap.size w wr) (fun _ i _ => m - (intOf i).toNat)
  case atStart => exact ⟨0, _, Nat.zero_le _, rfl, hO4, by simp, S0, hB4, hbW⟩
  case round =>
    obtain ⟨t, ss, ht, rfl, hO, hsl, hsa, hBd, hbr⟩ := hrel
    by_cases hlt : t < m
    · have hi : (t : Int) < (m : Int) := by omega
      obtain ⟨V, hV⟩ : ∃ V, V = wr := ⟨_, rfl⟩
      subst hV
      obtain ⟨tb, to, rfl, hTc⟩ : ∃ b o, a = some ⟨b, o, none⟩ ∧ ∀ j x, T[j]? = some x → w.cell? ⟨b, o + j * 4, none⟩ = some (.bool x.1) ∧ w.cell? ⟨b, o + j * 4 + 2, none⟩ = some (.int .i64 x.2.1) ∧ w.cell? ⟨b, o + j * 4 + 3, none⟩ = some (.bool x.2.2) := by
        rcases HT.out with h0 | h0
        · rw [h0] at hm; simp at hm; omega
        · exact h0
      obtain ⟨⟨q0, q1, good⟩, hq⟩ : ∃ x, T[t]? = some x := ⟨T[t]'(by omega), List.getElem?_eq_getElem (by omega)⟩
      have hcs := hTc t _ hq
      have t2 := cell_below hcs.2.1 hbr
      have t3w := hcs.2.2
      have t3 := cell_below t3w hbr
      have HT3 := (show Hid _ from t3w)
      clear t3w
      clear hTc hq hcs
      obtain ⟨P, hP⟩ : ∃ P : Nat, q1 % (N : Int) = (P : Int) := ⟨(q1 % (N : Int)).toNat, by have := Int.emod_nonneg q1 (show (N : Int) ≠ 0 by omega); omega⟩
      have hPN : P < N := by have := Int.emod_lt_of_pos q1 (show (0 : Int) < N by omega); omega
      have PI := (show Hid _ from fun (W : World) => pick_any q1 N h1.1 (by omega) W)
      rw [hP] at PI
      have hs0 : Sc (ss.getD P 0) := hsa.out _ (by rw [show ss.getD P 0 = ss[P]'(by omega) by simp [List.getD, show P < ss.length by omega]]; exact List.getElem_mem _)
      have TE := (show Hid _ from tell_any hBd P good (by omega) HKp.out.1 hs0)
      obtain ⟨-, hs1, hbad, hgood⟩ := tel_ok HKp.out.1 hs0 good
      obtain ⟨s1, hs1e⟩ : ∃ y, tel k (ss.getD P 0) good = y := ⟨_, rfl⟩
      rw [hs1e] at TE hs1 hbad hgood
      obtain ⟨ss1, hss1⟩ : ∃ y, Hid (ss.set P s1 = y) := ⟨_, rfl⟩
      rw [hss1.out] at TE
      have hsl1 : ss1.length = N := by rw [← hss1.out, List.length_set]; exact hsl
      have hsa1 : Hid (∀ x ∈ ss1, Sc x) := by rw [← hss1.out]; exact sc_all_set hsa.out P s1 hs1
      have hg1 : ss1.getD P 0 = s1 := by rw [← hss1.out]; simp [List.getD, show P < ss.length by omega]
      have hg2 : Hid (∀ j, j ≠ P → ss1.getD j 0 = ss.getD j 0) := fun j hj => by rw [← hss1.out]; simp [List.getD, List.getElem?_set_ne (Ne.symm hj)]
      have hne := of_ne hO hBd.row
      have HO := (show Hid (Of V w.heap.size u8 (ss.map cv6)) from hO)
      have HBR := (show Hid (Below w.heap.size w V) from hbr)
      clear hO hbr hs1e
      go_wp2_with (first
        | (go_at_call 11; refine (PI.out _).mono ?_; rintro e w5 ⟨rfl, h⟩; obtain rfl := h.symm)
        | (go_at_call 13; refine TE.out.mono ?_; rintro e w5 ⟨rfl, hB5, hg5⟩)
        | (go_at_call 12; refine (scores_any hB5 hsa1.out N hsl1 h1.2).mono ?_; rintro e w6 ⟨v6, rfl, hO6, hb6⟩))
      have hO5 := (HO.out.keep hg5 hne).below hb6
      have HO6 : Hid (Of w6 w.heap.size v6 (ss1.map cv6)) := Of.mono hO6 (Nat.le_trans HBR.out.size hg5.size)
      have HB6 : Hid (Bd w6 b s k ss1) := hB5.below hb6
      have HBW : Hid (Below w.heap.size w w6) := bt (HBR.out.grown hg5 HBR.out.size (fun i hi => by injection hi with hi; have := HKp.out.2.2; omega)) hb6
      have t4 := cell_below HT3.out HBW.out
      obtain ⟨pa, ca, rfl, hca, hfa⟩ := hO5.rd
      obtain ⟨pb, cb, rfl, hcb, hfb⟩ := hO6.rd
      have L1 : (ss.map cv6).length = N := by rw [List.length_map]; exact hsl
      have L2 : (ss1.map cv6).length = N := by rw [List.length_map]; exact hsl1
      rw [L1] at hca
      rw [L2] at hcb HO6
      rw [L1, L2]
      obtain ⟨ba, oa, rfl, hga⟩ := Fr.at hfa (by omega)
      obtain ⟨bb, ob, rfl, hgb⟩ := Fr.at hfb (by omega)
      have HGA : Hid (∀ j, j < N → w6.cell? ⟨ba, oa + j, none⟩ = some (.float .f64 (cv6 (ss.getD j 0)))) := fun j hj => by
        rw [hga j (by omega), map_get j (by omega)]
      have HGB : Hid (∀ j, j < N → w6.cell? ⟨bb, ob + j, none⟩ = some (.float .f64 (cv6 (ss1.getD j 0)))) := fun j hj => by
        rw [hgb j (by omega), map_get j (by omega)]
      have HSC : Hid (∀ j, j < N → Cn 0 (cv6 (ss.getD j 0))) := fun j hj => (sc_cv (hsa.out _ (by rw [show ss.getD j 0 = ss[j]'(by omega) by simp [List.getD, show j < ss.length by omega]]; exact List.getElem_mem _))).2.2.1
      clear hga hgb hO5 hO6 hfa hfb hB5 hg5 hb6 TE PI hne
      go_loopw [12] (fun i wr => ∃ j : Nat, j ≤ N ∧ i = .int .i64 (j : Int) ∧ Below w6.heap.size w6 wr) (fun i _ => N - (intOf i).toNat)
      case atStart => exact ⟨0, Nat.zero_le _, rfl, Below.refl _ _⟩
      case round =>
        obtain ⟨j, hj, rfl, hbj⟩ := hrel
        by_cases hjN : j < N
        · have hji : (j : Int) < (N : Int) := by omega
          by_cases hjP : j = P
          · subst hjP
            have z1 : ((j : Int) != (j : Int)) = false := by simp
            go_wp2
            go_quiet (fail)
            go_wp2
            go_roundw
            case rel => exact ⟨j + 1, hjN, by go_num, below_drewN hbj _⟩
            case measure => simp [intOf]; omega
          · have z1 : ((j : Int) != (P : Int)) = true := by simp; omega
            have g1 := cell_below (HGA.out j hjN) hbj
            have g2 := cell_below (HGB.out j hjN) hbj
            rw [hg2.out j hjP] at g2
            have b1 := cn_self (HSC.out j hjN)
            obtain ⟨y, hy⟩ : ∃ y, cv6 (ss.getD j 0) = y := ⟨_, rfl⟩
            rw [hy] at g1 g2 b1
            clear hy
            go_wp2
            go_quiet (fail)
            go_wp2
            go_roundw
            case rel => exact ⟨j + 1, hjN, by go_num, below_drewN hbj _⟩
            case measure => simp [intOf]; omega
        · obtain rfl : j = N := by omega
          have g1 := cell_below (HGA.out P hPN) hbj
          have g2 := cell_below (HGB.out P hPN) hbj
          have t5 := cell_below t4 hbj
          rw [hg1] at g2
          have c0 := HSC.out P hPN
          have c1 := (sc_cv hs1).2.2.1
          have ch := isCh_cn c1
          have kb : good = false → (FloatKind.f64.format.order (cv6 s1) (cv6 (ss.getD P 0)) == some .gt) = false := fun hh => cn_le c1 c0 (cv6_mono hs1 hs0 (hbad hh))
          have kg : good = true → (FloatKind.f64.format.order (cv6 s1) (cv6 (ss.getD P 0)) == some .lt) = false := fun hh => cn_ge c1 c0 (cv6_mono hs0 hs1 (hgood hh))
          obtain ⟨y, hy⟩ : ∃ y, cv6 (ss.getD P 0) = y := ⟨_, rfl⟩
          obtain ⟨z, hz⟩ : ∃ y, cv6 s1 = y := ⟨_, rfl⟩
          rw [hy] at g1 kb kg
          rw [hz] at g2 ch kb kg
          obtain ⟨ch1, ch2⟩ := ch
          have hPi : (P : Int) < (j : Int) := by omega
          clear hy hz c0 c1 hbad hgood t4
          cases good with
          | false =>
            have k1 := kb rfl
            clear kb kg
            go_wp2
            go_quiet (fail)
            go_wp2
            go_roundw
            case rel => exact ⟨t + 1, ss1, hlt, by go_num, HO6.out.below (below_drewN hbj _), hsl1, hsa1, HB6.out.below (below_drewN hbj _), below_drewN (bt HBW.out hbj) _⟩
            case measure => simp [intOf]; omega
          | true =>
            have k1 := kg rfl
            clear kb kg
            go_wp2
            go_quiet (fail)
            go_wp2
            go_roundw
            case rel => exact ⟨t + 1, ss1, hlt, by go_num, HO6.out.below (below_drewN hbj _), hsl1, hsa1, HB6.out.below (below_drewN hbj _), below_drewN (bt HBW.out hbj) _⟩
            case measure => simp [intOf]; omega
    · obtain rfl : t = m := by omega
      obtain ⟨p1, c1, rfl, hc1, hf1⟩ := hO.rd
      rw [List.length_map, hsl]
      go_wp2
      go_ret
      exact ⟨rfl, hbr⟩
end
end Go.Proofs.Ytcfjinpjijcheab
