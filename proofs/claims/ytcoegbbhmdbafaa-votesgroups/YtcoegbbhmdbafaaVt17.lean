/-
  The document's own functions of layer 17: places, Hidden.
-/
import Derived.Test.YtcoegbbhmdbafaaVs17
namespace Go.Proofs.Ytcoegbbhmdbafaa
open Go.RowKit
theorem hid_succ (s : Shs) (n : Nat) : hid s (n + 1) = hid s n + (if hdn s n = true then 1 else 0) := by
  unfold hid
  rw [hds_succ, List.length_append]
  by_cases h : hdn s n = true <;> simp [h]
theorem shs_no2 {ss : Nat → Sn} {t : Nat} {k : Wg} (h : ¬ (ss t).kd = 2) : sh (shs ss) k t = false := by
  cases e : sh (shs ss) k t with
  | false => rfl
  | true => exact absurd ((sh_iff _ _ _).1 e).1 h
theorem shs_no {ss : Nat → Sn} {t : Nat} {k : Wg} (h : ¬ (ss t).wg = k) : sh (shs ss) k t = false := by
  cases e : sh (shs ss) k t with
  | false => rfl
  | true => exact absurd ((sh_iff _ _ _).1 e).2 h
section
attribute [local irreducible] Calls GB On plc
set_option maxHeartbeats 8000000 in
set_option maxRecDepth 1000000 in
theorem rplaces_any {w : World} {p : Option Addr} {n c : Nat} {ss : Nat → Sn} (HS : SnL w p n ss) (hn : n ≤ 1172812402943) (k : Wg) :
    Calls Try.prog 29 #[.slice p n c, .agg #[.int .i64 k.1, .int .i64 k.2.1], .int .i64 k.2.2] w fun e w' => ∃ v, e = .returned v ∧ On w' w.heap.size v (plc (shs ss) n k) ∧ Below w.heap.size w w' := by
  have HL := (show Hid (SnL w p n ss) from HS)
  have HN := (show Hid (n ≤ 1172812402943) from hn)
  clear HS hn
  go_enter Try.func29, Try.ntmps29
  go_wp2_with (first
    | (refine wpList_bxB rfl _ rfl rfl ?_; intro w1 hG1 hb1 hs1))
  have HG1 := (show Hid (GB w1 w.heap.size 38 #[.int .i64 k.1, .int .i64 k.2.1]) from hG1)
  clear hG1
  go_loopw [7, 8] (fun v i wr => ∃ t : Nat, t ≤ n ∧ i = .int .i64 (t : Int) ∧ Hid (On wr w1.heap.size v (plc (shs ss) t k)) ∧ Hid (Below w1.heap.size w1 wr)) (fun _ i _ => n - (intOf i).toNat)
  case atStart => exact ⟨0, Nat.zero_le _, rfl, by rw [plc_zero]; exact On.nil _ _, Below.refl _ _⟩
  case round =>
    obtain ⟨t, ht, rfl, hO, hB⟩ := hrel
    have hG := HG1.out.below hB.out
    have v0 := hG.cell 0
    have v1 := hG.cell 1
    simp only [List.getElem?_toArray, List.getElem?_cons_zero, List.getElem?_cons_succ] at v0 v1
    by_cases hlt : t < n
    · have hi : (t : Int) < (n : Int) := by omega
      obtain ⟨b, o, rfl, hAt⟩ := (HL.out.below (bt hb1 hB.out)).at hlt
      have hc := hAt.cells
      have c0 := hc.kd
      have c1 := hc.sz
      have c2 := hc.ep
      have c3 := hc.ct
      have WT := (show Hid (wrap64 ((t : Int) + 1) = ((t + 1 : Nat) : Int)) from by have := HN.out; show _ = _; unfold wrap64; omega)
      have HX := (show Hid _ from plc_succ (shs ss) t k)
      have HQ := (show Hid ((plc (shs ss) t k).length + 1 ≤ 17592186044416) from by have := plc_len (shs ss) t k; have := HN.out; show _ ≤ _; omega)
      have HT := (show Hid (t < n) from hlt)
      obtain ⟨W0, hW0⟩ : ∃ W0, W0 = wr := ⟨_, rfl⟩
      subst hW0
      generalize plc (shs ss) t k = L0 at *
      clear hc hAt hG hlt ht
      by_cases h2 : (ss t).kd = 2
      · rw [h2] at c0
        by_cases he : (ss t).hd.ep = k.1
        · by_cases hc : (ss t).hd.ct = k.2.1
          · by_cases hs : (ss t).hd.sz = k.2.2
            · have HST := (show Hid (sh (shs ss) k t = true) from (sh_iff _ _ _).2 ⟨h2, by show Sn.wg _ = _; unfold Sn.wg; rw [he, hc, hs]⟩)
              rw [he] at c2
              rw [hc] at c3
              rw [hs] at c1
              clear h2 he hc hs
              go_wp2_with (fail)
              go_quiet (fail)
              have HBC := (show Hid (Below W0.heap.size W0 (W0.drewN nq)) from below_drewN (Below.refl _ _) nq)
              generalize W0.drewN nq = wc at *
              have HO4 := (show Hid (On (wc.alloc (.cells #[.int .i64 (t : Int)] 3)) w1.heap.size u7 L0) from (hO.out.below HBC.out).below ((Below.refl _ _).alloc (Nat.le_refl _) _))
              have rc := cell_of_row (wc.alloc (.cells #[.int .i64 (t : Int)] 3)) wc.heap.size 0 _ _ (0, 0) (heap_alloc_new wc _)
              have HB5 := (show Hid (Below w1.heap.size w1 (wc.alloc (.cells #[.int .i64 (t : Int)] 3))) from balloc (bt hB.out HBC.out) _)
              go_wp2_with (first
                | (at_builtin; refine wpList_apN rfl (.tmp 43) (.tmp 45) rfl w1.heap.size u7 L0 t rfl HO4.out ⟨wc.heap.size, 0, none⟩ 1 rfl rc HQ.out HB5.out.size ?_; intro v7 w7 ho7 hg7))
              go_roundw
              case rel => exact ⟨t + 1, HT.out, by first | rw [WT.out] | go_num, by show On _ _ _ _; rw [HX.out, HST.out]; simpa using ho7, HO4.out.grown HB5.out HB5.out.size hg7 (Nat.le_refl _)⟩
              case measure => first | (rw [WT.out]; exact meas_v17 HT.out) | exact meas_v17 HT.out
            · have HST := (show Hid (sh (shs ss) k t = false) from shs_no (fun e => hs (by rw [← e]; rfl)))
              have d1 : ((ss t).hd.sz == k.2.2) = false := by simp [hs]
              rw [he] at c2
              rw [hc] at c3
              clear h2 he hc hs
              go_wp2_with (fail)
              go_quiet (fail)
              go_wp2_with (fail)
              go_roundw
              case rel => exact ⟨t + 1, HT.out, by first | rw [WT.out] | go_num, by show On _ _ _ _; rw [HX.out, HST.out]; simpa using hO.out.below (below_drewN (Below.refl _ _) _), below_drewN hB.out _⟩
              case measure => first | (rw [WT.out]; exact meas_v17 HT.out) | exact meas_v17 HT.out
          · have HST := (show Hid (sh (shs ss) k t = false) from shs_no (fun e => hc (by rw [← e]; rfl)))
            have d1 : ((ss t).hd.ct == k.2.1) = false := by simp [hc]
            rw [he] at c2
            clear h2 he hc
            go_wp2_with (fail)
            go_quiet (fail)
            go_wp2_with (fail)
            go_roundw
            case rel => exact ⟨t + 1, HT.out, by first | rw [WT.out] | go_num, by show On _ _ _ _; rw [HX.out, HST.out]; simpa using hO.out.below (below_drewN (Below.refl _ _) _), below_drewN hB.out _⟩
            case measure => first | (rw [WT.out]; exact meas_v17 HT.out) | exact meas_v17 HT.out
        · have HST := (show Hid (sh (shs ss) k t = false) from shs_no (fun e => he (by rw [← e]; rfl)))
          have d1 : ((ss t).hd.ep == k.1) = false := by simp [he]
          clear h2 he
          go_wp2_with (fail)
          go_quiet (fail)
          go_wp2_with (fail)
          go_roundw
          case rel => exact ⟨t + 1, HT.out, by first | rw [WT.out] | go_num, by show On _ _ _ _; rw [HX.out, HST.out]; simpa using hO.out.below (below_drewN (Below.refl _ _) _), below_drewN hB.out _⟩
          case measure => first | (rw [WT.out]; exact meas_v17 HT.out) | exact meas_v17 HT.out
      · have HST := (show Hid (sh (shs ss) k t = false) from shs_no2 h2)
        have d1 : ((ss t).kd == 2) = false := by simp [h2]
        clear h2
        go_wp2_with (fail)
        go_quiet (fail)
        go_wp2_with (fail)
        go_roundw
        case rel => exact ⟨t + 1, HT.out, by first | rw [WT.out] | go_num, by show On _ _ _ _; rw [HX.out, HST.out]; simpa using hO.out.below (below_drewN (Below.refl _ _) _), below_drewN hB.out _⟩
        case measure => first | (rw [WT.out]; exact meas_v17 HT.out) | exact meas_v17 HT.out
    · obtain rfl : t = n := by omega
      have hnn : ¬ ((t : Int) < (t : Int)) := by omega
      go_wp2_with (fail)
      go_ret
      exact ⟨_, rfl, hO.out.mono hb1.size, bt hb1 hB.out⟩
set_option maxHeartbeats 8000000 in
set_option maxRecDepth 1000000 in
theorem rhidden_any {w : World} {p : Option Addr} {n c : Nat} {ss : Nat → Sn} (HS : SnL w p n ss) (hn : n ≤ 1172812402943) :
    Calls Try.prog 39 #[.slice p n c] w fun e w' => e = .returned (.int .i64 (hid (shs ss) n : Int)) ∧ Below w.heap.size w w' := by
  have HL := (show Hid (SnL w p n ss) from HS)
  have HN := (show Hid (n ≤ 1172812402943) from hn)
  clear HS hn
  go_enter Try.func39, Try.ntmps39
  go_wp2_with (fail)
  go_loopw [3, 4] (fun v i wr => ∃ t : Nat, t ≤ n ∧ i = .int .i64 (t : Int) ∧ v = .int .i64 (hid (shs ss) t : Int) ∧ Hid (Below w.heap.size w wr)) (fun _ i _ => n - (intOf i).toNat)
  case atStart => exact ⟨0, Nat.zero_le _, rfl, rfl, Below.refl _ _⟩
  case round =>
    obtain ⟨t, ht, rfl, rfl, hB⟩ := hrel
    by_cases hlt : t < n
    · have hi : (t : Int) < (n : Int) := by omega
      obtain ⟨b, o, rfl, hAt⟩ := (HL.out.below hB.out).at hlt
      have c0 := hAt.cells.kd
      have WT := (show Hid (wrap64 ((t : Int) + 1) = ((t + 1 : Nat) : Int)) from by have := HN.out; show _ = _; unfold wrap64; omega)
      have WH := (show Hid (wrap64 ((hid (shs ss) t : Int) + 1) = ((hid (shs ss) t + 1 : Nat) : Int)) from by have := hid_le (shs ss) t; have := HN.out; show _ = _; unfold wrap64; omega)
      have HX := (show Hid _ from hid_succ (shs ss) t)
      have HT := (show Hid (t < n) from hlt)
      generalize hid (shs ss) t = h0 at *
      have hdd : hdn (shs ss) t = (!decide ((ss t).kd = 2) && !decide ((ss t).kd = 1)) := rfl
      by_cases h1 : (ss t).kd = 1
      · have HST := (show Hid (hdn (shs ss) t = false) from by show _ = _; rw [hdd]; simp [h1])
        rw [h1] at c0
        clear hlt ht hdd h1 hAt
        go_wp2_with (fail)
        go_roundw
        case rel => exact ⟨t + 1, HT.out, by first | rw [WT.out] | go_num, by rw [HX.out, HST.out]; simp, hB⟩
        case measure => first | (rw [WT.out]; exact meas_v17 HT.out) | exact meas_v17 HT.out
      · have d1 : ((ss t).kd != 1) = true := by simp [h1]
        by_cases h2 : (ss t).kd = 2
        · have HST := (show Hid (hdn (shs ss) t = false) from by show _ = _; rw [hdd]; simp [h2])
          rw [h2] at c0
          clear hlt ht hdd h1 h2 hAt d1
          go_wp2_with (fail)
          go_roundw
          case rel => exact ⟨t + 1, HT.out, by first | rw [WT.out] | go_num, by rw [HX.out, HST.out]; simp, hB⟩
          case measure => first | (rw [WT.out]; exact meas_v17 HT.out) | exact meas_v17 HT.out
        · have d2 : ((ss t).kd != 2) = true := by simp [h2]
          have HST := (show Hid (hdn (shs ss) t = true) from by show _ = _; rw [hdd]; simp [h1, h2])
          clear hlt ht hdd h1 h2 hAt
          go_wp2_with (fail)
          go_roundw
          case rel => exact ⟨t + 1, HT.out, by first | rw [WT.out] | go_num, by rw [HX.out, HST.out]; first | (rw [WH.out]; simp) | go_num, hB⟩
          case measure => first | (rw [WT.out]; exact meas_v17 HT.out) | exact meas_v17 HT.out
    · obtain rfl : t = n := by omega
      have hnn : ¬ ((t : Int) < (t : Int)) := by omega
      go_wp2_with (fail)
      go_ret
      exact ⟨rfl, hB.out⟩
end
end Go.Proofs.Ytcoegbbhmdbafaa
