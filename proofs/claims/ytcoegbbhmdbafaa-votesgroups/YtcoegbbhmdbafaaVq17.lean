/-
  The document's own functions of layer 17: SameInts, Stale.
-/
import Derived.Test.YtcoegbbhmdbafaaVd17
import Derived.Deep.DeepCutAuto
import Derived.BigQuiet
namespace Go.Proofs.Ytcoegbbhmdbafaa
open Go.RowKit
theorem rn_at {w : World} {p : Option Addr} {n c : Nat} {L : List Nat} (h : Rn w (.slice p n c) L) : n = L.length ∧ (∀ i, i < n → ∃ b o, p = some ⟨b, o, none⟩ ∧ w.cell? ⟨b, o + i, none⟩ = some (.int .i64 (L.getD i 0 : Int))) := by
  obtain ⟨p', c', e, _, h⟩ := h
  injection e with e1 e2 e3
  subst e1 e2
  refine ⟨rfl, fun i hi => ?_⟩
  rcases h with h | ⟨b, o, e, h⟩
  · subst h; simp at hi
  · exact ⟨b, o, e, h i hi⟩
section
attribute [local irreducible] Calls
set_option maxHeartbeats 4000000 in
set_option maxRecDepth 1000000 in
theorem sameInts_core {w : World} {p1 p2 : Option Addr} {n c1 c2 : Nat} {z : Nat → Int} (hn : n ≤ 17592186044416) (h1 : ∀ i, i < n → ∃ b o, p1 = some ⟨b, o, none⟩ ∧ w.cell? ⟨b, o + i, none⟩ = some (.int .i64 (z i))) (h2 : ∀ i, i < n → ∃ b o, p2 = some ⟨b, o, none⟩ ∧ w.cell? ⟨b, o + i, none⟩ = some (.int .i64 (z i))) :
    Calls Try.prog 21 #[.slice p1 n c1, .slice p2 n c2] w fun e w' => e = .returned (.bool true) ∧ Below w.heap.size w w' := by
  have H1 := (show Hid _ from h1)
  have H2 := (show Hid _ from h2)
  have HN := (show Hid (n ≤ 17592186044416) from hn)
  have f0 : ((n : Int) != (n : Int)) = false := by simp
  clear h1 h2 hn
  go_enter Try.func21, Try.ntmps21
  go_wp2_with (fail)
  go_loopw [5] (fun i wr => ∃ t : Nat, t ≤ n ∧ i = .int .i64 (t : Int) ∧ Hid (Below w.heap.size w wr)) (fun i _ => n - (intOf i).toNat)
  case atStart => exact ⟨0, Nat.zero_le _, rfl, Below.refl _ _⟩
  case round =>
    obtain ⟨t, ht, rfl, hB⟩ := hrel
    by_cases hlt : t < n
    · have hi : (t : Int) < (n : Int) := by omega
      obtain ⟨b1, o1, rfl, g1⟩ := H1.out t hlt
      obtain ⟨b2, o2, rfl, g2⟩ := H2.out t hlt
      have k1 := cell_below g1 hB.out
      have k2 := cell_below g2 hB.out
      have WT := (show Hid (wrap64 ((t : Int) + 1) = ((t + 1 : Nat) : Int)) from by have := HN.out; show _ = _; unfold wrap64; omega)
      have HT := (show Hid (t < n) from hlt)
      generalize z t = zz at *
      have e0 : (zz != zz) = false := by simp
      clear g1 g2 hlt ht
      go_wp2_with (fail)
      go_quiet (fail)
      go_wp2_with (fail)
      go_roundw
      case rel => exact ⟨t + 1, HT.out, by first | rw [WT.out] | go_num, below_drewN hB.out _⟩
      case measure => first | (rw [WT.out]; exact meas_v17 HT.out) | exact meas_v17 HT.out
    · obtain rfl : t = n := by omega
      have hnn : ¬ ((t : Int) < (t : Int)) := by omega
      go_wp2_with (fail)
      go_ret
      exact ⟨rfl, hB.out⟩
end
theorem sameInts_any {w : World} {u v : Value} {L : List Nat} (h1 : Rn w u L) (h2 : Rn w v L) (hL : L.length ≤ 17592186044416) :
    Calls Try.prog 21 #[u, v] w fun e w' => e = .returned (.bool true) ∧ Below w.heap.size w w' := by
  obtain ⟨p1, c1, rfl, _, _⟩ := id h1
  obtain ⟨p2, c2, rfl, _, _⟩ := id h2
  exact sameInts_core hL (rn_at h1).2 (rn_at h2).2
/-- Is a place stale? -/
def stT (kv : Int) (k : Wg) (s : Sn) : Bool := if kv = 1 then othB k s else if kv = 2 then noneB s.kd else false
def stf (ss : Nat → Sn) (n : Nat) (kv : Int) (k : Wg) : List Nat := (List.range n).filter fun i => stT kv k (ss i)
theorem stf_stl (ss : Nat → Sn) (n : Nat) (kv : Int) (k : Wg) : stf ss n kv k = stl ss n kv k := by
  unfold stf stl stT pwO pwN
  by_cases h1 : kv = 1
  · simp [h1]
  · by_cases h2 : kv = 2
    · simp [h2]
    · simp [h1, h2]
theorem stf_succ (ss : Nat → Sn) (n : Nat) (kv : Int) (k : Wg) : stf ss (n + 1) kv k = stf ss n kv k ++ (if stT kv k (ss n) = true then [n] else []) := by
  unfold stf
  rw [List.range_succ, List.filter_append]
  congr 1
  by_cases h : stT kv k (ss n) = true <;> simp [h]
theorem stf_len (ss : Nat → Sn) (n : Nat) (kv : Int) (k : Wg) : (stf ss n kv k).length ≤ n := by
  unfold stf
  have := List.length_filter_le (fun i => stT kv k (ss i)) (List.range n)
  simpa using this
section
attribute [local irreducible] Calls GB On stf
set_option maxHeartbeats 8000000 in
set_option maxRecDepth 1000000 in
theorem rstale_any {w : World} {p : Option Addr} {n c : Nat} {ss : Nat → Sn} (HS : SnL w p n ss) (hn : n ≤ 1172812402943) (kv : Int) (k : Wg) (pv : Value) :
    Calls Try.prog 19 #[.slice p n c, .agg (vdC kv k pv)] w fun e w' => ∃ v, e = .returned v ∧ On w' w.heap.size v (stf ss n kv k) ∧ Below w.heap.size w w' := by
  have HL := (show Hid (SnL w p n ss) from HS)
  have HN := (show Hid (n ≤ 1172812402943) from hn)
  clear HS hn
  unfold vdC
  go_enter Try.func19, Try.ntmps19
  go_wp2_with (first
    | (refine wpList_bxB rfl _ rfl rfl ?_; intro w1 hG1 hb1 hs1))
  have HG1 := (show Hid (GB w1 w.heap.size 41 #[.int .i64 kv, .int .i64 k.1, .int .i64 k.2.1, .int .i64 k.2.2, pv]) from hG1)
  clear hG1
  go_loopw [5, 6] (fun v i wr => ∃ t : Nat, t ≤ n ∧ i = .int .i64 (t : Int) ∧ Hid (On wr w1.heap.size v (stf ss t kv k)) ∧ Hid (Below w1.heap.size w1 wr)) (fun _ i _ => n - (intOf i).toNat)
  case atStart => exact ⟨0, Nat.zero_le _, rfl, by unfold stf; exact On.nil _ _, Below.refl _ _⟩
  case round =>
    obtain ⟨t, ht, rfl, hO, hB⟩ := hrel
    have hG := HG1.out.below hB.out
    have v0 := hG.cell 0
    have v1 := hG.cell 1
    have v2 := hG.cell 2
    have v3 := hG.cell 3
    simp only [List.getElem?_toArray, List.getElem?_cons_zero, List.getElem?_cons_succ] at v0 v1 v2 v3
    by_cases hlt : t < n
    · have hi : (t : Int) < (n : Int) := by omega
      obtain ⟨b, o, rfl, hAt⟩ := (HL.out.below (bt hb1 hB.out)).at hlt
      have hc := hAt.cells
      have c0 := hc.kd
      have c1 := hc.sz
      have c2 := hc.ep
      have c3 := hc.ct
      have WT := (show Hid (wrap64 ((t : Int) + 1) = ((t + 1 : Nat) : Int)) from by have := HN.out; show _ = _; unfold wrap64; omega)
      have HX := (show Hid _ from stf_succ ss t kv k)
      have HQ := (show Hid ((stf ss t kv k).length + 1 ≤ 17592186044416) from by have := stf_len ss t kv k; have := HN.out; show _ ≤ _; omega)
      have HT := (show Hid (t < n) from hlt)
      obtain ⟨W0, hW0⟩ : ∃ W0, W0 = wr := ⟨_, rfl⟩
      subst hW0
      have HC0 := (show Hid (W0.cell? ⟨b, o + t * 19, none⟩ = some (.int .i64 (ss t).kd)) from c0)
      have HV0 := (show Hid (W0.cell? ⟨w.heap.size, 0, none⟩ = some (.int .i64 kv)) from v0)
      clear hc hAt hG hlt ht
      go_wp2_with (fail)
      go_cut [7] (fun v wx => v = .bool (!othB k (ss t)) ∧ Hid (Below W0.heap.size W0 wx))
      case first =>
        by_cases h2 : (ss t).kd = 2
        · rw [h2] at c0
          by_cases he : (ss t).hd.ep = k.1
          · by_cases hc : (ss t).hd.ct = k.2.1
            · by_cases hs : (ss t).hd.sz = k.2.2
              · have hB' : othB k (ss t) = false := by unfold othB Sn.wg; simp [h2, he, hc, hs]
                rw [he] at c2
                rw [hc] at c3
                rw [hs] at c1
                have HBH := (show Hid _ from hB')
                clear hB' h2 he hc hs
                go_quiet (fail)
                go_wp2_with (fail)
                go_meet
                case rel => exact ⟨by rw [HBH.out]; rfl, below_drewN (Below.refl _ _) _⟩
              · have hB' : othB k (ss t) = true := by unfold othB Sn.wg; simp [h2, he, hc]; intro e; exact hs (by rw [← e])
                have d1 : ((ss t).hd.sz == k.2.2) = false := by simp [hs]
                rw [he] at c2
                rw [hc] at c3
                have HBH := (show Hid _ from hB')
                clear hB' h2 he hc hs
                go_quiet (fail)
                go_wp2_with (fail)
                go_meet
                case rel => exact ⟨by rw [HBH.out]; rfl, below_drewN (Below.refl _ _) _⟩
            · have hB' : othB k (ss t) = true := by unfold othB Sn.wg; simp [h2]; intro e; exact absurd (by rw [← e]) hc
              have d1 : ((ss t).hd.ct == k.2.1) = false := by simp [hc]
              rw [he] at c2
              have HBH := (show Hid _ from hB')
              clear hB' h2 he hc
              go_quiet (fail)
              go_wp2_with (fail)
              go_meet
              case rel => exact ⟨by rw [HBH.out]; rfl, below_drewN (Below.refl _ _) _⟩
          · have hB' : othB k (ss t) = true := by unfold othB Sn.wg; simp [h2]; intro e; exact absurd (by rw [← e]) he
            have d1 : ((ss t).hd.ep == k.1) = false := by simp [he]
            have HBH := (show Hid _ from hB')
            clear hB' h2 he
            go_quiet (fail)
            go_wp2_with (fail)
            go_meet
            case rel => exact ⟨by rw [HBH.out]; rfl, below_drewN (Below.refl _ _) _⟩
        · have hB' : othB k (ss t) = true := by unfold othB; simp [h2]
          have d1 : ((ss t).kd == 2) = false := by simp [h2]
          have HBH := (show Hid _ from hB')
          clear hB' h2
          go_quiet (fail)
          go_wp2_with (fail)
          go_meet
          case rel => exact ⟨by rw [HBH.out]; rfl, below_drewN (Below.refl _ _) _⟩
      case rest =>
        obtain ⟨rfl, hbc⟩ := hcut
        have k0 := cell_below HC0.out hbc.out
        have kv0 := cell_below HV0.out hbc.out
        have hO2 := hO.out.below hbc.out
        have HO4 := (show Hid (On (wc.alloc (.cells #[.int .i64 (t : Int)] 3)) w1.heap.size u5 (stf ss t kv k)) from hO2.below ((Below.refl _ _).alloc (Nat.le_refl _) _))
        have rc := cell_of_row (wc.alloc (.cells #[.int .i64 (t : Int)] 3)) wc.heap.size 0 _ _ (0, 0) (heap_alloc_new wc _)
        have HB5 := (show Hid (Below w1.heap.size w1 (wc.alloc (.cells #[.int .i64 (t : Int)] 3))) from balloc (bt hB.out hbc.out) _)
        have B6 := (show Hid (Below w1.heap.size w1 wc) from bt hB.out hbc.out)
        have HST := (show Hid (stT kv k (ss t) = (if kv = 1 then othB k (ss t) else if kv = 2 then noneB (ss t).kd else false)) from rfl)
        generalize stf ss t kv k = L0 at *
        clear c0 c1 c2 c3 v0 v1 v2 v3
        have HST1 := HST.out
        by_cases h1 : kv = 1
        · subst h1
          cases hq : othB k (ss t) with
          | true =>
            rw [hq] at HST1
            replace HST := (show Hid (stT 1 k (ss t) = true) from HST1.trans (by simp))
            clear HST1
            go_wp2_with (first
              | (at_builtin; refine wpList_apN rfl (.tmp 64) (.tmp 66) rfl w1.heap.size u5 L0 t rfl HO4.out ⟨wc.heap.size, 0, none⟩ 1 rfl rc HQ.out HB5.out.size ?_; intro v7 w7 ho7 hg7))
            go_roundw
            case rel => exact ⟨t + 1, HT.out, by first | rw [WT.out] | go_num, by show On _ _ _ _; rw [HX.out, HST.out]; simpa using ho7, HO4.out.grown HB5.out HB5.out.size hg7 (Nat.le_refl _)⟩
            case measure => first | (rw [WT.out]; exact meas_v17 HT.out) | exact meas_v17 HT.out
          | false =>
            rw [hq] at HST1
            replace HST := (show Hid (stT 1 k (ss t) = false) from HST1.trans (by simp))
            clear HST1
            go_wp2_with (fail)
            go_roundw
            case rel => exact ⟨t + 1, HT.out, by first | rw [WT.out] | go_num, by show On _ _ _ _; rw [HX.out, HST.out]; simpa using hO2, B6⟩
            case measure => first | (rw [WT.out]; exact meas_v17 HT.out) | exact meas_v17 HT.out
        · have d1 : (kv == 1) = false := by simp [h1]
          by_cases h2 : kv = 2
          · subst h2
            by_cases hk1 : (ss t).kd = 1
            · replace HST := (show Hid (stT 2 k (ss t) = false) from HST1.trans (by simp [noneB, hk1]))
              rw [hk1] at k0
              clear HST1
              go_wp2_with (fail)
              go_roundw
              case rel => exact ⟨t + 1, HT.out, by first | rw [WT.out] | go_num, by show On _ _ _ _; rw [HX.out, HST.out]; simpa using hO2, B6⟩
              case measure => first | (rw [WT.out]; exact meas_v17 HT.out) | exact meas_v17 HT.out
            · replace HST := (show Hid (stT 2 k (ss t) = true) from HST1.trans (by simp [noneB, hk1]))
              have dk : ((ss t).kd != 1) = true := by simp [hk1]
              clear HST1
              go_wp2_with (first
                | (at_builtin; refine wpList_apN rfl (.tmp 64) (.tmp 66) rfl w1.heap.size u5 L0 t rfl HO4.out ⟨wc.heap.size, 0, none⟩ 1 rfl rc HQ.out HB5.out.size ?_; intro v7 w7 ho7 hg7))
              go_roundw
              case rel => exact ⟨t + 1, HT.out, by first | rw [WT.out] | go_num, by show On _ _ _ _; rw [HX.out, HST.out]; simpa using ho7, HO4.out.grown HB5.out HB5.out.size hg7 (Nat.le_refl _)⟩
              case measure => first | (rw [WT.out]; exact meas_v17 HT.out) | exact meas_v17 HT.out
          · replace HST := (show Hid (stT kv k (ss t) = false) from HST1.trans (by simp [h1, h2]))
            have d2 : (kv == 2) = false := by simp [h2]
            clear HST1
            go_wp2_with (fail)
            go_roundw
            case rel => exact ⟨t + 1, HT.out, by first | rw [WT.out] | go_num, by show On _ _ _ _; rw [HX.out, HST.out]; simpa using hO2, B6⟩
            case measure => first | (rw [WT.out]; exact meas_v17 HT.out) | exact meas_v17 HT.out
    · obtain rfl : t = n := by omega
      have hnn : ¬ ((t : Int) < (t : Int)) := by omega
      go_wp2_with (fail)
      go_ret
      exact ⟨_, rfl, hO.out.mono hb1.size, bt hb1 hB.out⟩
end
end Go.Proofs.Ytcoegbbhmdbafaa
