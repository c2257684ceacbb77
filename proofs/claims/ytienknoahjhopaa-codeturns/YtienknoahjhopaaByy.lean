/-
  The document's 'By'.
-/
import Derived.Test.YtienknoahjhopaaWt
namespace Go.Proofs.Ytienknoahjhopaa
open Go.RowKit
/-- The sum of the first j rows, each as often as its share says. -/
def acc (S D : Nat → Nat → BitVec 8) (i j c : Nat) : BitVec 8 := skk plE oE (fun t => tiE (S i t) (D t c)) j
theorem acc_zero (S D : Nat → Nat → BitVec 8) (i c : Nat) : acc S D i 0 c = 0#8 := rfl
theorem acc_succ (S D : Nat → Nat → BitVec 8) (i j c : Nat) : acc S D i (j + 1) c = acc S D i j c ^^^ gm (S i j) (D j c) := rfl
theorem acc_skip {S D : Nat → Nat → BitVec 8} {i j : Nat} (h : S i j = 0#8) (c : Nat) : acc S D i (j + 1) c = acc S D i j c := by rw [acc_succ, h, gm_zero_l, BitVec.xor_zero]
/-- The places below c have the row j, too. -/
def acd (S D : Nat → Nat → BitVec 8) (i j c x : Nat) : BitVec 8 := if x < c then acc S D i (j + 1) x else acc S D i j x
theorem acd_zero (S D : Nat → Nat → BitVec 8) (i j x : Nat) : acc S D i j x = acd S D i j 0 x := by unfold acd; rw [if_neg (by omega)]
theorem acd_at (S D : Nat → Nat → BitVec 8) (i j c : Nat) : acd S D i j c c = acc S D i j c := by unfold acd; rw [if_neg (Nat.lt_irrefl c)]
theorem acd_step (S D : Nat → Nat → BitVec 8) (i j c x : Nat) : (if x = c then acc S D i j c ^^^ gm (S i j) (D j c) else acd S D i j c x) = acd S D i j (c + 1) x := by
  unfold acd
  by_cases e : x = c
  · subst e; rw [if_pos rfl, if_pos (by omega), acc_succ]
  · rw [if_neg e]
    by_cases e2 : x < c
    · rw [if_pos e2, if_pos (by omega)]
    · rw [if_neg e2, if_neg (by omega)]
theorem acd_all {S D : Nat → Nat → BitVec 8} {i j n x : Nat} (h : x < n) : acd S D i j n x = acc S D i (j + 1) x := if_pos h
theorem ovE_at {w : World} {g n : Nat} {f : Nat → BitVec 8} (h : Ov w 5 g (clE f) n) {j : Nat} (hj : j < n) : w.cell? ⟨g, j, none⟩ = some (.int .u8 (el (f j))) := h.cell hj
theorem bv_el (x : BitVec 8) : bv x.toNat = x := by unfold bv; rw [BitVec.ofNat_toNat, BitVec.setWidth_eq]
theorem el_toNat' (x : BitVec 8) : el x = ((x.toNat : Nat) : Int) := rfl
theorem br_ov' {w : World} {g n : Nat} {f : Nat → BitVec 8} (h : Ov w 5 g (clE f) n) : Br w (.slice (some ⟨g, 0, none⟩) n n) n f := h.st n n
theorem el0_beq : (el 0#8 == 0) = true := rfl
theorem wrap_el (x : BitVec 8) : IntKind.i64.wrap (el x) = el x := by have := el_bd x; rw [IntKind.wrap_i64]; omega
theorem ir_cells {w : World} {v : Value} {n : Nat} {f : Nat → Int} (h : Ir w v n f) (h0 : 0 < n) : ∃ b o c, v = .slice (some ⟨b, o, none⟩) n c ∧ ∀ i, i < n → w.cell? ⟨b, o + i, none⟩ = some (.int .i64 (f i)) := (St.sv h).cells h0
section
attribute [local irreducible] Calls el gm Ov clE NmE NrE Ir lv Br acc acd bv
set_option maxHeartbeats 32000000 in
set_option maxRecDepth 1000000 in
theorem by_core (bW oW N cW q cR n : Nat) (pR : Option Addr) (rowsW : Nat → Value) (S D : Nat → Nat → BitVec 8) (w : World) (hq0 : 0 < q) (hq : q ≤ 255) (hN : N ≤ 255) (hn : n ≤ 140737488355328) (HW : Hid (∀ i, i < N → w.cell? ⟨bW, oW + i, none⟩ = some (rowsW i))) (HI : Hid (∀ i, i < N → Ir w (rowsW i) q (fun j => el (S i j)))) (HR : Hid (NmE w (.slice pR q cR) q (fun _ => n) D)) :
    Calls Try.prog 50 #[.slice (some ⟨bW, oW, none⟩) N cW, .slice pR q cR] w fun e w' => ∃ v rows, e = .returned v ∧ w'.ownsRow w.heap.size 23 1 v N (lv rows N) ∧ (∀ i, i < N → Br w' (rows i) n (acc S D i q)) ∧ Below w.heap.size w w' := by
  obtain ⟨i0, hif, hz0, hz1, hz2⟩ := info_parts infoY
  obtain ⟨bR, oR, rowsR, eR, hcR, hnR⟩ := nm_at HR.out hq0
  subst eR
  have HCR := (show Hid _ from hcR)
  have HNR := (show Hid _ from hnR)
  have HM2 := (show Hid _ from make_bytes n hn)
  obtain ⟨p0, c0, e0, _⟩ := nr_un (hnR 0 hq0)
  have G0 : Hid (w.cell? ⟨bR, oR, none⟩ = some (.slice p0 n c0)) := by show _ = _; rw [← e0]; exact hcR 0 hq0
  have jq : (0 : Int) < (q : Int) := by omega
  clear hcR hnR e0
  go_enter Try.func50, Try.ntmps50
  go_wp2
  go_loopw [5, 6] (fun v i wr => ∃ (t : Nat) (rows : Nat → Value), t ≤ N ∧ i = .int .i64 t ∧ wr.ownsRow w.heap.size 23 1 v t (lv rows t) ∧ Hid (∀ i, i < t → Br wr (rows i) n (acc S D i q)) ∧ Below w.heap.size w wr) (fun _ i _ => N - (intOf i).toNat)
  case atStart => exact ⟨0, fun _ => .bool false, Nat.zero_le _, rfl, lv_none _ _ _ _ _, fun i hi => by omega, Below.refl _ _⟩
  case round =>
    obtain ⟨t, rows, ht, rfl, hown, hR, hb⟩ := hrel
    by_cases hlt : t < N
    · have j1 : (t : Int) < (N : Int) := by omega
      have M1 : Hid (t + 1 ≤ maxLen) := by show _ ≤ _; unfold maxLen; omega
      have g0 := cell_below G0.out hb
      obtain ⟨W0, hW0⟩ : ∃ W0, W0 = wr := ⟨_, rfl⟩
      subst hW0
      have B1 := (Below.refl W0.heap.size W0).alloc (Nat.le_refl _) (.cells (Array.replicate n (.int .u8 0)) 5)
      have hO1 : Ov (W0.alloc (.cells (Array.replicate n (.int .u8 0)) 5)) 5 W0.heap.size (clE (acc S D t 0)) n := (ov_new W0 5 (.int .u8 0) n).congr (fun i _ => by unfold clE; rw [acc_zero]; exact congrArg (Value.int .u8) (show (0 : Int) = el 0#8 by decide +kernel))
      obtain ⟨X, hX⟩ : ∃ X, X = W0.alloc (.cells (Array.replicate n (.int .u8 0)) 5) := ⟨_, rfl⟩
      rw [← hX] at B1 hO1
      have hm3 : (Instr.makeSlice 23 (.int .i64 (n : Int)) (.int .i64 (n : Int))).run Try.prog W0 = .ok (.slice (some ⟨W0.heap.size, 0, none⟩) n n) X := by rw [hX]; exact HM2.out W0
      have hgw : w.heap.size ≤ W0.heap.size := hb.size
      have HO1 := (show Hid _ from hO1)
      have HB1 := (show Hid _ from B1)
      have HOWN := (show Hid _ from hown)
      have HB := (show Hid _ from hb)
      obtain ⟨bS, oS, cS, eS, hcS⟩ := ir_cells (HI.out t hlt) hq0
      have HWt : Hid (w.cell? ⟨bW, oW + t, none⟩ = some (.slice (some ⟨bS, oS, none⟩) q cS)) := by show _ = _; rw [HW.out t hlt, eS]
      have HCS := (show Hid _ from hcS)
      clear hown hb hO1 B1 hX hcS eS
      go_wp2
      clear hm3 g0
      obtain ⟨G, hG⟩ : ∃ G, W0.heap.size = G := ⟨_, rfl⟩
      have HWG : Hid (W0.heap.size = G) := hG
      rw [hG] at HO1 hgw
      clear hG
      rw [HWG.out]
      have HXs : Hid (G ≤ X.heap.size) := by show _ ≤ _; rw [← HWG.out]; exact HB1.out.size
      have KC : Hid (∀ Y, But G X Y → ∀ (a : Addr) (v : Value), w.cell? a = some v → Y.cell? a = some v) := fun Y hY a v h => hY.cell (cell_below h (bt HB.out HB1.out)) (by have := block_lt_of_cell h; omega)
      go_loopw [8] (fun i wr => ∃ j : Nat, j ≤ q ∧ i = .int .i64 j ∧ Ov wr 5 G (clE (acc S D t j)) n ∧ But G X wr) (fun i _ => q - (intOf i).toNat)
      case atStart => exact ⟨0, Nat.zero_le _, rfl, HO1.out, But.refl _ _⟩
      case round =>
        clear HO1
        obtain ⟨j, hj, rfl, hO, hbu⟩ := hrel
        by_cases hjq : j < q
        · have j2 : (j : Int) < (q : Int) := by omega
          have y1 := KC.out _ hbu _ _ HWt.out
          have y2 := KC.out _ hbu _ _ (HCS.out j hjq)
          have HOj := (show Hid _ from hO)
          have HBj := (show Hid _ from hbu)
          clear hO hbu
          by_cases hs : S t j = 0#8
          · have e1 : (el (S t j) == 0) = true := by rw [hs]; exact el0_beq
            have HS : Hid (S t j = 0#8) := hs
            clear hs
            go_wp2
            go_roundw
            case rel => exact ⟨j + 1, by omega, by go_num, ovE_congr HOj.out (fun c _ => (acc_skip HS.out c).symm), HBj.out⟩
            case measure => simp [intOf]; omega
          · have e1 : (el (S t j) == 0) = false := el_ne0 hs
            obtain ⟨pD, cD, eD, hD⟩ := nr_un (HNR.out j hjq)
            have HRj : Hid (w.cell? ⟨bR, oR + j, none⟩ = some (.slice pD n cD)) := by show _ = _; rw [HCR.out j hjq, eD]
            have HDj := (show Hid _ from hD)
            clear eD hD hs
            by_cases hn64 : n < 64
            · have j3 : (n : Int) < 64 := by omega
              go_wp2
              clear y1 y2
              go_loopw [10] (fun i wr => ∃ c : Nat, c ≤ n ∧ i = .int .i64 c ∧ Ov wr 5 G (clE (acd S D t j c)) n ∧ But G X wr) (fun i _ => n - (intOf i).toNat)
              case atStart => exact ⟨0, Nat.zero_le _, rfl, ovE_congr HOj.out (fun x _ => acd_zero S D t j x), HBj.out⟩
              case round =>
                clear HOj HBj
                obtain ⟨c, hc, rfl, hO, hbu⟩ := hrel
                by_cases hcn : c < n
                · have j4 : (c : Int) < (n : Int) := by omega
                  obtain ⟨bD, oD, epD, hcD⟩ := HDj.out (by omega)
                  subst epD
                  have y3 := ovE_at hO hcn
                  rw [acd_at] at y3
                  have y4 := hO.frozen c
                  have y5 := KC.out _ hbu _ _ HRj.out
                  have y6 := KC.out _ hbu _ _ (hcD c hcn)
                  have x0 := wrap_el (D j c)
                  have XX := (show Hid _ from el_xor (acc S D t j c) (gm (S t j) (D j c)))
                  have hb2 := el_bd (gm (S t j) (D j c))
                  obtain ⟨u1, u2⟩ := hb2
                  have HOs := (show Hid _ from hO)
                  have HBs := (show Hid _ from hbu)
                  have hGs := hbu.sz
                  have hXs := HXs.out
                  have hne1 : bD ≠ G := by have := block_lt_of_cell (hcD c hcn); simp at this; omega
                  have hne2 : bR ≠ G := by have := block_lt_of_cell HRj.out; simp at this; omega
                  clear hO hbu hcD
                  go_wp2
                  go_region_with (first | (go_at_call 40; refine (refTimes_any _ _ _).mono ?_; rintro e w' ⟨rfl, h⟩; obtain rfl := h.symm))
                  all_goals
                    go_wp2
                    go_roundw
                    case rel =>
                      rw [XX.out]
                      exact ⟨c + 1, by omega, by go_num, (by exact Ov.heap (ovE_congr (ovE_put HOs.out hcn (acc S D t j c ^^^ gm (S t j) (D j c))) (fun x _ => acd_step S D t j c x)) (by rfl)), But.below (HBs.out.set c _) (by simp; omega) (bdr _)⟩
                    case measure => simp [intOf]; omega
                · obtain rfl : n = c := by omega
                  go_wp2
                  go_roundw
                  case rel => exact ⟨j + 1, by omega, by go_num, ovE_congr hO (fun x hx => acd_all hx), hbu⟩
                  case measure => simp [intOf]; omega
            · have j3 : ¬ (n : Int) < 64 := by omega
              have PR := (show Hid _ from fun w => products_core (S t j) w)
              go_wp2_with (go_at_call 66; refine (PR.out _).mono ?_; rintro e wP ⟨rfl, hOP, hbP⟩; have HOP := (show Hid _ from hOP); have HBP := (show Hid _ from hbP); clear hOP hbP)
              obtain ⟨gT, hgT⟩ : ∃ gT, wr.heap.size = gT := ⟨_, rfl⟩
              have HGT : Hid (wr.heap.size = gT) := hgT
              have hGT : G < gT := by rw [← hgT]; exact HOj.out.lt
              rw [hgT] at HOP
              have HOjP := (show Hid _ from HOj.out.below HBP.out)
              have HBjP : Hid (But G X wP) := But.below HBj.out (by omega) HBP.out
              clear hgT y1 y2
              rw [HGT.out]
              go_loopw [12] (fun i wr => ∃ c : Nat, c ≤ n ∧ i = .int .i64 c ∧ Ov wr 5 G (clE (acd S D t j c)) n ∧ But G X wr ∧ Ov wr 3 gT (fun b => .int .i64 (el (gm (S t j) (bv b)))) 256) (fun i _ => n - (intOf i).toNat)
              case atStart => exact ⟨0, Nat.zero_le _, rfl, ovE_congr HOjP.out (fun x _ => acd_zero S D t j x), HBjP.out, HOP.out⟩
              case round =>
                clear HOjP HBjP HOP HOj HBj
                obtain ⟨c, hc, rfl, hO, hbu, hT⟩ := hrel
                by_cases hcn : c < n
                · have j4 : (c : Int) < (n : Int) := by omega
                  obtain ⟨bD, oD, epD, hcD⟩ := HDj.out (by omega)
                  subst epD
                  have y3 := ovE_at hO hcn
                  rw [acd_at] at y3
                  have y4 := hO.frozen c
                  have y5 := KC.out _ hbu _ _ HRj.out
                  have y6 := KC.out _ hbu _ _ (hcD c hcn)
                  obtain ⟨d, hd⟩ : ∃ d, (D j c).toNat = d := ⟨_, rfl⟩
                  have hd256 : d < 256 := by rw [← hd]; exact (D j c).isLt
                  rw [show el (D j c) = (d : Int) by rw [← hd]; exact el_toNat' _] at y6
                  have y7 := hT.cell (i := d) hd256
                  rw [show bv d = D j c by rw [← hd]; exact bv_el _] at y7
                  have XX := (show Hid _ from el_xor (acc S D t j c) (gm (S t j) (D j c)))
                  have hb2 := el_bd (gm (S t j) (D j c))
                  obtain ⟨u1, u2⟩ := hb2
                  have d1 : (0 : Int) ≤ (d : Int) := by omega
                  have d2 : (d : Int) < 256 := by omega
                  have HOs := (show Hid _ from hO)
                  have HBs := (show Hid _ from hbu)
                  have HTs := (show Hid _ from hT)
                  have hGs := hbu.sz
                  have hXs := HXs.out
                  have hne1 : bD ≠ G := by have := block_lt_of_cell (hcD c hcn); simp at this; omega
                  have hne2 : bR ≠ G := by have := block_lt_of_cell HRj.out; simp at this; omega
                  have hne3 : gT ≠ G := by omega
                  clear hO hbu hcD hd hT
                  go_wp2
                  go_region_with (fail)
                  all_goals
                    go_wp2
                    go_roundw
                    case rel =>
                      rw [XX.out]
                      exact ⟨c + 1, by omega, by go_num, (by exact Ov.heap (ovE_congr (ovE_put HOs.out hcn (acc S D t j c ^^^ gm (S t j) (D j c))) (fun x _ => acd_step S D t j c x)) (by rfl)), But.below (HBs.out.set c _) (by simp; omega) (bdr _), (by exact HTs.out.other (p := ⟨G, c, none⟩) (u := .int .u8 (el (acc S D t j c ^^^ gm (S t j) (D j c)))) hne3 (by rfl))⟩
                    case measure => simp [intOf]; omega
                · obtain rfl : n = c := by omega
                  go_wp2
                  go_roundw
                  case rel => exact ⟨j + 1, by omega, by go_num, ovE_congr hO (fun x hx => acd_all hx), hbu⟩
                  case measure => simp [intOf]; omega
        · obtain rfl : q = j := by omega
          have hbW : Below W0.heap.size W0 wr := But.from HB1.out hbu (by rw [HWG.out]; exact Nat.le_refl _)
          have HIr : Hid (Br wr (.slice (some ⟨G, 0, none⟩) n n) n (acc S D t q)) := br_ov' hO
          have hown3 := owns_below HOWN.out hbW
          have hb3 := bt HB.out hbW
          clear hO hbu
          go_wp2_with (at_builtin; refine wpList_append_own _ rfl _ _ 22 rfl w.heap.size 23 i0 (.slice none 0 0) 1 24 Try.underlying22 hif hz0 hz1 hz2 rfl (by decide) _ _ _ rfl (hown3.alloc _) ⟨_, 0, none⟩ 1 1 [.slice (some ⟨G, 0, none⟩) n n] rfl rfl (one_new _ _ _) (one_cellv rfl) M1.out (by omega) (by have := hb3.size; simp at *; omega) ?_; intro v' w4 hown' hgrow _)
          have hb4 := below_append (hb3.alloc hb3.size _) (by have := hb3.size; simp at *; omega) hgrow (hown3.alloc _) (Nat.le_refl _)
          rw [push_lv] at hown'
          have hR3 : Hid (∀ i, i < t + 1 → Br w4 ((fun i => if i = t then .slice (some ⟨G, 0, none⟩) n n else rows i) i) n (acc S D i q)) := push_br (l := fun _ => n) (M := fun i => acc S D i q) hown3 hgrow (fun i hi => (hR.out i hi).below hbW) HIr.out
          clear hown3 hgrow
          go_roundw
          case rel => exact ⟨t + 1, _, by omega, by go_num, hown', hR3, hb4⟩
          case measure => simp [intOf]; omega
    · obtain rfl : t = N := by omega
      go_wp2
      go_ret
      exact ⟨_, rows, rfl, hown, hR.out, hb⟩
end
end Go.Proofs.Ytienknoahjhopaa
