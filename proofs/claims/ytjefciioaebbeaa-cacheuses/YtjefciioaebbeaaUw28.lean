/-
  CacheUses: the law's walk, rooms that are rooms.
-/
import Derived.Test.YtjefciioaebbeaaUv28
set_option linter.unusedVariables false
namespace Go.Proofs.Ytjefciioaebbeaa
open Go.RowKit
theorem Wt.ge {w wr : World} {c d bm bn cp cq : Nat} {r s : Int} {S T : List SS.Ent} {p q : Option Addr} (H : Wt w wr c r S d s T bm bn p q cp cq) : w.heap.size ≤ bm ∧ w.heap.size ≤ bn ∧ bm ≠ bn := by
  obtain ⟨X, h1, h2, h3, h4, h5, h6, h7, h8, h9, h10, h11⟩ := H
  exact ⟨h11 _ h6, h11 _ h7, h8⟩
section
attribute [local irreducible] Calls GB RdE SS.Co SS.Tw Wt Rt UL
set_option maxHeartbeats 4000000 in
set_option maxRecDepth 1000000 in
theorem cacheUses_walk {w : World} (room second : Int) {p : Option Addr} {n c : Nat} {f : Nat → Us} (hU : UL w p n f) (hn : n * 56 ≤ 140737488351232) (hI : ∀ i, i < n → (f i).key.length ≤ 140737488351232 ∧ (f i).val.length ≤ 140737488351232 ∧ In64 (f i).wt ∧ In64 (f i).dk) :
    Calls Try.prog 4 #[.int .i64 room, .int .i64 second, .slice p n c] w fun e w' => e = .returned (.bool true) ∧ Below w.heap.size w w' := by
  by_cases hbad : ¬ (0 ≤ room ∧ room ≤ 1073741824) ∨ ¬ (0 ≤ second ∧ second ≤ 1073741824)
  · exact cacheUses_bad room second hbad
  have h1 : 0 ≤ room ∧ room ≤ 1073741824 := by omega
  have h2 : 0 ≤ second ∧ second ≤ 1073741824 := by omega
  have HR1 := (show Hid _ from fun W => rnew_any room W)
  have HR2 := (show Hid _ from fun W => rnew_any second W)
  simp only [if_pos h1] at HR1
  simp only [if_pos h2] at HR2
  have HC := (show Hid _ from SS.new_co room h1.1 h1.2 (Below.refl _ w))
  have HD := (show Hid (∀ (W : World) (c : Nat) (X : Nat → Prop), SS.Co w W c room [] X → _) from fun W c X h => SS.Co.two h second h2.1 h2.2)
  have HU := (show Hid (UL w p n f) from hU)
  have HI := (show Hid _ from hI)
  have HN := (show Hid (n * 56 ≤ 140737488351232) from hn)
  clear hbad h1 h2 hU hn hI
  go_enter Try.func4, Try.ntmps4
  go_wp2_with (first
    | (go_at_call 9; refine (HD.out W4 cc _ HS4.out.2).mono ?_; rintro e1 w5 ⟨dd, rfl, H5, hb5⟩)
    | (go_at_call 9; refine HC.out.mono ?_; rintro e1 w1 ⟨cc, rfl, H1, hb1⟩)
    | (go_at_call 10; refine (HR2.out w5).mono ?_; rintro e1 w6 ⟨rfl, hb6⟩)
    | (go_at_call 10; refine (HR1.out w1).mono ?_; rintro e1 w2 ⟨rfl, hb2⟩)
    | (revert hb6; intro hb6; refine wpList_alB rfl rfl rc_zero ?_; intro W7 G7 hb7 hs7)
    | (refine wpList_alB rfl rfl rc_zero ?_; intro W3 G3 hb3 hs3)
    | (refine wpList_stB (cs := rcC second (.slice none 0 0)) rfl _ _ rfl rfl w6.heap.size rfl rfl G7 rc_size rfl (rc_one _ _ _ _) ?_; intro W8 G8 hg8 hs8; have HW8 := (show Hid (Wt _ _ _ _ _ _ _ _ _ _ _ _ _ _) from wt_start2 HZ.out.1 HZ.out.2.1 HZ.out.2.2 H5 hb5 hb6 hb7 hs7 G8 hg8 hs8); clear H5 hb5 hb6 G7 hb7 hs7 G8 hg8 hs8 HS4 HZ)
    | (refine wpList_stB (cs := rcC room (.slice none 0 0)) rfl _ _ rfl rfl w2.heap.size rfl rfl G3 rc_size rfl (rc_one _ _ _ _) ?_; intro W4 G4 hg4 hs4; have HZ := (show Hid (w.heap.size ≤ w2.heap.size ∧ w2.heap.size < W4.heap.size ∧ GB W4 w2.heap.size _ _) from ⟨Nat.le_trans hb1.size hb2.size, by have := hs3.out; have := hs4.out; omega, G4⟩); have HS4 := (show Hid (_ ∧ _) from wt_start (w5 := w2) (w6 := w2) (W7 := w2) (W8 := w2) (d := 0) (s := 0) H1 hb2 hb3 hs3 G4 hg4 hs4); clear H1 hb1 hb2 G3 hb3 hs3 G4 hg4 hs4))
  obtain ⟨bm, hbm⟩ : ∃ bm, bm = w2.heap.size := ⟨_, rfl⟩
  obtain ⟨bn, hbn⟩ : ∃ bn, bn = w6.heap.size := ⟨_, rfl⟩
  rw [← hbm, ← hbn] at HW8 ⊢
  clear hbm hbn
  go_loopg [15] n (fun q i wr => ∃ (k : Nat) (S T : List SS.Ent) (p1 q1 : Option Addr) (cp cq : Nat), k ≤ n ∧ q = n - k ∧ i = .int .i64 k ∧ Hid (Wt w wr cc room S dd second T bm bn p1 q1 cp cq) ∧ Hid (S.length ≤ k ∧ T.length ≤ k))
  case atStart => exact ⟨0, [], [], none, none, 0, 0, Nat.zero_le _, rfl, rfl, HW8.out, ⟨Nat.le_refl _, Nat.le_refl _⟩⟩
  case round =>
    obtain ⟨k, S, T, p1, q1, cp, cq, hk, hq, rfl, HT, HL⟩ := hrel
    have HK := (show Hid (gk = n - k) from hq)
    clear hq
    have HGE := (show Hid _ from HT.out.ge)
    obtain ⟨ms, hms⟩ : ∃ ms, ms = S.length := ⟨_, rfl⟩
    obtain ⟨mt, hmt⟩ : ∃ mt, mt = T.length := ⟨_, rfl⟩
    by_cases hlt : k < n
    · have hi : (k : Int) < (n : Int) := by omega
      obtain ⟨b, o, rfl, hld⟩ := HU.out.five (wr := wr) hlt
      have HX := (show Hid (In64 (f k).wt) from (HI.out k hlt).2.2.1)
      obtain ⟨x, hx⟩ : ∃ x, x = f k := ⟨_, rfl⟩
      rw [← hx] at hld HX
      clear hx
      have HBL := (show Hid (b < w.heap.size) from block_lt_of_cell (hld w (Below.refl _ _)).1)
      have HLD := (show Hid _ from hld)
      obtain ⟨t0, t1, t2, t3, t4⟩ := hld wr HT.out.base
      clear hld
      by_cases hs : x.sec = true
      · skip
        obtain ⟨e0, e1, z0, z1⟩ := HT.out.swap.cells
        have HUS := (show Hid _ from HT.out.swap.drew.used (by have := HL.out; have := HN.out; omega) x HX.out)
        have nb : ¬ b = bn := by have := HGE.out; have := HBL.out; omega
        have nb2 : ¬ bn = b := Ne.symm nb
        rw [hs] at t0 HUS HLD
        rw [← hmt] at e1 HUS
        have HMS := (show Hid (ms = S.length ∧ mt = T.length) from ⟨hms, hmt⟩)
        clear hms hmt hs
        go_upto_region 14 with fail
        go_region_with (first
          | (go_at_call 11; refine HUS.out.mono ?_; rintro e1 w7 ⟨S2, p2, c2, rfl, hl2, ⟨y0, y1, y2, y3⟩, HB7, HW7⟩; have KS := (show Hid _ from HLD.out w7 HB7.out)))
        all_goals
          go_wp2
          go_roundg (n - (k + 1))
          case measure => have := HK.out; omega
          case rel => exact ⟨k + 1, S, S2, p1, p2, cp, c2, by omega, rfl, by first | go_num | rw [wrap_u HN.out hlt], HW7.out.swap, ⟨by have := HL.out; omega, by have := HL.out; have := hl2.out; have := HMS.out; omega⟩⟩
      · have hs : x.sec = false := by simpa using hs
        obtain ⟨e0, e1, z0, z1⟩ := HT.out.cells
        have HUS := (show Hid _ from HT.out.drew.used (by have := HL.out; have := HN.out; omega) x HX.out)
        have nb : ¬ b = bm := by have := HGE.out; have := HBL.out; omega
        have nb2 : ¬ bm = b := Ne.symm nb
        rw [hs] at t0 HUS HLD
        rw [← hms] at e1 HUS
        have HMS := (show Hid (ms = S.length ∧ mt = T.length) from ⟨hms, hmt⟩)
        clear hms hmt hs
        go_upto_region 15 with fail
        go_region_with (first
          | (go_at_call 11; refine HUS.out.mono ?_; rintro e1 w7 ⟨S2, p2, c2, rfl, hl2, ⟨y0, y1, y2, y3⟩, HB7, HW7⟩; have KS := (show Hid _ from HLD.out w7 HB7.out)))
        all_goals
          go_wp2
          go_roundg (n - (k + 1))
          case measure => have := HK.out; omega
          case rel => exact ⟨k + 1, S2, T, p2, q1, c2, cq, by omega, rfl, by first | go_num | rw [wrap_u HN.out hlt], HW7.out, ⟨by have := HL.out; have := hl2.out; have := HMS.out; omega, by have := HL.out; omega⟩⟩
    · obtain rfl : k = n := by omega
      have hi : ¬ (k : Int) < (k : Int) := by omega
      have hlS : S.length * 40 ≤ 140737488355288 := by have := HL.out; have := HN.out; omega
      have hlT : T.length * 40 ≤ 140737488355288 := by have := HL.out; have := HN.out; omega
      have HK1 := (show Hid (∀ W, Below wr.heap.size wr W → _) from fun W hb => wt_keys HT.out hlS hb)
      have HK2 := (show Hid (∀ W, Below wr.heap.size wr W → _) from fun W hb => wt_keys HT.out.swap hlT hb)
      have HP1 := (show Hid (∀ W, Below wr.heap.size wr W → _) from fun W hb => wt_rkeys HT.out hlS hb)
      have HP2 := (show Hid (∀ W, Below wr.heap.size wr W → _) from fun W hb => wt_rkeys HT.out.swap hlT hb)
      have HM1 := (show Hid (∀ W, Below wr.heap.size wr W → _) from fun W hb => wt_same (W := W) hlS hb)
      have HM2 := (show Hid (∀ W, Below wr.heap.size wr W → _) from fun W hb => wt_same (W := W) hlT hb)
      have HW1 := (show Hid (∀ W, Below wr.heap.size wr W → _) from fun W hb => wt_weight HT.out hb)
      have HW2 := (show Hid (∀ W, Below wr.heap.size wr W → _) from fun W hb => wt_weight HT.out.swap hb)
      have HV1 := (show Hid (∀ W, Below wr.heap.size wr W → _) from fun W hb => wt_rweight HT.out hlS hb)
      have HV2 := (show Hid (∀ W, Below wr.heap.size wr W → _) from fun W hb => wt_rweight HT.out.swap hlT hb)
      have HF := (show Hid (∀ W, Below wr.heap.size wr W → W.cell? ⟨bm, 0, none⟩ = some (.int .i64 room) ∧ W.cell? ⟨bm, 1, none⟩ = some (.slice p1 S.length cp) ∧ W.cell? ⟨bn, 0, none⟩ = some (.int .i64 second) ∧ W.cell? ⟨bn, 1, none⟩ = some (.slice q1 T.length cq)) from fun W hb => ⟨(HT.out.more hb).cells.1, (HT.out.more hb).cells.2.1, (HT.out.more hb).swap.cells.1, (HT.out.more hb).swap.cells.2.1⟩)
      obtain ⟨z1, hz1⟩ : ∃ z1, z1 = wsum S := ⟨_, rfl⟩
      obtain ⟨z2, hz2⟩ : ∃ z2, z2 = wsum T := ⟨_, rfl⟩
      obtain ⟨k1, hk1⟩ : ∃ k1, k1 = S.map En.key := ⟨_, rfl⟩
      obtain ⟨k2, hk2⟩ : ∃ k2, k2 = T.map En.key := ⟨_, rfl⟩
      rw [← hz1] at HW1 HV1
      rw [← hz2] at HW2 HV2
      rw [← hms] at HF HK1 HP1 HM1 HV1
      rw [← hmt] at HF HK2 HP2 HM2 HV2
      rw [← hk1] at HK1 HP1 HM1
      rw [← hk2] at HK2 HP2 HM2
      have hq1 : (z1 == z1) = true := by simp
      have hq2 : (z2 == z2) = true := by simp
      have HBASE := (show Hid (Below _ _ _) from HT.out.base)
      clear hlS hlT hms hmt hz1 hz2 hk1 hk2 HT HL
      obtain ⟨e0, e1, g0, g1⟩ := HF.out wr (Below.refl _ _)
      go_upto_region 18 with fail
      go_region_held3 (fun Y => Y.cell? ⟨bm, 0, none⟩ = some (.int .i64 room) ∧ Y.cell? ⟨bm, 1, none⟩ = some (.slice p1 ms cp) ∧ Y.cell? ⟨bn, 0, none⟩ = some (.int .i64 second) ∧ Y.cell? ⟨bn, 1, none⟩ = some (.slice q1 mt cq)) (first | exact HF.out _ B8.out | exact HF.out _ B7.out | exact HF.out _ B6.out | exact HF.out _ B5.out | exact HF.out _ B4.out | exact HF.out _ B3.out | exact HF.out _ B2.out | exact HF.out _ B1.out | go_keep) (first
        | (go_at_call 16; refine (HV2.out _ B7.out).mono ?_; rintro x8 v8 ⟨rfl, B8⟩)
        | (go_at_call 15; refine (HW2.out _ B7.out).mono ?_; rintro x8 v8 ⟨rfl, h8⟩; obtain rfl := h8.symm)
        | (go_at_call 12; refine (HM2.out _ B6.out _ _ _ _ R6.out).mono ?_; rintro x7 v7 ⟨rfl, B7⟩)
        | (go_at_call 14; refine (HP2.out _ B5.out _ R5.out).mono ?_; rintro x6 v6 ⟨a6, c6, rfl, R6, B6⟩)
        | (go_at_call 13; refine (HK2.out _ B4.out).mono ?_; rintro x5 v5 ⟨a5, c5, rfl, R5, B5⟩)
        | (go_at_call 16; refine (HV1.out _ B3.out).mono ?_; rintro x4 v4 ⟨rfl, B4⟩)
        | (go_at_call 15; refine (HW1.out _ B3.out).mono ?_; rintro x4 v4 ⟨rfl, h4⟩; obtain rfl := h4.symm)
        | (go_at_call 12; refine (HM1.out _ B2.out _ _ _ _ R2.out).mono ?_; rintro x3 v3 ⟨rfl, B3⟩)
        | (go_at_call 14; refine (HP1.out _ B1.out _ R1.out).mono ?_; rintro x2 v2 ⟨a2, c2, rfl, R2, B2⟩)
        | (go_at_call 13; refine (HK1.out _ ((Below.refl _ _).drew)).mono ?_; rintro x1 v1 ⟨a1, c1, rfl, R1, B1⟩))
      go_wp2
      go_ret
      exact ⟨rfl, HBASE.out.trans (B8.out.mono HBASE.out.size)⟩
end
end Go.Proofs.Ytjefciioaebbeaa
