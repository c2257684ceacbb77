/-
  FanCounts: the law's walk.
-/
import Derived.Test.YtgconfcijmemmaaFk16
import Derived.Deep.CutRange
namespace Go.Proofs.Ytgconfcijmemmaa
open Go.RowKit
theorem one_s (b : ByteArray) : ∀ u ∈ ([.string b] : List Value), u.oneCell' = true := by intro u hu; simp at hu; subst hu; rfl
theorem one_w (x : Option Int) : ∀ u ∈ (wcs x).toList, u.oneCell' = true := by
  intro u hu
  simp [wcs] at hu
  rcases hu with rfl | rfl <;> rfl
theorem wcs_some (z : Int) : wcs (some z) = #[.int .i64 z, .string ⟨#[120]⟩] := rfl
theorem gb_ir1 {w : World} {g : Nat} {z : Int} (h : GB w g 3 #[.int .i64 z]) : IrAt w (some ⟨g, 0, none⟩) [z] := .inr ⟨g, 0, rfl, fun i hi => by
  obtain rfl : i = 0 := by simpa using hi
  rw [Nat.zero_add, h.cell 0]; rfl⟩
theorem oz_some {w : World} {B : Nat} {v : Value} {xs : List Int} {n : Nat} (h : Oz w B v (xs ++ [77])) (hn : xs.length = n) : ∃ g cap, v = .slice (some ⟨g, 0, none⟩) (n + 1) cap ∧ n + 1 ≤ cap ∧ B ≤ g := by
  have h2 := own_some h (by simp)
  simpa [hn] using h2
section
attribute [local irreducible] Calls Oz
set_option maxRecDepth 1000000 in
set_option maxHeartbeats 4000000 in
theorem fanCounts_walk {w : World} {a : Option Addr} {xs : List Int} (h : IrAt w a xs) (n cap : Nat) (x : Int) (hn : xs.length = n) (hm : n ≤ 1000000000) :
    Calls Try.prog 3 #[.slice a n cap, .int .i64 x] w fun e w' => e = .returned (.bool true) ∧ Below w.heap.size w w' := by
  have HL := (show Hid (xs.length = n) from hn)
  have HI := (show Hid (IrAt w a xs) from h)
  clear h hn
  go_enter Try.func3, Try.ntmps3
  go_wp2
  go_loopw [5, 6, 7] (fun vt vw i wr => ∃ k : Nat, k ≤ n ∧ i = .int .i64 k ∧ Hid (wr.ownsRow w.heap.size 9 1 vt k (tcs (xs.take k)) ∧ wr.ownsRow w.heap.size 27 2 vw k (wds (xs.take k)) ∧ Below w.heap.size w wr)) (fun _ _ i _ => n - (intOf i).toNat)
  case atStart => exact ⟨0, Nat.zero_le _, rfl, by (show _ ∧ _ ∧ _; exact ⟨World.ownsRow_nil _ _ _ _, World.ownsRow_nil _ _ _ _, Below.refl _ _⟩)⟩
  case round =>
    obtain ⟨k, hk, rfl, HR⟩ := hrel
    by_cases hlt : k < n
    · have hi : (k : Int) < (n : Int) := by omega
      have hkx : Hid (k < xs.length) := by show _ < _; rw [HL.out]; exact hlt
      obtain ⟨b, o, hao, hcx⟩ : ∃ b o, a = some ⟨b, o, none⟩ ∧ w.cell? ⟨b, o + k, none⟩ = some (.int .i64 (xs.getD k 0)) := by
        rcases HI.out with e | ⟨b, o, e, hc⟩
        · have := hkx.out; rw [e] at this; simp at this
        · exact ⟨b, o, e, hc k hkx.out⟩
      obtain ⟨z, hz⟩ : ∃ z, xs.getD k 0 = z := ⟨_, rfl⟩
      have HZ := (show Hid (xs.getD k 0 = z) from hz)
      rw [hz] at hcx
      have HC := (show Hid (w.cell? ⟨b, o + k, none⟩ = some (.int .i64 z)) from hcx)
      have g1 := cell_belowB HC.out HR.out.2.2
      subst hao
      clear hz hcx
      go_wp2_with (first
        | (refine wpList_bsH (len := 1) (t := 25) (te := 5) (ps := #[(0, .int .u8 (z % 256))]) (cs := #[.int .u8 (z % 256)]) rfl rfl (by simp; rfl) (bsU wr _) ?_; intro w1 hG1 hb1 hs1; have hcv := cv1 hG1)
        | (refine wpList_bsH (len := 1) (t := 23) (te := 9) (ps := #[(0, .string ⟨#[tb z]⟩)]) (cs := #[.string ⟨#[tb z]⟩]) rfl rfl (by simp; rfl) (bsS w1 _) ?_; intro w2 hG2 hb2 hs2)
        | (refine wpList_apR rfl _ _ 23 9 rfl Try.underlying23 infoS rfl (by decide) w.heap.size _ k (tcs (xs.take k)) rfl (own_below HR.out.1 (bt hb1 hb2)) (some ⟨w1.heap.size, 0, none⟩) 1 1 [.string ⟨#[tb z]⟩] rfl (hG2.rw 1) rfl (one_s _) (by omega) (by decide) (Nat.le_trans HR.out.2.2.size (bt hb1 hb2).size) ?_; intro v3 w3 ho3 hg3; have hB3 := (show Hid (Below w.heap.size w w3) from own_grown (own_below HR.out.1 (bt hb1 hb2)) (HR.out.2.2.trans ((bt hb1 hb2).mono HR.out.2.2.size)) (Nat.le_trans HR.out.2.2.size (bt hb1 hb2).size) hg3 (Nat.le_refl _)); have hT3 := (show Hid (w3.ownsRow w.heap.size 9 1 v3 (k + 1) (tcs (xs.take (k + 1)))) from by rw [tcs_succ hkx.out HZ.out]; exact ho3); have hW3 := (show Hid _ from own_type (own_below HR.out.2.1 (bt hb1 hb2)) (own_below HR.out.1 (bt hb1 hb2)) (by decide) hg3); have g2 := cell_belowB HC.out hB3.out; clear hG1 hG2 hb1 hb2 hs1 hs2 ho3 hg3 hcv)
        | (refine wpList_bsH (len := 1) (t := 24) (te := 27) (ps := #[(0, .agg #[.int .i64 z, .string ⟨#[120]⟩])]) (cs := #[.int .i64 z, .string ⟨#[120]⟩]) rfl rfl (by simp; rfl) (bsW w3 _ _) ?_; intro w4 hG4 hb4 hs4)
        | (refine wpList_apR rfl _ _ 24 27 rfl Try.underlying24 infoW rfl (by decide) w.heap.size _ k (wds (xs.take k)) rfl (own_below hW3.out hb4) (some ⟨w3.heap.size, 0, none⟩) 1 1 (wcs (some z)).toList rfl (hG4.rw 1) rfl (one_w _) (by omega) (by decide) (Nat.le_trans hB3.out.size hb4.size) ?_; intro v5 w5 ho5 hg5; have hB5 := (show Hid (Below w.heap.size w w5) from own_grown (own_below hW3.out hb4) (hB3.out.trans (hb4.mono hB3.out.size)) (Nat.le_trans hB3.out.size hb4.size) hg5 (Nat.le_refl _)); have hW5 := (show Hid (w5.ownsRow w.heap.size 27 2 v5 (k + 1) (wds (xs.take (k + 1)))) from by rw [wds_succ hkx.out HZ.out]; exact ho5); have hT5 := (show Hid _ from own_type (own_below hT3.out hb4) (own_below hW3.out hb4) (by decide) hg5); clear hG4 hb4 hs4 ho5 hg5 hT3 hW3 hB3))
      go_roundw
      case rel => exact ⟨k + 1, by omega, by go_num, by (show _ ∧ _ ∧ _; exact ⟨hT5.out, hW5.out, hB5.out⟩)⟩
      case measure => simp [intOf]; omega
    · obtain rfl : k = n := by omega
      have htk : Hid (xs.take k = xs) := by show _ = _; rw [← HL.out, List.take_length]
      obtain ⟨hT, hW, hBel⟩ := HR.out
      rw [htk.out] at hT hW
      obtain ⟨p5, c5, rfl, hS5⟩ := own_sr hT HL.out
      obtain ⟨p6, c6, rfl, hW6⟩ := own_wr hW HL.out
      have HA := (show Hid (SrAt wr p5 (xs.map fun z => some (tb z)) ∧ WrAt wr p6 (xs.map some) ∧ IrAt wr a xs ∧ Below w.heap.size w wr) from ⟨hS5, hW6, HI.out.below hBel, hBel⟩)
      have hlT : Hid ((xs.map fun z => some (tb z)).length = k) := by show _ = _; rw [List.length_map]; exact HL.out
      have hlW : Hid ((xs.map some).length = k) := by show _ = _; rw [List.length_map]; exact HL.out
      clear hT hW hBel hS5 hW6 HR htk HI hlt hk
      obtain ⟨E, hE⟩ : ∃ E, (mst ieq 0 xs).1 = E := ⟨_, rfl⟩
      obtain ⟨M, hM⟩ : ∃ M, (mst ieq 0 xs).2 = M := ⟨_, rfl⟩
      have HV := (show Hid ((mst ieq 0 xs).1 = E ∧ (mst ieq 0 xs).2 = M) from ⟨hE, hM⟩)
      clear hE hM
      obtain ⟨W0, hW0⟩ : ∃ W0, W0 = wr := ⟨_, rfl⟩
      subst hW0
      go_upto_region 10 with (first
        | (refine wpList_apZ rfl _ _ rfl W0.heap.size (.slice none 0 0) [] rfl (oz_nil _ _) _ _ _ xs rfl HA.out.2.2.1 HL.out (by simp; omega) (Nat.le_refl _) ?_; intro v1 w1 ho1 hg1; rw [List.nil_append] at ho1; obtain ⟨p1, c1, rfl, hc1', hI1⟩ := oz_new ho1 HL.out; have HB1 := (show Hid (Below W0.heap.size W0 w1) from (oz_nil W0 W0.heap.size).grown (Below.refl _ _) (Nat.le_refl _) hg1 (Nat.le_refl _)); have HI1 := (show Hid (IrAt w1 p1 xs) from hI1); clear ho1 hg1 hI1 hc1')
        | (go_at_call 4; refine (rmost_any HI1.out k _ HL.out (by omega)).mono ?_; rw [HV.out.1, HV.out.2]; rintro e w2 ⟨rfl, hb2⟩; have HA2 := (show Hid (IrAt w2 p1 xs ∧ Below W0.heap.size W0 w2) from ⟨HI1.out.below hb2, HB1.out.trans (hb2.mono HB1.out.size)⟩); clear hb2 HB1 HI1))
      have HX := (show Hid (SrAt w2 p5 (xs.map fun z => some (tb z)) ∧ WrAt w2 p6 (xs.map some) ∧ IrAt w2 a xs ∧ IrAt w2 p1 xs ∧ Below w.heap.size w w2) from ⟨HA.out.1.below HA2.out.2, HA.out.2.1.below HA2.out.2, HA.out.2.2.1.below HA2.out.2, HA2.out.1, HA.out.2.2.2.trans (HA2.out.2.mono HA.out.2.2.2.size)⟩)
      clear HA HA2
      go_upto_region 11 with (first
        | (refine wpList_apZ rfl _ _ rfl w2.heap.size (.slice none 0 0) [] rfl (oz_nil _ _) _ _ _ xs rfl HX.out.2.2.1 HL.out (by simp; omega) (Nat.le_refl _) ?_; intro v3 w3 ho3 hg3; rw [List.nil_append] at ho3; have HB3 := (show Hid (Below w2.heap.size w2 w3) from (oz_nil w2 w2.heap.size).grown (Below.refl _ _) (Nat.le_refl _) hg3 (Nat.le_refl _)); have HO3 := (show Hid (Oz w3 w2.heap.size v3 xs) from ho3); clear ho3 hg3)
        | (refine wpList_bsH (len := 1) (t := 22) (te := 3) (ps := #[(0, .int .i64 77)]) (cs := #[.int .i64 77]) rfl rfl (by simp; rfl) (bsI w3 _) ?_; intro w4 hG4 hb4 hs4)
        | (refine wpList_apZ rfl _ _ rfl w2.heap.size _ xs rfl (HO3.out.below hb4) (some ⟨w3.heap.size, 0, none⟩) 1 1 [77] rfl (gb_ir1 hG4) rfl (by rw [HL.out]; omega) (Nat.le_trans HB3.out.size hb4.size) ?_; intro v5 w5 ho5 hg5; have HB5 := (show Hid (Below w2.heap.size w2 w5) from (HO3.out.below hb4).grown (HB3.out.trans (hb4.mono HB3.out.size)) (Nat.le_trans HB3.out.size hb4.size) hg5 (Nat.le_refl _)); obtain ⟨g, cg, rfl, hcg, hgB⟩ := oz_some ho5 HL.out; have HLn := (show Hid (Ln w5 w2.heap.size g cg xs ∧ w2.heap.size ≤ g) from ⟨⟨by rw [HL.out]; exact ho5⟩, hgB⟩); have hcg' := Int.ofNat_le.2 (Nat.le_of_succ_le hcg); clear ho5 hg5 hG4 hb4 hs4))
      go_upto_region 13 with (first
        | (go_at_call 5; refine (asked_any HL9.out.1 x k hlY.out hm).mono ?_; rintro e w10 ⟨rfl, hb10⟩; have HB10 := (show Hid (Below w2.heap.size w2 w10) from HL9.out.2.trans (hb10.mono HL9.out.2.size)); clear hb10 HL9)
        | (go_at_call 6; refine (again_any HL8.out.1 x k HL.out hm).mono ?_; rintro e w9 ⟨rfl, hLn9, hg9⟩; have HL9 := (show Hid (Ln w9 w2.heap.size g cg (List.replicate k (wrap64 (x + 1))) ∧ Below w2.heap.size w2 w9) from ⟨hLn9, HL8.out.2.2.grown hg9 HL8.out.2.2.size (fun j hj => by cases hj; exact HL8.out.2.1)⟩); have hlY := (show Hid ((List.replicate k (wrap64 (x + 1))).length = k) from by show _ = _; simp); clear hLn9 hg9)
        | (go_at_call 5; refine (asked_any HLn.out.1 x k HL.out hm).mono ?_; rintro e w8 ⟨rfl, hb8⟩; have HL8 := (show Hid (Ln w8 w2.heap.size g cg xs ∧ w2.heap.size ≤ g ∧ Below w2.heap.size w2 w8) from ⟨HLn.out.1.below hb8, HLn.out.2, HB5.out.trans (hb8.mono HB5.out.size)⟩); clear hb8 HLn HB5))
      have HY := (show Hid (SrAt w10 p5 (xs.map fun z => some (tb z)) ∧ WrAt w10 p6 (xs.map some) ∧ IrAt w10 p1 xs ∧ Below w.heap.size w w10) from ⟨HX.out.1.below HB10.out, HX.out.2.1.below HB10.out, HX.out.2.2.2.1.below HB10.out, HX.out.2.2.2.2.trans (HB10.out.mono HX.out.2.2.2.2.size)⟩)
      clear HX HB10 HB3 HO3 hlY HL8
      obtain ⟨E2, hE2⟩ : ∃ E2, (mst weq none (xs.map some)).1 = E2 := ⟨_, rfl⟩
      have HE2 := (show Hid ((mst weq none (xs.map some)).1 = E2) from hE2)
      have HM2 := (show Hid ((mst weq none (xs.map some)).2 = M) from (words_mst xs).1.trans HV.out.2)
      clear hE2
      go_upto_region 14 with (first
        | (go_at_call 7; refine (wmost_any HY.out.2.1 k _ hlW.out (by omega)).mono ?_; rw [HE2.out, HM2.out]; rintro e w11 ⟨rfl, hb11⟩)
        | (refine wpList_alB (cs := wcs none) rfl rfl wz ?_; intro w12 hG12 hb12 hs12)
        | (refine wpList_stB (cs := wcs E2) rfl _ _ rfl rfl w11.heap.size rfl rfl hG12 (size_Wc E2) (wcs_same _ _) (wcs_one E2) ?_; intro w13 hG13 hg13 hs13))
      have B13 := (show Hid (Below w10.heap.size w10 w13) from (bt hb11 hb12).grown hg13 (Nat.le_trans hb11.size hb12.size) (fun j hj => by cases hj; exact hb11.size))
      have HG := (show Hid (GB w13 w11.heap.size 27 (wcs E2)) from hG13)
      obtain ⟨T, hT⟩ : ∃ T, xs.countP (ieq x) = T := ⟨_, rfl⟩
      have HT := (show Hid (xs.countP (ieq x) = T ∧ (xs.map some).countP (weq (some x)) = T) from ⟨hT, (words_count xs x).trans hT⟩)
      clear hG12 hb11 hb12 hs12 hG13 hg13 hs13 hT
      have HZ := (show Hid (SrAt w13 p5 (xs.map fun z => some (tb z)) ∧ WrAt w13 p6 (xs.map some) ∧ IrAt w13 p1 xs ∧ Below w.heap.size w w13) from ⟨HY.out.1.below B13.out, HY.out.2.1.below B13.out, HY.out.2.2.1.below B13.out, HY.out.2.2.2.trans (B13.out.mono HY.out.2.2.2.size)⟩)
      clear HY B13 HM2
      have hxe : Hid (k = 0 ↔ xs = []) := by show _ ↔ _; rw [← HL.out]; exact List.length_eq_zero_iff
      go_cut [112] from 79 to 111 (fun v wx => v = .bool false ∧ Hid (Below w13.heap.size w13 wx))
      case first =>
        by_cases h0 : k = 0
        · have hE2 : Hid (E2 = none) := by
            show _ = _
            rw [← HE2.out, hxe.out.1 h0]; rfl
          have HG2 := HG.out
          rw [hE2.out] at HG2
          have c0 := HG2.cell 0
          have c1 := HG2.cell 1
          have nq := fun W : World => wnq_run none none W
          have eg := fun (p q : Operand) (W : World) => weg_run .neq p q (wcs none) (wcs none) W
          simp only [show wcs none = #[.int .i64 0, .string ⟨#[]⟩] from rfl, show weq none none = true from rfl, Bool.not_true] at c0 c1 nq eg
          clear HG2
          subst h0
          go_wp2_with (first
            | (go_at_call 8; refine (wcount_any HZ.out.2.1 _ _ (some x) hlW.out (by omega)).mono ?_; rw [HT.out.2]; rintro e w14 ⟨rfl, hb14⟩)
            | (go_at_call 9; refine (rcount_any (HZ.out.2.2.1.below hb14) _ _ x HL.out (by omega)).mono ?_; rw [HT.out.1]; rintro e w15 ⟨rfl, h⟩; obtain rfl := h.symm))
          go_meet
          case rel => exact ⟨rfl, hb14⟩
        · have hE2 : Hid (E2 = some E) := by
            show _ = _
            rw [← HE2.out, (words_mst xs).2 (fun e => h0 (hxe.out.2 e)), HV.out.1]
          have HG2 := HG.out
          rw [hE2.out] at HG2
          have c0 := HG2.cell 0
          have c1 := HG2.cell 1
          have nq := fun W : World => wnq_run (some E) (some E) W
          have eg := fun (p q : Operand) (W : World) => weg_run .neq p q (wcs (some E)) (wcs (some E)) W
          simp only [wcs_some, wrefl, Bool.not_true] at c0 c1 nq eg
          have h0' : (0 : Int) < (k : Int) := by omega
          have h0e : ((k : Int) == 0) = false := by simp; omega
          clear HG2 h0
          go_wp2_with (first
            | (go_at_call 8; refine (wcount_any HZ.out.2.1 _ _ (some x) hlW.out (by omega)).mono ?_; rw [HT.out.2]; rintro e w14 ⟨rfl, hb14⟩)
            | (go_at_call 9; refine (rcount_any (HZ.out.2.2.1.below hb14) _ _ x HL.out (by omega)).mono ?_; rw [HT.out.1]; rintro e w15 ⟨rfl, h⟩; obtain rfl := h.symm))
          go_meet
          case rel => exact ⟨rfl, hb14⟩
      case rest =>
      obtain ⟨rfl, HB16⟩ := hcut
      obtain ⟨w16, hw16⟩ : ∃ w16, w16 = wc := ⟨_, rfl⟩
      rw [← hw16] at HB16 ⊢
      clear hw16
      have HQ := (show Hid (SrAt w16 p5 (xs.map fun z => some (tb z)) ∧ IrAt w16 p1 xs ∧ Below w.heap.size w w16) from ⟨HZ.out.1.below HB16.out, HZ.out.2.2.1.below HB16.out, HZ.out.2.2.2.trans (HB16.out.mono HZ.out.2.2.2.size)⟩)
      clear HZ HB16 HG HT HE2
      obtain ⟨U, hU⟩ : ∃ U, (mst ieq 0 (xs.map bi)).1 = U := ⟨_, rfl⟩
      obtain ⟨M3, hM3⟩ : ∃ M3, (mst ieq 0 (xs.map bi)).2 = M3 := ⟨_, rfl⟩
      obtain ⟨E3, hE3⟩ : ∃ E3, (mst seq none (xs.map fun z => some (tb z))).1 = E3 := ⟨_, rfl⟩
      have HV3 := (show Hid ((mst ieq 0 (xs.map bi)).1 = U ∧ (mst ieq 0 (xs.map bi)).2 = M3 ∧ (mst seq none (xs.map fun z => some (tb z))).1 = E3 ∧ (mst seq none (xs.map fun z => some (tb z))).2 = M3) from ⟨hU, hM3, hE3, (texts_mst xs).1.trans hM3⟩)
      have HE3 := (show Hid ((k = 0 → E3 = none) ∧ (k ≠ 0 → E3 = some (tb U))) from ⟨fun h => by rw [← hE3, hxe.out.1 h]; rfl, fun h => by rw [← hE3, (texts_mst xs).2 (fun e => h (hxe.out.2 e)), hU]⟩)
      have hlB : Hid ((xs.map bi).length = k) := by show _ = _; rw [List.length_map]; exact HL.out
      clear hU hM3 hE3
      go_wp2_with (first
        | (go_at_call 10; refine (smost_any HQ.out.1 k _ hlT.out (by omega)).mono ?_; rw [HV3.out.2.2.1, HV3.out.2.2.2]; unfold svl; rintro e w17 ⟨rfl, hb17⟩))
      have HQ7 := (show Hid (IrAt w17 p1 xs ∧ Below w.heap.size w w17) from ⟨HQ.out.2.1.below hb17, HQ.out.2.2.trans (hb17.mono HQ.out.2.2.size)⟩)
      clear hb17 HQ
      go_loopw [16, 17] (fun vb i wr => ∃ t : Nat, t ≤ k ∧ i = .int .i64 t ∧ Hid (Oz wr w17.heap.size vb ((xs.take t).map bi) ∧ Below w17.heap.size w17 wr)) (fun _ i _ => k - (intOf i).toNat)
      case atStart => exact ⟨0, Nat.zero_le _, rfl, by (show _ ∧ _; exact ⟨oz_nil _ _, Below.refl _ _⟩)⟩
      case round =>
        obtain ⟨t, ht, rfl, HR⟩ := hrel
        by_cases hlt : t < k
        · have hi : (t : Int) < (k : Int) := by omega
          have hkx : Hid (t < xs.length) := by show _ < _; rw [HL.out]; exact hlt
          obtain ⟨b, o, hao, hcx⟩ : ∃ b o, p1 = some ⟨b, o, none⟩ ∧ w17.cell? ⟨b, o + t, none⟩ = some (.int .i64 (xs.getD t 0)) := by
            rcases HQ7.out.1 with e | ⟨b, o, e, hc⟩
            · have := hkx.out; rw [e] at this; simp at this
            · exact ⟨b, o, e, hc t hkx.out⟩
          obtain ⟨z, hz⟩ : ∃ z, xs.getD t 0 = z := ⟨_, rfl⟩
          have HZ := (show Hid (xs.getD t 0 = z) from hz)
          rw [hz] at hcx
          have g1 := cell_belowB hcx HR.out.2
          subst hao
          clear hz hcx
          go_wp2_with (first
            | (refine wpList_bsH (len := 1) (t := 22) (te := 3) (ps := #[(0, .int .i64 (z % 256))]) (cs := #[.int .i64 (z % 256)]) rfl rfl (by simp; rfl) (bsI wr _) ?_; intro w1 hG1 hb1 hs1)
            | (refine wpList_apZ rfl _ _ rfl w17.heap.size _ ((xs.take t).map bi) rfl (HR.out.1.below hb1) (some ⟨wr.heap.size, 0, none⟩) 1 1 [bi z] rfl (gb_ir1 hG1) rfl (by rw [List.length_map, List.length_take]; omega) (Nat.le_trans HR.out.2.size hb1.size) ?_; intro v5 w5 ho5 hg5; have hB5 := (show Hid (Below w17.heap.size w17 w5) from (HR.out.1.below hb1).grown (HR.out.2.trans (hb1.mono HR.out.2.size)) (Nat.le_trans HR.out.2.size hb1.size) hg5 (Nat.le_refl _)); have hO5 := (show Hid (Oz w5 w17.heap.size v5 ((xs.take (t + 1)).map bi)) from by rw [take_succ hkx.out HZ.out, List.map_append]; exact ho5); clear hG1 hb1 hs1 ho5 hg5))
          go_roundw
          case rel => exact ⟨t + 1, by omega, by go_num, by (show _ ∧ _; exact ⟨hO5.out, hB5.out⟩)⟩
          case measure => simp [intOf]; omega
        · obtain rfl : t = k := by omega
          have htk : Hid (xs.take t = xs) := by show _ = _; rw [← HL.out, List.take_length]
          have ho := HR.out.1
          rw [htk.out] at ho
          obtain ⟨p9, c9, rfl, hc9, hI9⟩ := oz_new ho hlB.out
          have HI9 := (show Hid (IrAt wr p9 (xs.map bi) ∧ Below w.heap.size w wr) from ⟨hI9, HQ7.out.2.trans (HR.out.2.mono HQ7.out.2.size)⟩)
          clear ho hI9 hc9 HR HQ7 htk
          by_cases h0 : t = 0
          · have hE := HE3.out.1 h0
            subst h0
            subst hE
            have s1 : stx none = ⟨#[]⟩ := rfl
            rw [s1]
            go_wp2_with (first
              | (go_at_call 4; refine (rmost_any HI9.out.1 _ _ hlB.out (by omega)).mono ?_; rw [HV3.out.1, HV3.out.2.1]; rintro e w18 ⟨rfl, hb18⟩))
            go_ret
            exact ⟨rfl, HI9.out.2.trans (hb18.mono HI9.out.2.size)⟩
          · have hE := HE3.out.2 h0
            subst hE
            have s1 : stx (some (tb U)) = ⟨#[tb U]⟩ := rfl
            rw [s1]
            have h0' : (0 : Int) < (t : Int) := by omega
            have h0e : ((t : Int) == 0) = false := by simp; omega
            have hsb : ((⟨#[tb U]⟩ : ByteArray) == ⟨#[tb U]⟩) = true := by rw [bytes_eq]; simp
            clear h0
            go_wp2_with (first
              | (go_at_call 4; refine (rmost_any HI9.out.1 _ _ hlB.out (by omega)).mono ?_; rw [HV3.out.1, HV3.out.2.1]; rintro e w18 ⟨rfl, hb18⟩; have hcv := cv1 (GB.new w18 5 #[.int .u8 (U % 256)])))
            go_ret
            exact ⟨rfl, HI9.out.2.trans ((hb18.alloc hb18.size _).mono HI9.out.2.size)⟩
end
end Go.Proofs.Ytgconfcijmemmaa
