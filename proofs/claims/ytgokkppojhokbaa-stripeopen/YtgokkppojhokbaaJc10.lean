/-
  Stripe: commonHead, where all is well.
-/
import Derived.Test.YtgokkppojhokbaaJd10
namespace Go.Proofs.Ytgokkppojhokbaa
open Go.RowKit
section
attribute [local irreducible] Calls el Hd.cs shc hq flt cnth
set_option maxHeartbeats 8000000 in
set_option maxRecDepth 1000000 in
theorem common_ok {w : World} {p : Option Addr} {r c : Nat} {hs : Nat → Hd} {vs : Nat → Value} (hS : Sds w (.slice p r c) r hs vs) (m : Hd) (n K M B : Nat) (L : List Nat) (f : Nat) (hf : f < r) (hft : thr? (hs f) = true) (hff : ∀ j, j < f → thr? (hs j) = false) (hm : hs f = m) (hmi : m.In) (hy : m.key.length ≤ 9223372036854775807) (hck : chk m = 0) (hsz : m.sz = (n : Int)) (hu : m.Nu n K M B L) (hz1 : szC m.k m.m m.b n = 0) (hz2 : szL m.k m.m m.b n = L) (hr : r = K + M)
    (hA : ∀ i, i < r → thr? (hs i) = true → hs i = { m with ix := (i : Int) } ∧ ∃ q d, vs i = .slice q L.length d ∧ Ln w q L.length (fun j => L.getD j 0)) (hV : ∀ i, i < r → ∃ q s d, vs i = .slice q s d) (hK : K ≤ cnth hs r) :
    Calls Try.prog 18 #[.slice p r c] w fun e w' => e = .returned (.tuple #[.agg m.cs, .int .i64 0]) ∧ Below w.heap.size w w' := by
  have al : ∀ (W : World) (o : Obj), Below W.heap.size W (W.alloc o) := fun W o => (Below.refl _ _).alloc (Nat.le_refl _) o
  have hkm := hu.km
  have hk1 := hu.k1
  subst hr
  obtain ⟨p', c', e, _, hx⟩ := id hS
  injection e with e1 e2 e3
  subst e1 e3
  obtain ⟨b, o, rfl, hsd⟩ := hx (by omega)
  have HSD := (show Hid (∀ i, i < K + M → Sd w b (o + i * 17) (hs i) (vs i)) from hsd)
  have IX := (show Hid (∀ W, Below w.heap.size w W → _) from fun W hb => index_any (w := W) (hS.below hb) (by omega))
  have CK := (show Hid _ from fun W => check_any m hmi hy W)
  rw [hck] at CK
  have hnz : In64 (n : Int) := ⟨by omega, by have := hu.n1; omega⟩
  have BL := (show Hid _ from fun W => blocks_any m.k m.m m.b (n : Int) hmi.m hnz W)
  rw [hz1, hz2, hu.k, hu.m, hu.b] at BL
  unfold shC at BL
  have IT := (show Hid _ from isThere_any)
  have hL : L.length ≤ 1099511627776 := by have := hu.r; have := hu.n1; omega
  have jf : ¬ (f : Int) < 0 := by omega
  have jf2 : (f : Int) < (K : Int) + (M : Int) := by omega
  have jl : (((K + M : Nat) : Int) != (K : Int) + (M : Int)) = false := by simp
  have jl2 : ((K : Int) + (M : Int) != (K : Int) + (M : Int)) = false := by simp
  have jw : wrap64 ((K : Int) + (M : Int)) = (K : Int) + (M : Int) := by unfold wrap64; omega
  have HA := (show Hid _ from hA)
  have HV := (show Hid _ from hV)
  have HFF := (show Hid (∀ j, j < f → thr? (hs j) = false) from hff)
  have HFT := (show Hid (thr? (hs f) = true) from hft)
  have HM := (show Hid (hs f = m) from hm)
  clear hsd hx hS hA hV hff hft hm hz1 hz2 hck
  go_enter Try.func18, Try.ntmps18
  go_wp2_with (first
    | (refine wpList_alHd (w := w) rfl rfl ?_; intro w0 R0 hb0 hs0)
    | (go_at_call 30; refine (IX.out _ hb0).mono ?_; rintro e w1 ⟨he, hb1⟩; obtain rfl : e = .returned (.int .i64 (f : Int)) := (by
        rcases he with ⟨i, hi, ht, hj, rfl⟩ | ⟨hno, rfl⟩
        · rcases Nat.lt_trichotomy i f with h1 | h1 | h1
          · rw [HFF.out i h1] at ht; cases ht
          · rw [h1]
          · have := hj f h1; rw [HFT.out] at this; cases this
        · have := hno f hf; rw [HFT.out] at this; cases this); clear he; have hB1 := (show Hid (Below w.heap.size w w1) from bt hb0 hb1); have R1 := (show Hid (HdAt w1 w.heap.size hd0) from R0.below hb1); have S1 := (show Hid (Sd w1 b (o + f * 17) m (vs f)) from HM.out ▸ (HSD.out f hf).below hB1.out))
    | (refine wpList_alHd (w := w1) rfl rfl ?_; intro wa Za hba hsa)
    | (refine wpList_loadHd rfl _ rfl w1.heap.size rfl H2 ?_)
    | (refine wpList_ldSh rfl _ rfl b (o + f * 17) rfl S1.out ?_)
    | (refine wpList_stHd m rfl _ _ rfl rfl w1.heap.size rfl rfl Za ?_; intro w2 H2 hBu2; have hb2 := (show Hid (Below w1.heap.size w1 w2) from hba.trans hBu2.bl); have R2 := (show Hid (HdAt w2 w.heap.size hd0) from R1.out.below hb2.out))
    | (go_at_call 12; refine (CK.out _).mono ?_; rintro e w3 ⟨rfl, hb3⟩; have H3 := H2.below hb3; obtain ⟨a8, a9, a10, a11, a12, a13, a14, a15⟩ := H3.cells; rw [hu.k] at a8; rw [hu.m] at a9; rw [hu.b] at a10; rw [hsz] at a12)
    | (go_at_call 13; refine (BL.out _).mono ?_; rintro e w4 ⟨vL, rfl, hO4, hb4⟩; have H4 := (show Hid (HdAt w4 w1.heap.size m) from H3.below hb4); obtain ⟨pL, cL, rfl, hcL, VL⟩ := hO4.rd))
  have HB4 := (show Hid (Below w.heap.size w w4) from bt (bt (bt hB1.out hb2.out) hb3) hb4)
  have R4 := (show Hid (HdAt w4 w.heap.size hd0) from (R2.out.below hb3).below hb4)
  have HVL := (show Hid (Vr w4 pL (icN L)) from VL)
  have hq1 : ∀ i, i < K + M → thr? (hs i) = true → flt (hs i) m i L.length (fun j => L.getD j 0) L = 0 := fun i hi ht => by
    unfold flt
    rw [if_neg (by rw [(HA.out i hi ht).1]; intro e; rw [(hq_iff _ _).2 rfl] at e; cases e), if_neg (not_not_intro rfl), if_pos (fun j _ => rfl)]
  have HQ1 := (show Hid _ from hq1)
  clear hq1 VL hO4 H2 H3 hb3 hb4 hb2 R2 S1 R1 R0 IX CK BL hB1 hb0 hba Za hb1 hBu2 a8 a9 a10 a11 a12 a13 a14 a15
  go_loopw [9, 50] (fun cv iv wr => ∃ t : Nat, t ≤ K + M ∧ iv = .int .i64 (t : Int) ∧ cv = .int .i64 ((cnth hs t : Nat) : Int) ∧ Hid (Below w4.heap.size w4 wr)) (fun _ i _ => K + M - (intOf i).toNat)
  case atStart => exact ⟨0, Nat.zero_le _, rfl, by unfold cnth; rfl, Below.refl _ _⟩
  case round =>
    obtain ⟨t, ht, rfl, rfl, hb⟩ := hrel
    by_cases hlt : t < K + M
    · have j1 : (t : Int) < (K : Int) + (M : Int) := by omega
      have HSt := (show Hid (Sd wr b (o + t * 17) (hs t) (vs t)) from (HSD.out t hlt).below (bt HB4.out hb.out))
      obtain ⟨qv, sv, dv, ev⟩ := HV.out t hlt
      have hv1 : (vs t).oneCell' = true := by rw [ev]; rfl
      have hcs := cnth_succ hs t
      have hcl := cnth_le hs t
      cases ht2 : thr? (hs t) with
      | true =>
        have hd2 : decide (¬ ((hs t).k = 0 ∧ (hs t).m = 0 ∧ (hs t).b = 0)) = true := ht2
        obtain ⟨e1x, q2, d2, e2, hLn⟩ := HA.out t hlt ht2
        clear e1x
        have hfl := HQ1.out t hlt ht2
        rw [ht2, if_pos rfl] at hcs
        have e5 : wrap64 (((cnth hs t : Nat) : Int) + 1) = ((cnth hs t : Nat) : Int) + 1 := by unfold wrap64; omega
        have HLn := (show Hid (Ln w q2 L.length (fun j => L.getD j 0)) from hLn)
        clear ev
        rw [e2] at HSt hv1
        clear e2 hLn ht2
        go_wp2_with (first
          | (refine wpList_alSB rfl rfl ?_; intro wz ZS hbz hsz)
          | (refine wpList_ldSd rfl _ rfl wr.heap.size 0 rfl H6.out ?_)
          | (refine wpList_ldSd rfl _ rfl wr.heap.size 0 rfl H5.sd ?_)
          | (refine wpList_ldSd rfl _ rfl b (o + t * 17) rfl HSt.out ?_)
          | (refine wpList_stSB (hs t) (.slice q2 L.length d2) rfl rfl _ _ rfl rfl wr.heap.size rfl rfl ZS ?_; intro w5 H5 hBu5; have hb5 := (show Hid (Below wr.heap.size wr w5) from hbz.trans hBu5.bl))
          | (go_at_call 31; refine (IT.out _ _ _).mono ?_; rintro e w6 ⟨rfl, hb6⟩; rw [hd2]; have H6 := (show Hid (Sd w6 wr.heap.size 0 (hs t) (.slice q2 L.length d2)) from H5.sd.below hb6); have M6 := (show Hid (HdAt w6 w1.heap.size m) from (((H4.out.below hb.out).below hb5.out).below hb6)))
          | (refine wpList_loadHd rfl _ rfl w1.heap.size rfl M6.out ?_)
          | (go_at_call 32; refine (fault_any (hs t) m t q2 pL L.length d2 cL (fun j => L.getD j 0) L w6 hL hL (((HVL.out.below hb.out).below hb5.out).below hb6) ((((HLn.out.below HB4.out).below hb.out).below hb5.out).below hb6)).mono ?_; rintro e w7 ⟨rfl, hb7⟩; rw [hfl]))
        go_roundw
        case rel => exact ⟨t + 1, hlt, by go_num, by rw [hcs]; go_num, bt (bt (bt hb.out hb5.out) hb6) hb7⟩
        case measure => simp [intOf]; omega
      | false =>
        have hd2 : decide (¬ ((hs t).k = 0 ∧ (hs t).m = 0 ∧ (hs t).b = 0)) = false := ht2
        rw [ht2, if_neg (by decide)] at hcs
        clear ht2
        rw [ev] at HSt hv1
        clear ev
        go_wp2_with (first
          | (refine wpList_alSB rfl rfl ?_; intro wz ZS hbz hsz)
          | (refine wpList_ldSd rfl _ rfl wr.heap.size 0 rfl H5.sd ?_)
          | (refine wpList_ldSd rfl _ rfl b (o + t * 17) rfl HSt.out ?_)
          | (refine wpList_stSB (hs t) (.slice qv sv dv) rfl rfl _ _ rfl rfl wr.heap.size rfl rfl ZS ?_; intro w5 H5 hBu5; have hb5 := (show Hid (Below wr.heap.size wr w5) from hbz.trans hBu5.bl))
          | (go_at_call 31; refine (IT.out _ _ _).mono ?_; rintro e w6 ⟨rfl, hb6⟩; rw [hd2]))
        go_roundw
        case rel => exact ⟨t + 1, hlt, by go_num, by rw [hcs, Nat.add_zero], bt (bt hb.out hb5.out) hb6⟩
        case measure => simp [intOf]; omega
    · obtain rfl : t = K + M := by omega
      have H5 := (show Hid (HdAt wr w1.heap.size m) from H4.out.below hb.out)
      have R5 := (show Hid (HdAt wr w.heap.size hd0) from R4.out.below hb.out)
      obtain ⟨a8, a9, a10, a11, a12, a13, a14, a15⟩ := H5.out.cells
      rw [hu.k] at a8
      have jc : ¬ ((cnth hs (K + M) : Nat) : Int) < (K : Int) := by omega
      have HBr := (show Hid (Below w.heap.size w wr) from bt HB4.out hb.out)
      go_wp2_with (first
        | (refine wpList_loadHd rfl _ rfl w1.heap.size rfl H5.out ?_)
        | (refine wpList_stHd m rfl _ _ rfl rfl w.heap.size rfl rfl R5.out ?_; intro w8 H8 hBu8))
      refine bodyPost_ret (v := .tuple #[.agg m.cs, .int .i64 0]) ?_ rfl ⟨rfl, But.from HBr.out hBu8 (Nat.le_refl _)⟩
      exact res_hd rfl _ _ w.heap.size m _ rfl rfl H8
end
end Go.Proofs.Ytgokkppojhokbaa
