/-
  Stripe: stripes, where all is well.
-/
import Derived.Test.YtgokkppojhokbaaSb10
import Derived.Test.YtgokkppojhokbaaJd10
import Derived.Deep.RegionHeld3
import Derived.IntWalk
namespace Go.Proofs.Ytgokkppojhokbaa
open Go.RowKit
/-- The rows that stand, and nothing at the others. -/
def rwl (hs : Nat → Hd) (n : Nat) (i : Nat) : Nat := if thr? (hs i) = true then n else 0
theorem thr_cnth (hs : Nat → Hd) (n : Nat) (hn : 0 < n) (r : Nat) : (thr (rwl hs n) r).length = cnth hs r := by
  unfold thr cnth rwl
  congr 1
  apply List.filter_congr
  intro i _
  by_cases h : thr? (hs i) = true
  · simp [h, hn]
  · simp [h]
theorem nmE_of {w : World} {g r : Nat} {rows : Nat → Value} {l : Nat → Nat} {N : Nat → Nat → BitVec 8} (h : Ov w 23 g rows r) (h2 : ∀ i, i < r → NrE w (rows i) (l i) (N i)) : NmE w (.slice (some ⟨g, 0, none⟩) r r) r l N := ⟨rows, St.sv (h.st r r), h2⟩
theorem nmE_congr {w : World} {v : Value} {r : Nat} {l l' : Nat → Nat} {N N' : Nat → Nat → BitVec 8} (h : NmE w v r l N) (h1 : ∀ i, i < r → l' i = l i) (h2 : ∀ i, i < r → ∀ j, N i j = N' i j) : NmE w v r l' N' := by
  obtain ⟨rows, a, b⟩ := h
  refine ⟨rows, a, fun i hi => ?_⟩
  rw [h1 i hi]
  exact Sv.congr (b i hi) (fun j _ => by unfold clE; rw [h2 i hi j])
theorem nr_nil (w : World) (f : Nat → BitVec 8) : NrE w (.slice none 0 0) 0 f := ⟨none, 0, rfl, .inl rfl⟩
theorem ow_nr {w : World} {base : Nat} {v : Value} {f : Nat → BitVec 8} {n : Nat} (h : Ow w base v (ls f n)) : (∃ p c, v = .slice p n c) ∧ NrE w v n f := by
  obtain ⟨p, c, e, hc, hr⟩ := h.rd
  rw [ls_len] at e hc
  subst e
  refine ⟨⟨p, c, rfl⟩, ⟨p, c, rfl, ?_⟩⟩
  by_cases h0 : n = 0
  · exact .inl h0
  · rcases hr with h1 | ⟨b, o, e, h1⟩
    · have := congrArg List.length h1; rw [ls_len] at this; simp at this; omega
    · refine .inr ⟨b, o, e, fun i hi => ?_⟩
      rw [h1 i (by rw [ls_len]; exact hi), ls_get f n i hi]
      rfl
theorem str_w (n K B f t z : Nat) (kb : 1 ≤ (K : Int) * (B : Int) ∧ (K : Int) * (B : Int) ≤ 16711680) (hn : n ≤ 1048576) (hf : f < t) (ht : t ≤ n) (hz : min (n : Int) ((t : Int) * ((K : Int) * (B : Int))) - (f : Int) * ((K : Int) * (B : Int)) = (z : Int)) (hzn : z ≤ n) :
    wrap64 ((t : Int) * ((K : Int) * (B : Int))) = (t : Int) * ((K : Int) * (B : Int)) ∧ wrap64 ((f : Int) * ((K : Int) * (B : Int))) = (f : Int) * ((K : Int) * (B : Int)) ∧ IntKind.i64.wrap ((t : Int) * ((K : Int) * (B : Int))) = (t : Int) * ((K : Int) * (B : Int)) ∧ IntKind.i64.wrap ((f : Int) * ((K : Int) * (B : Int))) = (f : Int) * ((K : Int) * (B : Int)) ∧ IntKind.i64.wrap (min (n : Int) ((t : Int) * ((K : Int) * (B : Int))) - (f : Int) * ((K : Int) * (B : Int))) = (z : Int) := by
  have e1 : 0 ≤ (t : Int) * ((K : Int) * (B : Int)) ∧ (t : Int) * ((K : Int) * (B : Int)) ≤ 1048576 * 16711680 := ⟨Int.mul_nonneg (by omega) (by omega), Int.mul_le_mul (by omega) kb.2 (by omega) (by omega)⟩
  have e2 : 0 ≤ (f : Int) * ((K : Int) * (B : Int)) ∧ (f : Int) * ((K : Int) * (B : Int)) ≤ 1048576 * 16711680 := ⟨Int.mul_nonneg (by omega) (by omega), Int.mul_le_mul (by omega) kb.2 (by omega) (by omega)⟩
  refine ⟨?_, ?_, ?_, ?_, ?_⟩
  · clear hz; unfold wrap64; omega
  · clear hz; unfold wrap64; omega
  · clear hz; exact IntWalk.i64_in _ ⟨by omega, by omega⟩
  · clear hz; exact IntWalk.i64_in _ ⟨by omega, by omega⟩
  · rw [hz]; exact IntWalk.i64_in _ ⟨by omega, by omega⟩
theorem run_front (b o s c k : Nat) (hk : k ≤ s) (hc : s ≤ c) : ∃ p' c', (∀ w', (Instr.slice 42 (.slice (some ⟨b, o, none⟩) s c) none (some (.int .i64 (k : Int))) none).run Try.prog w' = .ok (.slice p' k c') w') ∧ (0 < k → p' = some ⟨b, o, none⟩) := by
  have hu : Try.prog.underlying 42 = some (.slice (Try.prog.elem 42)) := by kernel_rfl
  have hz : ∀ w', (sizeOf (Try.prog.elem 42)).run Try.prog w' = .ok 1 w' := fun w' => by
    obtain ⟨i0, hi, hz0, hz1, hz2⟩ := info_parts infoY
    have e : Try.prog.elem 42 = 23 := by kernel_rfl
    rw [e]
    simp [sizeOf, typeInfo, hi, hz1]
  obtain ⟨p', c', e', hs⟩ : ∃ p' c', sliced (some ⟨b, o, none⟩) 0 k c 1 = .slice p' k c' ∧ (0 < k → p' = some ⟨b, o, none⟩) := by
    unfold sliced
    refine ⟨_, _, rfl, fun h => ?_⟩
    rw [if_neg (by omega), Nat.mul_one]
    exact congrArg some (add_pl b o 0)
  refine ⟨p', c', fun w' => ?_, hs⟩
  rw [run_slice_h w' 42 _ s c hu .i64 (k : Int) (by omega) (by omega), hz]
  exact congrArg (fun v => Result.ok v w') e'
theorem ovh {w : World} {t : TypeId} {g n : Nat} {f : Nat → Value} (h : Ov w t g f n) : w.heap[g]? = some (.cells (rv f n) t (0, 0)) := h
theorem stn {w : World} {t : TypeId} {v : Value} {n : Nat} {f : Nat → BitVec 8} (h : St w t v n (clE f) n) : NrE w v n f := h.sv
theorem ow_st {w : World} {base : Nat} {v : Value} {f : Nat → BitVec 8} {n : Nat} (h : Ow w base v (ls f n)) : St w 5 v n (clE f) n := by
  unfold Ow at h
  rw [ls_len] at h
  have h2 : St w 5 v n (clE (fn (ls f n))) n := owns_st1 h
  exact h2.congr (fun i hi => by unfold clE fn; rw [ls_get f n i hi])
section
attribute [local irreducible] Calls el Ov clE NmE NrE Hd.cs shc mm Fac Cd Ow cls ls cnth thr rwl obm obt
set_option maxHeartbeats 16000000 in
set_option maxRecDepth 1000000 in
theorem stripes_ok {w : World} {p : Option Addr} {c : Nat} {hs : Nat → Hd} {vs : Nat → Value} (m : Hd) (n K M B : Nat) (L : List Nat) (hS : Sds w (.slice p (K + M) c) (K + M) hs vs) (hmi : m.In) (hsz : m.sz = (n : Int)) (hu : m.Nu n K M B L) (hz1 : szC m.k m.m m.b n = 0) (hz2 : szL m.k m.m m.b n = L) (F D : Nat → Nat → BitVec 8) (hF : Fac K F)
    (hA : ∀ i, i < K + M → thr? (hs i) = true → ∃ q d, vs i = .slice q L.length d ∧ L.length ≤ d ∧ NmE w (.slice q L.length d) L.length (fun j => L.getD j 0) (fun j x => mm fdE K F D i ((L.take j).sum + x))) (hV : ∀ i, i < K + M → ∃ q s d, vs i = .slice q s d) (hK : K ≤ cnth hs (K + M)) (f t : Nat) (hft : f < t) (htl : t ≤ L.length) (hp0 : 0 < (sub L f t).sum) (z : Nat) (hz : min (n : Int) ((t : Int) * ((K : Int) * (B : Int))) - (f : Int) * ((K : Int) * (B : Int)) = (z : Int)) (hzn : z ≤ n) :
    Calls Try.prog 19 #[.agg m.cs, .slice p (K + M) c, .int .i64 (f : Int), .int .i64 (t : Int)] w fun e w' => ∃ g, e = .returned (.slice (some ⟨g, 0, none⟩) z z) ∧ Ov w' 5 g (clE (obt (K * (sub L f t).sum) (obm K (sub L f t) (fun i x => D i ((L.take f).sum + x))))) z ∧ w.heap.size ≤ g ∧ Below w.heap.size w w' := by
  have al : ∀ (W : World) (o : Obj), Below W.heap.size W (W.alloc o) := fun W o => (Below.refl _ _).alloc (Nat.le_refl _) o
  have hkm := hu.km
  have hk1 := hu.k1
  have hn1 := hu.n1
  obtain ⟨p', c', e, _, hx⟩ := hS
  injection e with e1 e2 e3
  subst e1 e3
  obtain ⟨b, o, rfl, hsd⟩ := hx (by omega)
  have HSD := (show Hid (∀ i, i < K + M → Sd w b (o + i * 17) (hs i) (vs i)) from hsd)
  have HA := (show Hid _ from hA)
  have HV := (show Hid _ from hV)
  have H0 := (show Hid (HdAt (w.alloc (.cells m.cs 33)) w.heap.size m) from HdAt.new w m)
  have hm1 := makeYn (K + M) (by omega)
  rw [Int.natCast_add] at hm1
  have IT := (show Hid _ from isThere_any)
  have jft : ((f : Int) == (t : Int)) = false := by simp; omega
  have hsl := sub_len L f t htl
  have hss := sub_sum_le L f t
  have hL1 := hu.s
  have hL2 := hu.r
  clear hsd hx hA hV
  go_enter Try.func19, Try.ntmps19
  go_wp2
  clear hm1
  have HB0 : Hid (Below w.heap.size w ((w.alloc (.cells m.cs 33)).alloc (.cells (Array.replicate (K + M) (.slice none 0 0)) 23))) := bt (al _ _) (al _ _)
  have O0 : Hid (Ov ((w.alloc (.cells m.cs 33)).alloc (.cells (Array.replicate (K + M) (.slice none 0 0)) 23)) 23 (w.heap.size + 1) (fun _ => .slice none 0 0) (K + M)) := by
    have h := ov_new (w.alloc (.cells m.cs 33)) 23 (.slice none 0 0) (K + M)
    rw [show (w.alloc (.cells m.cs 33)).heap.size = w.heap.size + 1 by simp] at h
    exact h
  have M0 : Hid (HdAt ((w.alloc (.cells m.cs 33)).alloc (.cells (Array.replicate (K + M) (.slice none 0 0)) 23)) w.heap.size m) := H0.out.below (al _ _)
  have Z0 : Hid (w.heap.size + 1 < ((w.alloc (.cells m.cs 33)).alloc (.cells (Array.replicate (K + M) (.slice none 0 0)) 23)).heap.size) := by show _ < _; simp
  clear H0
  go_loopw [27] (fun iv wr => ∃ (u : Nat) (rows : Nat → Value), u ≤ K + M ∧ iv = .int .i64 (u : Int) ∧ Hid (Ov wr 23 (w.heap.size + 1) (fun i => if i < u then rows i else .slice none 0 0) (K + M)) ∧ Hid (∀ i, i < u → St wr 5 (rows i) (rwl hs (sub L f t).sum i) (clE (fun x => mm fdE K F D i ((L.take f).sum + x))) (rwl hs (sub L f t).sum i)) ∧ Hid (HdAt wr w.heap.size m) ∧ Hid (w.heap.size + 1 < wr.heap.size) ∧ Hid (Below w.heap.size w wr)) (fun i _ => K + M - (intOf i).toNat)
  case atStart => exact ⟨0, fun _ => .slice none 0 0, Nat.zero_le _, rfl, O0.out.congr (fun i _ => by rw [if_neg (by omega)]), fun i hi => by omega, M0, Z0, HB0⟩
  case round =>
    clear O0 M0 Z0 HB0
    obtain ⟨u, rows, hu1, rfl, hO, hR, hM, hZ, hb⟩ := hrel
    by_cases hlt : u < K + M
    · have j1 : (u : Int) < (K : Int) + (M : Int) := by omega
      have HSt := (show Hid (Sd wr b (o + u * 17) (hs u) (vs u)) from (HSD.out u hlt).below hb.out)
      cases ht2 : thr? (hs u) with
      | true =>
        have hd2 : decide (¬ ((hs u).k = 0 ∧ (hs u).m = 0 ∧ (hs u).b = 0)) = true := ht2
        obtain ⟨q2, d2, e2, hcd, hN⟩ := HA.out u hlt ht2
        have HT2 := (show Hid (thr? (hs u) = true) from ht2)
        rw [e2] at HSt
        obtain ⟨q3, c3, hrun, hc3, hq3⟩ := run_sub (ty := 42) (et := 0) q2 L.length d2 f t hft htl hcd (by kernel_rfl) (by kernel_rfl) rfl
        have hN3 : NmE w (.slice q3 (sub L f t).length c3) (sub L f t).length (fun j => (sub L f t).getD j 0) (fun j x => mm fdE K F D u ((L.take (f + j)).sum + x)) := by
          rw [hsl]
          exact nmE_congr (nm_sub hN hft htl hq3) (fun j hj => sub_at L f t j hj) (fun _ _ _ => rfl)
        have HN3 := (show Hid _ from hN3)
        have HCL : Hid (cls (sub L f t) (fun j x => mm fdE K F D u ((L.take (f + j)).sum + x)) (sub L f t).length = ls (fun x => mm fdE K F D u ((L.take f).sum + x)) (sub L f t).sum) := by
          have h := cls_row (sub L f t) (fun j x => mm fdE K F D u ((L.take (f + j)).sum + x)) (fun x => mm fdE K F D u ((L.take f).sum + x)) (sub L f t).length (Nat.le_refl _) (fun j hj x hx => by
            show mm fdE K F D u _ = mm fdE K F D u _
            rw [take_sub L f t j (by omega), Nat.add_assoc])
          rw [List.take_length] at h
          exact h
        clear e2 hN hN3 ht2 hq3
        go_wp2_with (first
          | (refine wpList_alSB rfl rfl ?_; intro wz ZS hbz hsz5)
          | (refine wpList_ldSd rfl _ rfl wr.heap.size 0 rfl H5.sd ?_)
          | (refine wpList_ldSd rfl _ rfl b (o + u * 17) rfl HSt.out ?_)
          | (refine wpList_stSB (hs u) (.slice q2 L.length d2) rfl rfl _ _ rfl rfl wr.heap.size rfl rfl ZS ?_; intro w5 H5 hBu5; have hb5 := (show Hid (Below wr.heap.size wr w5) from hbz.trans hBu5.bl))
          | (go_at_call 31; refine (IT.out _ _ _).mono ?_; rintro e w6 ⟨rfl, hb6⟩; rw [hd2]; have k16 := (H5.sd.below hb6).last; rw [Nat.zero_add] at k16)
          | (go_at_call 33; rw [← hsl]; refine (concat_any hp0 (by omega) (by omega) (NmE.below (NmE.below (NmE.below HN3.out hb.out) hb5.out) hb6)).mono ?_; rintro e w7 ⟨v7, rfl, hO7, hb7⟩; rw [HCL.out] at hO7; obtain ⟨⟨p7, c7, e7⟩, _⟩ := ow_nr hO7; subst e7; have hO8 := (show Hid (Ov w7 23 (w.heap.size + 1) (fun i => if i < u then rows i else .slice none 0 0) (K + M)) from ((hO.out.below hb5.out).below hb6).below hb7); have g8 := hO8.out.cell hlt; have f8 := hO8.out.frozen u))
        have hb67 := bt (bt hb5.out hb6) hb7
        have BUs := (show But (w.heap.size + 1) w7 (w7.setCell ⟨w.heap.size + 1, u, none⟩ (.slice p7 (sub L f t).sum c7)) from (But.refl _ _).set u _)
        go_roundw
        case rel =>
          refine ⟨u + 1, fun i => if i = u then .slice p7 (sub L f t).sum c7 else rows i, hlt, by go_num, (hO8.out.set hlt _).congr (fun i _ => ?_), fun i hi => ?_, ((hM.out.below hb67).but BUs (by omega)), ?_, (bt hb.out hb67).setCell (Nat.le_succ _) _⟩
          · dsimp only
            by_cases e : i = u
            · rw [if_pos e, if_pos (by omega), if_pos e]
            · rw [if_neg e]
              by_cases e2 : i < u
              · rw [if_pos e2, if_pos (by omega), if_neg e]
              · rw [if_neg e2, if_neg (by omega)]
          · dsimp only
            by_cases e : i = u
            · subst e
              have er : rwl hs (sub L f t).sum i = (sub L f t).sum := by unfold rwl; rw [if_pos HT2.out]
              rw [if_pos rfl, er]
              exact (ow_st hO7).but BUs (ovh hO8.out) (by decide)
            · rw [if_neg e]
              exact ((hR.out i (by omega)).below hb67).but BUs (ovh hO8.out) (by decide)
          · have h1 := hZ.out
            have h2 := hb67.size
            show _ < _
            simp
            omega
        case measure => simp [intOf]; omega
      | false =>
        have hd2 : decide (¬ ((hs u).k = 0 ∧ (hs u).m = 0 ∧ (hs u).b = 0)) = false := ht2
        have HT2 := (show Hid (thr? (hs u) = false) from ht2)
        obtain ⟨qv, sv, dv, ev⟩ := HV.out u hlt
        rw [ev] at HSt
        clear ht2 ev
        go_wp2_with (first
          | (refine wpList_alSB rfl rfl ?_; intro wz ZS hbz hsz5)
          | (refine wpList_ldSd rfl _ rfl wr.heap.size 0 rfl H5.sd ?_)
          | (refine wpList_ldSd rfl _ rfl b (o + u * 17) rfl HSt.out ?_)
          | (refine wpList_stSB (hs u) (.slice qv sv dv) rfl rfl _ _ rfl rfl wr.heap.size rfl rfl ZS ?_; intro w5 H5 hBu5; have hb5 := (show Hid (Below wr.heap.size wr w5) from hbz.trans hBu5.bl))
          | (go_at_call 31; refine (IT.out _ _ _).mono ?_; rintro e w6 ⟨rfl, hb6⟩; rw [hd2]))
        have hb67 := bt hb5.out hb6
        go_roundw
        case rel =>
          refine ⟨u + 1, fun i => if i = u then .slice none 0 0 else rows i, hlt, by go_num, (hO.out.below hb67).congr (fun i _ => ?_), fun i hi => ?_, hM.out.below hb67, ?_, bt hb.out hb67⟩
          · dsimp only
            by_cases e : i = u
            · rw [if_neg (by omega), if_pos (by omega), if_pos e]
            · by_cases e2 : i < u
              · rw [if_pos e2, if_pos (by omega), if_neg e]
              · rw [if_neg e2, if_neg (by omega)]
          · dsimp only
            by_cases e : i = u
            · subst e
              have er : rwl hs (sub L f t).sum i = 0 := by unfold rwl; rw [HT2.out]; rfl
              rw [if_pos rfl, er]
              exact ⟨none, 0, rfl, .inl rfl⟩
            · rw [if_neg e]
              exact (hR.out i (by omega)).below hb67
          · have h1 := hZ.out
            have h2 := hb67.size
            show _ < _
            omega
        case measure => simp [intOf]; omega
    · obtain rfl : u = K + M := by omega
      have hnz : In64 (n : Int) := ⟨by omega, by omega⟩
      have BL := (show Hid _ from fun W => blocks_any m.k m.m m.b (n : Int) hmi.m hnz W)
      rw [hz1, hz2, hu.k, hu.m, hu.b] at BL
      unfold shC at BL
      have NE := (show Hid _ from fun W => new_ok K M hu.m1 hu.mle hu.km W)
      have SB := (show Hid _ from fun W => stripeBytes_any m.k m.m m.b hu.shp W)
      rw [hu.k, hu.m, hu.b] at SB
      unfold shC at SB
      have NR := (show Hid (NmE wr (.slice (some ⟨w.heap.size + 1, 0, none⟩) (K + M) (K + M)) (K + M) (rwl hs (sub L f t).sum) (fun i x => mm fdE K F D i ((L.take f).sum + x))) from nmE_of (hO.out.congr (fun i hi => by rw [if_pos hi])) (fun i hi => stn (hR.out i hi)))
      obtain ⟨a8, a9, a10, a11, a12, a13, a14, a15⟩ := hM.out.cells
      rw [hu.k] at a8
      rw [hu.m] at a9
      rw [hu.b] at a10
      rw [hsz] at a12
      have HBr := (show Hid (Below w.heap.size w wr) from hb.out)
      have HM := (show Hid (HdAt wr w.heap.size m) from hM.out)
      have hnL : ∀ i, i < K + M → 0 < rwl hs (sub L f t).sum i → rwl hs (sub L f t).sum i = (sub L f t).sum := fun i _ h => by
        unfold rwl at h ⊢
        by_cases e : thr? (hs i) = true
        · rw [if_pos e]
        · rw [if_neg e] at h; omega
      have HnL := (show Hid _ from hnL)
      have hq : K ≤ (thr (rwl hs (sub L f t).sum) (K + M)).length := by rw [thr_cnth hs _ hp0]; exact hK
      have hSS : (sub L f t).sum ≤ 140737488355328 := by omega
      clear hO hR hZ hM hb HSD HA HV IT hz1 hz2 hnL
      go_wp2_with (first
        | (go_at_call 13; refine (BL.out _).mono ?_; rintro e w4 ⟨vL, rfl, hO4, hb4⟩; have H4 := (show Hid (HdAt w4 w.heap.size m) from HM.out.below hb4); obtain ⟨b8, b9, b10, b11, b12, b13, b14, b15⟩ := H4.out.cells; rw [hu.k] at b8; rw [hu.m] at b9; obtain ⟨pL, cL, rfl, hcL, VL⟩ := hO4.rd)
        | (go_at_call 14; refine (NE.out _).mono ?_; rintro e w5 ⟨vC, F2, rfl, hC, hF2, hb5⟩)
        | (go_at_call 34; refine (rebuild_c (D := fun i x => D i ((L.take f).sum + x)) hu.k1 hu.m1 hu.km hSS hC hF2 (NmE.below (NmE.below NR.out hb4) hb5) HnL.out hq (fun i hi hl x hx => by show mm fdE K F D i ((L.take f).sum + x) = _; rw [hF.word_one hF2 i ((L.take f).sum + x)]; unfold mm; rfl)).mono ?_; rintro e w6 ⟨v6, rfl, hN6, hb6, hcp⟩; obtain ⟨p6, c6, rfl, hc6⟩ := hcp))
      have H6 := (show Hid (HdAt w6 w.heap.size m) from (H4.out.below hb5).below hb6)
      have V6 := (show Hid (Vr w6 pL (icN L)) from (VL.below hb5).below hb6)
      have B6 := (show Hid (Below w.heap.size w w6) from bt (bt (bt HBr.out hb4) hb5) hb6)
      have H6d := (show Hid (HdAt w6.drew w.heap.size m) from H6.out.below (bdr _))
      obtain ⟨r8, r9, r10, r11, r12, r13, r14, r15⟩ := H6d.out.cells
      rw [hu.k] at r8
      rw [hu.m] at r9
      rw [hu.b] at r10
      rw [hsz] at r12
      have KS := (show Hid (_ ∧ _ ∧ _ ∧ _) from ⟨r8, r9, r10, r12⟩)
      have HN6 := (show Hid (NmC w6 (.slice p6 (K + M) c6) (K + M) (sub L f t).sum (mm fdE K F2 (fun i x => D i ((L.take f).sum + x)))) from hN6)
      clear r8 r9 r10 r11 r12 r13 r14 r15 b8 b9 b10 b11 b12 b13 b14 b15 a8 a9 a10 a11 a12 a13 a14 a15 hN6 VL hO4 H4 HM HBr hb4 hb5 hb6 BL NE NR HnL hq hC
      have kb := kb_bd hu.shp
      rw [hu.k, hu.b] at kb
      obtain ⟨wt, wf, wt2, wf2, wz2⟩ := str_w n K B f t z kb hn1 hft (Nat.le_trans htl hL2) hz hzn
      clear hz
      have hzb : z ≤ 140737488355328 := by omega
      have hk2 : K ≤ 255 := by omega
      have hSl : (sub L f t).length ≤ 1099511627776 := by omega
      by_cases hmn : (n : Int) ≤ (t : Int) * ((K : Int) * (B : Int))
      · rw [Int.min_eq_left hmn] at wz2
        go_region_held3 (fun X => X.cell? ⟨w.heap.size, 8, none⟩ = some (.int .i64 (K : Int)) ∧ X.cell? ⟨w.heap.size, 9, none⟩ = some (.int .i64 (M : Int)) ∧ X.cell? ⟨w.heap.size, 10, none⟩ = some (.int .i64 (B : Int)) ∧ X.cell? ⟨w.heap.size, 12, none⟩ = some (.int .i64 (n : Int))) (first | exact KJ.out | exact KH.out | exact KS.out | go_keep)
          (first
          | (go_at_call 35; refine (SB.out w7).mono ?_; rintro e w8 ⟨rfl, hb8⟩; have KJ := (show Hid (_ ∧ _ ∧ _ ∧ _) from ⟨cell_below KH.out.1 hb8, cell_below KH.out.2.1 hb8, cell_below KH.out.2.2.1 hb8, cell_below KH.out.2.2.2 hb8⟩))
          | (go_at_call 35; refine (SB.out _).mono ?_; rintro e w7 ⟨rfl, hb7⟩; have KH := (show Hid (_ ∧ _ ∧ _ ∧ _) from ⟨cell_below KS.out.1 hb7, cell_below KS.out.2.1 hb7, cell_below KS.out.2.2.1 hb7, cell_below KS.out.2.2.2 hb7⟩)))
        all_goals
          have B8 := (show Hid (Below w.heap.size w w8) from bt (bt B6.out.drew hb7) hb8)
          have H8 := (show Hid (HdAt w8 w.heap.size m) from (H6d.out.below hb7).below hb8)
          have b68 := (show Hid (Below w6.heap.size w6 w8) from bt (bt (bdr w6) hb7) hb8)
          obtain ⟨b7, o7, ps, e7, hc7, hr7⟩ := (HN6.out.below (bt b68.out (bdr w8))).at (Nat.lt_of_lt_of_le hk1 (Nat.le_add_right _ _))
          subst e7
          obtain ⟨p9, c9, hrun9, hc9, hq9⟩ := run_sub (ty := 24) (et := 0) pL L.length cL f t hft htl hcL (by kernel_rfl) (by kernel_rfl) rfl
          obtain ⟨p10, c10, hrun10, hq10⟩ := run_front b7 o7 (K + M) c6 K (Nat.le_add_right _ _) hc6
          have OB := object_any (w := w8.drew) (L := sub L f t) (k := K) (n := z) (T := (sub L f t).sum) (N := fun i x => D i ((L.take f).sum + x)) (vr_sub ((V6.out.below b68.out).below (bdr w8)) hft htl hq9) c9 c10 (Nat.le_refl _) hSS hSl hk1 hk2 hzb b7 o7 ps (hq10 hk1) (fun i hi => hc7 i (Nat.lt_of_lt_of_le hi (Nat.le_add_right _ _))) (fun i hi => stn ((hr7 i (Nat.lt_of_lt_of_le hi (Nat.le_add_right _ _))).congr (fun x _ => by unfold clE; rw [hF2.low hi])))
          rw [hsl] at OB
          have HOB := (show Hid _ from OB)
          have k8 := (H8.out.below (bdr w8)).cells.1
          rw [hu.k] at k8
          have KS2 := (show Hid (w8.drew.cell? ⟨w.heap.size, 8, none⟩ = some (.int .i64 (K : Int))) from k8)
          clear H8 OB hc7 hr7 hq9 hq10 k8 KS KH KJ
          go_wp2
          go_region_held3 (fun X => X.cell? ⟨w.heap.size, 8, none⟩ = some (.int .i64 (K : Int))) (first | exact KI.out | exact KS2.out | go_keep)
            (first | (go_at_call 36; refine HOB.out.mono ?_; rintro e w9 ⟨g9, rfl, hO9, hg9, hb9⟩; have KI := (show Hid (w9.cell? ⟨w.heap.size, 8, none⟩ = some (.int .i64 (K : Int))) from cell_below KS2.out hb9)))
          go_wp2
          go_ret
          exact ⟨_, rfl, hO9, Nat.le_trans B8.out.size hg9, bt (bt B8.out (bdr w8)) hb9⟩
      · rw [Int.min_eq_right (by omega)] at wz2
        go_region_held3 (fun X => X.cell? ⟨w.heap.size, 8, none⟩ = some (.int .i64 (K : Int)) ∧ X.cell? ⟨w.heap.size, 9, none⟩ = some (.int .i64 (M : Int)) ∧ X.cell? ⟨w.heap.size, 10, none⟩ = some (.int .i64 (B : Int)) ∧ X.cell? ⟨w.heap.size, 12, none⟩ = some (.int .i64 (n : Int))) (first | exact KJ.out | exact KH.out | exact KS.out | go_keep)
          (first
          | (go_at_call 35; refine (SB.out w7).mono ?_; rintro e w8 ⟨rfl, hb8⟩; have KJ := (show Hid (_ ∧ _ ∧ _ ∧ _) from ⟨cell_below KH.out.1 hb8, cell_below KH.out.2.1 hb8, cell_below KH.out.2.2.1 hb8, cell_below KH.out.2.2.2 hb8⟩))
          | (go_at_call 35; refine (SB.out _).mono ?_; rintro e w7 ⟨rfl, hb7⟩; have KH := (show Hid (_ ∧ _ ∧ _ ∧ _) from ⟨cell_below KS.out.1 hb7, cell_below KS.out.2.1 hb7, cell_below KS.out.2.2.1 hb7, cell_below KS.out.2.2.2 hb7⟩)))
        all_goals
          have B8 := (show Hid (Below w.heap.size w w8) from bt (bt B6.out.drew hb7) hb8)
          have H8 := (show Hid (HdAt w8 w.heap.size m) from (H6d.out.below hb7).below hb8)
          have b68 := (show Hid (Below w6.heap.size w6 w8) from bt (bt (bdr w6) hb7) hb8)
          obtain ⟨b7, o7, ps, e7, hc7, hr7⟩ := (HN6.out.below (bt b68.out (bdr w8))).at (Nat.lt_of_lt_of_le hk1 (Nat.le_add_right _ _))
          subst e7
          obtain ⟨p9, c9, hrun9, hc9, hq9⟩ := run_sub (ty := 24) (et := 0) pL L.length cL f t hft htl hcL (by kernel_rfl) (by kernel_rfl) rfl
          obtain ⟨p10, c10, hrun10, hq10⟩ := run_front b7 o7 (K + M) c6 K (Nat.le_add_right _ _) hc6
          have OB := object_any (w := w8.drew) (L := sub L f t) (k := K) (n := z) (T := (sub L f t).sum) (N := fun i x => D i ((L.take f).sum + x)) (vr_sub ((V6.out.below b68.out).below (bdr w8)) hft htl hq9) c9 c10 (Nat.le_refl _) hSS hSl hk1 hk2 hzb b7 o7 ps (hq10 hk1) (fun i hi => hc7 i (Nat.lt_of_lt_of_le hi (Nat.le_add_right _ _))) (fun i hi => stn ((hr7 i (Nat.lt_of_lt_of_le hi (Nat.le_add_right _ _))).congr (fun x _ => by unfold clE; rw [hF2.low hi])))
          rw [hsl] at OB
          have HOB := (show Hid _ from OB)
          have k8 := (H8.out.below (bdr w8)).cells.1
          rw [hu.k] at k8
          have KS2 := (show Hid (w8.drew.cell? ⟨w.heap.size, 8, none⟩ = some (.int .i64 (K : Int))) from k8)
          clear H8 OB hc7 hr7 hq9 hq10 k8 KS KH KJ
          go_wp2
          go_region_held3 (fun X => X.cell? ⟨w.heap.size, 8, none⟩ = some (.int .i64 (K : Int))) (first | exact KI.out | exact KS2.out | go_keep)
            (first | (go_at_call 36; refine HOB.out.mono ?_; rintro e w9 ⟨g9, rfl, hO9, hg9, hb9⟩; have KI := (show Hid (w9.cell? ⟨w.heap.size, 8, none⟩ = some (.int .i64 (K : Int))) from cell_below KS2.out hb9)))
          go_wp2
          go_ret
          exact ⟨_, rfl, hO9, Nat.le_trans B8.out.size hg9, bt (bt B8.out (bdr w8)) hb9⟩
end
end Go.Proofs.Ytgokkppojhokbaa
