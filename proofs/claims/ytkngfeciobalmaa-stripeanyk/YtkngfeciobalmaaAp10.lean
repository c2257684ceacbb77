/-
  StripeAnyK: the walk.
-/
import Derived.Test.YtkngfeciobalmaaAo10
import Derived.Test.YtkngfeciobalmaaPr10
namespace Go.Proofs.Ytkngfeciobalmaa
open Go.RowKit
/-- Piece, where the numbers are not below 0. -/
theorem piece_all {w : World} {p : Option Addr} {c : Nat} {hs : Nat → Hd} {vs : Nat → Value} {m : Hd} {n K M B : Nat} {L : List Nat} {F D : Nat → Nat → BitVec 8} (h : Obs w (.slice p (K + M) c) hs vs m n K M B L F D) (d : Nat → BitVec 8) (hd : ∀ j, j < n → obm K L D j = d j) (off k : Nat) (ho : off ≤ 9223372036854775807) (hk2 : k ≤ 9223372036854775807) :
    Calls Try.prog 12 #[.slice p (K + M) c, .int .i64 (off : Int), .int .i64 (k : Int)] w fun e w' => ∃ q r, e = .returned (.tuple #[.slice q (min k (n - off)) r, .int .i64 0]) ∧ NrE w' (.slice q (min k (n - off)) r) (min k (n - off)) (fun j => d (off + j)) ∧ Below w.heap.size w w' := by
  by_cases hz : k = 0 ∨ n ≤ off
  · refine (piece_none h off k ho hk2 hz).mono ?_
    rintro e w' ⟨rfl, hb⟩
    have e0 : min k (n - off) = 0 := by omega
    rw [e0]
    exact ⟨none, 0, rfl, nr_nl _ _, hb⟩
  · refine (piece_some h off k (by omega) hk2 (by omega) _ rfl).mono ?_
    rintro e w' ⟨q, r, rfl, hN, hb⟩
    exact ⟨q, r, rfl, nr_congr hN (fun j hj => hd _ (by omega)), hb⟩
theorem round_less {t N : Nat} (h : t < N) : N - (intOf (.int .i64 ((t : Int) + 1))).toNat < N - (intOf (.int .i64 (t : Int))).toNat := by simp [intOf]; omega
theorem bm_in10 {P : List Nat} {t : Nat} (h : t ∈ P) : bm P t = .bool true := by unfold bm; simp [h]
theorem bm_out10 {P : List Nat} {t : Nat} (h : t ∉ P) : bm P t = .bool false := by unfold bm; simp [h]
section
attribute [local irreducible] Calls el Hd.cs plC PlAt NrE NmE NmT Fac mm dm flat lsp spc str bstr Ov bm shc
set_option maxHeartbeats 16000000 in
set_option maxRecDepth 1000000 in
theorem stripeAnyK_walk (x : Hd) (pd : Option Addr) (n c : Nat) (d : Nat → BitVec 8) (pp : Option Addr) (np cp : Nat) (f : Nat → Int) (off k : Int) (w : World) (hnc : n ≤ c) (hD : NrE w (.slice pd n c) n d) (HX : 0 < np → ∃ b o, pp = some ⟨b, o, none⟩ ∧ ∀ i, i < np → w.cell? ⟨b, o + i, none⟩ = some (.int .i64 (f i))) (ho : In64 off) (hk : In64 k) :
    Calls Try.prog 3 #[.agg (plC x (.slice pd n c) (.slice pp np cp)), .int .i64 off, .int .i64 k] w fun e w' => e = .returned (.bool true) ∧ Below w.heap.size w w' := by
  have al : ∀ (W : World) (o : Obj), Below W.heap.size W (W.alloc o) := fun W o => (Below.refl _ _).alloc (Nat.le_refl _) o
  have H0 := (show Hid _ from PlAt.new w x (.slice pd n c) (.slice pp np cp))
  have HD := (show Hid _ from NrE.below hD (al w (.cells (plC x (.slice pd n c) (.slice pp np cp)) 26)))
  have HXh := (show Hid _ from HX)
  have HA := (show Hid _ from al w (.cells (plC x (.slice pd n c) (.slice pp np cp)) 26))
  have AW := (show Hid _ from awake10)
  clear hD HX
  go_enter Try.func3, Try.ntmps3
  go_wp2_with (first
    | (go_at_call 7; refine (AW.out _).mono ?_; rintro e w1 ⟨rfl, hb1⟩; have P1 := (show Hid _ from H0.out.below hb1); have D1 := (show Hid _ from NrE.below HD.out hb1); clear H0 HD)
    | (refine wpList_ldPl rfl _ rfl w.heap.size rfl P1.out ?_)
    | (go_at_call 8; refine (fit_any x pd n c (.slice pp np cp) d w1 hnc D1.out).mono ?_; rintro e w2 ⟨K, M, B, N, ep, ct, key, q, r, rfl, hf, hr, hN2, hb2⟩; have P2 := (show Hid _ from P1.out.below hb2); have N2 := (show Hid _ from hN2); have HF := (show Hid _ from hf); clear P1 D1 hN2 hf)
    | (refine wpList_alHd rfl rfl ?_; intro wa Za hba hsa)
    | (refine wpList_stHd (ftH x K M B key ep ct) rfl _ _ rfl rfl w2.heap.size rfl rfl Za ?_; intro w3 H3 hBu3; have hb3 := (show Hid (Below w2.heap.size w2 w3) from hba.trans hBu3.bl); have N3 := (show Hid _ from NrE.below N2.out hb3.out); have P3 := (show Hid _ from P2.out.below hb3.out); clear Za hba hBu3 P2 N2)
    | (refine wpList_loadHd rfl _ rfl w2.heap.size rfl H3 ?_)
    | (go_at_call 9; obtain ⟨L, NU, SPL⟩ := ft_split x HF.out q r hr d w3 N3.out; refine SPL.mono ?_; rintro e w4 ⟨g, F, vs, rfl, hF, hO, hR, hg, hb4⟩; have FA := (show Hid _ from hF); have O4 := (show Hid _ from hO); have R4 := (show Hid _ from hR); have H4 := (show Hid (HdAt w4 w2.heap.size (ftH x K M B key ep ct)) from H3.below hb4); have P4 := (show Hid _ from P3.out.below hb4); have p15 := P4.out.nums.2.2.2; have a8 := (show w4.cell? ⟨w2.heap.size, 8, none⟩ = some (.int .i64 (K : Int)) from H4.out.cells.1); have a9 := (show w4.cell? ⟨w2.heap.size, 9, none⟩ = some (.int .i64 (M : Int)) from H4.out.cells.2.1); have x1 := wrap_km HF.out.km; have x2 : ((K : Int) + (M : Int) != (K : Int) + (M : Int)) = false := (by simp); have hbw4 := (show Hid (Below w.heap.size w w4) from bt (bt (bt (bt HA.out hb1) hb2) hb3.out) hb4); have PL := (show Hid _ from places10 pp np cp (K + M) M f w4 HF.out.pl.1 HF.out.pl.2.1 HF.out.pl.2.2 (fun h => by obtain ⟨b, o, e, hc⟩ := HXh.out h; exact ⟨b, o, e, fun i hi => cell_below (hc i hi) hbw4.out⟩)); rw [Int.natCast_add] at PL; clear hF hO hR P3 SPL)
    | (go_at_call 10; refine PL.out.mono ?_; rintro e w5 ⟨P, rfl, hP, hO5, hb5⟩; clear PL))
  have HP := (show Hid (P.length ≤ M) from hP)
  have OB := (show Hid (Ov w5 4 w4.heap.size (bm P) (K + M)) from hO5)
  have O5 := (show Hid (Ov w5 44 g (flat (lsp (ftH x K M B key ep ct) N vs P 0)) ((K + M) * 17)) from lsp_zero P (Ov.below O4.out hb5))
  have R5 := (show Hid (∀ i, i < K + M → (∃ b, vs i = .slice (some ⟨b, 0, none⟩) L.length L.length) ∧ NmT w5 (vs i) L.length (fun j => L.getD j 0) (fun j x => mm fdE K F (dm K L (pad N d)) i ((L.take j).sum + x))) from fun i hi => ⟨(R4.out i hi).1, (R4.out i hi).2.below hb5⟩)
  have H5 := (show Hid (HdAt w5 w2.heap.size (ftH x K M B key ep ct)) from H4.out.below hb5)
  have hgl : g < w4.heap.size := O4.out.lt
  have hs3 := hb3.out.size
  have hlt2 : w2.heap.size < w3.heap.size := H3.lt
  have hne : w2.heap.size ≠ g := by omega
  have G5 := (show Hid (w5.heap[g]? = some (.cells (rv (flat (lsp (ftH x K M B key ep ct) N vs P 0)) ((K + M) * 17)) 44 (0, 0))) from ov_heap O5.out)
  have HB5 := (show Hid (Below w.heap.size w w5) from bt hbw4.out hb5)
  have SZ5 := (show Hid (w4.heap.size ≤ w5.heap.size) from hb5.size)
  have B35 := (show Hid (Below w3.heap.size w3 w5) from bt hb4 hb5)
  have hg3 := (show Hid (w3.heap.size ≤ g) from hg)
  clear hP hO5 hb5 O4 R4 H4 a8 a9 p15 P4 x1 x2 H3
  go_loopw [12] (fun i wr => ∃ t : Nat, t ≤ K + M ∧ i = .int .i64 t ∧ Hid (Ov wr 44 g (flat (lsp (ftH x K M B key ep ct) N vs P t)) ((K + M) * 17)) ∧ Hid (But g w5 wr)) (fun i _ => K + M - (intOf i).toNat)
  case atStart => exact ⟨0, Nat.zero_le _, rfl, O5, But.refl _ _⟩
  case round =>
    clear O5
    obtain ⟨t, ht, rfl, hO, hbu⟩ := hrel
    by_cases hlt : t < K + M
    · have j1 : (t : Int) < (K : Int) + (M : Int) := by omega
      have HT := (show Hid (t < K + M) from hlt)
      have km := HF.out.km
      have S := lsp_cells hO.out hlt
      have Hr := (show HdAt wr w2.heap.size (ftH x K M B key ep ct) from H5.out.but hbu.out hne)
      obtain ⟨s0, s1, s2, s3, s4, s5, s6, s7⟩ := (show wr.cell? ⟨g, t * 17, none⟩ = some (.int .u8 (el x.a0)) ∧ wr.cell? ⟨g, t * 17 + 1, none⟩ = some (.int .u8 (el x.a1)) ∧ wr.cell? ⟨g, t * 17 + 2, none⟩ = some (.int .u8 (el x.a2)) ∧ wr.cell? ⟨g, t * 17 + 3, none⟩ = some (.int .u8 (el x.a3)) ∧ wr.cell? ⟨g, t * 17 + 4, none⟩ = some (.int .u8 (el x.a4)) ∧ wr.cell? ⟨g, t * 17 + 5, none⟩ = some (.int .u8 (el x.a5)) ∧ wr.cell? ⟨g, t * 17 + 6, none⟩ = some (.int .u8 (el x.a6)) ∧ wr.cell? ⟨g, t * 17 + 7, none⟩ = some (.int .u8 (el x.a7)) from S.st)
      obtain ⟨s8, s9, s10, s11, s12, s13, s14, s15⟩ := (show wr.cell? ⟨g, t * 17 + 8, none⟩ = some (.int .i64 (K : Int)) ∧ wr.cell? ⟨g, t * 17 + 9, none⟩ = some (.int .i64 (M : Int)) ∧ wr.cell? ⟨g, t * 17 + 10, none⟩ = some (.int .i64 (B : Int)) ∧ wr.cell? ⟨g, t * 17 + 11, none⟩ = some (.string (bstr key)) ∧ wr.cell? ⟨g, t * 17 + 12, none⟩ = some (.int .i64 (N : Int)) ∧ wr.cell? ⟨g, t * 17 + 13, none⟩ = some (.int .i64 (t : Int)) ∧ wr.cell? ⟨g, t * 17 + 14, none⟩ = some (.int .i64 (ep : Int)) ∧ wr.cell? ⟨g, t * 17 + 15, none⟩ = some (.int .i64 (ct : Int)) from S.cells)
      obtain ⟨r0, r1, r2, r3, r4, r5, r6, r7⟩ := (show wr.cell? ⟨w2.heap.size, 0, none⟩ = some (.int .u8 (el x.a0)) ∧ wr.cell? ⟨w2.heap.size, 1, none⟩ = some (.int .u8 (el x.a1)) ∧ wr.cell? ⟨w2.heap.size, 2, none⟩ = some (.int .u8 (el x.a2)) ∧ wr.cell? ⟨w2.heap.size, 3, none⟩ = some (.int .u8 (el x.a3)) ∧ wr.cell? ⟨w2.heap.size, 4, none⟩ = some (.int .u8 (el x.a4)) ∧ wr.cell? ⟨w2.heap.size, 5, none⟩ = some (.int .u8 (el x.a5)) ∧ wr.cell? ⟨w2.heap.size, 6, none⟩ = some (.int .u8 (el x.a6)) ∧ wr.cell? ⟨w2.heap.size, 7, none⟩ = some (.int .u8 (el x.a7)) from Hr.st)
      obtain ⟨r8, r9, r10, r11, r12, r13, r14, r15⟩ := (show wr.cell? ⟨w2.heap.size, 8, none⟩ = some (.int .i64 (K : Int)) ∧ wr.cell? ⟨w2.heap.size, 9, none⟩ = some (.int .i64 (M : Int)) ∧ wr.cell? ⟨w2.heap.size, 10, none⟩ = some (.int .i64 (B : Int)) ∧ wr.cell? ⟨w2.heap.size, 11, none⟩ = some (.string (bstr key)) ∧ wr.cell? ⟨w2.heap.size, 12, none⟩ = some (.int .i64 0) ∧ wr.cell? ⟨w2.heap.size, 13, none⟩ = some (.int .i64 0) ∧ wr.cell? ⟨w2.heap.size, 14, none⟩ = some (.int .i64 (ep : Int)) ∧ wr.cell? ⟨w2.heap.size, 15, none⟩ = some (.int .i64 (ct : Int)) from Hr.cells)
      have e1 := neq_gen (ep : Int) (ct : Int)
      have e2 := neq_shape (K : Int) (M : Int) (B : Int)
      have e3 := neq_arr x
      have e4 : ((t : Int) != (t : Int)) = false := by simp
      have e5 : ((N : Int) != (N : Int)) = false := by simp
      have e6 : ((bstr key).toList == (bstr key).toList) = true := by simp
      have gb := (hbu.out.ov OB.out (by omega)).cell hlt
      have DN := (show Hid (∀ z, Ov (wr.drewN z) 44 g (flat (lsp (ftH x K M B key ep ct) N vs P t)) ((K + M) * 17) ∧ But g w5 (wr.drewN z)) from fun z => ⟨Ov.below hO.out (below_drewN (Below.refl _ _) z), hbu.out.below (Nat.le_of_lt hO.out.lt) (below_drewN (Below.refl _ _) z)⟩)
      clear S Hr
      go_wp2
      go_quiet (fail)
      obtain ⟨hOd, hbd⟩ := DN.out nq
      clear DN hO hbu s0 s1 s2 s3 s4 s5 s6 s7 s8 s9 s10 s11 s12 s13 s14 s15 r0 r1 r2 r3 r4 r5 r6 r7 r8 r9 r10 r11 r12 r13 r14 r15 e1 e2 e3 e4 e5 e6 gb
      generalize wr.drewN nq = wd at *
      have HOd := (show Hid _ from hOd)
      have Hbd := (show Hid _ from hbd)
      have gb := (hbd.ov OB.out (by omega)).cell hlt
      clear hOd hbd
      by_cases hin : t ∈ P
      · rw [bm_in10 hin] at gb
        go_wp2_with (first
          | (refine wpList_stSd rfl _ _ rfl rfl g t (K + M) (shc hd0 (.slice none 0 0)) rfl sh0 (shc_size _ _) (shc_all _ _ rfl) 44 _ HOd.out hlt ?_; intro w6 hO6 hBu6))
        go_roundw
        case rel =>
          rw [lsp_put _ _ _ _ _ hin] at hO6
          exact ⟨t + 1, Nat.succ_le_of_lt HT.out, by go_num, hO6, Hbd.out.trans hBu6⟩
        case measure => exact round_less HT.out
      · rw [bm_out10 hin] at gb
        go_wp2
        go_roundw
        case rel => exact ⟨t + 1, Nat.succ_le_of_lt HT.out, by go_num, (by rw [← lsp_skip _ _ _ _ _ hin]; exact HOd), Hbd⟩
        case measure => exact round_less HT.out
    · have j1 : ¬ (t : Int) < (K : Int) + (M : Int) := by omega
      obtain rfl : t = K + M := by omega
      obtain ⟨m, ob⟩ := obs_of (ft_in HF.out) HF.out.y HF.out.n ((chk_ok _).2 (ft_ok HF.out)) NU.out.1 NU.out.2.1 NU.out.2.2 FA.out hO.out (fun i hi => ⟨(R5.out i hi).1, (R5.out i hi).2.but hbu.out G5.out (by decide) (by decide)⟩) HP.out
      have OBS := (show Hid _ from ob)
      have hb3r := (show Hid (Below w3.heap.size w3 wr) from B35.out.trans (hbu.out.bl.mono hg3.out))
      have hbwr := (show Hid (Below w.heap.size w wr) from HB5.out.trans (hbu.out.bl.mono (by have := hg3.out; have := hbw4.out.size; have h9 := (bt (bt (bt HA.out hb1) hb2) hb3.out).size; omega)))
      have JB := (show Hid (∀ j, j < N → obm K L (dm K L (pad N d)) j = d j) from fun j hj => join_back NU.out.1 d j hj)
      have JO := (show Hid _ from join_ok ob)
      clear ob hO hbu j1
      by_cases o1 : off < 0
      · have PA := (show Hid (∀ W, Below wr.heap.size wr W → Calls Try.prog 12 #[.slice (some ⟨g, 0, none⟩) (K + M) (K + M), .int .i64 off, .int .i64 k] W fun e w' => e = .returned (.tuple #[.slice none 0 0, .int .i64 2]) ∧ Below W.heap.size W w') from fun W hb => piece_arg (OBS.out.below hb) off k ho hk (Or.inl o1))
        go_wp2_with (first
          | (go_at_call 11; refine JO.out.mono ?_; rintro e w7 ⟨qj, dj, rfl, _, hNj, hb7⟩; have NJ := (show Hid _ from nr_congr hNj JB.out); clear hNj)
          | (go_at_call 12; refine (PA.out w7 hb7).mono ?_; rintro e w8 ⟨rfl, hb8⟩; have c1 := conv_row (NrE.below NJ.out hb8); have c2 := conv_row (NrE.below N3.out (bt (bt hb3r.out hb7) hb8)); have c3 : ((str d N).toList == (str d N).toList) = true := (by simp)))
        go_ret
        exact ⟨rfl, bt (bt hbwr.out hb7) hb8⟩
      by_cases k1 : k < 0
      · have PA := (show Hid (∀ W, Below wr.heap.size wr W → Calls Try.prog 12 #[.slice (some ⟨g, 0, none⟩) (K + M) (K + M), .int .i64 off, .int .i64 k] W fun e w' => e = .returned (.tuple #[.slice none 0 0, .int .i64 2]) ∧ Below W.heap.size W w') from fun W hb => piece_arg (OBS.out.below hb) off k ho hk (Or.inr k1))
        go_wp2_with (first
          | (go_at_call 11; refine JO.out.mono ?_; rintro e w7 ⟨qj, dj, rfl, _, hNj, hb7⟩; have NJ := (show Hid _ from nr_congr hNj JB.out); clear hNj)
          | (go_at_call 12; refine (PA.out w7 hb7).mono ?_; rintro e w8 ⟨rfl, hb8⟩; have c1 := conv_row (NrE.below NJ.out hb8); have c2 := conv_row (NrE.below N3.out (bt (bt hb3r.out hb7) hb8)); have c3 : ((str d N).toList == (str d N).toList) = true := (by simp)))
        go_ret
        exact ⟨rfl, bt (bt hbwr.out hb7) hb8⟩
      · obtain ⟨o', rfl⟩ : ∃ o' : Nat, off = (o' : Int) := ⟨off.toNat, by omega⟩
        obtain ⟨k', rfl⟩ : ∃ k' : Nat, k = (k' : Int) := ⟨k.toNat, by omega⟩
        have hoN : o' ≤ 9223372036854775807 := by have := ho.2; omega
        have hkN : k' ≤ 9223372036854775807 := by have := hk.2; omega
        have PA := (show Hid (∀ W, Below wr.heap.size wr W → Calls Try.prog 12 #[.slice (some ⟨g, 0, none⟩) (K + M) (K + M), .int .i64 (o' : Int), .int .i64 (k' : Int)] W fun e w' => ∃ q r, e = .returned (.tuple #[.slice q (min k' (N - o')) r, .int .i64 0]) ∧ NrE w' (.slice q (min k' (N - o')) r) (min k' (N - o')) (fun j => d (o' + j)) ∧ Below W.heap.size W w') from fun W hb => piece_all (OBS.out.below hb) d JB.out o' k' hoN hkN)
        have CU := (show Hid (∀ W, Below w3.heap.size w3 W → ∃ q9 e2, NrE W (.slice q9 (min k' (N - o')) e2) (min k' (N - o')) (fun j => d (o' + j)) ∧ Calls Try.prog 13 #[.slice q N r, .int .i64 (o' : Int), .int .i64 (k' : Int)] W fun e w' => e = .returned (.slice q9 (min k' (N - o')) e2) ∧ w' = W) from fun W hb => cut10q (NrE.below N3.out hb) hr HF.out.n o' k' hoN hkN)
        obtain ⟨z, hz⟩ : ∃ z, z = min k' (N - o') := ⟨_, rfl⟩
        rw [← hz] at PA CU
        clear hz
        go_wp2_with (first
          | (go_at_call 11; refine JO.out.mono ?_; rintro e w7 ⟨qj, dj, rfl, _, hNj, hb7⟩; have NJ := (show Hid _ from nr_congr hNj JB.out); clear hNj)
          | (go_at_call 12; refine (PA.out w7 hb7).mono ?_; rintro e w8 ⟨qp, rp, rfl, hNp, hb8⟩; have c1 := conv_row (NrE.below NJ.out hb8); have c2 := conv_row (NrE.below N3.out (bt (bt hb3r.out hb7) hb8)); have c3 : ((str d N).toList == (str d N).toList) = true := (by simp); have NP := (show Hid _ from hNp); clear hNp))
        obtain ⟨q9, r9, hN9, CV⟩ := CU.out w8.drew (bt (bt (bt hb3r.out hb7) hb8) (bdr w8))
        have KS := (show Hid (_ ∧ _) from ⟨conv_row (NrE.below NP.out (bdr w8)), conv_row hN9⟩)
        have c4 : ((str (fun j => d (o' + j)) z).toList == (str (fun j => d (o' + j)) z).toList) = true := by simp
        have CW := (show Hid _ from CV)
        clear c1 c2 c3 hN9 CV
        go_region_held3 (fun X => (convert 23 9 (.slice qp z rp)).run Try.prog X = .ok (.string (str (fun j => d (o' + j)) z)) X ∧ (convert 23 9 (.slice q9 z r9)).run Try.prog X = .ok (.string (str (fun j => d (o' + j)) z)) X) (first | exact KS.out | go_keep)
          (first
            | (go_at_call 13; refine CW.out.mono ?_; rintro e w9 ⟨rfl, h⟩; subst h))
        all_goals
          go_wp2
          go_ret
          exact ⟨rfl, (bt (bt hbwr.out hb7) hb8).drew⟩
end
end Go.Proofs.Ytkngfeciobalmaa
