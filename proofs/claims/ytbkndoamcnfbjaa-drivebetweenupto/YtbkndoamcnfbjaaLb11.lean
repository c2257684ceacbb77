/-
  The walk of DriveBetween.
-/
import Derived.Test.YtbkndoamcnfbjaaLa11
import Derived.Deep.RegionHeld3
namespace Go.Proofs.Ytbkndoamcnfbjaa
open Go.RowKit Go.Maps Go.Sort
/-- The first drive is there behind what is done to the second. -/
theorem dv_other {w2 w3 w4 w5 w6 : World} {F0 G0 : Nat → Prop} {db pb k : Nat} {τ : Ds} (h5 : Dv w2 w4 F0 db k τ w5) (hF : (∀ b, F0 b → w2.heap.size ≤ b ∧ b < w3.heap.size) ∧ (∀ b, G0 b → w3.heap.size ≤ b ∧ b < w4.heap.size)) (h6 : Dv w2 w5 G0 pb k τ w6) : ∃ F, DrAt w6 db τ F ∧ (∀ b, F b → w2.heap.size ≤ b ∧ b < w5.heap.size) ∧ ∀ b, F b → ¬ G0 b := by
  obtain ⟨F', h1, h2⟩ := h5.ex
  have hz := h5.b0.size
  have hd : ∀ b, F' b → ¬ G0 b := fun b hb hG => by
    have h3 := hF.2 b hG
    rcases h2 b hb with h9 | h9
    · have := hF.1 b h9; omega
    · omega
  refine ⟨F', h1.tn h6.tn hd, fun b hb => ⟨?_, h1.2.1 b hb⟩, hd⟩
  rcases h2 b hb with h9 | h9
  · exact (hF.1 b h9).1
  · omega
theorem dv_pending {w2 w3 w4 w5 w6 : World} {F0 G0 : Nat → Prop} {db pb k : Nat} {τ : Ds} (h5 : Dv w2 w4 F0 db k τ w5) (hF : (∀ b, F0 b → w2.heap.size ≤ b ∧ b < w3.heap.size) ∧ (∀ b, G0 b → w3.heap.size ≤ b ∧ b < w4.heap.size)) (h6 : Dv w2 w5 G0 pb k τ w6) : Calls Try.prog 22 #[.pointer (some ⟨db, 0, none⟩)] w6 fun e w' => e = .returned (.int .i64 (τ.pend.length : Int)) ∧ w' = w6 := by
  obtain ⟨F, h1, _⟩ := dv_other h5 hF h6
  exact pending_any h1
section
attribute [local irreducible] Calls GB ftC stC chC anC Ac.v wayC
set_option maxHeartbeats 8000000 in
set_option maxRecDepth 1000000 in
theorem driveBetween_walk {w : World} (how room : Int) (p : Option Addr) (n c : Nat) (nm' dt : Nat → Tx) (pa : Option Addr) (ca : Nat) (LA : List Atp) (x y : Tx) (pd : Option Addr) (cd : Nat) (d : Tx) (dn : Int) (qd : Option Addr) (cq : Nat) (dirs : List Bool) (qc : Option Addr) (cc : Nat) (cuts : List Int) (hK : ChAt w p n nm' dt pa LA x y pd d qd dirs qc cuts) :
    Calls Try.prog 6 #[.agg (chC how room (.slice p n c) (.slice pa LA.length ca) x y (.slice pd d.length cd) dn (.slice qd dirs.length cq) (.slice qc cuts.length cc))] w fun e w' => e = .returned (.bool true) ∧ Below w.heap.size w w' := by
  have HK := (show Hid (ChAt w p n nm' dt pa LA x y pd d qd dirs qc cuts) from hK)
  obtain ⟨na, hna⟩ : ∃ na, na = LA.length := ⟨_, rfl⟩
  obtain ⟨nd, hnd⟩ : ∃ nd, nd = d.length := ⟨_, rfl⟩
  obtain ⟨nq, hnq⟩ : ∃ nq, nq = dirs.length := ⟨_, rfl⟩
  obtain ⟨KC, hKC⟩ : ∃ KC, KC = chC how room (.slice p n c) (.slice pa LA.length ca) x y (.slice pd d.length cd) dn (.slice qd dirs.length cq) (.slice qc cuts.length cc) := ⟨_, rfl⟩
  have HC := (show Hid (KC = chC how room (.slice p n c) (.slice pa LA.length ca) x y (.slice pd d.length cd) dn (.slice qd dirs.length cq) (.slice qc cuts.length cc)) from hKC)
  rw [← hKC]
  have HN := (show Hid (na = LA.length ∧ nd = d.length ∧ nq = dirs.length) from ⟨hna, hnd, hnq⟩)
  have LDS := (show Hid (∀ X, GB X w.heap.size 71 KC → (loadVar 24 ⟨w.heap.size, 0, none⟩).run Try.prog X = .ok (.agg (stC how room (.slice p n c))) X) from fun X h => by rw [HC.out] at h; exact ch_start h)
  have LDF := (show Hid (∀ X, GB X w.heap.size 71 KC → (loadVar 30 ⟨w.heap.size, 8, none⟩).run Try.prog X = .ok (.agg (ftC (.slice qd dirs.length cq) (.slice qc cuts.length cc))) X) from fun X h => by rw [HC.out] at h; exact ch_fate h)
  have LDC := (show Hid (∀ X, GB X w.heap.size 71 KC → X.cell? ⟨w.heap.size, 2, none⟩ = some (.slice p n c) ∧ X.cell? ⟨w.heap.size, 3, none⟩ = some (.slice pa na ca) ∧ X.cell? ⟨w.heap.size, 4, none⟩ = some (encStr x) ∧ X.cell? ⟨w.heap.size, 5, none⟩ = some (encStr y) ∧ X.cell? ⟨w.heap.size, 6, none⟩ = some (.slice pd nd cd) ∧ X.cell? ⟨w.heap.size, 7, none⟩ = some (.int .i64 dn) ∧ X.cell? ⟨w.heap.size, 8, none⟩ = some (.slice qd nq cq)) from fun X h => by rw [HC.out] at h; rw [HN.out.1, HN.out.2.1, HN.out.2.2]; exact ch_c h)
  clear hK hna hnd hnq hKC
  go_enter Try.func6, Try.ntmps6
  go_upto_region 4 with (first
    | (refine wpList_bxB (cs := KC) rfl _ rfl rfl ?_; intro w1 hG1 hb1 hs1)
    | (go_at_call 8; refine (awake_any _).mono ?_; rintro e w2 ⟨rfl, hb2⟩))
  have G2 := (show Hid (GB w2 w.heap.size 71 KC) from hG1.below hb2)
  have B2 := (show Hid (Below w.heap.size w w2) from bt hb1 hb2)
  have MA := (show Hid (∀ X, Below w.heap.size w X → Calls Try.prog 9 #[.agg (stC how room (.slice p n c))] X fun e w' => ∃ pt, e = .returned (.tuple #[.pointer pt, .bool true]) ∧ MadeR X w' (Ds.start how room (fls nm' dt n)) pt ∧ Below X.heap.size X w') from fun X hb => made_any how room p n c nm' dt (HK.out.fl.below hb) (by have := HK.out.fz; omega) HK.out.fx HK.out.fn)
  clear hG1 hb1 hs1 hb2
  have U0 := (show Hid True from trivial)
  go_upto_region 6 with (first
    | (have hx := U1; refine wpList_ldAt rfl _ _ rfl w.heap.size 0 rfl _ (LDS.out w3 (G2.out.below hb3)) ?_)
    | (have hx := U0; refine wpList_ldAt rfl _ _ rfl w.heap.size 0 rfl _ (LDS.out w2 G2.out) ?_)
    | (have hx := U1; go_at_call 9; refine (MA.out w3 (bt B2.out hb3)).mono ?_; rintro e w4 ⟨pt', rfl, hM', hb4⟩; clear hx U1)
    | (have hx := U0; go_at_call 9; refine (MA.out w2 B2.out).mono ?_; rintro e w3 ⟨pt, rfl, hM, hb3⟩; have U1 := (show Hid True from trivial); clear hx U0))
  have G4 := (show Hid (GB w4 w.heap.size 71 KC) from (G2.out.below hb3).below hb4)
  have B23 := (show Hid (True ∧ Below w2.heap.size w2 w3) from ⟨trivial, hb3⟩)
  have B34 := (show Hid (True ∧ Below w3.heap.size w3 w4) from ⟨trivial, hb4⟩)
  have B4 := (show Hid (Below w.heap.size w w4) from bt (bt B2.out hb3) hb4)
  have HM := (show Hid (MadeR w2 w3 (Ds.start how room (fls nm' dt n)) pt ∧ MadeR w3 w4 (Ds.start how room (fls nm' dt n)) pt') from ⟨hM, hM'⟩)
  have NM := (show Hid (∀ W, Calls Try.prog 10 #[encStr x] W fun e w' => e = .returned (.bool (isN x)) ∧ w' = W) from fun W => named_any x (by have := HK.out.xn; omega) W)
  have NN' := (show Hid (∀ W, Calls Try.prog 10 #[encStr y] W fun e w' => e = .returned (.bool (isN y)) ∧ w' = W) from fun W => named_any y (by have := HK.out.yn; omega) W)
  obtain ⟨c2, c3, c4, c5, c6, c7, c8⟩ := LDC.out w4 G4.out
  clear hM hM' hb3 hb4
  have U2 := (show Hid True from trivial)
  go_upto_region 8 with (first
    | (have hx := U2; go_at_call 10; refine (NM.out _).mono ?_; rintro e w5 ⟨rfl, h9⟩; obtain rfl := h9.symm; clear hx U2)
    | (go_at_call 10; refine (NN'.out _).mono ?_; rintro e w5 ⟨rfl, h9⟩; obtain rfl := h9.symm))
  rcases HM.out.1 with ⟨h0, rfl⟩ | ⟨σ, db, F0, hs, rfl, hD, hF⟩
  · rcases HM.out.2 with ⟨_, rfl⟩ | ⟨σ', db', F', hs', _⟩
    · clear c2 c3 c4 c5 c6 c7 c8
      go_wp2
      go_ret
      exact ⟨rfl, B4.out⟩
    · rw [h0] at hs'; cases hs'
  rcases HM.out.2 with ⟨h0, _⟩ | ⟨σ', pb, G0, hs', rfl, hD', hF'⟩
  · rw [hs] at h0; cases h0
  rw [hs] at hs'
  injection hs' with hs'
  subst hs'
  cases hNx : isN x with
  | false =>
    clear c2 c3 c5 c6 c7 c8
    go_wp2
    go_ret
    exact ⟨rfl, B4.out⟩
  | true =>
  cases hNy : isN y with
  | false =>
    clear c2 c3 c5 c6 c7 c8
    go_wp2
    go_ret
    exact ⟨rfl, B4.out⟩
  | true =>
  by_cases hne : x = y
  · have dxy : (x == y) = true := by simpa using hne
    clear c2 c3 c6 c7 c8
    go_wp2
    go_ret
    exact ⟨rfl, B4.out⟩
  have dxy : (x == y) = false := by simpa using hne
  have HX := (show Hid (isN x = true ∧ isN y = true ∧ x ≠ y) from ⟨hNx, hNy, hne⟩)
  have HS := (show Hid (Ds.start how room (fls nm' dt n) = some σ) from hs)
  have D4 := (show Hid (DrAt w4 db σ F0 ∧ DrAt w4 pb σ G0 ∧ (∀ b, F0 b → w2.heap.size ≤ b ∧ b < w3.heap.size) ∧ (∀ b, G0 b → w3.heap.size ≤ b ∧ b < w4.heap.size)) from ⟨hD.below B34.out.2, hD', fun b hb => ⟨hF b hb, hD.2.1 b hb⟩, fun b hb => ⟨hF' b hb, hD'.2.1 b hb⟩⟩)
  have OK0 := (show Hid (Okk (fsz (fls nm' dt n)) σ) from start_okk hs)
  clear HM hs hD hF hD' hF' hNx hNy hne
  have V0 := (show Hid (Dv w2 w4 F0 db (fsz (fls nm' dt n)) σ w4) from Dv.start D4.out.1 OK0.out (fun b hb => (D4.out.2.2.1 b hb).1) (bt B23.out.2 B34.out.2))
  have KZ := (show Hid (fsz (fls nm' dt n) + aesz LA ≤ 5242880 ∧ na ≤ 134217728) from ⟨by have := HK.out.fz; have := HK.out.az; omega, by have := HK.out.an; have := HN.out.1; omega⟩)
  have AA := (show Hid (AcsAt w2 pa LA) from HK.out.ac.below B2.out)
  have PL := (show Hid (Calls Try.prog 11 #[.pointer (some ⟨db, 0, none⟩), .slice pa na ca] w4 fun e w' => (∃ r, e = .returned r) ∧ Dv w2 w4 F0 db (fsz (fls nm' dt n) + aesz LA) (σ.run LA) w') from played_gen LA pa na ca HN.out.1.symm AA.out V0.out (by have := KZ.out.1; omega) KZ.out.2)
  have PM := (show Hid (∀ X, Dv w2 w4 F0 db (fsz (fls nm' dt n) + aesz LA) (σ.run LA) X → Calls Try.prog 11 #[.pointer (some ⟨pb, 0, none⟩), .slice pa na ca] X fun e w' => (∃ r, e = .returned r) ∧ Dv w2 X G0 pb (fsz (fls nm' dt n) + aesz LA) (σ.run LA) w') from fun X hX => played_gen LA pa na ca HN.out.1.symm AA.out (Dv.start (D4.out.2.1.tn hX.tn (fun b hb hF => by have h1 := D4.out.2.2.1 b hF; have h2 := D4.out.2.2.2 b hb; omega)) OK0.out (fun b hb => by have h2 := D4.out.2.2.2 b hb; have := B23.out.2.size; omega) hX.bl) (by have := KZ.out.1; omega) KZ.out.2)
  obtain ⟨k5, hk5⟩ : ∃ k5, k5 = fsz (fls nm' dt n) + aesz LA := ⟨_, rfl⟩
  rw [← hk5] at PL PM KZ
  have LO := (show Hid (Lo (dsz LA) (σ.run LA) ∧ Sn (n + na) (σ.run LA) ∧ Iv (σ.run LA)) from by
    have h1 := (Lo.start HS.out).run LA
    have h2 := (Sn.start HS.out).run (Iv.start HS.out) LA
    rw [Nat.zero_add] at h1
    rw [show (fls nm' dt n).length = n from fls_len nm' dt n, ← HN.out.1] at h2
    exact ⟨h1, h2, (Iv.start HS.out).run LA⟩)
  obtain ⟨τ, hτ⟩ : ∃ τ, τ = σ.run LA := ⟨_, rfl⟩
  rw [← hτ] at PL PM LO
  have HT := (show Hid (τ = σ.run LA ∧ k5 = fsz (fls nm' dt n) + aesz LA) from ⟨hτ, hk5⟩)
  clear hk5 hτ c2 c6 c7 c8
  have LD3 := (show Hid (∀ X, Below w4.heap.size w4 X → X.cell? ⟨w.heap.size, 3, none⟩ = some (.slice pa na ca)) from fun X hb => cell_below c3 hb)
  have G0' := (show Hid (¬ F0 w.heap.size ∧ w.heap.size < w2.heap.size) from ⟨fun h => by have := (D4.out.2.2.1 _ h).1; have := G2.out.lt; omega, G2.out.lt⟩)
  have U3 := (show Hid True from trivial)
  go_upto_region 13 with (first
    | (have hx := U3; go_at_call 11; refine PL.out.mono ?_; rintro e w5 ⟨⟨r5, rfl⟩, hP5⟩; have V5 := (show Hid (Dv w2 w4 F0 db k5 τ w5) from hP5); have G5 := (show Hid (GB w5 w.heap.size 71 KC) from G2.out.below hP5.bl); obtain ⟨c2, c3, c4, c5, c6, c7, c8⟩ := LDC.out w5 G5.out; clear hx U3 hP5)
    | (go_at_call 11; refine (PM.out w5 V5.out).mono ?_; rintro e w6 ⟨⟨r6, rfl⟩, hP6⟩; have V6 := (show Hid (Dv w2 w5 G0 pb k5 τ w6) from hP6); have G6 := (show Hid (GB w6 w.heap.size 71 KC) from G2.out.below hP6.bl); have PE := (show Hid (Calls Try.prog 22 #[.pointer (some ⟨db, 0, none⟩)] w6 fun e w' => e = .returned (.int .i64 (τ.pend.length : Int)) ∧ w' = w6) from dv_pending V5.out D4.out.2.2 V6.out); clear hP6)
    | (go_at_call 22; refine PE.out.mono ?_; rintro e wq ⟨rfl, h9⟩; obtain rfl := h9.symm; clear PE))
  obtain ⟨F, hD6, hF6, hFG⟩ := dv_other V5.out D4.out.2.2 V6.out
  have D6 := (show Hid (DrAt w6 db τ F ∧ (∀ b, F b → w2.heap.size ≤ b ∧ b < w5.heap.size) ∧ ∀ b, F b → ¬ G0 b) from ⟨hD6, hF6, hFG⟩)
  clear c2 c3 c4 c5 c6 c7 c8 dxy hD6 hF6 hFG
  obtain ⟨c2, c3, c4, c5, c6, c7, c8⟩ := LDC.out w6 G6.out
  clear c2 c3 c7 c8
  go_cut [11] from 31 to 112 (fun v wx => v = .slice (some ⟨w6.heap.size, 0, none⟩) 5 5 ∧ Hid (GB wx w6.heap.size 46 (wayC x y (.slice pd nd cd)) ∧ Below w6.heap.size w6 wx ∧ wx.heap.size = w6.heap.size + 1))
  case first =>
    go_wp2_with fail
    go_meet
    case rel => exact ⟨rfl, ⟨(by unfold wayC; exact GB.new w6 _ _), alb _ _, (by simp)⟩⟩
  case rest =>
  obtain ⟨rfl, hcw⟩ := hcut
  obtain ⟨hG7, hb7, hs7⟩ := hcw.out
  clear hcw
  obtain ⟨w7, hw7⟩ : ∃ w7, w7 = wc := ⟨_, rfl⟩
  rw [← hw7] at hG7 hb7 hs7 ⊢
  clear hw7
  have B67 := (show Hid (Below w6.heap.size w6 w7 ∧ w7.heap.size = w6.heap.size + 1) from ⟨hb7, hs7⟩)
  have GW := (show Hid (GB w7 w6.heap.size 46 (wayC x y (.slice pd d.length cd))) from by rw [← HN.out.2.1]; exact hG7)
  have G7 := (show Hid (GB w7 w.heap.size 71 KC) from G6.out.below hb7)
  have OK := (show Hid (Okk k5 τ ∧ Wfd τ) from ⟨V5.out.ok, V5.out.wfd⟩)
  have V7 := (show Hid (Dv w2 w7 F db k5 τ w7) from Dv.start (D6.out.1.below hb7) OK.out.1 (fun b hb => (D6.out.2.1 b hb).1) (bt V6.out.bl hb7))
  have NF := (show Hid (¬ F w6.heap.size ∧ ¬ F w.heap.size) from ⟨fun h => by have := (D6.out.2.1 _ h).2; have := V6.out.tn.size; omega, fun h => by have := (D6.out.2.1 _ h).1; have := G2.out.lt; omega⟩)
  clear hG7 hb7 hs7 c4 c5 c6
  go_upto_block 0 with fail
  go_cut [12, 13, 14] from 113 to 136 (fun a b c wx => Hid (∃ s, s ≤ 5 ∧ Dv w2 w7 F db (k5 + 6 * (2 + d.length)) (Wy τ x y d s) wx ∧ (∀ j, j < s → Wc τ x y d j = 0) ∧ (s = 0 ∨ (s : Int) ≤ dn) ∧ (s = 5 ∨ dn ≤ (s : Int) ∨ Wc τ x y d s ≠ 0)))
  case first =>
    go_wp2_with fail
    go_loopw [12, 13, 14] (fun i a b wr => ∃ k : Nat, k ≤ 5 ∧ i = .int .i64 (k : Int) ∧ Hid (Wl w2 w7 F db k5 τ x y d dn k wr)) (fun i _ _ _ => 5 - (intOf i).toNat)
    case atStart => exact ⟨0, by omega, rfl, ⟨by rw [Nat.zero_mul]; exact V7.out, fun j hj => absurd hj (Nat.not_lt_zero _), .inl rfl⟩⟩
    case round =>
      obtain ⟨k, hk, rfl, hW⟩ := hrel
      obtain ⟨_, _, _, _, _, c7, _⟩ := LDC.out wr (G7.out.tn hW.out.dv.tn NF.out.2)
      by_cases hlt : k < 5
      · have hi : (k : Int) < 5 := by omega
        by_cases hdn : (k : Int) < dn
        · have hd9 : decide ((k : Int) < dn) = true := by simpa using hdn
          have hkl : k < (SLs x y d pd cd).length := hlt
          have hld := (way_svn (GW.out.tn hW.out.dv.tn NF.out.1) k hkl).run
          have DO := (show Hid _ from Dv.way (pd := pd) (cd := cd) k hkl hW.out.dv (by have := KZ.out.1; have := HK.out.dn; have h9 : k * (2 + d.length) ≤ 5 * (2 + d.length) := Nat.mul_le_mul_right _ (by omega); omega) (way_at (by have := HK.out.xn; omega) (by have := HK.out.yn; omega) (HK.out.rd.below B2.out) (by have := HK.out.dn; omega) k hkl))
          rw [Nat.zero_add] at hld
          obtain ⟨q, hq⟩ : ∃ q, q = Wc τ x y d k := ⟨_, rfl⟩
          have HQ := (show Hid (q = Wc τ x y d k) from hq)
          rw [← hq] at DO
          clear hq
          cases q with
          | zero =>
            go_wp2_with (first
              | (refine wpList_ldAt rfl _ _ rfl w6.heap.size (k * 7) rfl _ hld ?_)
              | (go_at_call 18; refine DO.out.mono ?_; rintro e X1 ⟨⟨u1, u2, u3, u4, hone, rfl⟩, hV⟩; have VX := (show Hid (Dv w2 w7 F db (k5 + k * (2 + d.length) + (2 + d.length)) (Wy τ x y d (k + 1)) X1) from hV); clear hV)
              | (refine wpList_alB (cs := anC (.int .i64 0) (.int .i64 0) (.slice none 0 0) (.slice none 0 0) (.slice none 0 0)) rfl rfl (by unfold anC; exact an0) ?_; intro X2 hG2' hb2' hs2')
              | (refine wpList_stB (cs := anC (.int .i64 ((0 : Nat) : Int)) u1 u2 u3 u4) rfl _ _ rfl rfl X1.heap.size rfl rfl hG2' (by unfold anC; exact size_An) (by unfold anC; rfl) hone ?_; intro X3 hG3' hg3' hs3'; have cz := (an_c hG3').1))
            go_roundw
            case rel =>
              refine ⟨k + 1, by omega, by go_num, ⟨?_, ?_, ?_⟩⟩
              · have h9 := (VX.out.below (grown_below hb2' hg3' hb2'.size (Nat.le_refl _)))
                rw [Nat.add_assoc, ← Nat.succ_mul] at h9
                exact h9
              · intro j hj
                rcases Nat.lt_or_ge j k with h9 | h9
                · exact hW.out.co j h9
                · have : j = k := by omega
                  rw [this, ← HQ.out]
              · exact .inr (by omega)
            case measure => simp [intOf]; omega
          | succ q =>
            have d0 : (((q + 1 : Nat) : Int) != 0) = true := by simp; omega
            go_wp2_with (first
              | (refine wpList_ldAt rfl _ _ rfl w6.heap.size (k * 7) rfl _ hld ?_)
              | (go_at_call 18; refine DO.out.mono ?_; rintro e X1 ⟨⟨u1, u2, u3, u4, hone, rfl⟩, hV⟩; have VX := (show Hid (Dv w2 w7 F db (k5 + k * (2 + d.length) + (2 + d.length)) (Wy τ x y d (k + 1)) X1) from hV); clear hV)
              | (refine wpList_alB (cs := anC (.int .i64 0) (.int .i64 0) (.slice none 0 0) (.slice none 0 0) (.slice none 0 0)) rfl rfl (by unfold anC; exact an0) ?_; intro X2 hG2' hb2' hs2')
              | (refine wpList_stB (cs := anC (.int .i64 ((q + 1 : Nat) : Int)) u1 u2 u3 u4) rfl _ _ rfl rfl X1.heap.size rfl rfl hG2' (by unfold anC; exact size_An) (by unfold anC; rfl) hone ?_; intro X3 hG3' hg3' hs3'; have cz := (an_c hG3').1))
            go_meet
            case rel =>
              have hf := wy_fail (d := d) OK.out.2 HX.out.1 HX.out.2.1 HX.out.2.2 k hW.out.co (by rw [← HQ.out]; omega)
              have h9 := (VX.out.below (grown_below hb2' hg3' hb2'.size (Nat.le_refl _)))
              rw [hf.1] at h9
              exact ⟨k, by omega, h9.more (by have h8 : k * (2 + d.length) ≤ 5 * (2 + d.length) := Nat.mul_le_mul_right _ (by omega); omega), hW.out.co, hW.out.le, .inr (.inr (by rw [← HQ.out]; omega))⟩
        · have hd9 : decide ((k : Int) < dn) = false := by simpa using hdn
          go_wp2_with fail
          go_meet
          case rel => exact ⟨k, by omega, hW.out.dv.more (by have h8 : k * (2 + d.length) ≤ 5 * (2 + d.length) := Nat.mul_le_mul_right _ (by omega); omega), hW.out.co, hW.out.le, .inr (.inl (by omega))⟩
      · obtain rfl : k = 5 := by omega
        go_wp2_with fail
        go_meet
        case rel => exact ⟨5, by omega, hW.out.dv.more (by omega), hW.out.co, hW.out.le, .inl rfl⟩
  case rest =>
  obtain ⟨s, hs5, hVs, hco, hle, hex⟩ := hcut.out
  have HSt := (show Hid (s ≤ 5 ∧ (∀ j, j < s → Wc τ x y d j = 0) ∧ (s = 0 ∨ (s : Int) ≤ dn) ∧ (s = 5 ∨ dn ≤ (s : Int) ∨ Wc τ x y d s ≠ 0)) from ⟨hs5, hco, hle, hex⟩)
  obtain ⟨w8, hw8⟩ : ∃ w8, w8 = wc := ⟨_, rfl⟩
  rw [← hw8] at hVs ⊢
  have K9 := (show Hid (k5 + 6 * (2 + d.length) ≤ 134217728) from by have := KZ.out.1; have := HK.out.dn; show _ ≤ _; omega)
  obtain ⟨k9, hk9⟩ : ∃ k9, k9 = k5 + 6 * (2 + d.length) := ⟨_, rfl⟩
  rw [← hk9] at hVs K9
  have V8 := (show Hid (Dv w2 w7 F db k9 (Wy τ x y d s) w8) from hVs)
  have IVs := (show Hid (Iv (Wy τ x y d s)) from wy_iv LO.out.2.2 s)
  have CR := (show Hid (Calls Try.prog 20 #[.pointer (some ⟨db, 0, none⟩), .agg (ftC (.slice qd dirs.length cq) (.slice qc cuts.length cc))] w8 fun e w' => e = .returned (.int .i64 0) ∧ Dv w2 w7 F db k9 ((Wy τ x y d s).crash dirs cuts) w') from by
    have bX := bt B2.out V8.out.bl
    refine V8.out.crash K9.out qd dirs.length cq dirs rfl (fun i hi => ?_) qc cuts.length cc cuts rfl (fun i hi => ?_) (by have := HK.out.bn; omega) (by have := HK.out.iN; omega) (fun h0 b o e => ?_)
    · obtain ⟨b, o, e, hc⟩ := HK.out.bq i hi
      exact ⟨b, o, e, cell_below hc bX⟩
    · obtain ⟨b, o, e, hc⟩ := HK.out.iq i hi
      exact ⟨b, o, e, cell_below hc bX⟩
    · have h1 := HK.out.ib b o e h0
      have h2 := B2.out.size
      have h3 := V8.out.b0.size
      exact ⟨by omega, fun hF => by have := (D6.out.2.1 b hF).1; omega⟩)
  have G8 := (show Hid (GB w8 w.heap.size 71 KC) from G7.out.tn V8.out.tn NF.out.2)
  have CN := (show Hid ((4 ≤ s ∧ cnt (tol ((Wy τ x y d s).crash dirs cuts) (·.data) ((Wy τ x y d s).crash dirs cuts).st) y = some d) ∨ (s ≤ 4 ∧ ∃ k, k ≤ dsz LA ∧ ∀ cs : List Int, (∀ j, j < (nms (cr1 τ dirs).sf).length → cs.getD j 0 = (k : Int)) → cnt (crl (cr1 τ dirs) cs) y = cnt (tol ((Wy τ x y d s).crash dirs cuts) (·.data) ((Wy τ x y d s).crash dirs cuts).st) y)) from wy_cnt OK.out.2 LO.out.2.2 HX.out.1 HX.out.2.1 HX.out.2.2 s hco hs5 V8.out.wfd IVs.out dirs cuts LO.out.1 OK.out.1.sa)
  clear hw8 hk9 hs5 hVs hco hle hex hcut
  go_upto_region 21 with (first
    | (refine wpList_ldAt rfl _ _ rfl w.heap.size 8 rfl _ (LDF.out w8 G8.out) ?_)
    | (go_at_call 20; refine CR.out.mono ?_; rintro e w9 ⟨rfl, hV9⟩; have V9 := (show Hid (Dv w2 w7 F db k9 ((Wy τ x y d s).crash dirs cuts) w9) from hV9); clear hV9)
    | (go_at_call 12; refine (lnum_any _ _).mono ?_; rintro e wq ⟨rfl, h9⟩; obtain rfl := h9.symm))
  have G9 := (show Hid (GB w9 w.heap.size 71 KC) from G7.out.tn V9.out.tn NF.out.2)
  obtain ⟨ρ, hρ⟩ : ∃ ρ, ρ = (Wy τ x y d s).crash dirs cuts := ⟨_, rfl⟩
  rw [← hρ] at V9 CN
  have IM := (show Hid (∀ X, Below w9.heap.size w9 X → Calls Try.prog 24 #[.pointer (some ⟨db, 0, none⟩)] X fun e w' => ∃ v, e = .returned v ∧ FsAt w' X.heap.size v (tol ρ (·.data) ρ.st) ∧ Below X.heap.size X w') from fun X hb => (V9.out.below hb).image K9.out)
  have LL := (show Hid ((tol ρ (·.data) ρ.st).length ≤ 1000000000) from by
    have h1 := V9.out.ok.ss
    have h2 := K9.out
    rw [size_nms V9.out.ok.ts] at h1
    show _ ≤ _
    rw [tol_len]; omega)
  obtain ⟨LR, hLR⟩ : ∃ LR, LR = tol ρ (·.data) ρ.st := ⟨_, rfl⟩
  rw [← hLR] at IM LL CN
  obtain ⟨cv, hcv⟩ : ∃ cv, cv = cnt LR y := ⟨_, rfl⟩
  have CT := (show Hid (∀ X b v, FsAt X b v LR → Calls Try.prog 31 #[v, encStr y] X fun e w' => e = .returned (.tuple #[encStr (cv.getD []), .bool cv.isSome]) ∧ Below X.heap.size X w') from fun X b v h => by rw [hcv]; exact content_any h LL.out y)
  rw [← hcv] at CN
  clear hρ hLR hcv CR LL
  have KS := (show Hid (w9.drew.cell? ⟨w.heap.size, 5, none⟩ = some (encStr y)) from (LDC.out w9 G9.out).2.2.2.1)
  go_cut [15, 16] from 137 to 150 (fun a b wx => a = encStr (cv.getD []) ∧ b = .bool cv.isSome ∧ Hid (Below w9.heap.size w9 wx))
  case first =>
    go_region_held3 (fun X => X.cell? ⟨w.heap.size, 5, none⟩ = some (encStr y)) (first | exact KS.out | exact KT.out | exact KU.out)
      (first
        | (go_at_call 24; refine (IM.out w9.drew (Below.refl _ w9).drew).mono ?_; rintro e w10 ⟨v10, rfl, f10, hb10⟩; have KT := (show Hid (w10.cell? ⟨w.heap.size, 5, none⟩ = some (encStr y)) from cell_below KS.out hb10))
        | (go_at_call 31; refine (CT.out _ _ _ f10).mono ?_; rintro e w11 ⟨rfl, hb11⟩; have KU := (show Hid (w11.cell? ⟨w.heap.size, 5, none⟩ = some (encStr y)) from cell_below KT.out hb11)))
    all_goals
      go_wp2_with fail
      go_meet
      case rel => exact ⟨rfl, rfl, bt (bt (Below.refl _ w9).drew hb10) hb11⟩
  case rest =>
  obtain ⟨rfl, rfl, hB11⟩ := hcut
  obtain ⟨w11, hw11⟩ : ∃ w11, w11 = wc := ⟨_, rfl⟩
  rw [← hw11] at hB11 ⊢
  clear hw11 KS CT IM
  have G11 := (show Hid (GB w11 w.heap.size 71 KC) from G9.out.below hB11.out)
  have hcd := (show (convert 26 9 (.slice pd nd cd)).run Try.prog w11 = .ok (encStr d) w11 from conv_rx (HK.out.rd.below (bt (bt B2.out V9.out.bl) hB11.out)) nd cd HN.out.2.1.symm)
  obtain ⟨_, _, _, _, c6, c7, _⟩ := LDC.out w11 G11.out
  go_upto_region 22 with fail
  go_cut [163] from 151 to 162 (fun v wx => v = .bool (cv.isSome && (cv.getD [] == d) && decide (4 ≤ dn)) ∧ Hid (Below w11.heap.size w11 wx))
  case first =>
    cases cv with
    | none =>
      simp only [Option.getD_none, Option.isSome_none]
      clear hcd c6 c7
      go_wp2_with fail
      go_meet
      case rel => exact ⟨by simp, Below.refl _ _⟩
    | some z =>
      simp only [Option.getD_some, Option.isSome_some]
      by_cases hz : z = d
      · have hzd : (z == d) = true := by simpa using hz
        clear hz
        by_cases h4 : 4 ≤ dn
        · have h4d : decide (4 ≤ dn) = true := by simpa using h4
          go_wp2_with fail
          go_meet
          case rel => exact ⟨by simp [hzd, h4], Below.refl _ _⟩
        · have h4d : decide (4 ≤ dn) = false := by simpa using h4
          go_wp2_with fail
          go_meet
          case rel => exact ⟨by simp [h4], Below.refl _ _⟩
      · have hzd : (z == d) = false := by simpa using hz
        clear c7 hz
        go_wp2_with fail
        go_meet
        case rel => exact ⟨by simp [hzd], Below.refl _ _⟩
  case rest =>
  obtain ⟨rfl, hB12⟩ := hcut
  obtain ⟨w12, hw12⟩ : ∃ w12, w12 = wc := ⟨_, rfl⟩
  rw [← hw12] at hB12 ⊢
  clear hw12 hcd c6 c7
  obtain ⟨B22, hB22⟩ : ∃ B, B = (cv.isSome && (cv.getD [] == d) && decide (4 ≤ dn)) := ⟨_, rfl⟩
  rw [← hB22]
  have HB22 := (show Hid (B22 = (cv.isSome && (cv.getD [] == d) && decide (4 ≤ dn))) from hB22)
  clear hB22
  have BW := (show Hid (Below w.heap.size w w12) from bt (bt (bt B2.out V9.out.bl) hB11.out) hB12.out)
  cases B22 with
  | true =>
    go_wp2_with fail
    go_ret
    exact ⟨rfl, BW.out⟩
  | false =>
  have G12 := (show Hid (GB w12 w.heap.size 71 KC) from G11.out.below hB12.out)
  obtain ⟨K0, hK0⟩ : ∃ K0, s ≤ 4 ∧ K0 ≤ dsz LA ∧ ∀ cs : List Int, (∀ j, j < (nms (cr1 τ dirs).sf).length → cs.getD j 0 = (K0 : Int)) → cnt (crl (cr1 τ dirs) cs) y = cv := by
    rcases CN.out with ⟨h4, e⟩ | ⟨h4, k, h5, h6⟩
    · have h9 := HB22.out
      have h8 : 4 ≤ dn := by have := HSt.out.2.2.1; omega
      rw [e] at h9
      simp [h8] at h9
    · exact ⟨k, h4, h5, h6⟩
  have HK0 := (show Hid (s ≤ 4 ∧ K0 ≤ dsz LA ∧ ∀ cs : List Int, (∀ j, j < (nms (cr1 τ dirs).sf).length → cs.getD j 0 = (K0 : Int)) → cnt (crl (cr1 τ dirs) cs) y = cv) from hK0)
  have PP := (show Hid (∃ G, DrAt w12 pb τ G ∧ ∀ b, G b → w2.heap.size ≤ b ∧ b < w6.heap.size) from by
    obtain ⟨G', h1, h2⟩ := V6.out.ex
    have h3 : DrAt w9 pb τ G' := (h1.below B67.out.1).tn V9.out.tn (fun b hb hF => by
      rcases h2 b hb with h9 | h9
      · exact D6.out.2.2 b hF h9
      · have := (D6.out.2.1 b hF).2; omega)
    refine ⟨G', (h3.below hB11.out).below hB12.out, fun b hb => ⟨V6.out.f0 h2 b hb, h1.2.1 b hb⟩⟩)
  have GS := (show Hid (GB w12 w6.heap.size 46 (wayC x y (.slice pd d.length cd))) from ((GW.out.tn V9.out.tn NF.out.1).below hB11.out).below hB12.out)
  have NQ := (show Hid (Wc τ x y d 0 ≠ 0 ∨ Wc τ x y d 1 ≠ 0 ∨ ¬ 5 ≤ dn) from by
    rcases HSt.out.2.2.2 with h9 | h9 | h9
    · have := HK0.out.1; omega
    · right; right; have := HK0.out.1; omega
    · obtain ⟨_, h1⟩ := wy_fail (d := d) OK.out.2 HX.out.1 HX.out.2.1 HX.out.2.2 s HSt.out.2.1 h9
      rcases s with _ | s
      · exact .inl h9
      · rcases s with _ | s
        · exact .inr (.inl h9)
        · omega)
  obtain ⟨_, _, _, _, _, c7, _⟩ := LDC.out w12 G12.out
  have B12 := (show Hid (Below w2.heap.size w2 w12) from bt (bt V9.out.bl hB11.out) hB12.out)
  clear hK0 CN HB22 HSt
  go_upto_if 166 with fail
  go_cut [17, 18, 19, 20] from 164 to 190 (fun a b c d' wx => Hid (Below w2.heap.size w2 wx))
  case first =>
    by_cases h5 : 5 ≤ dn
    · obtain ⟨G, hDp, hGb⟩ := PP.out
      have VP := (show Hid (Dv w2 w12 G pb k5 (Wy τ x y d 0) w12) from Dv.start hDp OK.out.1 (fun b hb => (hGb b hb).1) B12.out)
      have NG := (show Hid (¬ G w6.heap.size) from fun h => by have := (hGb _ h).2; omega)
      have hl0 := (way_svn GS.out 0 (by rw [sls_len]; omega)).run
      rw [Nat.zero_add] at hl0
      have WA := (show Hid (∀ k (hk : k < (SLs x y d pd cd).length), AcAt w2 (SLs x y d pd cd)[k].2.1 (SLs x y d pd cd)[k].2.2) from way_at (by have := HK.out.xn; omega) (by have := HK.out.yn; omega) (HK.out.rd.below B2.out) (by have := HK.out.dn; omega))
      have DO0 := (show Hid _ from Dv.way (pd := pd) (cd := cd) 0 (by rw [sls_len]; omega) VP.out (by have := KZ.out.1; omega) (WA.out 0 _))
      have DO1 := (show Hid (∀ X F3, Dv w2 X F3 pb (k5 + (2 + d.length)) (Wy τ x y d 1) X → _) from fun X F3 hX => Dv.way (pd := pd) (cd := cd) 1 (by rw [sls_len]; omega) hX (by have := KZ.out.1; have := HK.out.dn; omega) (WA.out 1 _))
      obtain ⟨q0, hq0⟩ : ∃ q, q = Wc τ x y d 0 := ⟨_, rfl⟩
      obtain ⟨q1, hq1⟩ : ∃ q, q = Wc τ x y d 1 := ⟨_, rfl⟩
      rw [← hq0] at DO0
      rw [← hq1] at DO1
      have hqq : q0 ≠ 0 ∨ q1 ≠ 0 := by
        rw [hq0, hq1]
        rcases NQ.out with h9 | h9 | h9
        · exact .inl h9
        · exact .inr h9
        · exact absurd h5 h9
      clear hq0 hq1 hDp hGb c7
      rw [Nat.zero_mul] at hl0
      have T0 := (show Hid True from trivial)
      by_cases h0 : q0 = 0
      · have e0 : (((q0 : Nat) : Int) == 0) = true := by simp [h0]
        have e1 : (((q1 : Nat) : Int) == 0) = false := by
          have h9 : q1 ≠ 0 := hqq.resolve_left (fun h => h h0)
          simp [h9]
        clear hqq h0
        go_wp2_with (first
          | (have hx := S1; refine wpList_stB (cs := anC (.int .i64 (q1 : Int)) v1 v2 v3 v4) rfl _ _ rfl rfl Y1.heap.size rfl rfl gy2 (by unfold anC; exact size_An) (by unfold anC; rfl) hone' ?_; intro Y3 gy3 hgy3 hsy3; have cz1 := (an_c gy3).1; have cz0 := (an_c ((GZ.out.below by2).kept hgy3 (fun e => by injection e with e; have := GZ.out.lt; omega))).1; have BY := (show Hid (Below w2.heap.size w2 Y3) from (VY.out.below (grown_below by2 hgy3 by2.size (Nat.le_refl _))).bl); clear hx S1)
          | (have hx := A1; refine wpList_alB (cs := anC (.int .i64 0) (.int .i64 0) (.slice none 0 0) (.slice none 0 0) (.slice none 0 0)) rfl rfl (by unfold anC; exact an0) ?_; intro Y2 gy2 by2 sy2; have S1 := (show Hid True from trivial); clear hx A1)
          | (have hx := T1; refine wpList_ldAt rfl _ _ rfl w6.heap.size 7 rfl _ hl1 ?_)
          | (have hx := T1; go_at_call 18; refine (DO1.out X3 F3 V3.out).mono ?_; rintro e Y1 ⟨⟨v1, v2, v3, v4, hone', rfl⟩, hVY⟩; have VY := (show Hid (Dv w2 X3 F3 pb _ _ Y1) from hVY); have GZ := (show Hid (GB Y1 X1.heap.size 49 (anC (.int .i64 (q0 : Int)) u1 u2 u3 u4)) from GY.out.tn hVY.tn NF3.out); have A1 := (show Hid True from trivial); clear hx T1 hVY)
          | (have hx := S0; refine wpList_stB (cs := anC (.int .i64 (q0 : Int)) u1 u2 u3 u4) rfl _ _ rfl rfl X1.heap.size rfl rfl gx2 (by unfold anC; exact size_An) (by unfold anC; rfl) hone ?_; intro X3 gx3 hgx3 hsx3; have bx3 := grown_below bx2 hgx3 bx2.size (Nat.le_refl _); obtain ⟨F3, hD3, hF3⟩ := VX.out.ex; have V3 := (show Hid (Dv w2 X3 F3 pb (k5 + (2 + d.length)) (Wy τ x y d 1) X3) from Dv.start (hD3.below bx3) VX.out.ok (VX.out.f0 hF3) (bt VX.out.bl bx3)); have NF3 := (show Hid (¬ F3 X1.heap.size) from fun h => Nat.lt_irrefl _ (hD3.2.1 _ h)); have GY := (show Hid (GB X3 X1.heap.size 49 (anC (.int .i64 (q0 : Int)) u1 u2 u3 u4)) from gx3); have hl1 := (way_svn ((GS.out.tn VX.out.tn NG.out).below bx3) 1 (by rw [sls_len]; omega)).run; rw [Nat.zero_add, Nat.one_mul] at hl1; have T1 := (show Hid True from trivial); clear hx S0 hD3 hF3)
          | (have hx := A0; refine wpList_alB (cs := anC (.int .i64 0) (.int .i64 0) (.slice none 0 0) (.slice none 0 0) (.slice none 0 0)) rfl rfl (by unfold anC; exact an0) ?_; intro X2 gx2 bx2 sx2; have S0 := (show Hid True from trivial); clear hx A0)
          | (have hx := T0; refine wpList_ldAt rfl _ _ rfl w6.heap.size 0 rfl _ hl0 ?_)
          | (have hx := T0; go_at_call 18; refine DO0.out.mono ?_; rintro e X1 ⟨⟨u1, u2, u3, u4, hone, rfl⟩, hVX⟩; have VX := (show Hid (Dv w2 w12 G pb (k5 + (2 + d.length)) (Wy τ x y d 1) X1) from hVX); have A0 := (show Hid True from trivial); clear hx T0 hVX))
        go_meet
        case rel => exact BY.out
      · have e0 : (((q0 : Nat) : Int) == 0) = false := by simp [h0]
        clear hqq h0
        go_wp2_with (first
          | (have hx := S1; refine wpList_stB (cs := anC (.int .i64 (q1 : Int)) v1 v2 v3 v4) rfl _ _ rfl rfl Y1.heap.size rfl rfl gy2 (by unfold anC; exact size_An) (by unfold anC; rfl) hone' ?_; intro Y3 gy3 hgy3 hsy3; have cz1 := (an_c gy3).1; have cz0 := (an_c ((GZ.out.below by2).kept hgy3 (fun e => by injection e with e; have := GZ.out.lt; omega))).1; have BY := (show Hid (Below w2.heap.size w2 Y3) from (VY.out.below (grown_below by2 hgy3 by2.size (Nat.le_refl _))).bl); clear hx S1)
          | (have hx := A1; refine wpList_alB (cs := anC (.int .i64 0) (.int .i64 0) (.slice none 0 0) (.slice none 0 0) (.slice none 0 0)) rfl rfl (by unfold anC; exact an0) ?_; intro Y2 gy2 by2 sy2; have S1 := (show Hid True from trivial); clear hx A1)
          | (have hx := T1; refine wpList_ldAt rfl _ _ rfl w6.heap.size 7 rfl _ hl1 ?_)
          | (have hx := T1; go_at_call 18; refine (DO1.out X3 F3 V3.out).mono ?_; rintro e Y1 ⟨⟨v1, v2, v3, v4, hone', rfl⟩, hVY⟩; have VY := (show Hid (Dv w2 X3 F3 pb _ _ Y1) from hVY); have GZ := (show Hid (GB Y1 X1.heap.size 49 (anC (.int .i64 (q0 : Int)) u1 u2 u3 u4)) from GY.out.tn hVY.tn NF3.out); have A1 := (show Hid True from trivial); clear hx T1 hVY)
          | (have hx := S0; refine wpList_stB (cs := anC (.int .i64 (q0 : Int)) u1 u2 u3 u4) rfl _ _ rfl rfl X1.heap.size rfl rfl gx2 (by unfold anC; exact size_An) (by unfold anC; rfl) hone ?_; intro X3 gx3 hgx3 hsx3; have bx3 := grown_below bx2 hgx3 bx2.size (Nat.le_refl _); obtain ⟨F3, hD3, hF3⟩ := VX.out.ex; have V3 := (show Hid (Dv w2 X3 F3 pb (k5 + (2 + d.length)) (Wy τ x y d 1) X3) from Dv.start (hD3.below bx3) VX.out.ok (VX.out.f0 hF3) (bt VX.out.bl bx3)); have NF3 := (show Hid (¬ F3 X1.heap.size) from fun h => Nat.lt_irrefl _ (hD3.2.1 _ h)); have GY := (show Hid (GB X3 X1.heap.size 49 (anC (.int .i64 (q0 : Int)) u1 u2 u3 u4)) from gx3); have hl1 := (way_svn ((GS.out.tn VX.out.tn NG.out).below bx3) 1 (by rw [sls_len]; omega)).run; rw [Nat.zero_add, Nat.one_mul] at hl1; have T1 := (show Hid True from trivial); clear hx S0 hD3 hF3)
          | (have hx := A0; refine wpList_alB (cs := anC (.int .i64 0) (.int .i64 0) (.slice none 0 0) (.slice none 0 0) (.slice none 0 0)) rfl rfl (by unfold anC; exact an0) ?_; intro X2 gx2 bx2 sx2; have S0 := (show Hid True from trivial); clear hx A0)
          | (have hx := T0; refine wpList_ldAt rfl _ _ rfl w6.heap.size 0 rfl _ hl0 ?_)
          | (have hx := T0; go_at_call 18; refine DO0.out.mono ?_; rintro e X1 ⟨⟨u1, u2, u3, u4, hone, rfl⟩, hVX⟩; have VX := (show Hid (Dv w2 w12 G pb (k5 + (2 + d.length)) (Wy τ x y d 1) X1) from hVX); have A0 := (show Hid True from trivial); clear hx T0 hVX))
        go_meet
        case rel => exact BY.out
    · clear PP GS NQ
      go_wp2_with fail
      go_meet
      case rel => exact B12.out
  case rest =>
  obtain ⟨w13, hw13⟩ : ∃ w13, w13 = wc := ⟨_, rfl⟩
  rw [← hw13] at hcut ⊢
  have B13 := (show Hid (Below w2.heap.size w2 w13) from hcut.out)
  clear hw13 hcut PP GS NQ c7
  have G13 := (show Hid (GB w13 w.heap.size 71 KC) from G2.out.below B13.out)
  have LDB := (show Hid (Sr w13 qd (dirs.map bov) ∧ (dirs.map bov).length = nq ∧ nq ≤ 1048576) from ⟨(Bls.sr (fun i hi => by
    obtain ⟨b, o, e, hc⟩ := HK.out.bq i hi
    exact ⟨b, o, e, cell_below hc (bt B2.out B13.out)⟩)), by rw [List.length_map, HN.out.2.2], by have := HK.out.bn; have := HN.out.2.2; omega⟩)
  obtain ⟨_, _, _, _, _, _, c8⟩ := LDC.out w13 G13.out
  go_upto_region 30 with (first
    | (refine wpList_bsH (len := 0) (t := 27) (te := 4) (ps := #[]) (cs := #[]) rfl rfl (by simp) (bs0B w13) ?_; intro w14 hG14 hb14 hs14; replace c8 := cell_below c8 hb14)
    | (at_builtin; refine wpList_apS rfl (.tmp 191) (.tmp 194) 27 4 rfl Try.underlying27 infoB rfl w13.heap.size _ 0 [] rfl hG14.own0 qd nq cq (dirs.map bov) rfl (LDB.out.1.below hb14) LDB.out.2.1 (bov_one dirs) (by have := LDB.out.2.2; omega) (by decide) hb14.size ?_; intro v15 w15 ho15 hg15 hk15))
  rw [Nat.zero_add, List.nil_append] at ho15
  have B15 := (show Hid (Below w13.heap.size w13 w15) from grown_own hb14 hG14.own0 hg15 hb14.size)
  obtain ⟨p15, c15, rfl, hc15⟩ := own_form ho15
  have O15 := (show Hid (w15.ownsRow w13.heap.size 4 1 (.slice p15 nq c15) nq (dirs.map bov)) from ho15)
  obtain ⟨m, hm⟩ : ∃ m, m = τ.pend.length := ⟨_, rfl⟩
  rw [← hm]
  have HMm := (show Hid (m = τ.pend.length ∧ m ≤ 134217728) from ⟨hm, by have := OK.out.1.sp; have := KZ.out.1; omega⟩)
  clear hG14 hb14 hs14 c8 hg15 hk15 ho15 hm
  go_upto_if 199 with fail
  go_cut [21] from 191 to 202 (fun v wx => ∃ (p1 : Option Addr) (n1 c1 : Nat), v = .slice p1 n1 c1 ∧ Hid (Bls wx p1 (dirs.take m) ∧ (dirs.take m).length = n1 ∧ Below w13.heap.size w13 wx))
  case first =>
    by_cases hmq : m < nq
    · have hi : (m : Int) < (nq : Int) := by omega
      have hmc : (m : Int) ≤ (c15 : Int) := by omega
      have hmc2 : m ≤ c15 := by omega
      go_wp2_with fail
      go_meet
      case rel => exact ⟨p15, m, c15, rfl, ⟨own_bls O15.out HN.out.2.2.symm m, by rw [List.length_take]; have := HN.out.2.2; omega, B15.out⟩⟩
    · have hi : ¬ (m : Int) < (nq : Int) := by omega
      go_wp2_with fail
      go_meet
      case rel => exact ⟨p15, nq, c15, rfl, ⟨own_bls O15.out HN.out.2.2.symm m, by rw [List.length_take]; have := HN.out.2.2; omega, B15.out⟩⟩
  case rest =>
  obtain ⟨p1, n1, c1, rfl, hcr⟩ := hcut
  obtain ⟨w16, hw16⟩ : ∃ w16, w16 = wc := ⟨_, rfl⟩
  rw [← hw16] at hcr ⊢
  have D16 := (show Hid (Bls w16 p1 (dirs.take m) ∧ (dirs.take m).length = n1 ∧ Below w13.heap.size w13 w16) from hcr.out)
  have B16 := (show Hid (Below w2.heap.size w2 w16) from bt B13.out D16.out.2.2)
  clear hw16 hcr O15 B15 LDB hc15
  have G16 := (show Hid (GB w16 w.heap.size 71 KC) from G2.out.below B16.out)
  have A16 := (show Hid (AcsAt w16 pa LA) from AA.out.below B16.out)
  have hna9 : na ≤ 134217728 := KZ.out.2
  have DZ := (show Hid (∀ k, k ≤ na → dsz (LA.take k) ≤ 4194304) from fun k hk => by
    have h1 := dsz_aesz (LA.take k)
    have h2 := aesz_le LA k
    have h3 := HK.out.az
    omega)
  go_wp2_with fail
  go_loopw [22, 23] (fun a i wr => ∃ k : Nat, k ≤ na ∧ i = .int .i64 (k : Int) ∧ a = .int .i64 ((dsz (LA.take k) : Nat) : Int) ∧ Hid (Below w16.heap.size w16 wr)) (fun _ i _ => na - (intOf i).toNat)
  case atStart => exact ⟨0, Nat.zero_le _, rfl, rfl, Below.refl _ _⟩
  case round =>
    obtain ⟨k, hk, rfl, rfl, hB⟩ := hrel
    obtain ⟨_, c3, _⟩ := LDC.out wr (G16.out.below hB.out)
    by_cases hlt : k < na
    · have hi : (k : Int) < (na : Int) := by omega
      have hkl : k < LA.length := by have := HN.out.1; omega
      obtain ⟨b, o, hp, hS, hAc⟩ := A16.out.below hB.out k hkl
      obtain ⟨a, ha⟩ : ∃ a, a = LA[k] := ⟨_, rfl⟩
      have s4 : wr.cell? ⟨b, o + k * 7 + 4, none⟩ = some (.slice a.2.1.pd a.2.1.nd a.2.1.cd) := by rw [ha]; exact hS.c.2.2.2.2.1
      have hnd' : a.2.2.d.length = a.2.1.nd := by rw [ha]; exact hAc.dl
      have hsu : dsz (LA.take (k + 1)) = dsz (LA.take k) + a.2.2.d.length := by rw [ha]; exact dsz_succ LA k hkl
      clear ha
      have hz1 := DZ.out (k + 1) (by omega)
      rw [hnd'] at hsu
      obtain ⟨ds, hds⟩ : ∃ ds, ds = dsz (LA.take k) := ⟨_, rfl⟩
      rw [← hds] at hsu ⊢
      rw [hsu] at hz1
      generalize a.2.1.nd = sn at *
      have HSU := (show Hid (dsz (LA.take (k + 1)) = ds + sn) from hsu)
      subst hp
      clear hS hAc hnd' hsu hds hkl
      go_wp2_with fail
      go_roundw
      case rel => exact ⟨k + 1, by omega, by go_num, by rw [HSU.out]; simp, hB⟩
      case measure => simp [intOf]; omega
    · obtain rfl : k = na := by omega
      have hi : ¬ (k : Int) < (k : Int) := by omega
      obtain ⟨mo, hmo⟩ : ∃ mo, mo = dsz (LA.take k) := ⟨_, rfl⟩
      rw [← hmo]
      have HMO := (show Hid (mo = dsz LA ∧ mo ≤ 4194304) from by
        have h9 := DZ.out k (Nat.le_refl _)
        rw [← hmo] at h9
        rw [List.take_of_length_le (by rw [HN.out.1]; exact Nat.le_refl _)] at hmo
        exact ⟨hmo, h9⟩)
      have hK9 : K0 ≤ mo := by have := HK0.out.2.1; have := HMO.out.1; omega
      have hmo9 : mo ≤ 4194304 := HMO.out.2
      clear hmo DZ
      go_wp2_with fail
      have B17 := (show Hid (Below w2.heap.size w2 wr) from bt B16.out hB.out)
      have BL0 := (show Hid (Bls wr p1 (dirs.take m)) from fun i hi => by
        obtain ⟨b, o, e, hc⟩ := D16.out.1 i hi
        exact ⟨b, o, e, cell_below hc hB.out⟩)
      obtain ⟨w17, hw17⟩ : ∃ w17, w17 = wr := ⟨_, rfl⟩
      rw [← hw17] at B17 BL0 ⊢
      clear hw17 c3
      have MQ := (show Hid (∀ X, Below w.heap.size w X → Calls Try.prog 9 #[.agg (stC how room (.slice p n c))] X fun e w' => ∃ qb, e = .returned (.tuple #[.pointer (some ⟨qb, 0, none⟩), .bool true]) ∧ Hid (∃ Fq, DrAt w' qb σ Fq ∧ ∀ b, Fq b → X.heap.size ≤ b) ∧ Below X.heap.size X w') from fun X hb => (MA.out X hb).mono (by
        rintro e w' ⟨pt, rfl, hM, hb'⟩
        rcases hM with ⟨h0, _⟩ | ⟨σ', qb, Fq, hs, rfl, hD, hF⟩
        · rw [HS.out] at h0; cases h0
        · rw [HS.out] at hs
          injection hs with hs
          subst hs
          exact ⟨qb, rfl, ⟨Fq, hD, hF⟩, hb'⟩))
      have PQ := (show Hid (∀ X X1 qb, Below w2.heap.size w2 X → Below X.heap.size X X1 → (∃ Fq, DrAt X1 qb σ Fq ∧ ∀ b, Fq b → X.heap.size ≤ b) → Calls Try.prog 11 #[.pointer (some ⟨qb, 0, none⟩), .slice pa k ca] X1 fun e w' => (∃ r, e = .returned r) ∧ Hid (∃ Fq, DrAt w' qb τ Fq ∧ ∀ b, Fq b → X.heap.size ≤ b) ∧ Below X.heap.size X w') from fun X X1 qb hX h1 hq => by
        obtain ⟨Fq, hD, hF⟩ := hq
        refine (played_gen LA pa k ca HN.out.1.symm (AA.out.below hX) (Dv.start hD OK0.out hF h1) (by have := KZ.out.1; have := HT.out.2; omega) hna9).mono ?_
        rintro e w' ⟨h2, h3⟩
        rw [← HT.out.1] at h3
        obtain ⟨F', h4, h5⟩ := h3.ex
        exact ⟨h2, ⟨F', h4, h3.f0 h5⟩, h3.bl⟩)
      go_loopw [24, 25, 26, 27, 28, 29, 30] (fun i a b c' d' e' f' wr => ∃ z : Nat, z ≤ K0 ∧ i = .int .i64 (z : Int) ∧ Hid (Below w17.heap.size w17 wr)) (fun i _ _ _ _ _ _ _ => K0 + 1 - (intOf i).toNat)
      case atStart => exact ⟨0, Nat.zero_le _, rfl, Below.refl _ _⟩
      case round =>
        obtain ⟨z, hz, rfl, hBz⟩ := hrel
        have hi2 : (z : Int) ≤ (mo : Int) := by omega
        obtain ⟨wz, hwz⟩ : ∃ wz, wz = wr := ⟨_, rfl⟩
        rw [← hwz] at hBz ⊢
        clear hwz
        have Bz := (show Hid (Below w2.heap.size w2 wz) from bt B17.out hBz.out)
        have Gz := (show Hid (GB wz w.heap.size 71 KC) from G2.out.below Bz.out)
        have hst := LDS.out wz Gz.out
        obtain ⟨_, c3, _⟩ := LDC.out wz Gz.out
        go_upto_region 43 with (first
          | (refine wpList_ldAt rfl _ _ rfl w.heap.size 0 rfl _ hst ?_)
          | (go_at_call 9; refine (MQ.out wz (bt B2.out Bz.out)).mono ?_; rintro e y1 ⟨qb, rfl, hq1, by1⟩; replace c3 := cell_below c3 by1)
          | (go_at_call 11; refine (PQ.out wz y1 qb Bz.out by1 hq1.out).mono ?_; rintro e y2 ⟨⟨r2, rfl⟩, hq2, by2⟩))
        obtain ⟨Fq, hDq, hFq⟩ := hq2.out
        have Q2 := (show Hid (DrAt y2 qb τ Fq ∧ ∀ b, Fq b → wz.heap.size ≤ b) from ⟨hDq, hFq⟩)
        have By2 := (show Hid (Below wz.heap.size wz y2) from by2)
        clear hst c3 hq1 hq2 by1 by2 hDq hFq
        go_wp2_with fail
        have hN9 : n ≤ 134217728 := HK.out.fn
        go_loopw [27, 28] (fun v i wr => ∃ (j : Nat) (q : Option Addr) (cq' : Nat), j ≤ n + k + 1 ∧ i = .int .i64 (j : Int) ∧ v = .slice q j cq' ∧ Hid (wr.ownsRow y2.heap.size 3 1 v j ((List.replicate j (z : Int)).map inv6) ∧ Below y2.heap.size y2 wr)) (fun _ i _ => n + k + 1 - (intOf i).toNat)
        case atStart => exact ⟨0, none, 0, Nat.zero_le _, rfl, rfl, ⟨⟨rfl, .inl ⟨rfl, rfl⟩⟩, Below.refl _ _⟩⟩
        case round =>
          obtain ⟨j, q, cq', hj, rfl, rfl, hO⟩ := hrel
          have BJ := (show Hid (Below wz.heap.size wz wr) from bt By2.out hO.out.2)
          obtain ⟨c2, c3, _⟩ := LDC.out wr (Gz.out.below BJ.out)
          by_cases hlt : j < n + k + 1
          · have hi3 : (j : Int) < (n : Int) + (k : Int) + 1 := by omega
            have O1 := (show Hid ((wr.alloc (.cells #[.int .i64 (z : Int)] 3)).ownsRow y2.heap.size 3 1 (.slice q j cq') j ((List.replicate j (z : Int)).map inv6)) from own_below hO.out.1 (alb _ _))
            go_wp2_with (at_builtin; refine wpList_apS rfl (.tmp 247) (.tmp 249) 28 3 rfl Try.underlying28 infoI rfl y2.heap.size (.slice q j cq') j ((List.replicate j (z : Int)).map inv6) rfl O1.out (some ⟨wr.heap.size, 0, none⟩) 1 1 [.int .i64 (z : Int)] rfl (sr_new wr [.int .i64 (z : Int)] _) rfl (by intro u hu; simp at hu; subst hu; rfl) (by omega) (by decide) (Nat.le_trans hO.out.2.size (alb _ _).size) ?_; intro v2 w2' ho2 hg2 hk2)
            obtain ⟨pz, cz, rfl, _⟩ := own_form ho2
            go_roundw
            case rel =>
              refine ⟨j + 1, pz, cz, by omega, by go_num, rfl, ⟨?_, grown_own (bt hO.out.2 (alb _ _)) O1.out hg2 (Nat.le_trans hO.out.2.size (alb _ _).size)⟩⟩
              have e9 : (List.replicate j (z : Int)).map inv6 ++ [.int .i64 (z : Int)] = (List.replicate (j + 1) (z : Int)).map inv6 := by rw [List.replicate_succ', List.map_append]; rfl
              rw [e9] at ho2
              exact ho2
            case measure => simp [intOf]; omega
          · have hi3 : ¬ (j : Int) < (n : Int) + (k : Int) + 1 := by omega
            have HNN := (show Hid (j = n + k + 1 ∧ j ≤ 1000000000) from ⟨by omega, by omega⟩)
            have CRQ := (show Hid (Calls Try.prog 20 #[.pointer (some ⟨qb, 0, none⟩), .agg #[.slice p1 n1 c1, .slice q j cq']] wr fun e w' => e = .returned (.int .i64 0) ∧ Dv wz wr Fq qb k5 (τ.crash (dirs.take m) (List.replicate j (z : Int))) w') from by
              have h9 := (Dv.start (Q2.out.1.below hO.out.2) OK.out.1 Q2.out.2 BJ.out).crash (by have := KZ.out.1; omega) p1 n1 c1 (dirs.take m) D16.out.2.1 (fun i hi => by
                obtain ⟨b, o, e, hc⟩ := BL0.out i hi
                exact ⟨b, o, e, cell_below hc (bt hBz.out BJ.out)⟩) q j cq' (List.replicate j (z : Int)) (by simp) (own_ils hO.out.1 (by simp)) (by have h8 := D16.out.2.1; rw [List.length_take] at h8; have := HK.out.bn; omega) HNN.out.2 (fun _ b o e => by
                have h7 := own_base hO.out.1 e
                exact ⟨h7.2, fun hb => by have := Q2.out.1.2.1 b hb; omega⟩)
              unfold ftC at h9
              exact h9)
            obtain ⟨ρq, hρq⟩ : ∃ ρq, ρq = τ.crash (dirs.take m) (List.replicate j (z : Int)) := ⟨_, rfl⟩
            obtain ⟨cw, hcw⟩ : ∃ cw, cw = cnt (tol ρq (·.data) ρq.st) y := ⟨_, rfl⟩
            have EQ := (show Hid (z = K0 → cw = cv) from fun h => by
              rw [hcw, hρq, HMm.out.1, cnt_q OK.out.2 LO.out.2.2 dirs _ y]
              refine HK0.out.2.2 _ (fun j' hj' => ?_)
              have h8 := nms_few LO.out.2.1 LO.out.2.2 dirs
              rw [getD_rep _ _ _ (by have := HNN.out.1; omega), h])
            have CTQ := (show Hid (∀ X b v, Okk k5 ρq → FsAt X b v (tol ρq (·.data) ρq.st) → Calls Try.prog 31 #[v, encStr y] X fun e w' => e = .returned (.tuple #[encStr (cw.getD []), .bool cw.isSome]) ∧ Below X.heap.size X w') from fun X b v ok h => by
              rw [hcw]
              refine content_any h ?_ y
              have h1 := ok.ss
              have h2 := KZ.out.1
              rw [size_nms ok.ts] at h1
              rw [tol_len]; omega)
            rw [← hρq] at CRQ
            clear hρq hcw hj hlt
            go_upto_region 49 with (first
              | (go_at_call 20; refine CRQ.out.mono ?_; rintro e x4 ⟨rfl, hVq⟩; have VQ := (show Hid (Dv wz wr Fq qb k5 ρq x4) from hVq); clear hVq)
              | (go_at_call 12; refine (lnum_any _ _).mono ?_; rintro e wq ⟨rfl, h9⟩; obtain rfl := h9.symm))
            clear c3 CRQ
            have Bx4 := (show Hid (Below w17.heap.size w17 x4) from bt hBz.out VQ.out.bl)
            have KS := (show Hid (x4.drew.cell? ⟨w.heap.size, 5, none⟩ = some (encStr y)) from (LDC.out x4 (Gz.out.below VQ.out.bl)).2.2.2.1)
            go_region_held3 (fun X => X.cell? ⟨w.heap.size, 5, none⟩ = some (encStr y)) (first | exact KS.out | exact KT.out | exact KU.out)
              (first
                | (go_at_call 24; refine ((VQ.out.below (Below.refl _ x4).drew).image (by have := KZ.out.1; omega)).mono ?_; rintro e x5 ⟨v5, rfl, f5, hb5⟩; have KT := (show Hid (x5.cell? ⟨w.heap.size, 5, none⟩ = some (encStr y)) from cell_below KS.out hb5))
                | (go_at_call 31; refine (CTQ.out _ _ _ VQ.out.ok f5).mono ?_; rintro e x6 ⟨rfl, hb6⟩; have KU := (show Hid (x6.cell? ⟨w.heap.size, 5, none⟩ = some (encStr y)) from cell_below KT.out hb6)))
            have Bx6 := (show Hid (Below w17.heap.size w17 x6) from bt Bx4.out (bt (bt (Below.refl _ x4).drew hb5) hb6))
            clear KS KT KU f5 hb5 hb6
            by_cases hq : cw = cv
            · have e1 : (cw.getD [] == cv.getD []) = true := by rw [hq]; simp
              have e2 : (cw.isSome == cv.isSome) = true := by rw [hq]; simp
              clear hq EQ CTQ
              generalize cw.getD [] = ca1 at *
              generalize cv.getD [] = ca2 at *
              go_wp2_with fail
              go_ret
              exact ⟨rfl, bt (bt B2.out B17.out) Bx6.out⟩
            · have hzk : z + 1 ≤ K0 := by
                rcases Nat.lt_or_ge z K0 with h9 | h9
                · exact h9
                · exact absurd (EQ.out (by omega)) hq
              by_cases hg : cw.getD [] = cv.getD []
              · have e1 : (cw.getD [] == cv.getD []) = true := by rw [hg]; simp
                have e2 : (cw.isSome == cv.isSome) = false := by
                  rcases opt_ne hq with h9 | h9
                  · exact absurd hg h9
                  · simpa using h9
                clear hq EQ CTQ hg
                go_wp2_with fail
                go_roundw
                case rel => exact ⟨z + 1, by omega, by go_num, Bx6⟩
                case measure => simp [intOf]; omega
              · have e1 : (cw.getD [] == cv.getD []) = false := by simpa using hg
                clear hq EQ CTQ hg
                go_wp2_with fail
                go_roundw
                case rel => exact ⟨z + 1, by omega, by go_num, Bx6⟩
                case measure => simp [intOf]; omega
end
end Go.Proofs.Ytbkndoamcnfbjaa
