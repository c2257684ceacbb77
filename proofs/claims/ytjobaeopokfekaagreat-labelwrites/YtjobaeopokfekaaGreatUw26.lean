/-
  LabelWrites: the walk.
-/
import Derived.Test.YtjobaeopokfekaaGreatPw26
import Derived.Deep.DeepCutAuto
namespace Go.Proofs.YtjobaeopokfekaaGreat
open Go.RowKit Go.Maps Go.Sort
theorem SnIn.below {w w' : World} {x : Stn} {xs : List (BitVec 8)} (h : SnIn w x xs) (hB : Below w.heap.size w w') : SnIn w' x xs := by
  obtain ⟨h1, h2, h3, h4, h5, fs, h6, h7⟩ := h
  refine ⟨h1, h2.below hB, h3, h4, h5, fs, h6, fun h0 => ?_⟩
  obtain ⟨b, o, e, g1, g2⟩ := h7 h0
  exact ⟨b, o, e, ftoUp g1 hB, Nat.lt_of_lt_of_le g2 hB.size⟩
theorem T2.callg {w0 : World} {bx : Nat} {x : Stn} {Ls : List (Nat × Lbl)} {wb db wc dc : Nat} {w : World} {g g1 g' : Gt} {P P1 P' : DataW Unit} {σ σ1 σ' : Ds} {f : Nat} {args : Array Value} {Q : Ending → World → Prop} (h : T2 w0 bx x Ls wb db wc dc w g P σ g' P' σ')
    (C : ∀ G, Wx w wb db g P σ G → (∀ b, G b → w0.heap.size ≤ b) → Calls Tryz.prog f args w fun e w' => Q e w' ∧ Wx w' wb db g1 P1 σ1 (Fn G w w') ∧ Tn G w w') : Calls Tryz.prog f args w fun e w' => Q e w' ∧ T2 w0 bx x Ls wb db wc dc w' g1 P1 σ1 g' P' σ' := by
  obtain ⟨G, H, h1, h2, h3, h4, h5, h6, h7⟩ := h
  refine (C G h1 (fun b hb => (h4 b (.inl hb)).1)).mono ?_
  rintro e w' ⟨q1, q2, q3⟩
  refine ⟨q1, Fn G w w', H, q2, h2.tn q3 (fun b hb hg => h3 b hg hb), fun b hb hH => ?_, fun b hb => ?_, h5.tn q3 (fun hG => (h4 bx (.inl hG)).2 rfl), fun q hq => ⟨(h6 q hq).1.tn q3 (h6 q hq).2.1, fun hF => ?_, (h6 q hq).2.2⟩, tn_below h7 q3 (fun b hb => (h4 b (.inl hb)).1)⟩
  · rcases hb with hb | hb
    · exact h3 b hb hH
    · have := h2.2.1 b hH; omega
  · rcases hb with (hb | hb) | hb
    · exact h4 b (.inl hb)
    · have := h7.size; have := h5.lt; exact ⟨by omega, by omega⟩
    · exact h4 b (.inr hb)
  · rcases hF with hF | hF
    · exact (h6 q hq).2.1 hF
    · have := (h6 q hq).1.lt; omega
theorem lkw_okS {k : Nat} {g : Gt} {P : DataW Unit} {σ : Ds} {l : Lbl} (h : Okk k σ) (hk : k ≤ 134210000) : Okk (k + 41) (lkw g P σ l).2.2 := by
  unfold lkw
  split
  · exact (kwrite_ok h (by rw [us_len, l.fm_len]; omega)).mono (by rw [us_len, l.fm_len]; omega)
  · exact h.mono (by omega)
section
attribute [local irreducible] Calls el Lbl.cs cmo rg smL ar8 Stn.cs
theorem t_lwrite {w0 w : World} {bx k : Nat} {x : Stn} {Ls : List (Nat × Lbl)} {wb db wc dc : Nat} {g g' : Gt} {P P' : DataW Unit} {σ σ' : Ds} (h : T2 w0 bx x Ls wb db wc dc w g P σ g' P' σ') (gk : ∀ g1, Gs 5 g g1 → Gok g1) (ok : Okk k σ) (hk : k ≤ 134216000) (l : Lbl) (hi : l.In) :
    Calls Tryz.prog 16 #[.iface 33 (.pointer (some ⟨wb, 0, none⟩)), .agg l.cs] w fun e w' => e = .returned (.int .i64 (lkw g P σ l).1) ∧ T2 w0 bx x Ls wb db wc dc w' (lkw g P σ l).2.1 P (lkw g P σ l).2.2 g' P' σ' :=
  h.call (fun _ hW => lwrite_wx hW gk ok hk l hi)
theorem t_awrite {w0 w : World} {bx k : Nat} {x : Stn} {Ls : List (Nat × Lbl)} {wb db wc dc base : Nat} {g g' : Gt} {P P' : DataW Unit} {σ σ' : Ds} {v : Value} (h : T2 w0 bx x Ls wb db wc dc w g P σ g' P' σ') (gk : ∀ g1, Gs 5 g' g1 → Gok g1) (ok : Okk k σ') (hk : k ≤ 134216000) (l : Lbl) (hv : Ow w0 base v l.fm) :
    Calls Tryz.prog 17 #[.iface 33 (.pointer (some ⟨wc, 0, none⟩)), encStr [108], v] w fun e w' => e = .returned (.int .i64 (kwrite g' P' σ' [108] (us l.fm)).1) ∧ T2 w0 bx x Ls wb db wc dc w' g P σ (kwrite g' P' σ' [108] (us l.fm)).2.1 P' (kwrite g' P' σ' [108] (us l.fm)).2.2 := by
  obtain ⟨b, c, rfl, hc, hg, hl, hr⟩ := ow31 hv l.fm_len
  have hB := h.bel
  exact (h.swap.callg (fun G hW hG => awrite_wx hW gk ok [108] (by decide) b 0 31 c (us l.fm) (hr.below hB).rx (fun hF => by have := hG b hF; omega) (Nat.lt_of_lt_of_le hl hB.size) (by rw [us_len, l.fm_len]) (by omega))).mono (fun _ _ ⟨q1, q2⟩ => ⟨q1, q2.swap⟩)
set_option maxHeartbeats 8000000 in
set_option maxRecDepth 1000000 in
theorem labelWrites_walk {w : World} (x : Stn) (xs : List (BitVec 8)) (ti : SnIn w x xs) :
    Calls Tryz.prog 4 #[.agg x.cs] w fun e w' => e = .returned (.bool true) ∧ Below w.heap.size w w' := by
  have KN := (show Hid _ from fun w => known_any w)
  obtain ⟨W0, hW0⟩ : ∃ W0, W0 = w.alloc (.cells x.cs 30) := ⟨_, rfl⟩
  have HA := (show Hid (SnAt W0 w.heap.size x) from by rw [hW0]; exact SnAt.new w x)
  have HB := (show Hid (Below w.heap.size w W0) from by rw [hW0]; exact (Below.refl _ w).alloc (Nat.le_refl _) _)
  have HW := (show Hid (W0 = w.alloc (.cells x.cs 30)) from hW0)
  have TI := (show Hid (SnIn w x xs) from ti)
  have c1 := HA.out.cell.2.1
  rw [hW0] at c1
  clear ti hW0
  by_cases hbig : 1048545 < x.nd
  · have hi : (1048545 : Int) < (x.nd : Int) := by omega
    have hi2 : decide ((1048545 : Int) < (x.nd : Int)) = true := decide_eq_true hi
    clear hbig
    go_enter Tryz.func4, Tryz.ntmps4
    go_wp2_with (fail)
    go_ret
    exact ⟨rfl, by rw [← HW.out]; exact HB.out⟩
  · have hi : ¬ (1048545 : Int) < (x.nd : Int) := by omega
    have hi2 : decide ((1048545 : Int) < (x.nd : Int)) = false := decide_eq_false hi
    obtain ⟨σ, hσ⟩ := stL_load x xs
    have OK := (show Hid (Okk (1 + xs.length) σ ∧ xs.length ≤ 1048576) from ⟨(load_okk hσ).1.mono (stL_fsz x xs), by rw [TI.out.nx]; omega⟩)
    have LO := (show Hid (∀ (W : World), Below w.heap.size w W → _) from fun (W : World) (hb : Below w.heap.size w W) => loaded_any x xs (TI.out.rd.below hb) TI.out.nx (by omega) σ hσ)
    have EN := (show Hid _ from fun w => rencode_any x.l TI.out.li w)
    clear hbig hσ
    go_enter Tryz.func4, Tryz.ntmps4
    go_upto_if 12 with fail
    rw [← HW.out]
    clear c1
    go_upto_region 4 with (first
      | (refine wpList_ldV rfl 27 _ rfl ⟨w.heap.size, 2, none⟩ x.l.cs rfl HA.out.label ?_)
      | (go_at_call 15; refine (EN.out _).mono ?_; rintro e w1 ⟨v1, rfl, ho1, hb1⟩; have O1 := (show Hid (Ow w1 W0.heap.size v1 x.l.enc) from ho1); have B1 := (show Hid (Below w.heap.size w w1) from bt HB.out hb1); have A1 := (show Hid (SnAt w1 w.heap.size x) from HA.out.below hb1); clear ho1 hb1 EN))
    obtain ⟨P1, hAR⟩ := t_arm (bx := w.heap.size) (TI.out.below B1.out)
    have AR := (show Hid (∀ (Ls : List (Nat × Lbl)) (wb db wc dc : Nat) (W : World) (g : Gt) (P : DataW Unit) (σ : Ds) (g' : Gt) (P' : DataW Unit) (σ' : Ds), T2 w1 w.heap.size x Ls wb db wc dc W g P σ g' P' σ' → _) from hAR)
    clear hAR HA HB HW
    have m0 : Hid (0 = 0) := rfl
    go_upto_if 39 with (first
      | (revert m0; intro m0; refine wpList_ldV rfl 30 _ rfl ⟨w.heap.size, 0, none⟩ x.cs rfl A1.out.run ?_)
      | (revert m0; intro m0; go_at_call 5; refine (LO.out _ B1.out).mono ?_; rintro e w2 ⟨db, rfl, hD1, hb1⟩; have D1 := (show Hid (DrAt w2 db σ (fun b => w1.heap.size ≤ b ∧ b < w2.heap.size) ∧ Below w1.heap.size w1 w2) from ⟨hD1, hb1⟩); clear hD1 hb1)
      | (revert m0; intro m0; go_at_call 6; refine (wnew_any _ _).mono ?_; rintro e w3 ⟨rfl, hw2⟩; have E2 := (show Hid (w3 = w2.alloc (.cells #[.pointer (some ⟨db, 0, none⟩), .bool false, .bool false, .map none, .int .i64 0, .int .i64 0, .bool false, .int .i64 0, .int .i64 0, .int .i64 0] 50)) from hw2); have B2 := (show Hid (Below w1.heap.size w1 w3) from bt D1.out.2 (by rw [hw2]; exact (Below.refl _ _).alloc (Nat.le_refl _) _)); clear hw2 m0; have m1 : Hid (0 = 0) := rfl)
      | (revert m1; intro m1; refine wpList_ldV rfl 30 _ rfl ⟨w.heap.size, 0, none⟩ x.cs rfl (A1.out.below B2.out).run ?_)
      | (revert m1; intro m1; go_at_call 5; refine (LO.out _ (bt B1.out B2.out)).mono ?_; rintro e w4 ⟨dc, rfl, hD3, hb3⟩; have D3 := (show Hid (DrAt w4 dc σ (fun b => w3.heap.size ≤ b ∧ b < w4.heap.size) ∧ Below w3.heap.size w3 w4) from ⟨hD3, hb3⟩); clear hD3 hb3)
      | (revert m1; intro m1; go_at_call 6; refine (wnew_any _ _).mono ?_; rintro e w5 ⟨rfl, hw4⟩; have S0 := (show Hid (T2 w1 w.heap.size x [] w2.heap.size db w4.heap.size dc w5 g0 (.map []) σ g0 (.map []) σ) from two_start A1.out (Below.refl _ _) D1.out.1 D1.out.2 E2.out D3.out.1 D3.out.2 hw4); clear hw4 m1)
      | (go_at_call 7; refine (KN.out _).mono ?_; rintro e w6 ⟨rfl, hb5⟩; have S1 := (show Hid (T2 w1 w.heap.size x [] w2.heap.size db w4.heap.size dc w6 g0 (.map []) σ g0 (.map []) σ) from S0.out.below hb5); clear hb5 S0))
    obtain ⟨bw, hbw⟩ : ∃ bw, bw = w2.heap.size := ⟨_, rfl⟩
    obtain ⟨bt3, hbt⟩ : ∃ bt3, bt3 = w4.heap.size := ⟨_, rfl⟩
    rw [← hbw, ← hbt] at S1 ⊢
    have hk9 : 1 + xs.length ≤ 134210000 := by have := OK.out.2; omega
    have WR := (show Hid (∀ (W : World), T2 w1 w.heap.size x [] bw db bt3 dc W (gO x.aw) P1 σ (gO x.aw) P1 σ → _) from fun (W : World) (h : T2 w1 w.heap.size x [] bw db bt3 dc W (gO x.aw) P1 σ (gO x.aw) P1 σ) => t_lwrite h (gO_gok x.aw) OK.out.1 (by omega) x.l TI.out.li)
    have OK2 := (show Hid (Okk (1 + xs.length + 41) (lkw (gO x.aw) P1 σ x.l).2.2) from lkw_okS OK.out.1 hk9)
    have KO := (show Hid (x.l.ck ≠ 0 → lkw (gO x.aw) P1 σ x.l = (x.l.ck, (gO x.aw, σ))) from fun h => by unfold lkw; rw [if_neg h])
    have AW := (show Hid (x.l.ck = 0 → ∀ (W : World) (g1 : Gt) (σ1 : Ds), T2 w1 w.heap.size x [] bw db bt3 dc W g1 P1 σ1 (gO x.aw) P1 σ → Calls Tryz.prog 17 #[.iface 33 (.pointer (some ⟨bt3, 0, none⟩)), encStr [108], v1] W fun e w' => e = .returned (.int .i64 (lkw (gO x.aw) P1 σ x.l).1) ∧ T2 w1 w.heap.size x [] bw db bt3 dc w' g1 P1 σ1 (lkw (gO x.aw) P1 σ x.l).2.1 P1 (lkw (gO x.aw) P1 σ x.l).2.2) from fun h0 W g1 σ1 h => by
      unfold lkw
      rw [if_pos h0]
      have ho := O1.out
      unfold Lbl.enc at ho
      rw [if_pos h0] at ho
      exact t_awrite h (gO_gok x.aw) OK.out.1 (by omega) x.l ho)
    generalize lkw (gO x.aw) P1 σ x.l = lr at WR OK2 KO AW
    obtain ⟨le, g9, σ9⟩ := lr
    dsimp only at WR OK2 KO AW
    obtain ⟨kc, hkc⟩ : ∃ kc, kc = x.l.ck := ⟨_, rfl⟩
    rw [← hkc] at KO AW ⊢
    clear LO KN D1 D3 B2 E2 A1 O1 hbw hbt hk9 hkc TI
    have c15 := S1.out.sn.cell.2.2.1
    have c16 := S1.out.sn.cell.2.2.2
    go_upto_if 62 with (first
      | (revert S1; intro S1; go_at_call 8; refine (AR.out _ _ _ _ _ _ _ _ _ _ _ _ S1.out).mono ?_; rintro e w7 ⟨⟨v6, rfl⟩, hS⟩; have S2 := (show Hid (T2 w1 w.heap.size x [] bw db bt3 dc w7 g0 P1 σ g0 (.map []) σ) from hS); clear hS S1 c15 c16; have c15 := S2.out.sn.cell.2.2.1)
      | (revert S2; intro S2; go_at_call 8; refine (AR.out _ _ _ _ _ _ _ _ _ _ _ _ S2.out.swap).mono ?_; rintro e w8 ⟨⟨v7, rfl⟩, hS⟩; have S3 := (show Hid (T2 w1 w.heap.size x [] bw db bt3 dc w8 g0 P1 σ g0 P1 σ) from hS.swap); clear hS S2 c15; have c16 := S3.out.sn.cell.2.2.2)
      | (revert S3; intro S3; go_at_call 9; refine (t_off S3.out x.aw).mono ?_; rintro e w9 ⟨⟨v8, rfl⟩, hS⟩; have S4 := (show Hid (T2 w1 w.heap.size x [] bw db bt3 dc w9 (gO x.aw) P1 σ g0 P1 σ) from hS); clear hS S3 c16; have c16 := S4.out.sn.cell.2.2.2)
      | (revert S4; intro S4; go_at_call 9; refine (t_off S4.out.swap x.aw).mono ?_; rintro e w10 ⟨⟨v9, rfl⟩, hS⟩; have S5 := (show Hid (T2 w1 w.heap.size x [] bw db bt3 dc w10 (gO x.aw) P1 σ (gO x.aw) P1 σ) from hS.swap); clear hS S4 c16)
      | (refine wpList_ldV rfl 27 _ rfl ⟨w.heap.size, 2, none⟩ x.l.cs rfl S5.out.sn.label ?_)
      | (go_at_call 16; refine (WR.out _ S5.out).mono ?_; rintro e w11 ⟨rfl, hS⟩; have S6 := (show Hid (T2 w1 w.heap.size x [] bw db bt3 dc w11 g9 P1 σ9 (gO x.aw) P1 σ) from hS); clear hS S5 WR))
    have LE : ((le : Int) == le) = true := by simp
    go_cut [4] from 61 to 66 (fun v wx => v = .int .i64 le ∧ Hid (T2 w1 w.heap.size x [] bw db bt3 dc wx g9 P1 σ9 g9 P1 σ9))
    case first =>
      by_cases hf : kc = 0
      · have hf2 : ((kc : Int) == 0) = true := by simpa using hf
        have A2 := (show Hid _ from AW.out hf)
        clear AW KO hf
        go_wp2_with (go_at_call 17; refine (A2.out _ _ _ S6.out).mono ?_; rintro e w12 ⟨rfl, hS⟩; have HC := (show Hid (T2 w1 w.heap.size x [] bw db bt3 dc w12 g9 P1 σ9 g9 P1 σ9) from hS); clear hS)
        go_meet
        case rel => exact ⟨rfl, HC.out⟩
      · have hf2 : ((kc : Int) == 0) = false := by simpa using hf
        have hv := KO.out hf
        injection hv with hv1 hv2
        injection hv2 with hv2 hv3
        subst hv1 hv2 hv3
        clear AW KO hf
        go_wp2_with (fail)
        go_meet
        case rel => exact ⟨rfl, S6.out⟩
    case rest =>
    obtain ⟨rfl, hcut⟩ := hcut
    obtain ⟨y1, hy1⟩ : ∃ y1, y1 = wc := ⟨_, rfl⟩
    rw [← hy1] at hcut ⊢
    have S9 := (show Hid (T2 w1 w.heap.size x [] bw db bt3 dc y1 g9 P1 σ9 g9 P1 σ9) from hcut.out)
    clear hcut hy1 S6 AW KO
    go_wp2_with (first
      | (revert S9; intro S9; go_at_call 13; refine (t_calls S9.out).mono ?_; rintro e w15 ⟨rfl, hS⟩; have SA := (show Hid (T2 w1 w.heap.size x [] bw db bt3 dc w15 g9 P1 σ9 g9 P1 σ9) from hS); clear hS S9)
      | (revert SA; intro SA; go_at_call 13; refine (t_calls SA.out.swap).mono ?_; rintro e w16 ⟨rfl, hS⟩; have SB := (show Hid (T2 w1 w.heap.size x [] bw db bt3 dc w16 g9 P1 σ9 g9 P1 σ9) from hS.swap); clear hS SA; have cP := SB.out.drs.2.2)
      | (go_at_call 14; refine (level_same SB.out.drs.1.choose_spec SB.out.drs.2.1.choose_spec OK2.out (by have := OK.out.2; omega)).mono ?_; rintro e w17 ⟨rfl, hB⟩; have BZ := (show Hid (Below w.heap.size w w17) from bt (B1.out.trans (SB.out.bel.mono B1.out.size)) hB); clear hB))
    go_ret
    exact ⟨rfl, BZ.out⟩
end
end Go.Proofs.YtjobaeopokfekaaGreat
