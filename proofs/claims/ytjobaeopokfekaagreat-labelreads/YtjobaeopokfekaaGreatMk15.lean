/-
  'known': what every right program says first.
-/
import Derived.Test.YtjobaeopokfekaaGreatLz15
import Derived.BigQuiet
import Derived.Deep.RegionWith
namespace Go.Proofs.YtjobaeopokfekaaGreat
open Go.RowKit Go.Maps
theorem smp_cells {w : World} {g : Nat} (H : LbAt w g smp) : w.cell? ⟨g, 0, none⟩ = some (.int .u8 1) ∧ w.cell? ⟨g, 1, none⟩ = some (.int .u8 2) ∧ w.cell? ⟨g, 2, none⟩ = some (.int .u8 3) ∧ w.cell? ⟨g, 3, none⟩ = some (.int .u8 4) ∧ w.cell? ⟨g, 4, none⟩ = some (.int .u8 5) ∧ w.cell? ⟨g, 5, none⟩ = some (.int .u8 6) ∧ w.cell? ⟨g, 6, none⟩ = some (.int .u8 7) ∧ w.cell? ⟨g, 7, none⟩ = some (.int .u8 8)
    ∧ w.cell? ⟨g, 8, none⟩ = some (.int .i64 2) ∧ w.cell? ⟨g, 9, none⟩ = some (.int .i64 1) ∧ w.cell? ⟨g, 10, none⟩ = some (.int .i64 4) ∧ w.cell? ⟨g, 11, none⟩ = some (.int .i64 2) ∧ w.cell? ⟨g, 12, none⟩ = some (.int .i64 258) := by
  unfold LbAt at H
  have c := fun i => cell_of_row w g i _ _ (0, 0) H
  exact ⟨c 0, c 1, c 2, c 3, c 4, c 5, c 6, c 7, c 8, c 9, c 10, c 11, c 12⟩
theorem lb0_cells {w : World} {g : Nat} (H : LbAt w g lb0) : w.cell? ⟨g, 0, none⟩ = some (.int .u8 0) ∧ w.cell? ⟨g, 1, none⟩ = some (.int .u8 0) ∧ w.cell? ⟨g, 2, none⟩ = some (.int .u8 0) ∧ w.cell? ⟨g, 3, none⟩ = some (.int .u8 0) ∧ w.cell? ⟨g, 4, none⟩ = some (.int .u8 0) ∧ w.cell? ⟨g, 5, none⟩ = some (.int .u8 0) ∧ w.cell? ⟨g, 6, none⟩ = some (.int .u8 0) ∧ w.cell? ⟨g, 7, none⟩ = some (.int .u8 0)
    ∧ w.cell? ⟨g, 8, none⟩ = some (.int .i64 0) ∧ w.cell? ⟨g, 9, none⟩ = some (.int .i64 0) ∧ w.cell? ⟨g, 10, none⟩ = some (.int .i64 0) ∧ w.cell? ⟨g, 11, none⟩ = some (.int .i64 0) ∧ w.cell? ⟨g, 12, none⟩ = some (.int .i64 0) := by
  unfold LbAt at H
  have c := fun i => cell_of_row w g i _ _ (0, 0) H
  exact ⟨c 0, c 1, c 2, c 3, c 4, c 5, c 6, c 7, c 8, c 9, c 10, c 11, c 12⟩
theorem neq_smp (w : World) : (binOp .neq 27 (.agg #[.int .u8 1, .int .u8 2, .int .u8 3, .int .u8 4, .int .u8 5, .int .u8 6, .int .u8 7, .int .u8 8, .int .i64 2, .int .i64 1, .int .i64 4, .int .i64 2, .int .i64 258]) (.agg smp.cs)).run Tryz.prog w = .ok (.bool false) w := by
  have h := neq_lbl smp smp w
  rw [(lq_iff _ _).2 rfl] at h
  exact h
theorem eql_smp (w : World) : (binOp .eql 27 (.agg #[.int .u8 1, .int .u8 2, .int .u8 3, .int .u8 4, .int .u8 5, .int .u8 6, .int .u8 7, .int .u8 8, .int .i64 2, .int .i64 1, .int .i64 4, .int .i64 2, .int .i64 258]) (.agg smp.cs)).run Tryz.prog w = .ok (.bool true) w := by
  have h := eql_lbl smp smp w
  rw [(lq_iff _ _).2 rfl] at h
  exact h
theorem neq_lb0 (w : World) : (binOp .neq 27 (.agg #[.int .u8 0, .int .u8 0, .int .u8 0, .int .u8 0, .int .u8 0, .int .u8 0, .int .u8 0, .int .u8 0, .int .i64 0, .int .i64 0, .int .i64 0, .int .i64 0, .int .i64 0]) (.agg #[.int .u8 0, .int .u8 0, .int .u8 0, .int .u8 0, .int .u8 0, .int .u8 0, .int .u8 0, .int .u8 0, .int .i64 0, .int .i64 0, .int .i64 0, .int .i64 0, .int .i64 0])).run Tryz.prog w = .ok (.bool false) w := by
  have h := neq_lbl lb0 lb0 w
  rw [(lq_iff _ _).2 rfl] at h
  exact h
def wantC : Array Value := #[.int .u8 67, .int .u8 82, .int .u8 78, .int .u8 1, .int .u8 1, .int .u8 2, .int .u8 3, .int .u8 4, .int .u8 5, .int .u8 6, .int .u8 7, .int .u8 8, .int .u8 2, .int .u8 1, .int .u8 4, .int .u8 0, .int .u8 0, .int .u8 0, .int .u8 2, .int .u8 2, .int .u8 1, .int .u8 0, .int .u8 0, .int .u8 0, .int .u8 0, .int .u8 0, .int .u8 0]
theorem rd_want (W : World) : Rd (W.alloc (.cells #[.int .u8 67, .int .u8 82, .int .u8 78, .int .u8 1, .int .u8 1, .int .u8 2, .int .u8 3, .int .u8 4, .int .u8 5, .int .u8 6, .int .u8 7, .int .u8 8, .int .u8 2, .int .u8 1, .int .u8 4, .int .u8 0, .int .u8 0, .int .u8 0, .int .u8 2, .int .u8 2, .int .u8 1, .int .u8 0, .int .u8 0, .int .u8 0, .int .u8 0, .int .u8 0, .int .u8 0] 5)) (some ⟨W.heap.size, 0, none⟩) smp.fx := rd_newl W smp.fx _ (0, 0)
theorem tnb {w0 w w' : World} {G : Nat → Prop} (h : Below w0.heap.size w0 w) (hT : Tn G w w') (hG : ∀ b, G b → w0.heap.size ≤ b) : Below w0.heap.size w0 w' :=
  ⟨hT.os.trans h.os, hT.tape.trans h.tape, hT.output.trans h.output, Nat.le_trans h.size hT.size, fun k hk => (hT.block k (Nat.lt_of_lt_of_le hk h.size) (fun hg => Nat.lt_irrefl _ (Nat.lt_of_lt_of_le hk (hG k hg)))).trans (h.block k hk)⟩
section
attribute [local irreducible] Calls el Lbl.cs cmo rg smL ar8
set_option maxHeartbeats 8000000 in
set_option maxRecDepth 1000000 in
theorem known_any (w : World) : Calls Tryz.prog 7 #[] w fun e w' => e = .returned (.bool true) ∧ Below w.heap.size w w' := by
  have SA := (show Hid _ from fun w => sample_any w)
  have EN := (show Hid _ from fun w => lencode_any smp smp_in w)
  unfold Lbl.enc at EN
  rw [if_pos smp_ck, smp_ck] at EN
  have PA := (show Hid (∀ (W : World) (g c : Nat) (hr : Rd W (some ⟨g, 0, none⟩) smp.fm) (hc : 31 ≤ c), Calls Tryz.prog 22 #[.slice (some ⟨g, 0, none⟩) 31 c] W fun e w' => e = .returned (.tuple #[.agg smp.cs, .int .i64 0]) ∧ Below W.heap.size W w') from fun W g c hr hc => by
    have := lparse_any hr 31 c smp.fm_len hc
    rw [pL_fm smp smp_ok] at this
    exact this)
  have PB := (show Hid _ from fun (W : World) p c => lparse_len (w := W) p 30 c (by decide))
  have hbw : Below w.heap.size w w := Below.refl _ _
  go_enter Tryz.func7, Tryz.ntmps7
  go_wp2_with (first
    | (go_at_call 21; refine (SA.out _).mono ?_; rintro e w1 ⟨rfl, hb⟩; replace hbw := bt hbw hb)
    | (go_at_call 20; refine (EN.out _).mono ?_; rintro e w2 ⟨v2, rfl, ho2, hb⟩; obtain ⟨g2, c2, rfl, hc2, hg2, hl2, hr2⟩ := ow31 ho2 smp.fm_len; replace hbw := bt hbw hb))
  have rw3 := rd_want w2
  have ba := (Below.refl _ w2).alloc (Nat.le_refl _) (.cells #[.int .u8 67, .int .u8 82, .int .u8 78, .int .u8 1, .int .u8 1, .int .u8 2, .int .u8 3, .int .u8 4, .int .u8 5, .int .u8 6, .int .u8 7, .int .u8 8, .int .u8 2, .int .u8 1, .int .u8 4, .int .u8 0, .int .u8 0, .int .u8 0, .int .u8 2, .int .u8 2, .int .u8 1, .int .u8 0, .int .u8 0, .int .u8 0, .int .u8 0, .int .u8 0, .int .u8 0] 5)
  generalize w2.alloc (.cells #[.int .u8 67, .int .u8 82, .int .u8 78, .int .u8 1, .int .u8 1, .int .u8 2, .int .u8 3, .int .u8 4, .int .u8 5, .int .u8 6, .int .u8 7, .int .u8 8, .int .u8 2, .int .u8 1, .int .u8 4, .int .u8 0, .int .u8 0, .int .u8 0, .int .u8 2, .int .u8 2, .int .u8 1, .int .u8 0, .int .u8 0, .int .u8 0, .int .u8 0, .int .u8 0, .int .u8 0] 5) = w3 at rw3 ba ⊢
  have hr3 := hr2.below ba
  have hl3 := Nat.lt_of_lt_of_le hl2 ba.size
  replace hbw := bt hbw ba
  have e27 : smp.fm.take 27 = smp.fx := by rw [Lbl.fm, List.take_append_of_le_length (by rw [Lbl.fx_len]; exact Nat.le_refl _), List.take_of_length_le (by rw [Lbl.fx_len]; exact Nat.le_refl _)]
  have hrt := hr3.take 27
  rw [e27] at hrt
  have hd : Below w3.heap.size w3 w3.drew := (Below.refl _ _).drew
  have CV1 := conv_rd (hrt.below hd) 27 c2 smp.fx_len
  have CV2 := conv_rd (rw3.below hd) 27 27 smp.fx_len
  have SQ : ((bstr smp.fx).toList == (bstr smp.fx).toList) = true := by simp
  have i27 : (27 : Int) ≤ (c2 : Int) := by omega
  clear hrt rw3 ba hr2 hl2 ho2 hg2 e27
  have KS := (show Hid (_ ∧ _) from ⟨CV1, CV2⟩)
  go_region_held3 (fun X => (convert 22 9 (.slice (some ⟨g2, 0, none⟩) 27 c2)).run Tryz.prog X = .ok (.string (bstr smp.fx)) X ∧ (convert 22 9 (.slice (some ⟨w2.heap.size, 0, none⟩) 27 27)).run Tryz.prog X = .ok (.string (bstr smp.fx)) X) (first | exact KS.out | go_keep) (fail)
  clear KS CV1 CV2 SQ
  rename_i hHeld
  clear hHeld
  replace hbw := bt hbw hd
  have hr4 := hr3.below hd
  clear hr3 hl3
  generalize w3.drew = w4 at *
  clear hd
  have i30 : (30 : Int) ≤ (c2 : Int) := by omega
  have NE := (show Hid _ from fun w => newD_any 1000 (by decide) w)
  obtain ⟨τ, hτ1, hτ2, hτ3⟩ := smp_write 1000 (by decide)
  have RT := (show Hid (∀ (W : World) (db : Nat) (F : Nat → Prop), DrAt W db τ F → Calls Tryz.prog 12 #[.iface 31 (.pointer (some ⟨db, 0, none⟩))] W fun e w' => e = .returned (.tuple #[.agg smp.cs, .int .i64 0]) ∧ Below W.heap.size W w') from fun W db F h => by
    have := lread_dr h (fun i _ => Nat.le_trans (hτ3 i) (by decide))
    rw [hτ2] at this
    exact this)
  have RN := (show Hid (∀ (W : World) (db : Nat) (F : Nat → Prop), DrAt W db (Ds.new 1000) F → Calls Tryz.prog 12 #[.iface 31 (.pointer (some ⟨db, 0, none⟩))] W fun e w' => e = .returned (.tuple #[.agg lb0.cs, .int .i64 110]) ∧ Below W.heap.size W w') from fun W db F h => lread_dr h (fun i _ => Nat.le_trans ((Okk.new 1000).bl i) (by decide)))
  have WN := (show Hid (∀ (W : World) (db : Nat) (F : Nat → Prop), DrAt W db (Ds.new 1000) F → Calls Tryz.prog 16 #[.iface 31 (.pointer (some ⟨db, 0, none⟩)), .agg smp.cs] W fun e w' => e = .returned (.int .i64 0) ∧ Sw W F db w' τ) from fun W db F h => by
    have := lwrite_dr h (Okk.new 1000) (by decide) smp smp_in
    rw [hτ1] at this
    exact this)
  clear hτ1 hτ2 hτ3
  go_wp2_with (first
    | (revert s2; intro s2; go_at_call 22; refine (PB.out _ _ _).mono ?_; rintro e w7 ⟨rfl, hb⟩; replace hbw := bt hbw hb; replace Z1 := Z1.below hb; clear s2; have s3 : Hid (0 = 0) := rfl)
    | (go_at_call 22; refine (PA.out _ g2 c2 hr4 hc2).mono ?_; rintro e w5 ⟨rfl, hb⟩; replace hbw := bt hbw hb; clear hr4; have s1 : Hid (0 = 0) := rfl)
    | (revert s1; intro s1; refine wpList_alLb rfl rfl ?_; intro w6 ZN hbN hs; clear hs)
    | (revert s3; intro s3; refine wpList_alLb rfl rfl ?_; intro w8 ZN hbN hs; clear hs)
    | (revert s1; intro s1; refine wpList_storeLb rfl _ _ rfl rfl w5.heap.size rfl rfl ZN ?_; intro wC Z1 hTC; have hbC := hTC.2.1 _ _ hbN (Nat.le_refl _); replace hbw := bt hbw hbC; clear s1 ZN; have s2 : Hid (0 = 0) := rfl)
    | (revert s3; intro s3; refine wpList_storeLb rfl _ _ rfl rfl w7.heap.size rfl rfl ZN ?_; intro wD Z2 hTD; have hbD := hTD.2.1 _ _ hbN (Nat.le_refl _); replace hbw := bt hbw hbD; replace Z1 := Z1.below hbD; clear s3 ZN)
    | (go_at_call 23; refine (NE.out _).mono ?_; rintro e w9 ⟨rfl, hD, hb⟩; have hbwD := (show Hid _ from hbw); replace hbw := bt hbw hb; replace Z1 := Z1.below hb; replace Z2 := Z2.below hb))
  have hd : Below w9.heap.size w9 w9.drew := (Below.refl _ _).drew
  replace hbw := bt hbw hd
  replace Z1 := Z1.below hd
  replace Z2 := Z2.below hd
  replace hD := hD.below hd
  have N1 := neq_smp
  have N0 := neq_lb0
  clear PA PB NE EN
  have KS := (show Hid (_ ∧ _) from ⟨smp_cells Z1, lb0_cells Z2⟩)
  go_region_held3 (fun X => (X.cell? ⟨w5.heap.size, 0, none⟩ = some (.int .u8 1) ∧ X.cell? ⟨w5.heap.size, 1, none⟩ = some (.int .u8 2) ∧ X.cell? ⟨w5.heap.size, 2, none⟩ = some (.int .u8 3) ∧ X.cell? ⟨w5.heap.size, 3, none⟩ = some (.int .u8 4) ∧ X.cell? ⟨w5.heap.size, 4, none⟩ = some (.int .u8 5) ∧ X.cell? ⟨w5.heap.size, 5, none⟩ = some (.int .u8 6) ∧ X.cell? ⟨w5.heap.size, 6, none⟩ = some (.int .u8 7) ∧ X.cell? ⟨w5.heap.size, 7, none⟩ = some (.int .u8 8) ∧ X.cell? ⟨w5.heap.size, 8, none⟩ = some (.int .i64 2) ∧ X.cell? ⟨w5.heap.size, 9, none⟩ = some (.int .i64 1) ∧ X.cell? ⟨w5.heap.size, 10, none⟩ = some (.int .i64 4) ∧ X.cell? ⟨w5.heap.size, 11, none⟩ = some (.int .i64 2) ∧ X.cell? ⟨w5.heap.size, 12, none⟩ = some (.int .i64 258)) ∧ X.cell? ⟨w7.heap.size, 0, none⟩ = some (.int .u8 0) ∧ X.cell? ⟨w7.heap.size, 1, none⟩ = some (.int .u8 0) ∧ X.cell? ⟨w7.heap.size, 2, none⟩ = some (.int .u8 0) ∧ X.cell? ⟨w7.heap.size, 3, none⟩ = some (.int .u8 0) ∧ X.cell? ⟨w7.heap.size, 4, none⟩ = some (.int .u8 0) ∧ X.cell? ⟨w7.heap.size, 5, none⟩ = some (.int .u8 0) ∧ X.cell? ⟨w7.heap.size, 6, none⟩ = some (.int .u8 0) ∧ X.cell? ⟨w7.heap.size, 7, none⟩ = some (.int .u8 0) ∧ X.cell? ⟨w7.heap.size, 8, none⟩ = some (.int .i64 0) ∧ X.cell? ⟨w7.heap.size, 9, none⟩ = some (.int .i64 0) ∧ X.cell? ⟨w7.heap.size, 10, none⟩ = some (.int .i64 0) ∧ X.cell? ⟨w7.heap.size, 11, none⟩ = some (.int .i64 0) ∧ X.cell? ⟨w7.heap.size, 12, none⟩ = some (.int .i64 0)) (first | exact KT.out | exact KS.out | go_keep) (first | (go_at_call 21; refine (SA.out _).mono ?_; rintro e w10 ⟨rfl, hb⟩; replace hbw := bt hbw hb; replace hD := hD.below hb; have KT := (show Hid (_ ∧ _) from ⟨smp_cells (Z1.below hb), lb0_cells (Z2.below hb)⟩)))
  clear KT KS Z1 Z2 N1
  rename_i hHeld
  clear hHeld
  have hdb := (show Hid (w.heap.size ≤ wD.heap.size) from Nat.le_trans hbwD.out.size (Nat.le_refl _))
  have u0 : Hid (0 = 0) := rfl
  go_wp2_with (first
    | (revert u0; intro u0; go_at_call 12; refine (RN.out _ _ _ hD).mono ?_; rintro e v1 ⟨rfl, hb⟩; replace hbw := bt hbw hb; replace hD := hD.below hb; clear u0; have u1 : Hid (0 = 0) := rfl)
    | (revert u1; intro u1; refine wpList_alLb rfl rfl ?_; intro v2 ZN hbN hs; clear hs)
    | (revert u1; intro u1; refine wpList_storeLb rfl _ _ rfl rfl v1.heap.size rfl rfl ZN ?_; intro v3 Z3 hT3; have hb3 := hT3.2.1 _ _ hbN (Nat.le_refl _); replace hbw := bt hbw hb3; replace hD := hD.below hb3; clear u1 ZN; obtain ⟨z0, z1, z2, z3, z4, z5, z6, z7, z8, z9, z10, z11, z12⟩ := lb0_cells Z3)
    | (go_at_call 21; refine (SA.out _).mono ?_; rintro e v4 ⟨rfl, hb⟩; replace hbw := bt hbw hb; replace hD := hD.below hb)
    | (go_at_call 16; refine (WN.out _ _ _ hD).mono ?_; rintro e v5 ⟨rfl, hS⟩; replace hbw := tnb hbw hS.2 (fun b hb => by have hb' : b = wD.heap.size := hb; subst hb'; exact hdb.out))
    | (go_at_call 12; refine (RT.out _ _ _ hS.1).mono ?_; rintro e v6 ⟨rfl, hb⟩; replace hbw := bt hbw hb; have u2 : Hid (0 = 0) := rfl)
    | (revert u2; intro u2; refine wpList_alLb rfl rfl ?_; intro v7 ZM hbM hs; clear hs)
    | (revert u2; intro u2; refine wpList_storeLb rfl _ _ rfl rfl v6.heap.size rfl rfl ZM ?_; intro v8 Z8 hT8; have hb8 := hT8.2.1 _ _ hbM (Nat.le_refl _); replace hbw := bt hbw hb8; clear u2 ZM))
  have hd8 : Below v8.heap.size v8 v8.drew := (Below.refl _ _).drew
  replace hbw := bt hbw hd8
  replace Z8 := Z8.below hd8
  have Q1 := eql_smp
  have KS := (show Hid _ from smp_cells Z8)
  clear N0 RN RT WN hS hD
  go_region_held3 (fun X => X.cell? ⟨v6.heap.size, 0, none⟩ = some (.int .u8 1) ∧ X.cell? ⟨v6.heap.size, 1, none⟩ = some (.int .u8 2) ∧ X.cell? ⟨v6.heap.size, 2, none⟩ = some (.int .u8 3) ∧ X.cell? ⟨v6.heap.size, 3, none⟩ = some (.int .u8 4) ∧ X.cell? ⟨v6.heap.size, 4, none⟩ = some (.int .u8 5) ∧ X.cell? ⟨v6.heap.size, 5, none⟩ = some (.int .u8 6) ∧ X.cell? ⟨v6.heap.size, 6, none⟩ = some (.int .u8 7) ∧ X.cell? ⟨v6.heap.size, 7, none⟩ = some (.int .u8 8) ∧ X.cell? ⟨v6.heap.size, 8, none⟩ = some (.int .i64 2) ∧ X.cell? ⟨v6.heap.size, 9, none⟩ = some (.int .i64 1) ∧ X.cell? ⟨v6.heap.size, 10, none⟩ = some (.int .i64 4) ∧ X.cell? ⟨v6.heap.size, 11, none⟩ = some (.int .i64 2) ∧ X.cell? ⟨v6.heap.size, 12, none⟩ = some (.int .i64 258)) (first | exact KT.out | exact KS.out | go_keep) (first | (go_at_call 21; refine (SA.out _).mono ?_; rintro e v10 ⟨rfl, hb⟩; replace hbw := bt hbw hb; have KT := (show Hid _ from smp_cells (Z8.below hb))))
  go_wp2
  go_ret
  exact ⟨rfl, hbw⟩
end
end Go.Proofs.YtjobaeopokfekaaGreat
