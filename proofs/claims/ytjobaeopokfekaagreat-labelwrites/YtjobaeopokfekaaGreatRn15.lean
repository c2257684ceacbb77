/-
  The document's number, Encode.
-/
import Derived.Test.YtjobaeopokfekaaGreatRl15
import Derived.Test.YtjobaeopokfekaaGreatGz15
namespace Go.Proofs.YtjobaeopokfekaaGreat
open Go.RowKit
theorem ow_newl (w : World) (xs : List (BitVec 8)) (hl : xs.length ≤ 140737488355328) : Ow (w.alloc (.cells (xs.map fun x => Value.int .u8 (el x)).toArray 5)) w.heap.size (.slice (some ⟨w.heap.size, 0, none⟩) xs.length xs.length) xs := by
  refine ⟨by rw [vs_len, Nat.mul_one], .inr ⟨w.heap.size, xs.length, _, rfl, Nat.le_refl _, heap_alloc_new w _, Nat.le_refl _, by unfold maxLen; omega, by simp, ?_⟩⟩
  apply List.ext_getElem?
  intro i
  by_cases hi : i < xs.length
  · rw [vs_at (fn xs) xs.length i hi]
    simp [hi, fn]
  · rw [List.getElem?_eq_none (by simp; omega), List.getElem?_eq_none (by rw [vs_len]; omega)]
section
attribute [local irreducible] Calls el Lbl.cs cmo rg smL
set_option maxHeartbeats 4000000 in
set_option maxRecDepth 1000000 in
theorem rnum_any (v k : Nat) (hv : v ≤ 9223372036854775807) (hk : k ≤ 8) (w : World) :
    Calls Tryz.prog 34 #[.int .i64 (v : Int), .int .i64 (k : Int)] w fun e w' => ∃ o, e = .returned o ∧ Ow w' w.heap.size o (lb k v) ∧ Below w.heap.size w w' := by
  have al : ∀ (W : World) (o : Obj), Below W.heap.size W (W.alloc o) := fun W o => (Below.refl _ _).alloc (Nat.le_refl _) o
  go_enter Tryz.func34, Tryz.ntmps34
  go_wp2
  go_loopw [0, 5, 6] (fun r o i wr => ∃ j : Nat, j ≤ k ∧ i = .int .i64 (j : Int) ∧ r = .int .i64 ((v / 256 ^ j : Nat) : Int) ∧ Ow wr w.heap.size o (lb j v) ∧ Below w.heap.size w wr) (fun _ _ i _ => k - (intOf i).toNat)
  case atStart => exact ⟨0, Nat.zero_le _, rfl, by simp, by simpa [lb] using Ow.nil w w.heap.size, Below.refl _ _⟩
  case round =>
    obtain ⟨j, hj, rfl, rfl, hO, hb⟩ := hrel
    obtain ⟨x, hx⟩ : ∃ x, v / 256 ^ j = x := ⟨_, rfl⟩
    have hxl : x ≤ v := hx ▸ Nat.div_le_self _ _
    by_cases hlt : j < k
    · have hi : (j : Int) < (k : Int) := by omega
      have hs := hb.size
      rw [hx]
      have e2 := byte_conv x
      have r1 := rd_new1 wr (BitVec.ofNat 8 x) 5
      have hsn := lb_snoc j v
      rw [hx] at hsn
      have hdv : v / 256 ^ (j + 1) = x / 256 := by rw [Nat.pow_succ, ← Nat.div_div_eq_div_mul, hx]
      clear hx
      go_wp2_with (at_builtin; refine wpList_apa rfl (.tmp 12) (.tmp 16) rfl w.heap.size u5 (lb j v) rfl (hO.below (al _ _)) (some ⟨wr.heap.size, 0, none⟩) 1 1 [BitVec.ofNat 8 x] rfl r1 rfl (by rw [lb_len]; omega) (Nat.le_trans hs (al _ _).size) ?_; intro v2 w2 ho2 hg2 hk2)
      go_roundw
      case rel =>
        refine ⟨j + 1, by omega, by go_num, by rw [hdv]; go_num, ?_, (hO.below (al _ _)).below_append (hb.alloc hs _) (Nat.le_trans hs (al _ _).size) hg2 (Nat.le_refl _)⟩
        rw [hsn]; exact ho2
      case measure => simp [intOf]; omega
    · obtain rfl : j = k := by omega
      go_wp2
      go_ret
      exact ⟨_, rfl, hO, hb⟩
end
theorem ow_mark (w : World) : Ow (w.alloc (.cells #[.int .u8 67, .int .u8 82, .int .u8 78, .int .u8 1] 5)) w.heap.size (.slice (some ⟨w.heap.size, 0, none⟩) 4 4) mkL := ow_newl w mkL (by decide)
theorem LbAt.keptv {w w' : World} {g : Nat} {v : Value} {h : Lbl} (H : LbAt w g h) (hne : ∀ b, v.ownBlock = some b → g ≠ b) (hg : w.grownBy w' v.ownBlock) : LbAt w' g h := by
  have hl := H.lt
  unfold LbAt at H ⊢
  rw [hg.block g hl (fun e => hne g e.symm rfl)]; exact H
theorem st_take (h : Lbl) (j : Nat) (hj : j < 8) : h.st.take (j + 1) = h.st.take j ++ [h.st.getD j 0#8] := by
  have e : h.st.length = 8 := rfl
  rw [List.take_add_one]
  congr 1
  simp [hj, e]
theorem rnum_s (s : BitVec 32) (W : World) : Calls Tryz.prog 34 #[.int .i64 (wrap64 (rg s)), .int .i64 4] W fun e w' => ∃ o, e = .returned o ∧ Ow w' W.heap.size o (smL s) ∧ Below W.heap.size W w' := by
  have e : wrap64 (rg s) = rg s := by have := rg_bd s; unfold wrap64; omega
  rw [e]
  exact rnum_any s.toNat 4 (by have := s.isLt; omega) (by decide) W
section
attribute [local irreducible] Calls el Lbl.cs cmo rg smL
set_option maxHeartbeats 4000000 in
set_option maxRecDepth 1000000 in
theorem rencode_ok (h : Lbl) (hi : h.In) (h0 : h.ck = 0) (K M B X E : Nat) (e1 : h.k = K) (e2 : h.m = M) (e3 : h.b = B) (e5 : h.ix = X) (e6 : h.ep = E) (b1 : K < 256) (b2 : M < 256) (b3 : B < 4294967296) (b5 : X < 256) (b6 : E < 4294967296) (w : World) :
    Calls Tryz.prog 15 #[.agg h.cs] w fun e w' => ∃ v, e = .returned (.tuple #[v, .int .i64 0]) ∧ Ow w' w.heap.size v (mkL ++ h.st ++ lb 1 K ++ lb 1 M ++ lb 4 B ++ lb 1 X ++ lb 8 E ++ smL (cmo 0#32 (mkL ++ h.st ++ lb 1 K ++ lb 1 M ++ lb 4 B ++ lb 1 X ++ lb 8 E))) ∧ Below w.heap.size w w' := by
  have al : ∀ (W : World) (o : Obj), Below W.heap.size W (W.alloc o) := fun W o => (Below.refl _ _).alloc (Nat.le_refl _) o
  have CK := (show Hid _ from fun w => rmay_any h hi w)
  rw [h0] at CK
  have HA := LbAt.new w h
  have st8 : h.st.length = 8 := rfl
  have ml : mkL.length = 4 := rfl
  have hbw := al w (.cells h.cs 27)
  go_enter Tryz.func15, Tryz.ntmps15
  go_wp2_with (first
    | (refine wpList_loadLb rfl _ rfl w.heap.size rfl HA ?_)
    | (go_at_call 33; refine (CK.out _).mono ?_; rintro e w1 ⟨rfl, hb1⟩; replace HA := HA.below hb1; replace hbw := bt hbw hb1; replace HA := HA.below (al w1 (.cells #[.int .u8 67, .int .u8 82, .int .u8 78, .int .u8 1] 5)); replace hbw := bt hbw (al w1 (.cells #[.int .u8 67, .int .u8 82, .int .u8 78, .int .u8 1] 5))))
  have hs0 : w.heap.size + 1 ≤ w1.heap.size := by have := hb1.size; rw [World.size_alloc] at this; exact this
  have om := (ow_mark w1).mono hs0
  generalize w1.alloc (.cells #[.int .u8 67, .int .u8 82, .int .u8 78, .int .u8 1] 5) = wz at om HA hbw ⊢
  have RN1 := (show Hid (∀ (v : Nat) W, v ≤ 9223372036854775807 → Calls Tryz.prog 34 #[.int .i64 (v : Int), .int .i64 1] W fun e w' => ∃ o, e = .returned o ∧ Ow w' W.heap.size o (lb 1 v) ∧ Below W.heap.size W w') from fun v W h => rnum_any v 1 h (by decide) W)
  have RN4 := (show Hid (∀ (v : Nat) W, v ≤ 9223372036854775807 → Calls Tryz.prog 34 #[.int .i64 (v : Int), .int .i64 4] W fun e w' => ∃ o, e = .returned o ∧ Ow w' W.heap.size o (lb 4 v) ∧ Below W.heap.size W w') from fun v W h => rnum_any v 4 h (by decide) W)
  have RN8 := (show Hid (∀ (v : Nat) W, v ≤ 9223372036854775807 → Calls Tryz.prog 34 #[.int .i64 (v : Int), .int .i64 8] W fun e w' => ∃ o, e = .returned o ∧ Ow w' W.heap.size o (lb 8 v) ∧ Below W.heap.size W w') from fun v W h => rnum_any v 8 h (by decide) W)
  have RNs := (show Hid (∀ (s : BitVec 32) W, Calls Tryz.prog 34 #[.int .i64 (wrap64 (rg s)), .int .i64 4] W fun e w' => ∃ o, e = .returned o ∧ Ow w' W.heap.size o (smL s) ∧ Below W.heap.size W w') from fun s W => rnum_s s W)
  clear hs0 hb1
  go_loopw [5, 6] (fun o i wr => ∃ j : Nat, j ≤ 8 ∧ i = .int .i64 (j : Int) ∧ Ow wr (w.heap.size + 1) o (mkL ++ h.st.take j) ∧ LbAt wr w.heap.size h ∧ Below w.heap.size w wr) (fun _ i _ => 8 - (intOf i).toNat)
  case atStart => exact ⟨0, Nat.zero_le _, rfl, by simpa using om, HA, hbw⟩
  case round =>
    obtain ⟨j, hj, rfl, hO, HB, hb⟩ := hrel
    have hlt1 := HB.lt
    by_cases hlt : j < 8
    · have hi : (j : Int) < 8 := by omega
      have hs := hb.size
      have hcell : wr.cell? ⟨w.heap.size, j, none⟩ = some (.int .u8 (el (h.st.getD j 0#8))) := by
        rcases HB.store with e | ⟨b, o, e, hc⟩
        · cases e
        · injection e with e
          injection e with e1 e2
          subst e1 e2
          have := hc j (by rw [st8]; exact hlt)
          rw [Nat.zero_add] at this
          exact this
      have r1 := rd_new1 wr (h.st.getD j 0#8) 5
      have hsn := st_take h j hlt
      generalize h.st.getD j 0#8 = z at hcell r1 hsn
      go_wp2_with (at_builtin; refine wpList_apa rfl (.tmp 18) (.tmp 23) rfl (w.heap.size + 1) u5 (mkL ++ h.st.take j) rfl (hO.below (al _ _)) (some ⟨wr.heap.size, 0, none⟩) 1 1 [z] rfl r1 rfl (by simp [ml, st8]; omega) (Nat.le_trans hlt1 (al _ _).size) ?_; intro v2 w2 ho2 hg2 hk2)
      go_roundw
      case rel =>
        refine ⟨j + 1, by omega, by go_num, ?_, (HB.below (al _ _)).keptv (fun b hv e => by have := (hO.lt hv).1; omega) hg2, (hO.below (al _ _)).below_append (hb.alloc hs _) (Nat.le_trans hs (al _ _).size) hg2 (Nat.le_succ _)⟩
        rw [hsn, ← List.append_assoc]; exact ho2
      case measure => simp [intOf]; omega
    · obtain rfl : j = 8 := by omega
      rw [show h.st.take 8 = h.st from rfl] at hO
      obtain ⟨q8, q9, q10, q11, q12⟩ := HB.cells
      go_wp2_with (first
        | (go_at_call 34; first | (refine (RNs.out _ _).mono ?_; rintro e w6 ⟨v6, rfl, ho6, hb6⟩; replace hO := hO.below hb6; replace HB := HB.below hb6; replace hb := bt hb hb6; obtain ⟨p6, c6, rfl, hc6, hr6⟩ := ho6.rd; rw [smL_len] at *) | (refine (RN1.out _ _ (by omega)).mono ?_; rintro e w3 ⟨v3, rfl, ho3, hb3⟩; replace HB := HB.below hb3; replace hO := hO.below hb3; replace hb := bt hb hb3; obtain ⟨p3, c3, rfl, hc3, hr3⟩ := ho3.rd; rw [lb_len] at *) | (refine (RN4.out _ _ (by omega)).mono ?_; rintro e w3 ⟨v3, rfl, ho3, hb3⟩; replace HB := HB.below hb3; replace hO := hO.below hb3; replace hb := bt hb hb3; obtain ⟨p3, c3, rfl, hc3, hr3⟩ := ho3.rd; rw [lb_len] at *) | (refine (RN8.out _ _ (by omega)).mono ?_; rintro e w3 ⟨v3, rfl, ho3, hb3⟩; replace HB := HB.below hb3; replace hO := hO.below hb3; replace hb := bt hb hb3; obtain ⟨p3, c3, rfl, hc3, hr3⟩ := ho3.rd; rw [lb_len] at *))
        | (revert hr6; intro hr6; at_builtin; refine wpList_apa rfl (.tmp 55) (.tmp 58) rfl (w.heap.size + 1) _ _ rfl hO p6 _ c6 _ rfl hr6 (smL_len _) (by rw [HYl.out]; decide) HB.lt ?_; intro v7 w7 ho7 hg7 hk7; replace hb := hO.below_append hb hb.size hg7 (Nat.le_succ _))
        | (at_builtin; first | (refine wpList_apa rfl (.tmp 25) (.tmp 29) rfl (w.heap.size + 1) _ _ rfl hO p3 _ c3 _ rfl hr3 (lb_len _ _) (by simp [st8, ml]) HB.lt ?_; intro v4 w4 ho4 hg4 hk4; (try clear q8 q9 q10 q11 q12); replace HB := HB.keptv (fun b hv e => by have := (hO.lt hv).1; omega) hg4; replace hb := hO.below_append hb hb.size hg4 (Nat.le_succ _); clear hO; have hO := ho4; clear ho4; obtain ⟨q8, q9, q10, q11, q12⟩ := HB.cells) | (refine wpList_apa rfl (.tmp 31) (.tmp 35) rfl (w.heap.size + 1) _ _ rfl hO p3 _ c3 _ rfl hr3 (lb_len _ _) (by simp [lb_len, st8, ml]) HB.lt ?_; intro v4 w4 ho4 hg4 hk4; (try clear q8 q9 q10 q11 q12); replace HB := HB.keptv (fun b hv e => by have := (hO.lt hv).1; omega) hg4; replace hb := hO.below_append hb hb.size hg4 (Nat.le_succ _); clear hO; have hO := ho4; clear ho4; obtain ⟨q8, q9, q10, q11, q12⟩ := HB.cells) | (refine wpList_apa rfl (.tmp 37) (.tmp 41) rfl (w.heap.size + 1) _ _ rfl hO p3 _ c3 _ rfl hr3 (lb_len _ _) (by simp [lb_len, st8, ml]) HB.lt ?_; intro v4 w4 ho4 hg4 hk4; (try clear q8 q9 q10 q11 q12); replace HB := HB.keptv (fun b hv e => by have := (hO.lt hv).1; omega) hg4; replace hb := hO.below_append hb hb.size hg4 (Nat.le_succ _); clear hO; have hO := ho4; clear ho4; obtain ⟨q8, q9, q10, q11, q12⟩ := HB.cells) | (refine wpList_apa rfl (.tmp 43) (.tmp 46) rfl (w.heap.size + 1) _ _ rfl hO p3 _ c3 _ rfl hr3 (lb_len _ _) (by simp [lb_len, st8, ml]) HB.lt ?_; intro v4 w4 ho4 hg4 hk4; (try clear q8 q9 q10 q11 q12); replace HB := HB.keptv (fun b hv e => by have := (hO.lt hv).1; omega) hg4; replace hb := hO.below_append hb hb.size hg4 (Nat.le_succ _); clear hO; have hO := ho4; clear ho4; obtain ⟨q8, q9, q10, q11, q12⟩ := HB.cells) | (refine wpList_apa rfl (.tmp 48) (.tmp 51) rfl (w.heap.size + 1) _ _ rfl hO p3 _ c3 _ rfl hr3 (lb_len _ _) (by simp [lb_len, st8, ml]) HB.lt ?_; intro v4 w4 ho4 hg4 hk4; (try clear q8 q9 q10 q11 q12); replace HB := HB.keptv (fun b hv e => by have := (hO.lt hv).1; omega) hg4; replace hb := hO.below_append hb hb.size hg4 (Nat.le_succ _); clear hO; have hO := ho4; clear ho4; obtain ⟨q8, q9, q10, q11, q12⟩ := HB.cells))
        | (go_at_call 35; generalize hY : mkL ++ h.st ++ lb 1 K ++ lb 1 M ++ lb 4 B ++ lb 1 X ++ lb 8 E = Y at hO; have HYl := (show Hid (Y.length = 27) from by show _ = _; rw [← hY]; simp [lb_len, st8, ml]); have HY := (show Hid _ from hY); clear hY; obtain ⟨p5, c5, rfl, hc5, hr5⟩ := hO.rd; refine (refSum_any hr5 Y.length c5 rfl (by rw [HYl.out]; decide)).mono ?_; rintro e w5 ⟨rfl, hb5⟩; replace HB := HB.below hb5; replace hO := hO.below hb5; replace hb := bt hb hb5;  clear q8 q9 q10 q11 q12))
      go_ret2
      rw [HY.out]
      exact ⟨_, rfl, ho7.mono (Nat.le_succ _), hb⟩
set_option maxHeartbeats 4000000 in
set_option maxRecDepth 1000000 in
theorem rencode_any (h : Lbl) (hi : h.In) (w : World) :
    Calls Tryz.prog 15 #[.agg h.cs] w fun e w' => ∃ v, e = .returned (.tuple #[v, .int .i64 h.ck]) ∧ Ow w' w.heap.size v h.enc ∧ Below w.heap.size w w' := by
  by_cases h0 : h.ck = 0
  · have ok := (ck_ok h).1 h0
    have k1 := ok.k1
    have k2 := ok.k2
    have m1 := ok.m1
    have m2 := ok.m2
    have b1 := ok.b1
    have b2 := ok.b2
    have x1 := ok.x1
    have x2 := ok.x2
    have km := ok.km
    have e1 := ok.e1
    have e2 := ok.e2
    have E := rencode_ok h hi h0 h.k.toNat h.m.toNat h.b.toNat h.ix.toNat h.ep.toNat (by omega) (by omega) (by omega) (by omega) (by omega) (by omega) (by omega) (by omega) (by omega) (by omega) w
    unfold Lbl.enc
    rw [if_pos h0, h0]
    exact E
  · have CK := (show Hid _ from fun w => rmay_any h hi w)
    have HA := LbAt.new w h
    unfold Lbl.enc
    rw [if_neg h0]
    generalize h.ck = z at h0 CK ⊢
    go_enter Tryz.func15, Tryz.ntmps15
    go_wp2_with (first
      | (refine wpList_loadLb rfl _ rfl w.heap.size rfl HA ?_)
      | (go_at_call 33; refine (CK.out _).mono ?_; rintro e w1 ⟨rfl, hb1⟩))
    go_ret2
    exact ⟨_, rfl, Ow.nil _ _, bt ((Below.refl _ _).alloc (Nat.le_refl _) _) hb1⟩
end
end Go.Proofs.YtjobaeopokfekaaGreat
