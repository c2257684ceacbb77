/-
  change, where the directories are not made yet.
-/
import Derived.Test.YtjobaeopokfekaaGreatDf
namespace Go.Proofs.YtjobaeopokfekaaGreat
open Go.RowKit Go.Maps
theorem maps_made {w : World} {db room : Nat} {used : Int} {F : Nat → Prop} {σ : Ds} {m : List Nat} {rv : Nat → Value} {pv : Value} (S : StAt w db room used none none pv) (R : Rest w F σ m rv none none pv) (wz : World)
    (hwz : wz = (((w.alloc (.map #[] 0)).alloc (.map #[] 0)).setCell ⟨db, 2, none⟩ (.map (some w.heap.size))).setCell ⟨db, 3, none⟩ (.map (some (w.heap.size + 1)))) :
    StAt wz db room used (some w.heap.size) (some (w.heap.size + 1)) pv ∧ Rest wz (fun b => F b ∨ b = w.heap.size ∨ b = w.heap.size + 1) σ m rv (some w.heap.size) (some (w.heap.size + 1)) pv ∧ Tn (· = db) w wz ∧ wz.heap.size = w.heap.size + 2 ∧ σ.st = .map [] ∧ σ.sf = .map [] := by
  obtain ⟨e1, e2⟩ : σ.st = .map [] ∧ σ.sf = .map [] := by
    rcases R.dirs with ⟨_, _, h1, h2, _⟩ | ⟨s, f, h1, _⟩
    · exact ⟨h1, h2⟩
    · cases h1
  have hlt := blt S
  have S2 : StAt ((w.alloc (.map #[] 0)).alloc (.map #[] 0)) db room used none none pv := (S.alloc _).alloc _
  have Sz : StAt wz db room used (some w.heap.size) (some (w.heap.size + 1)) pv := by
    rw [hwz]
    unfold StAt at S2 ⊢
    rw [heap_setCell_same _ db 3 _ _ _ (heap_setCell_same _ db 2 _ _ _ S2)]; rfl
  have hoth : ∀ b, b ≠ db → wz.heap[b]? = ((w.alloc (.map #[] 0)).alloc (.map #[] 0)).heap[b]? := by
    intro b hb
    rw [hwz, Below.heap_setCell _ _ _ _ hb, Below.heap_setCell _ _ _ _ hb]
  have hold : ∀ b, b < w.heap.size → b ≠ db → wz.heap[b]? = w.heap[b]? := by
    intro b hb hne
    rw [hoth b hne, Below.heap_alloc _ _ _ (by simp; omega), Below.heap_alloc _ _ _ hb]
  have R1 : Rest wz F σ m rv none none pv := R.same (fun b o _ ho hne => hold b (blt ho) (fun e => by
    have h8 : w.heap[db]? = _ := S
    rw [← e, ho] at h8
    injection h8 with h8
    exact hne _ _ h8))
  have R2 := R1.more (G := fun b => F b ∨ b = w.heap.size ∨ b = w.heap.size + 1) (fun b hb => .inl hb)
  have m1 : MpAt wz m w.heap.size σ.st := by
    rw [e1]
    have h0 := (World.ownsMap_made w Tryz.prog 9 (ptR m)).alloc (.map #[] 0)
    exact om_same h0 (hoth _ (by omega))
  have m2 : MpAt wz m (w.heap.size + 1) σ.sf := by
    rw [e2]
    have h0 := World.ownsMap_made (w.alloc (.map #[] 0)) Tryz.prog 9 (ptR m)
    have e3 : (w.alloc (.map #[] 0)).heap.size = w.heap.size + 1 := by simp
    rw [e3] at h0
    exact om_same h0 (hoth _ (by omega))
  refine ⟨Sz, ⟨.inr ⟨_, _, rfl, rfl, by omega, .inr (.inl rfl), .inr (.inr rfl), m1, m2⟩, R2.len, R2.nodup, R2.bod, R2.sep, R2.pnd, R2.pvF⟩, ⟨?_, ?_, ?_, ?_, fun b hb hne => hold b hb hne⟩, ?_, e1, e2⟩
  · rw [hwz]; rfl
  · rw [hwz]; rfl
  · rw [hwz]; rfl
  · rw [hwz]; simp [World.setCell]; omega
  · rw [hwz]; simp [World.setCell]
section
attribute [local irreducible] Calls
set_option maxHeartbeats 4000000 in
set_option maxRecDepth 1000000 in
theorem change_nil {w : World} {db room : Nat} {used : Int} {F : Nat → Prop} {σ : Ds} {m : List Nat} {rv : Nat → Value} {pv : Value} (S : StAt w db room used none none pv) (R : Rest w F σ m rv none none pv) (hFd : F db)
    (c : List Ld) (g cap : Nat) (hb : w.heap[g]? = some (.cells (ldc m c).toArray 190 (0, 0))) (ids : ∀ l ∈ c, ∀ i, l.2 = some i → i < σ.bs.length) (txt : ∀ l ∈ c, l.1.length ≤ 1024) (hn : c.length ≤ 1000)
    (hu : ∀ k, k ≤ c.length → -4611686018427387904 ≤ usd σ.bs σ.st used (c.take k) ∧ usd σ.bs σ.st used (c.take k) ≤ 4611686018427387904) (hz : ∀ o, sz σ.bs o ≤ 1152921504606846976) (hpl : σ.pend.length ≤ 1000000000000) :
    Calls Tryz.prog 140 #[.pointer (some ⟨db, 0, none⟩), .slice (some ⟨g, 0, none⟩) c.length cap] w fun e w' => (∃ v, e = .returned v) ∧ ∃ s f pv', StAt w' db room (usd σ.bs σ.st used c) (some s) (some f) pv' ∧ Rest w' (fun b => F b ∨ b = g ∨ (w.heap.size ≤ b ∧ b < w'.heap.size)) (σ.change c) m rv (some s) (some f) pv' ∧ Tn F w w' := by
  obtain ⟨wz, hwz⟩ : ∃ wz, wz = (((w.alloc (.map #[] 0)).alloc (.map #[] 0)).setCell ⟨db, 2, none⟩ (.map (some w.heap.size))).setCell ⟨db, 3, none⟩ (.map (some (w.heap.size + 1))) := ⟨_, rfl⟩
  obtain ⟨Sz, Rz, Tz, hzs, e1, e2⟩ := maps_made S R wz hwz
  obtain ⟨F1, hF1⟩ : ∃ F1 : Nat → Prop, F1 = fun b => F b ∨ b = w.heap.size ∨ b = w.heap.size + 1 := ⟨_, rfl⟩
  rw [← hF1] at Rz
  have hgd : g ≠ db := by
    intro e
    subst e
    unfold StAt at S
    rw [hb] at S
    injection S with S
    injection S with _ e2
    revert e2
    decide
  have hbz : wz.heap[g]? = some (.cells (ldc m c).toArray 190 (0, 0)) := (Tz.block g (blt hb) hgd).trans hb
  have hlt := blt S
  suffices H : Calls Tryz.prog 140 #[.pointer (some ⟨db, 0, none⟩), .slice (some ⟨g, 0, none⟩) c.length cap] w fun e w' => (∃ v, e = .returned v) ∧ ∃ pv', StAt w' db room (usd σ.bs σ.st used c) (some w.heap.size) (some (w.heap.size + 1)) pv' ∧ Rest w' (fun b => F1 b ∨ b = g ∨ (wz.heap.size ≤ b ∧ b < w'.heap.size)) (σ.change c) m rv (some w.heap.size) (some (w.heap.size + 1)) pv' ∧ Tn F1 wz w' by
    refine H.mono ?_
    rintro e w' ⟨h1, pv', h2, h3, h4⟩
    subst hF1
    refine ⟨h1, _, _, pv', h2, h3.more ?_, ?_⟩
    · rintro b ((hF | rfl | rfl) | rfl | ⟨h5, h6⟩)
      · exact .inl hF
      · exact .inr (.inr ⟨Nat.le_refl _, by have := h4.size; omega⟩)
      · exact .inr (.inr ⟨Nat.le_succ _, by have := h4.size; omega⟩)
      · exact .inr (.inl rfl)
      · exact .inr (.inr ⟨by omega, h6⟩)
    · refine ⟨h4.os.trans Tz.os, h4.tape.trans Tz.tape, h4.output.trans Tz.output, by have := h4.size; omega, fun k hk hF => ?_⟩
      rw [h4.block k (by omega) (by rintro (h5 | h5 | h5) <;> first | exact hF h5 | omega)]
      exact Tz.block k hk (fun e => hF (by rw [show k = db from e]; exact hFd))
  have s2 := S.cell.2.2.1
  have s3 := ((S.alloc (.map #[] 0)).alloc (.map #[] 0)).cell.2.2.2.1
  have s4 := ((S.alloc (.map #[] 0)).alloc (.map #[] 0)).cell.2.2.1
  have z2 := ((S.alloc (.map #[] 0)).alloc (.map #[] 0)).frozen 2
  have z3 := ((S.alloc (.map #[] 0)).alloc (.map #[] 0)).frozen 3
  have hms : Maps.size σ.st ≤ 100000000000 := by rw [e1]; simp [Maps.size]
  have hWZ := (show Hid _ from hwz)
  have HFd : Hid (F1 db) := by show F1 db; rw [hF1]; exact .inl hFd
  obtain ⟨s, hs⟩ : ∃ s, w.heap.size = s := ⟨_, rfl⟩
  obtain ⟨f, hf⟩ : ∃ f, w.heap.size + 1 = f := ⟨_, rfl⟩
  rw [hf, hs] at Sz Rz ⊢
  have Hsf := (show Hid (w.heap.size = s ∧ w.heap.size + 1 = f) from ⟨hs, hf⟩)
  clear hs hf hF1 hzs e1 e2 hwz Tz hlt
  obtain ⟨n, hN⟩ : ∃ n, n = c.length := ⟨_, rfl⟩
  rw [← hN]
  rw [← hN] at hn
  have HN := (show Hid (n = c.length) from hN)
  have HB := (show Hid _ from hbz)
  have HI := (show Hid _ from And.intro ids txt)
  have HU := (show Hid (_ ∧ _) from And.intro hu hz)
  have HP := (show Hid (Maps.size σ.st ≤ 100000000000 ∧ σ.pend.length ≤ 1000000000000) from ⟨hms, hpl⟩)
  obtain ⟨i0, hi0, hz0, hz1, hz2⟩ := info_parts infoC
  have SS := (show Hid _ from Sz)
  have RR := (show Hid _ from Rz)
  clear hN hb hbz ids txt hu hz S R Sz Rz hms hpl hFd
  have qT : ∀ (w : World) (r : Option Nat), (binOp .eql 83 (.map r) (.map none)).run Tryz.prog w = .ok (.bool r.isNone) w := fun w r => run_eql_map_nil w _ _ _ r Tryz.underlying83
  have hmm := @run_makeMap Tryz.prog
  go_enter Tryz.func140, Tryz.ntmps140
  go_wp2
  rw [← hWZ.out]
  clear s2 s3 s4 z2 z3
  go_loopw [21] (fun i wr => ∃ k : Nat, k ≤ n ∧ i = .int .i64 k ∧ Hid (StAt wr db room (usd σ.bs σ.st used (c.take k)) (some s) (some f) pv) ∧ Hid (Rest wr F1 σ m rv (some s) (some f) pv) ∧ Hid (Tn (· = db) wz wr)) (fun i _ => n - (intOf i).toNat)
  case atStart => exact ⟨0, Nat.zero_le _, rfl, SS.out, RR.out, Tn.refl _ _⟩
  case round =>
    obtain ⟨k, hk, rfl, hS, hR, hT⟩ := hrel
    by_cases hlt : k < n
    · have hi : (k : Int) < (n : Int) := by omega
      have hkx : k < c.length := by rw [← HN.out]; exact hlt
      have hk' : k ≤ c.length := by omega
      have hgw : wr.heap[g]? = some (.cells (ldc m c).toArray 190 (0, 0)) := (hT.out.block g (blt HB.out) hgd).trans HB.out
      obtain ⟨l, hl⟩ : ∃ l, l = c.getD k ([], none) := ⟨_, rfl⟩
      obtain ⟨g1, g2⟩ := ldc_cell hgw hkx
      rw [← hl] at g1 g2
      have hlm : l ∈ c := by rw [hl]; simp [hkx]
      have hsn := (show Hid (c.take (k + 1) = c.take k ++ [l]) from by
        show _ = _
        rw [List.take_add_one, hl]; simp [hkx])
      have hid := HI.out.1 l hlm
      have htx := HI.out.2 l hlm
      obtain ⟨x, o⟩ := l
      simp only at htx g1 g2 hid
      obtain ⟨X, hX⟩ : ∃ X, X = (wr.alloc (.cells #[encStr x, ptv m o] 190)).drew := ⟨_, rfl⟩
      have XS : StAt X db room (usd σ.bs σ.st used (c.take k)) (some s) (some f) pv := by rw [hX]; exact (hS.out.alloc _).drew
      have XR : Rest X F1 σ m rv (some s) (some f) pv := by rw [hX]; exact (hR.out.alloc _).drew
      have XT : Tn (· = db) wz X := by
        rw [hX]
        exact hT.out.trans ⟨rfl, rfl, rfl, by simp [World.drew], fun b hb _ => Below.heap_alloc _ _ _ hb⟩
      have y0 : X.cell? ⟨wr.heap.size, 0, none⟩ = some (encStr x) := by rw [hX]; exact (cell_of_row (wr.alloc _) wr.heap.size 0 _ _ (0, 0) (heap_alloc_new wr _)).trans rfl
      have y1 : X.cell? ⟨wr.heap.size, 1, none⟩ = some (ptv m o) := by rw [hX]; exact (cell_of_row (wr.alloc _) wr.heap.size 1 _ _ (0, 0) (heap_alloc_new wr _)).trans rfl
      obtain ⟨hlk, hli⟩ := XR.look (x := x) (by unfold maxLen; omega)
      have z1 := (show Hid _ from size_any XR o (fun i e => hid i e))
      have z2 := (show Hid _ from size_any XR (lk σ.st x) hli)
      have c1 := XS.cell.2.1
      have c2 := XS.cell.2.2.1
      have fz := XS.frozen 1
      have hub := HU.out.1 k hk'
      have wu := wr_used (a := (sz σ.bs o : Int)) (b := (sz σ.bs (lk σ.st x) : Int)) hub.1 hub.2 (by omega) (by have := HU.out.2 o; omega) (by omega) (by have := HU.out.2 (lk σ.st x); omega)
      have HX := (show Hid (_ ∧ _ ∧ _) from ⟨XS, XR, XT⟩)
      clear hid hli XS XR XT hub hS hR hT
      have hus := (show Hid (usd σ.bs σ.st used (c.take (k + 1)) = _) from by
        show _ = _
        rw [hsn.out, usd_snoc])
      simp only at hus
      unfold ptv at g2 hlk hX y1 z1 z2
      generalize pta m o = po at *
      generalize pta m (lk σ.st x) = pq at *
      generalize usd σ.bs σ.st used (c.take k) = u at *
      generalize (sz σ.bs o : Int) = so at *
      generalize (sz σ.bs (lk σ.st x) : Int) = sq at *
      clear hl hkx hgw hlm
      go_wp2
      refine wp_region_still_tail 17 (by kernel_rfl) (by kernel_rfl) ?_
      simp only [List.take_succ_cons, List.take_zero, List.drop_succ_cons, List.drop_zero]
      have eX : ({ wr.alloc (.cells #[encStr x, .pointer po] 190) with drawn := (wr.alloc (.cells #[encStr x, .pointer po] 190)).drawn + 1 } : World) = X := hX.symm
      rw [eX]
      clear eX hX
      repeat still_step
      still_call z1.out
      repeat still_step
      still_call z2.out
      repeat still_step
      refine wpStill_nil ?_
      go_wp2
      go_roundw
      case rel =>
        refine ⟨k + 1, by omega, by go_num, ?_, HX.out.2.1.setSt HX.out.1 _ _, ?_⟩
        · show StAt _ _ _ _ _ _ _
          rw [hus.out]
          exact HX.out.1.set1 _
        · exact HX.out.2.2.trans (Tn.setCell (F := (· = db)) X ⟨db, 1, none⟩ rfl _)
      case measure => simp [intOf]; omega
    · obtain rfl : k = n := by omega
      have hi : ¬ (k : Int) < (k : Int) := by omega
      obtain ⟨hsf, hFs, hFf, hMs, hMf⟩ := hR.out.mp
      have hgw : wr.heap[g]? = some (.cells (ldc m c).toArray 190 (0, 0)) := (hT.out.block g (blt HB.out) hgd).trans HB.out
      have FO := (show Hid _ from follow_any hR.out.nodup hMs c g cap hgw (fun l hl i e => by rw [hR.out.len]; exact HI.out.1 l hl i e) HI.out.2 (by have := HP.out.1; have := HN.out; omega))
      rw [← HN.out] at FO
      have c2 := hS.out.cell.2.2.1
      have eu : usd σ.bs σ.st used (c.take k) = usd σ.bs σ.st used c := by rw [HN.out, List.take_length]
      have hS' := (show Hid (StAt wr db room (usd σ.bs σ.st used c) (some s) (some f) pv) from by show StAt _ _ _ _ _ _ _; rw [← eu]; exact hS.out)
      have HM := (show Hid (_ ∧ _ ∧ _ ∧ _) from ⟨hsf, hFs, hFf, hMs⟩)
      have hgF := (show Hid _ from hgw)
      clear hsf hFs hFf hMs hMf hgw hS eu
      go_wp2_with (first
        | (go_at_call 142; refine FO.out.mono ?_; rintro e w1 ⟨⟨v1, rfl⟩, hM1, hT1⟩; have PK := chg_mid hS'.out hR.out hT1; have c4 := PK.1.cell.2.2.2.2; have HPK := (show Hid _ from PK); have H1 := (show Hid (_ ∧ _) from ⟨hM1, hT1⟩); clear PK hM1 hT1 c2)
        | (at_builtin; obtain ⟨cv, hrow, hcl, hcs⟩ := HPK.out.2; refine wpList_append_own_at _ rfl _ _ 84 rfl 0 193 i0 (.slice none 0 0) 1 24 Tryz.underlying84 hi0 hz0 hz1 hz2 rfl (by decide) _ _ _ rfl (hrow.alloc _) ⟨w1.heap.size, 0, none⟩ 1 1 [.slice (some ⟨g, 0, none⟩) k cap] rfl rfl (one_newD _ _ _) (by simp [Value.oneCell']) (by have := HP.out.2; unfold maxLen; omega) (by have := HP.out.2; omega) (Nat.zero_le _) ?_; intro v' w3 hown' hg3 _ hloc; obtain ⟨g', cap', rfl⟩ := own_succ hown'; have S3 := chg_st HPK.out.1 hrow hg3; have f4 := S3.frozen 4; have e4 := S3.cell.2.2.2.2; have HF := (show Hid (_ ∧ _ ∧ _ ∧ _ ∧ _ ∧ _) from ⟨hown', hg3, hloc, S3, hcl, hcs⟩); have HR9 := (show Hid _ from hrow); clear hown' hg3 hloc S3 hcl hcs hrow))
      go_end0
      obtain ⟨hown', hg3, hloc, S3, hcl, hcs⟩ := HF.out
      obtain ⟨hM1, hT1⟩ := H1.out
      have hR' := hR.out
      have hS1 := HPK.out.1
      have hrow := HR9.out
      have hb3 := (own_blk hown').choose_spec
      have keep := chg_keep (db := db) hS1 hrow hg3 (v := .slice (some ⟨g', 0, none⟩) (σ.pend.length + 1) cap')
      have hsz1 : wr.heap.size ≤ w1.heap.size := hT1.size
      have hsz3 : w1.heap.size + 1 ≤ w3.heap.size := by have := hg3.size; simpa using this
      have hszw := hT.out.size
      have hms : ∃ es c, wr.heap[s]? = some (.map es c) := map_blk HM.out.2.2.2
      have kp1 : ∀ (b : Nat) o, wr.heap[b]? = some o → b ≠ s → w1.heap[b]? = some o := fun b o hb hne => (hT1.block b (blt hb) hne).trans hb
      refine ⟨⟨_, rfl⟩, .slice (some ⟨g', 0, none⟩) (σ.pend.length + 1) cap', S3.set4 _, ?_, ?_⟩
      · refine Rest.turn (s := s) (f := f) (hR'.more (fun b hb => Or.inl hb)) ?_ (fol σ.st c) ?_ (σ.pend ++ [c]) (usd σ.bs σ.st σ.used c) ?_ ?_
        · intro b o _ hb n1 n2 n3
          rw [keep b o (kp1 b o hb n3) n1 n2, hb]
        · refine om_same hM1 ?_
          obtain ⟨es, ck, hm1⟩ := map_blk hM1
          rw [keep s _ hm1 (fun c r e => by cases e) (fun c r e => by cases e), hm1]
        · refine ⟨cv ++ [.slice (some ⟨g, 0, none⟩) k cap], ?_, by simp [hcl], fun j hj => ?_⟩
          · have e1 : (σ.pend ++ [c]).length = σ.pend.length + 1 := by simp
            rw [e1]
            refine ob_same hown' fun g9 hg9 => Below.heap_setCell _ _ _ _ (fun e => ?_)
            have e9 : g9 = g' := by simpa [Value.ownBlock] using hg9.symm
            subst e9
            have h8 : w3.heap[db]? = _ := S3
            rw [← show g9 = db from e, hb3] at h8
            injection h8 with h8
            injection h8 with _ e2
            revert e2
            decide
          · by_cases hjl : j < σ.pend.length
            · obtain ⟨⟨g9, cap9, e9, hF9, hb9⟩, i1, i2⟩ := hcs j hjl
              have q1 : (σ.pend ++ [c]).getD j [] = σ.pend.getD j [] := by simp [hjl, List.getElem?_append_left hjl]
              have q2 : (cv ++ [Value.slice (some ⟨g, 0, none⟩) k cap]).getD j undef = cv.getD j undef := by
                have : j < cv.length := by rw [hcl]; exact hjl
                simp [this, List.getElem?_append_left this]
              rw [q1, q2]
              exact ⟨⟨g9, cap9, e9, .inl hF9, keep g9 _ hb9 (fun c r e => by injection e with _ e2; revert e2; decide) (fun c r e => by injection e with _ e2; revert e2; decide)⟩, i1, i2⟩
            · have ej : j = σ.pend.length := by simp at hj; omega
              subst ej
              have q1 : (σ.pend ++ [c]).getD σ.pend.length [] = c := by simp
              have q2 : (cv ++ [Value.slice (some ⟨g, 0, none⟩) k cap]).getD σ.pend.length undef = .slice (some ⟨g, 0, none⟩) k cap := by rw [← hcl]; simp
              rw [q1, q2, HN.out]
              have hgs : g ≠ s := by
                intro e
                obtain ⟨es, ck, h8⟩ := hms
                have h7 := hgF.out
                rw [e, h8] at h7
                cases h7
              exact ⟨⟨g, cap, rfl, .inr (.inl rfl), keep g _ (kp1 g _ hgF.out hgs) (fun c r e => by injection e with _ e2; revert e2; decide) (fun c r e => by injection e with _ e2; revert e2; decide)⟩, fun l hl i e => by rw [hR'.len]; exact HI.out.1 l hl i e, HI.out.2⟩
        · intro g9 hg9
          rcases hloc with h8 | h8
          · exact .inl (hR'.pvF g9 (h8 ▸ hg9))
          · refine .inr (.inr ?_)
            rw [h8] at hg9
            injection hg9 with hg9
            have := blt hb3
            simp [Value.ownBlock] at h8
            simp [World.setCell]
            simp at hg9
            omega
      · refine (hT.out.more (fun b e => by rw [show b = db from e]; exact HFd.out)).trans ((hT1.more (fun b e => by rw [show b = s from e]; exact HM.out.2.1)).trans ((Tn.of_below ((Below.refl _ w1).alloc (Nat.le_refl _) _)).trans ((Tn.grown hg3 (fun g9 e => hR'.pvF g9 e)).trans (Tn.setCell w3 ⟨db, 4, none⟩ HFd.out _))))
end
end Go.Proofs.YtjobaeopokfekaaGreat
