/-
  Append.
-/
import Derived.Test.YtaddgmbglhdfdaaDj
namespace Go.Proofs.Ytaddgmbglhdfdaa
open Go.RowKit Go.Maps
theorem find_inl {σ : Ds} {x : Tx} {e : Nat} (h : σ.find x = .inl e) : e = 91 ∨ e = 110 := by
  unfold Ds.find at h
  split at h
  · split at h
    · injection h with h; exact .inr h.symm
    · cases h
  · injection h with h; exact .inl h.symm
theorem find_inr {σ : Ds} {x : Tx} {i : Nat} (h : σ.find x = .inr i) : isN x = true ∧ lk σ.st x = some i := by
  unfold Ds.find at h
  split at h
  · rename_i hN
    split at h
    · cases h
    · rename_i j hj
      injection h with h
      subst h
      exact ⟨hN, hj⟩
  · cases h
theorem Rest.found {w : World} {F : Nat → Prop} {σ : Ds} {m : List Nat} {rv : Nat → Value} {st sf : Option Nat} {pv : Value} (h : Rest w F σ m rv st sf pv) {x : Tx} {i : Nat} (hf : σ.find x = .inr i) : i < σ.bs.length := by
  obtain ⟨hN, hk⟩ := find_inr hf
  have hl := isN_len hN
  exact (h.look (x := x) (by unfold maxLen; omega)).2 i hk
theorem DrAt.fn {w w' : World} {db : Nat} {σ : Ds} {F : Nat → Prop} (h : DrAt w db σ F) (hb : Below w.heap.size w w') : DrAt w' db σ (Fn F w w') ∧ Tn F w w' := ⟨(h.below hb).more (fun _ hb => .inl hb) (fun b hb' => by
    rcases hb' with h1 | h1
    · exact Nat.lt_of_lt_of_le (h.2.1 b h1) hb.size
    · exact h1.2), Tn.of_below hb⟩
theorem own_pos {w : World} {base : Nat} {e : TypeId} {sz n : Nat} {v : Value} {xs : List Value} (h : w.ownsRow base e sz v n xs) (h0 : 0 < n) : ∃ g cap, v = .slice (some ⟨g, 0, none⟩) n cap := by
  rcases h.2 with ⟨_, h1⟩ | ⟨g, cap, c, hv, _⟩
  · omega
  · exact ⟨g, cap, hv⟩
theorem row_typed {w : World} {base : Nat} {e : TypeId} {sz n : Nat} {v : Value} {xs : List Value} (h : w.ownsRow base e sz v n xs) {b : Nat} {o : Obj} (hb : w.heap[b]? = some o) (hne : ∀ c r, o ≠ .cells c e r) : some b ≠ v.ownBlock := by
  intro e1
  rcases h.2 with ⟨hv, _⟩ | ⟨g, cap, c, hv, _, hh, _⟩
  · rw [hv] at e1; cases e1
  · rw [hv] at e1
    simp [Value.ownBlock] at e1
    subst e1
    rw [hb] at hh
    injection hh with hh
    exact hne _ _ hh
theorem cells_ne {c c' : Array Value} {t t' : TypeId} {r r' : Nat × Nat} (h : t ≠ t') : Obj.cells c t r ≠ Obj.cells c' t' r' := fun e => by injection e with _ e2; exact h e2
/-- Behind append: the body's block and the drive's own are as they were. -/
theorem append_pre {w1 w3 : World} {db room i z : Nat} {used : Int} {F : Nat → Prop} {σ : Ds} {m : List Nat} {rv : Nat → Value} {st sf : Option Nat} {pv : Value} (S : StAt w1 db room used st sf pv) (R : Rest w1 F σ m rv st sf pv) (hi : i < σ.bs.length) (hg : (w1.drewN z).grownBy w3 (rv i).ownBlock) :
    StAt w3 db room used st sf pv ∧ w3.heap[m.getD i 0]? = some (.cells #[rv i, .int .i64 ((σ.body i).safe : Int)] 100 (0, 0)) ∧ db ≠ m.getD i 0 := by
  have B := R.bod i hi
  refine ⟨(hg.block db (blt S) (row_typed B.row S (fun c r => cells_ne (by decide)))).trans S, (hg.block _ (blt B.blk) (row_typed B.row B.blk (fun c r => cells_ne (by decide)))).trans B.blk, fun e => ?_⟩
  have h8 := B.blk
  rw [← e] at h8
  have h9 : w1.heap[db]? = _ := S
  rw [h9] at h8
  injection h8 with h8
  exact cells_ne (by decide) h8
theorem append_fin {w1 w3 : World} {db i z g' cap' : Nat} {used u' : Int} {F : Nat → Prop} {σ : Ds} {m : List Nat} {rv : Nat → Value} {st sf : Option Nat} {pv : Value} (S : StAt w1 db σ.room used st sf pv) (R : Rest w1 F σ m rv st sf pv) (hFd : F db) (hFw : ∀ b, F b → b < w1.heap.size) (hi : i < σ.bs.length) (hg : (w1.drewN z).grownBy w3 (rv i).ownBlock) (d : Tx) (k : Nat) (hk : (σ.body i).data.length + d.length = k)
    (hown : w3.ownsRow 0 5 1 (.slice (some ⟨g', 0, none⟩) k cap') k ((σ.body i).data.map u8v ++ d.map u8v)) (hloc : (Value.slice (some ⟨g', 0, none⟩) k cap').ownBlock = (rv i).ownBlock ∨ (Value.slice (some ⟨g', 0, none⟩) k cap').ownBlock = some (w1.drewN z).heap.size) (w' : World)
    (hw' : w' = (w3.setCell ⟨m.getD i 0, 0, none⟩ (.slice (some ⟨g', 0, none⟩) k cap')).setCell ⟨db, 1, none⟩ (.int .i64 u')) :
    DrAt w' db { (σ.setBody i ⟨(σ.body i).data ++ d, (σ.body i).safe⟩) with used := u' } (Fn F w1 w') ∧ Tn F w1 w' := by
  obtain ⟨S3, hb3, hne⟩ := append_pre S R hi hg
  obtain ⟨cg, hbg⟩ := own_blk hown
  have hsz : w1.heap.size ≤ w3.heap.size := hg.size
  have hsz' : w'.heap.size = w3.heap.size := by rw [hw']; simp [World.setCell]
  have g1 : g' ≠ m.getD i 0 := fun e => by
    rw [e, hb3] at hbg
    injection hbg with hbg
    exact cells_ne (by decide) hbg
  have g2 : g' ≠ db := fun e => by
    have h9 : w3.heap[db]? = _ := S3
    rw [← e, hbg] at h9
    injection h9 with h9
    exact cells_ne (by decide) h9
  have oth : ∀ b, b ≠ db → b ≠ m.getD i 0 → w'.heap[b]? = w3.heap[b]? := by
    intro b h1 h2
    rw [hw', Below.heap_setCell _ _ _ _ h1, Below.heap_setCell _ _ _ _ h2]
  have S4 : StAt (w3.setCell ⟨m.getD i 0, 0, none⟩ (.slice (some ⟨g', 0, none⟩) k cap')) db σ.room used st sf pv := (Below.heap_setCell _ _ _ _ hne).trans S3
  have B := R.bod i hi
  have hFn : ∀ b, Fn F w1 w' b → b < w'.heap.size := by
    rintro b (h1 | h1)
    · have := hFw b h1; omega
    · exact h1.2
  refine ⟨⟨.inl hFd, hFn, m, (fun j => if j = i then .slice (some ⟨g', 0, none⟩) k cap' else rv j), st, sf, pv, ?_, ?_⟩, ?_⟩
  · rw [hw']
    exact S4.set1 _
  · have := R.setBody (w' := w') (G := Fn F w1 w') hFw (fun b hb => .inl hb) i hi ⟨(σ.body i).data ++ d, (σ.body i).safe⟩ (.slice (some ⟨g', 0, none⟩) k cap') ?_ ?_ ?_ ?_ u'
    · exact ⟨this.dirs, this.len, this.nodup, this.bod, this.sep, this.pnd, this.pvF⟩
    · intro bl o hF ho n1 n2 n3
      rw [oth bl (fun e => by
        have h9 : w1.heap[db]? = _ := S
        rw [← e, ho] at h9
        injection h9 with h9
        exact n3 _ _ h9) n1]
      exact hg.block bl (blt ho) n2
    · rw [hw', Below.heap_setCell _ _ _ _ (fun e => hne e.symm), heap_setCell_same w3 _ 0 _ _ _ hb3]
      rfl
    · unfold Ob
      have e1 : ((σ.body i).data ++ d).length = k := by simp [hk]
      have e2 : ((σ.body i).data ++ d).map u8v = (σ.body i).data.map u8v ++ d.map u8v := by simp
      show w'.ownsRow 0 5 1 _ ((σ.body i).data ++ d).length (((σ.body i).data ++ d).map u8v)
      rw [e1, e2]
      refine ob_same hown (fun g hgg => ?_)
      have : g = g' := by simpa [Value.ownBlock] using hgg.symm
      subst this
      exact oth g g2 g1
    · rcases hloc with h1 | h1
      · exact .inl h1
      · refine .inr (fun g hgg => ?_)
        rw [h1] at hgg
        injection hgg with hgg
        have h2 : g' = (w1.drewN z).heap.size := by simpa [Value.ownBlock] using h1
        have h3 : (w1.drewN z).heap.size = w1.heap.size := rfl
        have := blt hbg
        refine ⟨by omega, .inr ⟨by omega, by omega⟩⟩
  · have t1 : Tn F w1 w3 := ⟨hg.os, hg.tape, hg.output, hg.size, fun b hb hF => hg.block b hb (fun e => hF (B.rowF b e.symm))⟩
    rw [hw']
    exact t1.trans ((Tn.setCell w3 ⟨m.getD i 0, 0, none⟩ B.inF _).trans (Tn.setCell _ ⟨db, 1, none⟩ hFd _))
/-- From a world a little ahead. -/
theorem fn_up {w w1 w' : World} {db : Nat} {σ : Ds} {F : Nat → Prop} (hb : Below w.heap.size w w1) (hFw : ∀ b, F b → b < w.heap.size) (h : DrAt w' db σ (Fn F w1 w')) (ht : Tn F w1 w') : DrAt w' db σ (Fn F w w') := by
  have h1 := hb.size
  have h2 := ht.size
  refine h.more ?_ ?_
  · rintro b (hF | ⟨h4, h5⟩)
    · exact .inl hF
    · exact .inr ⟨by omega, h5⟩
  · rintro b (hF | ⟨_, h5⟩)
    · have := hFw b hF; omega
    · exact h5
theorem app_src {w w1 : World} {bp op z : Nat} {d : Tx} (hb : Below w.heap.size w w1) (hc : ∀ i, i < d.length → w.cell? ⟨bp, op + i, none⟩ = some (u8v (d.getD i 0))) : ∀ j u, (d.map u8v)[j]? = some u → (w1.drewN z).cell? ((⟨bp, op, none⟩ : Addr).add j) = some u := by
  intro j u hu
  rw [List.getElem?_map] at hu
  cases hj : d[j]? with
  | none => rw [hj] at hu; cases hu
  | some y =>
    rw [hj] at hu
    injection hu with hu
    have hl : j < d.length := (List.getElem?_eq_some_iff.1 hj).1
    rw [add_pl]
    have h1 : w1.cell? ⟨bp, op + j, none⟩ = some (u8v (d.getD j 0)) := cell_below (hc j hl) hb
    have h2 : d.getD j 0 = y := by simp [List.getD, hj]
    rw [h2, hu] at h1
    exact h1
theorem app_one (d : Tx) : ∀ u ∈ d.map u8v, u.oneCell' = true := by
  intro u hu
  obtain ⟨b, _, rfl⟩ := List.mem_map.1 hu
  rfl
section
attribute [local irreducible] Calls
set_option maxRecDepth 1000000 in
theorem append_none (x : Tx) (v : Value) (w : World) : Calls Try.prog 14 #[.pointer none, encStr x, v] w fun e w' => e = .returned (.int .i64 1) ∧ Below w.heap.size w w' := by
  have hF := (show Hid _ from fun w => find_nil x w)
  go_enter Try.func14, Try.ntmps14
  go_wp2_with (go_at_call 45; refine (hF.out _).mono ?_; rintro e w1 ⟨rfl, hb⟩)
  go_ret
  exact ⟨rfl, hb⟩
set_option maxHeartbeats 4000000 in
set_option maxRecDepth 1000000 in
theorem append_any {w : World} {db : Nat} {σ : Ds} {F : Nat → Prop} (h : DrAt w db σ F) (ok : Okd σ) (x : Tx) (hx : x.length ≤ 9223372036854775807) (p : Option Addr) (n c : Nat) (d : Tx) (hd : Rx w p d) (hn : d.length = n) (hm : n ≤ 140737488355328)
    (hroom : ∀ i, σ.find x = .inr i → σ.used + (d.length : Int) ≤ (σ.room : Int) → (σ.body i).data.length + d.length ≤ 140737488355328) :
    Calls Try.prog 14 #[.pointer (some ⟨db, 0, none⟩), encStr x, .slice p n c] w fun e w' => e = .returned (.int .i64 (σ.append x d).1) ∧ DrAt w' db (σ.append x d).2 (Fn F w w') ∧ Tn F w w' := by
  have h0 := (show Hid (DrAt w db σ F) from h)
  obtain ⟨hFd, hFw, m, rv, st, sf, pv, S, R⟩ := h
  have hF := (show Hid _ from find_any S R hFw x hx)
  unfold Ds.append
  cases hf : σ.find x with
  | inl e9 =>
    dsimp only
    rw [hf] at hF
    unfold fndv at hF
    have he := find_inl hf
    have g1 : ((e9 : Int) != 0) = true := by
      rcases he with rfl | rfl <;> rfl
    have g2 : ¬ (e9 : Int) = 0 := by rcases he with rfl | rfl <;> decide
    clear hroom S R ok he hf hFw hFd
    go_enter Try.func14, Try.ntmps14
    go_wp2_with (go_at_call 45; refine hF.out.mono ?_; rintro e w1 ⟨rfl, hb⟩)
    go_ret
    exact ⟨rfl, DrAt.fn h0.out hb⟩
  | inr i =>
    dsimp only
    have hi := R.found hf
    have hro := hroom i hf
    rw [hf] at hF
    unfold fndv ptv pta at hF
    simp only at hF
    clear hroom hf
    by_cases hd0 : d = []
    · rw [if_pos hd0]
      have hn0 : n = 0 := by rw [← hn, hd0]; rfl
      subst hn0
      clear S R ok hFw hFd hro
      go_enter Try.func14, Try.ntmps14
      go_wp2_with (go_at_call 45; refine hF.out.mono ?_; rintro e w1 ⟨rfl, hb⟩)
      go_ret
      exact ⟨rfl, DrAt.fn h0.out hb⟩
    · rw [if_neg hd0]
      have hn1 : ¬ (n : Int) = 0 := by
        intro e
        apply hd0
        apply List.length_eq_zero_iff.1
        omega
      obtain ⟨bp, op, rfl, hcp⟩ : ∃ b off, p = some ⟨b, off, none⟩ ∧ ∀ i, i < d.length → w.cell? ⟨b, off + i, none⟩ = some (u8v (d.getD i 0)) := by
        rcases hd with e | e
        · exact absurd e hd0
        · exact e
      have wu : wrap64 (σ.used + (n : Int)) = σ.used + (n : Int) := by
        have := ok.u0
        have := ok.u1
        unfold wrap64
        omega
      have SB := (show Hid (∀ w1, Below w.heap.size w w1 → _) from fun w1 (hb : Below w.heap.size w w1) => S.below hb)
      have RB := (show Hid (∀ w1, Below w.heap.size w w1 → _) from fun w1 (hb : Below w.heap.size w w1) => R.below hb)
      have HH := (show Hid (_ ∧ _ ∧ _ ∧ _ ∧ _) from ⟨hFd, hFw, hi, hcp, hro⟩)
      rw [hn]
      by_cases hfull : (σ.room : Int) < σ.used + (n : Int)
      · rw [if_pos hfull]
        clear S R ok hFd hFw hi hcp hro hd hd0 HH RB
        go_enter Try.func14, Try.ntmps14
        go_wp2_with (go_at_call 45; refine hF.out.mono ?_; rintro e w1 ⟨rfl, hb⟩; have S1 := SB.out w1 hb; have c0 := S1.cell.1; have c1 := S1.cell.2.1; have HB := (show Hid _ from hb); clear S1 SB hF hb)
        go_quiet (fail)
        go_wp2
        go_ret
        exact ⟨rfl, DrAt.fn h0.out (HB.out.trans ⟨rfl, rfl, rfl, Nat.le_refl _, fun _ _ => rfl⟩)⟩
      · rw [if_neg hfull]
        have hgr : decide ((σ.room : Int) < σ.used + (n : Int)) = false := by simpa using hfull
        have hrow := (R.bod i hi).row
        obtain ⟨i0, hi0, hz0, hz1, hz2⟩ := info_parts info5
        have hnb : (σ.body i).data.length + n ≤ 140737488355328 := by rw [← hn]; exact hro (by omega)
        have hn2 : 0 < (σ.body i).data.length + n := by omega
        have HN := (show Hid (d.length = n) from hn)
        have HM := (show Hid (_ ∧ _) from ⟨hnb, hn2⟩)
        obtain ⟨q, hq⟩ : ∃ q, q = m.getD i 0 := ⟨_, rfl⟩
        rw [← hq] at hF
        have HQ := (show Hid _ from hq)
        clear S R ok hFd hFw hi hcp hro hd hd0 hrow hnb hn2 hn hq
        go_enter Try.func14, Try.ntmps14
        go_wp2_with (go_at_call 45; refine hF.out.mono ?_; rintro e w1 ⟨rfl, hb⟩; have S1 := SB.out w1 hb; have R1 := (RB.out w1 hb).bod i HH.out.2.2.1; rw [← HQ.out] at R1; have c0 := S1.cell.1; have c1 := S1.cell.2.1; have b0 := R1.cells.1; have HB := (show Hid (_ ∧ _ ∧ _) from ⟨hb, S1, R1⟩); clear S1 R1 hF hb)
        go_quiet (fail)
        clear c0 c1
        go_wp2_with (at_builtin; refine wpList_append_own_at _ rfl _ _ 26 rfl 0 5 i0 (.int .u8 0) 1 1 Try.underlying26 hi0 hz0 hz1 hz2 rfl (by decide) _ _ _ rfl HB.out.2.2.row ⟨bp, op, none⟩ n c (d.map u8v) rfl (by simp [HN.out]) (app_src HB.out.1 HH.out.2.2.2.1) (app_one d) (by have := HM.out.1; unfold maxLen; omega) (by have := HM.out.1; omega) (Nat.zero_le _) ?_; intro v' w3 hown' hg3 _ hloc; obtain ⟨g', cap', rfl⟩ := own_pos hown' HM.out.2; have PR := append_pre HB.out.2.1 (RB.out w1 HB.out.1) HH.out.2.2.1 hg3; rw [← HQ.out] at PR; obtain ⟨S3, k3, ne3⟩ := PR; have y1 := S3.cell.2.1; have y2 := S3.frozen 1; have k0 := cell_of_row w3 q 0 _ _ (0, 0) k3; have k1 := frozen_of_row w3 q 0 _ _ k3; have ne4 : ¬ q = db := (fun e => ne3 e.symm); have HZ := (show Hid (_ ∧ _ ∧ _) from ⟨hown', hg3, hloc⟩); clear S3 k3 hown' hg3 hloc)
        go_ret
        obtain ⟨hown', hg3, hloc⟩ := HZ.out
        obtain ⟨hFd, hFw, hi, _, _⟩ := HH.out
        have hb := HB.out.1
        have FN := append_fin (u' := σ.used + (n : Int)) HB.out.2.1 (RB.out w1 hb) hFd (fun b hF => Nat.lt_of_lt_of_le (hFw b hF) hb.size) hi hg3 d _ (by rw [HN.out]) hown' hloc _ (by rw [← HQ.out])
        exact ⟨rfl, fn_up hb hFw FN.1 FN.2, Tn.up hb FN.2 (fun k _ hk => hk)⟩
end
end Go.Proofs.Ytaddgmbglhdfdaa
