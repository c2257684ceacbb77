/-
  Crash of a drive: the walk.
-/
import Derived.Test.YtbdkdoeiajfkfaaGreatDsG
namespace Go.Proofs.YtbdkdoeiajfkfaaGreat
open Go.RowKit Go.Maps Go.Sort
theorem CrA.cell {w wr : World} {F : Nat → Prop} {σ : Ds} {dirs : List Bool} {m : List Nat} {rv : Nat → Value} {st sf : Option Nat} {pv : Value} {k : Nat} (h : CrA σ dirs m sf w k wr) (R : Rest w F σ m rv st sf pv) {b o : Nat} {v : Value} (hc : w.cell? ⟨b, o, none⟩ = some v) : wr.cell? ⟨b, o, none⟩ = some v := by
  refine (cell_blk o (h.tn.block b (block_lt_of_cell hc) (fun e => ?_))).trans hc
  rcases R.dirs with ⟨_, e2, _⟩ | ⟨s, f, _, e2, _, _, _, _, hM⟩
  · rw [e] at e2; cases e2
  · rw [e] at e2
    injection e2 with e2
    subst e2
    obtain ⟨es, ck, ho, _⟩ := hM
    simp [World.cell?, ho] at hc
theorem Bls.below {w w' : World} {p : Option Addr} {xs : List Bool} (h : Bls w p xs) (hb : Below w.heap.size w w') : Bls w' p xs := fun i hi => by
  obtain ⟨b, o, e, hc⟩ := h i hi
  exact ⟨b, o, e, cell_belowD hc hb⟩
theorem Ils.below {w w' : World} {p : Option Addr} {xs : List Int} (h : Ils w p xs) (hb : Below w.heap.size w w') : Ils w' p xs := fun i hi => by
  obtain ⟨b, o, e, hc⟩ := h i hi
  exact ⟨b, o, e, cell_belowD hc hb⟩
theorem crf_nn {σ : Ds} {k0 : Nat} (ok : Okk k0 σ) (dirs : List Bool) : ∀ k, NN (crf σ dirs k) ∧ Tidy (crf σ dirs k)
  | 0 => ⟨ok.nf, ok.tf⟩
  | k + 1 => by
    obtain ⟨h1, h2⟩ := crf_nn ok dirs k
    rw [crf_succ]
    split
    · exact ⟨fol_nn h2 h1 _, (fol_tidy h2 _).1⟩
    · exact ⟨h1, h2⟩
theorem rising_dr {X : World} {db : Nat} {τ : Ds} {F : Nat → Prop} {sf : Option Nat} (h : DrAt X db τ F) (hc : X.cell? ⟨db, 3, none⟩ = some (.map sf)) (hs : Maps.size τ.sf ≤ 8000000000000) : Calls Tryz.prog 26 #[.map sf] X fun e w' => ∃ v, e = .returned v ∧ Ts w' X.heap.size v (nms τ.sf) ∧ Below X.heap.size X w' := by
  obtain ⟨_, _, m, rv, st, sf', pv, S, R⟩ := h
  rw [S.cell.2.2.2.1] at hc
  injection hc with hc
  injection hc with hc
  subst hc
  exact rising_sf R hs
/-- The second loop of Crash. -/
structure CrB (τ : Ds) (cuts : List Int) (db : Nat) (F : Nat → Prop) (K Z : Nat) (w2 : World) (k : Nat) (wr : World) : Prop where
  D : DrAt wr db (crn τ cuts k) (Fn F w2 wr)
  T : Tn F w2 wr
  C : CI K k Z (crn τ cuts k)
  hs : ∀ y, has τ.sf (.string y) = true → has (crn τ cuts k).sf (.string y) = true
theorem cr1_ci {σ : Ds} {k0 : Nat} {w : World} {F : Nat → Prop} {m : List Nat} {rv : Nat → Value} {st sf : Option Nat} {pv : Value} (ok : Okk k0 σ) (okp : Okp σ) (R : Rest w F σ m rv st sf pv) (dirs : List Bool) : CI k0 0 (2 * k0) (cr1 σ dirs) := by
  obtain ⟨h1, h2⟩ := crf_nn ok dirs σ.pend.length
  have h3 := (crf_small okp R dirs σ.pend.length (Nat.le_refl _)).2
  have h4 := ok.sp
  refine ⟨h1, h2, fun i => ⟨ok.sa i, ok.bl i⟩, Int.le_refl _, by simp [cr1], ?_⟩
  show Maps.size (crf σ dirs σ.pend.length) ≤ _
  omega
theorem CrB.start {σ : Ds} {k0 db : Nat} {w X w2 : World} {F : Nat → Prop} {m : List Nat} {rv : Nat → Value} {st sf : Option Nat} {pv : Value} {dirs : List Bool} {cuts : List Int} (ok : Okk k0 σ) (okp : Okp σ) (R : Rest w F σ m rv st sf pv) (D : DrAt X db (cr1 σ dirs) F) (hb : Below X.heap.size X w2) (_hk : k0 ≤ 134217728) : CrB (cr1 σ dirs) cuts db F k0 (2 * k0) w2 0 w2 :=
  ⟨(DrAt.fn (D.below hb) (Below.refl _ _)).1, Tn.refl _ _, cr1_ci ok okp R dirs, fun _ h => h⟩
theorem dr_keys {X : World} {db : Nat} {τ : Ds} {F : Nat → Prop} (h : DrAt X db τ F) : ∀ x ∈ nms τ.sf, has τ.sf (.string x) = true ∧ x.length ≤ maxLen := by
  intro x hx
  obtain ⟨_, _, m, rv, st, sf, pv, S, R⟩ := h
  rcases R.dirs with ⟨_, _, _, e, _⟩ | ⟨s, f, _, _, _, _, _, _, hM⟩
  · rw [e, nms_nil] at hx; simp at hx
  · exact key_has hM (nms_mem.1 hx)
theorem ts_base {w : World} {base g n c : Nat} {xs : List Tx} (h : Ts w base (.slice (some ⟨g, 0, none⟩) n c) xs) : base ≤ g := by
  rcases h.2 with ⟨hv, _⟩ | ⟨g', cap, cur, hv, h1, _⟩
  · cases hv
  · cases hv; exact h1
theorem cr_used {u : Int} {j K : Nat} (h0 : 0 ≤ u) (h1 : u ≤ ((j * K : Nat) : Int)) (hK : K ≤ 134217728) (hj : j ≤ 268435456) : 0 ≤ u ∧ u ≤ 36028797018963968 := by
  have : j * K ≤ 268435456 * 134217728 := Nat.mul_le_mul hj hK
  omega
theorem crs_upd {wr w4 : World} {f : Nat} {F : Nat → Prop} {σ : Ds} {m : List Nat} {rv : Nat → Value} {st : Option Nat} {pv : Value} (R : Rest wr F σ m rv st (some f) pv) (hFw : ∀ b, F b → b < wr.heap.size) (hb4 : Below wr.heap.size wr w4) (o : Obj) (x : Tx) (hx : x.length ≤ maxLen) (hs : Maps.size σ.sf < maxLen) : ∃ w6, (Instr.mapUpdate 58 (.map (some f)) (encStr x) (.pointer (some ⟨w4.heap.size, 0, none⟩))).run Tryz.prog ((w4.alloc o).drew) = .ok () w6 ∧ w6.ownsMap Tryz.prog 9 (ptR (m ++ [w4.heap.size])) f (Maps.size σ.sf + 1) (σ.sf.put (.string x) (ip σ.bs.length)) ∧ (w4.alloc o).drew.grownBy w6 (some f) := by
  obtain ⟨s, f', _, e2, _, _, _, _, hM⟩ : ∃ s f', st = some s ∧ some f = some f' ∧ s ≠ f' ∧ F s ∧ F f' ∧ MpAt wr m s σ.st ∧ MpAt wr m f' σ.sf := by
    rcases R.dirs with ⟨_, e, _⟩ | h9
    · cases e
    · exact h9
  injection e2 with e2
  subst e2
  have hM5 : ((w4.alloc o).drew).ownsMap Tryz.prog 9 (ptR (m ++ [w4.heap.size])) f (Maps.size σ.sf) σ.sf := om_same (om_more (om_upto hM (btD hb4 (alb w4 o))) [w4.heap.size]) rfl
  have hnd : (m ++ [w4.heap.size]).Nodup := by
    rw [List.nodup_append]
    refine ⟨R.nodup, by simp, fun a ha b hb e => ?_⟩
    obtain ⟨i, hi, rfl⟩ := List.getElem_of_mem ha
    have hb' : b = w4.heap.size := by simpa using hb
    have hi' : i < σ.bs.length := by rw [← R.len]; exact hi
    have := hFw _ (R.bod i hi').inF
    have e3 : m.getD i 0 = m[i] := by simp [hi]
    have := hb4.size
    omega
  have hv := ptR_some hnd (i := m.length) (by simp)
  rw [show ptv (m ++ [w4.heap.size]) (some m.length) = .pointer (some ⟨w4.heap.size, 0, none⟩) by simp [ptv, pta], R.len] at hv
  exact hM5.update lawS Tryz.underlying58 hs (key_enc hx) hv
theorem CrB.step {τ : Ds} {cuts : List Int} {db : Nat} {F : Nat → Prop} {K Z : Nat} {w2 : World} {k : Nat} {wr w7 : World} (h : CrB τ cuts db F K Z w2 k wr) {x : Tx} (hx : x = (nms τ.sf).getD k []) (hh : has τ.sf (.string x) = true) (hD : DrAt w7 db (crs1 (crn τ cuts k) x (cuts.getD k 0)) (Fn (Fn F w2 wr) wr w7)) (hT : Tn (Fn F w2 wr) wr w7) : CrB τ cuts db F K Z w2 (k + 1) w7 := by
  have s1 := h.T.size
  have s2 := hT.size
  have hF := h.D.2.1
  have e : crn τ cuts (k + 1) = crs1 (crn τ cuts k) x (cuts.getD k 0) := by rw [crn_succ, hx]
  refine ⟨?_, ⟨hT.os.trans h.T.os, hT.tape.trans h.T.tape, hT.output.trans h.T.output, by omega, fun b hb hn => (hT.block b (by omega) ?_).trans (h.T.block b hb hn)⟩, ?_, fun y hy => ?_⟩
  · rw [e]
    refine hD.more ?_ ?_
    · rintro b ((h9 | h9) | h9)
      · exact .inl h9
      · exact .inr ⟨h9.1, by omega⟩
      · exact .inr ⟨by omega, h9.2⟩
    · rintro b (h9 | h9)
      · have := hF b (.inl h9); omega
      · exact h9.2
  · rintro (h9 | h9)
    · exact hn h9
    · omega
  · rw [e]
    exact h.C.step (h.hs x hh) _
  · rw [e]
    exact has_crs h.C.ti _ (h.hs y hy)
theorem crash_end {w W X w2 wr w9 : World} {db : Nat} {F : Nat → Prop} {τ : Ds} (bW : Below w.heap.size w W) (hFw : ∀ b, F b → b < w.heap.size) (hTX : Tn F W X) (hb2 : Below X.heap.size X w2) (hT : Tn F w2 wr) (hD : DrAt w9 db τ (Fn (Fn F w2 wr) wr w9)) (hT9 : Tn (Fn F w2 wr) wr w9) : DrAt w9 db τ (Fn F w w9) ∧ Tn F w w9 := by
  have s0 := bW.size
  have s1 := hTX.size
  have s2 := hb2.size
  have s3 := hT.size
  have s4 := hT9.size
  refine ⟨hD.more ?_ ?_, ⟨hT9.os.trans (hT.os.trans (hb2.os.trans (hTX.os.trans bW.os))), hT9.tape.trans (hT.tape.trans (hb2.tape.trans (hTX.tape.trans bW.tape))), hT9.output.trans (hT.output.trans (hb2.output.trans (hTX.output.trans bW.output))), by omega, fun b hb hn => ?_⟩⟩
  · rintro b ((h | h) | h)
    · exact .inl h
    · exact .inr ⟨by omega, by omega⟩
    · exact .inr ⟨by omega, h.2⟩
  · rintro b (h | h)
    · have := hFw b h; omega
    · exact h.2
  · refine (hT9.block b (by omega) ?_).trans ((hT.block b (by omega) hn).trans ((hb2.block b (by omega)).trans ((hTX.block b (by omega) hn).trans (bW.block b hb))))
    rintro (h | h)
    · exact hn h
    · omega
theorem clone_cases {wr : World} {F : Nat → Prop} {τ : Ds} {m : List Nat} {rv : Nat → Value} {st sf : Option Nat} {pv : Value} (R : Rest wr F τ m rv st sf pv) :
    (sf = none ∧ ∀ w, Calls Tryz.prog 29 #[.map none] w fun e w' => e = .returned (.map none) ∧ w' = w) ∨
    ∃ f, sf = some f ∧ Calls Tryz.prog 29 #[.map (some f)] wr fun e w' => e = .returned (.map (some wr.heap.size)) ∧ MpAt w' m wr.heap.size τ.sf ∧ Below wr.heap.size wr w' := by
  rcases R.dirs with ⟨_, e, _⟩ | ⟨s, f, _, e, _, _, _, _, hM⟩
  · exact .inl ⟨e, fun w => AnyW.maps_Clone_nil Tryz.mclone w⟩
  · refine .inr ⟨f, e, (AnyW.maps_Clone_owns Tryz.mclone 9 (ptR m) f (Maps.size τ.sf) τ.sf wr hM).mono ?_⟩
    rintro e w' ⟨h1, h2, _, h4⟩
    exact ⟨h1, h2, h4⟩
theorem clone_none {wr : World} {db : Nat} {F : Nat → Prop} {τ : Ds} {m : List Nat} {rv : Nat → Value} {st : Option Nat} {pv : Value} (S : StAt wr db τ.room τ.used st none pv) (R : Rest wr F τ m rv st none pv) (hFd : F db) (hFw : ∀ b, F b → b < wr.heap.size) : DrAt (wr.setCell ⟨db, 2, none⟩ (.map none)) db { τ with st := τ.sf } (Fn F wr (wr.setCell ⟨db, 2, none⟩ (.map none))) ∧ Tn F wr (wr.setCell ⟨db, 2, none⟩ (.map none)) := by
  obtain ⟨e1, e2, e3, e4, e5⟩ : st = none ∧ (none : Option Nat) = none ∧ τ.st = .map [] ∧ τ.sf = .map [] ∧ τ.pend = [] := by
    rcases R.dirs with h | ⟨s, f, _, e, _⟩
    · exact h
    · cases e
  subst e1
  have T := Tn.setCell (F := F) wr ⟨db, 2, none⟩ hFd (.map none)
  have S' : StAt (wr.setCell ⟨db, 2, none⟩ (.map none)) db τ.room τ.used none none pv := by
    unfold StAt at S ⊢
    rw [heap_setCell_same wr db 2 _ _ _ S]
    rfl
  have R' := (R.setSt S 2 (.map none)).more (G := Fn F wr (wr.setCell ⟨db, 2, none⟩ (.map none))) (fun b h => .inl h)
  refine ⟨⟨.inl hFd, ?_, m, rv, none, none, pv, S', ?_⟩, T⟩
  · rintro b (h | h)
    · exact Nat.lt_of_lt_of_le (hFw b h) T.size
    · exact h.2
  · exact ⟨.inl ⟨rfl, rfl, e4, e4, e5⟩, R'.len, R'.nodup, R'.bod, R'.sep, R'.pnd, R'.pvF⟩
theorem clone_some {wr w8 : World} {db f : Nat} {F : Nat → Prop} {τ : Ds} {m : List Nat} {rv : Nat → Value} {st : Option Nat} {pv : Value} (S : StAt wr db τ.room τ.used st (some f) pv) (R : Rest wr F τ m rv st (some f) pv) (hFd : F db) (hFw : ∀ b, F b → b < wr.heap.size) (hM : MpAt w8 m wr.heap.size τ.sf) (hb : Below wr.heap.size wr w8) : DrAt (w8.setCell ⟨db, 2, none⟩ (.map (some wr.heap.size))) db { τ with st := τ.sf } (Fn F wr (w8.setCell ⟨db, 2, none⟩ (.map (some wr.heap.size)))) ∧ Tn F wr (w8.setCell ⟨db, 2, none⟩ (.map (some wr.heap.size))) := by
  obtain ⟨s, f', e1, e2, hne, f1, f2, m1, m2⟩ : ∃ s f', st = some s ∧ some f = some f' ∧ s ≠ f' ∧ F s ∧ F f' ∧ MpAt wr m s τ.st ∧ MpAt wr m f' τ.sf := by
    rcases R.dirs with ⟨_, e, _⟩ | h9
    · cases e
    · exact h9
  injection e2 with e2
  subst e2
  have S8 := S.below hb
  have R8 := R.below hb
  have hlt : wr.heap.size < w8.heap.size := by
    obtain ⟨es, ck, ho, _⟩ := hM
    exact blt ho
  have T8 : Tn F wr w8 := Tn.of_below hb
  have T := T8.trans (Tn.setCell (F := F) w8 ⟨db, 2, none⟩ hFd (.map (some wr.heap.size)))
  have S' : StAt (w8.setCell ⟨db, 2, none⟩ (.map (some wr.heap.size))) db τ.room τ.used (some wr.heap.size) (some f) pv := by
    unfold StAt at S8 ⊢
    rw [heap_setCell_same w8 db 2 _ _ _ S8]
    rfl
  have R' := (R8.setSt S8 2 (.map (some wr.heap.size))).more (G := Fn F wr (w8.setCell ⟨db, 2, none⟩ (.map (some wr.heap.size)))) (fun b h => .inl h)
  have hkeep : ∀ b, b ≠ db → (w8.setCell ⟨db, 2, none⟩ (.map (some wr.heap.size))).heap[b]? = w8.heap[b]? := fun b h => Below.heap_setCell _ _ _ _ h
  have hfd : f ≠ db := fun e => by
    obtain ⟨es, ck, ho, _⟩ := m2
    unfold StAt at S
    rw [← e, ho] at S
    cases S
  refine ⟨⟨.inl hFd, ?_, m, rv, some wr.heap.size, some f, pv, S', ?_⟩, T⟩
  · rintro b (h | h)
    · exact Nat.lt_of_lt_of_le (hFw b h) T.size
    · exact h.2
  · refine ⟨.inr ⟨wr.heap.size, f, rfl, rfl, fun e => ?_, .inr ⟨Nat.le_refl _, ?_⟩, .inl f2, om_same hM (hkeep _ (fun e => ?_)), om_same (om_upto m2 hb) (hkeep _ hfd)⟩, R'.len, R'.nodup, R'.bod, R'.sep, R'.pnd, R'.pvF⟩
    · have := hFw f f2; omega
    · simp [World.setCell]; exact hlt
    · have := hFw db hFd; omega
section
attribute [local irreducible] Calls
set_option maxHeartbeats 4000000 in
set_option maxRecDepth 1000000 in
theorem crash_gen {w : World} {db k0 : Nat} {σ : Ds} {F : Nat → Prop} (h : DrAt w db σ F) (ok : Okk k0 σ) (hk0 : k0 ≤ 134217728) (pd : Option Addr) (nd cd : Nat) (dirs : List Bool) (hdl : dirs.length = nd) (hd : Bls w pd dirs) (pc : Option Addr) (nc cc : Nat) (cuts : List Int) (hcl : cuts.length = nc) (hc : Ils w pc cuts) (hnd : nd ≤ 140737488355328) (hnc : nc ≤ 140737488355328) (hcF : 0 < nc → ∀ b o, pc = some ⟨b, o, none⟩ → ¬ F b) : Calls Tryz.prog 17 #[.pointer (some ⟨db, 0, none⟩), .agg #[.slice pd nd cd, .slice pc nc cc]] w fun e w' => e = .returned (.int .i64 0) ∧ DrAt w' db (σ.crash dirs cuts) (Fn F w w') ∧ Tn F w w' := by
  have bW := alb w (.cells #[.slice pd nd cd, .slice pc nc cc] 38)
  have hbox := heap_alloc_new w (.cells #[.slice pd nd cd, .slice pc nc cc] 38)
  have hFw0 := h.2.1
  have hW := h.below bW
  have hd' := hd.below bW
  have hc' := hc.below bW
  have hsW : (w.alloc (.cells #[.slice pd nd cd, .slice pc nc cc] 38)).heap.size = w.heap.size + 1 := by simp
  obtain ⟨W, hWd⟩ : ∃ W, W = w.alloc (.cells #[.slice pd nd cd, .slice pc nc cc] 38) := ⟨_, rfl⟩
  rw [← hWd] at bW hbox hW hd' hc' hsW
  obtain ⟨hFd, hFw, m, rv, st, sf, pv, S, R⟩ := hW
  obtain ⟨cv, h1, h2, h3⟩ := R.pnd
  obtain ⟨n, hn⟩ : ∃ n, n = σ.pend.length := ⟨_, rfl⟩
  obtain ⟨p, c, hpv⟩ := own_len h1
  rw [← hn] at hpv
  have okp := ok.okp hk0
  have hnb : n ≤ 100000000000 := by rw [hn]; exact okp.pn
  have HS := (show Hid (_ ∧ _ ∧ _ ∧ _) from ⟨S, R, hFd, hFw⟩)
  have HN := (show Hid _ from hn)
  have HP := (show Hid _ from hpv)
  have HO := (show Hid (_ ∧ _ ∧ _) from ⟨h1, h2, h3⟩)
  have OK := (show Hid (_ ∧ _) from ⟨ok, okp⟩)
  have HB := (show Hid (_ ∧ _ ∧ _ ∧ _) from ⟨bW, hbox, hFw0, hsW⟩)
  have HD := (show Hid (_ ∧ _) from ⟨hd', hdl⟩)
  have HC := (show Hid (_ ∧ _ ∧ _) from ⟨hc', hcl, hcF⟩)
  have HW := (show Hid _ from hWd)
  have HK := (show Hid _ from hk0)
  have c4 := S.cell.2.2.2.2
  rw [hpv] at c4
  rw [hWd] at c4
  clear S R hFd hFw h1 h2 h3 ok okp hn hpv bW hbox hFw0 hsW hd hd' hdl hc hc' hcl hWd hk0 h hcF
  go_enter Tryz.func17, Tryz.ntmps17
  go_wp2
  rw [← HW.out]
  clear c4
  go_loopw [18] (fun i wr => ∃ k : Nat, k ≤ n ∧ i = .int .i64 k ∧ Hid (CrA σ dirs m sf W k wr)) (fun i _ => n - (intOf i).toNat)
  case atStart => exact ⟨0, Nat.zero_le _, rfl, CrA.start HS.out.2.1 dirs⟩
  case round =>
    obtain ⟨k, hk, rfl, hR⟩ := hrel
    have hA := hR.out
    have f0 := (cell_of_row wr w.heap.size 0 _ _ _ ((hA.cells HS.out.2.1 HB.out.2.1).trans HB.out.2.1)).trans rfl
    by_cases hlt : k < n
    · have hi : (k : Int) < (n : Int) := by omega
      have hkx : k < σ.pend.length := by rw [← HN.out]; exact hlt
      obtain ⟨g, cg, cur, hp, hgb, hck⟩ := own_cell HO.out.1 k hkx
      rw [HP.out, HN.out] at hp
      injection hp with hp _ hcc
      subst hp hcc
      obtain ⟨⟨gl, cl, hcv, hFl, hgl⟩, hids, htx⟩ := HO.out.2.2 k hkx
      have hgk : wr.cell? ⟨g, k, none⟩ = some (.slice (some ⟨gl, 0, none⟩) (σ.pend.getD k []).length cl) := by
        rw [cell_blk k (hA.cells HS.out.2.1 hgb), hck, hcv]
      obtain ⟨f, hf⟩ : ∃ f, sf = some f := by
        rcases HS.out.2.1.dirs with ⟨_, _, _, _, e⟩ | ⟨s, f, _, e, _⟩
        · rw [e] at hkx; simp at hkx
        · exact ⟨f, e⟩
      subst hf
      have hS2 : StAt wr db σ.room σ.used st (some f) pv := (hA.cells HS.out.2.1 HS.out.1).trans HS.out.1
      have c3 := hS2.cell.2.2.2.1
      have hsm := (crf_small OK.out.2 HS.out.2.1 dirs k (by omega)).2
      have h2c : (σ.pend.getD k []).length ≤ 2 := OK.out.2.pl _ (by simp [hkx])
      have hsf := OK.out.2.sf
      have FO := (show Hid _ from follow_any HS.out.2.1.nodup (hA.mp f rfl) (σ.pend.getD k []) gl cl ((hA.cells HS.out.2.1 hgl).trans hgl) hids htx (by omega))
      have hsn := (show Hid (crf σ dirs (k + 1) = if dirs.getD k false = true then fol (crf σ dirs k) (σ.pend.getD k []) else crf σ dirs k) from crf_succ σ dirs k)
      generalize σ.pend.getD k [] = ck at *
      by_cases hkd : k < nd
      · have hid2 : (k : Int) < (nd : Int) := by omega
        obtain ⟨bd, od, hpd, hcd⟩ := HD.out.1 k (by rw [HD.out.2]; exact hkd)
        subst hpd
        have hcd2 := hA.cell HS.out.2.1 hcd
        cases hdk : dirs.getD k false with
        | true =>
          rw [hdk] at hcd2 hsn
          clear hgl hids htx hck hgb hcv hS2 hkx hsm h2c hsf hcd hdk hA
          go_wp2_with (go_at_call 25; refine FO.out.mono ?_; rintro e w2 ⟨⟨v2, rfl⟩, hM2, hT2⟩)
          refine ⟨⟨k + 1, by omega, by go_num, ?_⟩, by simp [intOf]; omega⟩
          refine ⟨hR.out.tn.trans (hT2.more (fun b e => by rw [show b = f from e])), fun f' e => ?_⟩
          injection e with e
          subst e
          rw [hsn.out]
          simp only [if_true]
          exact hM2
        | false =>
          rw [hdk] at hcd2 hsn
          clear hgl hids htx hck hgb hcv hS2 hkx hsm h2c hsf hcd hdk hA FO
          go_wp2
          refine ⟨⟨k + 1, by omega, by go_num, ?_⟩, by simp [intOf]; omega⟩
          refine ⟨hR.out.tn, fun f' e => ?_⟩
          rw [hsn.out, if_neg (by decide)]
          exact hR.out.mp f' e
      · have hid2 : ¬ (k : Int) < (nd : Int) := by omega
        have hid3 : decide ((k : Int) < (nd : Int)) = false := by simpa using hid2
        have hdk : dirs.getD k false = false := by
          rw [List.getD, List.getElem?_eq_none (by rw [HD.out.2]; omega)]
          rfl
        rw [hdk] at hsn
        clear hgl hids htx hck hgb hcv hS2 hkx hsm h2c hsf hdk hA FO
        go_wp2
        refine ⟨⟨k + 1, by omega, by go_num, ?_⟩, by simp [intOf]; omega⟩
        refine ⟨hR.out.tn, fun f' e => ?_⟩
        rw [hsn.out, if_neg (by decide)]
        exact hR.out.mp f' e
    · obtain rfl : k = n := by omega
      have hi : ¬ (k : Int) < (k : Int) := by omega
      have hS2 : StAt wr db σ.room σ.used st sf pv := (hA.cells HS.out.2.1 HS.out.1).trans HS.out.1
      have y4 := hS2.cell.2.2.2.2
      have z4 := hS2.frozen 4
      have y1 := hS2.cell.2.1
      have z1 := hS2.frozen 1
      have y3 := hS2.cell.2.2.2.1
      have CE := (show Hid _ from cra_end HS.out.1 HS.out.2.1 HS.out.2.2.1 HS.out.2.2.2 (HN.out ▸ hA))
      have hbx := (show Hid _ from (hA.cells HS.out.2.1 HB.out.2.1).trans HB.out.2.1)
      clear hA hS2 f0
      have ST := (show Hid (∀ w2, Below _ _ w2 → _) from fun w2 hb2 => CrB.start (cuts := cuts) (w2 := w2) OK.out.1 OK.out.2 HS.out.2.1 CE.out.1 hb2 HK.out)
      obtain ⟨X, hX⟩ : ∃ X, X = (wr.setCell ⟨db, 4, none⟩ (.slice none 0 0)).setCell ⟨db, 1, none⟩ (.int .i64 0) := ⟨_, rfl⟩
      have hx3 : X.cell? ⟨db, 3, none⟩ = some (.map sf) := by
        rw [hX]
        have h9 := heap_setCell_same _ db 1 _ _ (.int .i64 0) (heap_setCell_same wr db 4 _ _ (.slice none 0 0) ((hR.out.cells HS.out.2.1 HS.out.1).trans HS.out.1))
        exact (cell_of_row _ db 3 _ _ _ h9).trans rfl
      rw [← hX] at CE ST
      have HXe := (show Hid _ from hX)
      have hbx2 : Hid (X.heap[w.heap.size]? = some (.cells #[.slice pd nd cd, .slice pc nc cc] 38 (0, 0))) := by
        show _ = _
        have hne : w.heap.size ≠ db := fun e => by
          have h9 := HS.out.1
          unfold StAt at h9
          rw [← e, HB.out.2.1] at h9
          injection h9 with h9
          revert h9
          exact cells_ne (by decide)
        rw [hX, Below.heap_setCell _ _ _ _ hne, Below.heap_setCell _ _ _ _ hne]
        exact hbx.out
      have RI := (show Hid _ from rising_dr CE.out.1 hx3 (by
        have h9 := (crf_small OK.out.2 HS.out.2.1 dirs σ.pend.length (Nat.le_refl _)).2
        have h8 := OK.out.2.sf
        have h7 := OK.out.2.pn
        show Maps.size (crf σ dirs σ.pend.length) ≤ _
        omega))
      obtain ⟨τ, hτ⟩ : ∃ τ, τ = cr1 σ dirs := ⟨_, rfl⟩
      have HT := (show Hid _ from hτ)
      rw [← hτ] at CE ST RI
      clear hX hx3 hbx hτ
      go_wp2_with (go_at_call 26; rw [← HXe.out]; refine RI.out.mono ?_; rintro e w2 ⟨vn, rfl, hTs, hb2⟩; obtain ⟨pn, cn, rfl⟩ := own_len hTs)
      have hst := ST.out w2 hb2
      have hkeys := (show Hid (∀ x ∈ nms τ.sf, has τ.sf (.string x) = true ∧ x.length ≤ maxLen) from dr_keys CE.out.1)
      have hns : (nms τ.sf).length ≤ 268435456 := by
        have h9 := hst.C.sz
        have h8 := HK.out
        show (nms τ.sf).length ≤ _
        rw [nms_len]
        obtain ⟨es, e, _⟩ := hst.C.ti
        have e9 : (crn τ cuts 0).sf = τ.sf := rfl
        rw [e9] at h9 e
        rw [e] at h9 ⊢
        simp [strKeys, Maps.size] at h9 ⊢
        omega
      have hFX := CE.out.1.2.1
      have hbx3 := (show Hid _ from (hb2.block w.heap.size (blt hbx2.out)).trans hbx2.out)
      have HTs := (show Hid (Ts _ _ _ _) from hTs)
      have HB2 := (show Hid (_ ∧ _) from ⟨hb2, hFX⟩)
      have HCE := (show Hid _ from CE.out.2)
      obtain ⟨n2, hn2⟩ : ∃ n2, n2 = (nms τ.sf).length := ⟨_, rfl⟩
      rw [← hn2] at hns ⊢
      have HN2 := (show Hid _ from hn2)
      have HIC := (show Hid (∀ i, i < cuts.length → ∃ b o, pc = some ⟨b, o, none⟩ ∧ w2.cell? ⟨b, o + i, none⟩ = some (.int .i64 (cuts.getD i 0)) ∧ ¬ F b) from fun i hi => by
        obtain ⟨b, o, e, hc9⟩ := HC.out.1 i hi
        have hnF := HC.out.2.2 (by have := HC.out.2.1; omega) b o e
        exact ⟨b, o, e, cell_belowD ((cell_blk (o + i) (HCE.out.block b (block_lt_of_cell hc9) hnF)).trans hc9) hb2, hnF⟩)
      have HST := (show Hid _ from hst)
      clear hst hTs hb2 hn2 hFX CE RI ST y1 y3 y4 z1 z4 hbx2
      go_loopw [54] (fun i wr => ∃ k : Nat, k ≤ n2 ∧ i = .int .i64 k ∧ Hid (CrB τ cuts db F k0 (2 * k0) w2 k wr)) (fun i _ => n2 - (intOf i).toNat)
      case atStart => exact ⟨0, Nat.zero_le _, rfl, HST.out⟩
      case round =>
        obtain ⟨j, hj, rfl, hQ⟩ := hrel
        have hB := hQ.out
        by_cases hlt2 : j < n2
        · have hi2 : (j : Int) < (n2 : Int) := by omega
          have hjx : j < (nms τ.sf).length := by rw [← HN2.out]; exact hlt2
          obtain ⟨g, cg, cur, hp, hgb, hck⟩ := own_cell HTs.out j hjx
          rw [← HN2.out] at hp
          injection hp with hp _ hcc
          subst hp hcc
          obtain ⟨x, hx⟩ : ∃ x, x = (nms τ.sf).getD j [] := ⟨_, rfl⟩
          have hxe : ((nms τ.sf).map encStr).getD j undef = encStr x := by rw [hx]; simp [hjx]
          rw [hxe] at hck
          have hgF : ¬ F g := fun h9 => by
            have h8 := HB2.out.2 g h9
            have h7 := ts_base HTs.out
            omega
          have hck2 : wr.cell? ⟨g, j, none⟩ = some (encStr x) := (cell_blk j (hB.T.block g (blt hgb) hgF)).trans hck
          have hf1 : wr.cell? ⟨w.heap.size, 1, none⟩ = some (.slice pc nc cc) := by
            have h9 := (hB.T.block w.heap.size (blt hbx3.out) (fun h8 => by have := HB.out.2.2.1 _ h8; omega)).trans hbx3.out
            exact (cell_of_row wr w.heap.size 1 _ _ _ h9).trans rfl
          have hxm : x ∈ nms τ.sf := by rw [hx]; simp [hjx]
          obtain ⟨hFd2, hFw2, m2, rv2, st2, sf2, pv2, S2, R2⟩ := hB.D
          have hhas := hB.hs x (hkeys.out x hxm).1
          have hxl := (hkeys.out x hxm).2
          obtain ⟨i, hlk⟩ := hB.C.nn x hhas
          obtain ⟨f2, hf2, hlook, hib⟩ : ∃ f2, sf2 = some f2 ∧ (Instr.lookup 58 (.map (some f2)) (encStr x) false).run Tryz.prog wr = .ok (.pointer (some ⟨m2.getD i 0, 0, none⟩)) wr ∧ i < (crn τ cuts j).bs.length := by
            rcases R2.dirs with ⟨_, _, _, e, _⟩ | ⟨s, f, _, e, _, _, _, _, hM⟩
            · rw [e] at hhas; simp [has] at hhas
            · obtain ⟨h9, h8⟩ := look_dir hM hxl
              rw [hlk] at h9
              exact ⟨f, e, h9, by rw [← R2.len]; exact h8 i hlk⟩
          subst hf2
          obtain ⟨lv, hlv⟩ : ∃ lv, lv = lft ((crn τ cuts j).body i) (cuts.getD j 0) := ⟨_, rfl⟩
          have hll := (show Hid (lv.length ≤ k0) from (by show _ ≤ _; rw [hlv]; exact Nat.le_trans (lft_le _ _) (hB.C.bo i).2))
          have LF := (show Hid _ from left_anyD (R2.bod i hib) (hB.C.bo i).1 (by have := (hB.C.bo i).2; have := HK.out; omega) (cuts.getD j 0))
          rw [← hlv] at LF
          have hus := (show Hid (0 ≤ (crn τ cuts j).used ∧ (crn τ cuts j).used ≤ 36028797018963968) from cr_used hB.C.u0 hB.C.u1 HK.out (by omega))
          have UP := (show Hid (∀ w4 o, Below wr.heap.size wr w4 → _) from fun (w4 : World) (o : Obj) (hb4 : Below wr.heap.size wr w4) => crs_upd R2 hFw2 hb4 o x hxl (by have := hB.C.sz; have := HK.out; unfold maxLen; omega))
          have CR := (show Hid (∀ w4 w6 n p ln c, _ → _ → _ → _ → _ → _) from fun (w4 w6 : World) (n : Nat) (p : Option Addr) (ln c : Nat) => crs1_end (w4 := w4) (w6 := w6) (n := n) S2 R2 hFd2 hFw2 x (cuts.getD j 0) hlk p ln c)
          rw [← hlv] at CR
          have hsd := (show Hid (∀ w4, Below wr.heap.size wr w4 → w4.cell? ⟨db, 3, none⟩ = some (.map (some f2)) ∧ w4.cell? ⟨db, 1, none⟩ = some (.int .i64 (crn τ cuts j).used)) from fun w4 hb4 => ⟨(S2.below hb4).cell.2.2.2.1, (S2.below hb4).cell.2.1⟩)
          have c3 := S2.cell.2.2.2.1
          have hne : ¬ f2 = db := fun e => by
            have h9 := S2
            unfold StAt at h9
            rcases R2.dirs with ⟨_, e9, _⟩ | ⟨s, f, _, e9, _, _, _, _, hM⟩
            · cases e9
            · injection e9 with e9
              subst e9
              obtain ⟨es, ck, ho, _⟩ := hM
              rw [← e, ho] at h9
              cases h9
          obtain ⟨cut, hcut⟩ : ∃ cut, cut = cuts.getD j 0 := ⟨_, rfl⟩
          have HCU := (show Hid (cut = cuts.getD j 0 ∧ lv = lft ((crn τ cuts j).body i) (cuts.getD j 0) ∧ x = (nms τ.sf).getD j []) from ⟨hcut, hlv, hx⟩)
          have hlc : Hid (∀ hb : j < nc, ∃ b o, pc = some ⟨b, o, none⟩ ∧ wr.cell? ⟨b, o + j, none⟩ = some (.int .i64 cut)) := fun hb => by
            obtain ⟨b, o, e, h9, h8⟩ := HIC.out j (by rw [HC.out.2.1]; exact hb)
            exact ⟨b, o, e, by rw [hcut]; exact (cell_blk (o + j) (hB.T.block b (block_lt_of_cell h9) h8)).trans h9⟩
          have hl0 : ¬ j < nc → cut = 0 := fun hb => by
            rw [hcut, List.getD, List.getElem?_eq_none (by rw [HC.out.2.1]; omega)]
            rfl
          rw [← hcut] at LF
          generalize (m2.getD i 0) = q2 at *
          generalize (crn τ cuts j).used = us at *
          clear hB S2 R2 hFd2 hFw2 hlk hib hhas hxm hxe hck hgb hgF hjx hx hlv hcut hxl
          by_cases hjc : j < nc
          · have hjc2 : (j : Int) < (nc : Int) := by omega
            obtain ⟨bc, oc, hpc, hcc⟩ := hlc.out hjc
            subst hpc
            clear hlc hl0
            go_wp2_with (go_at_call 27; refine LF.out.mono ?_; rintro e w4 ⟨p4, n4, c4, rfl, hO4, hb4⟩; have HO4 := (show Hid (Ob _ _ _ _ ∧ _) from ⟨hO4, hb4⟩); obtain ⟨k3, k1⟩ := hsd.out w4 hb4; clear hO4 hb4)
            have KS := (show Hid (w4.drew.cell? ⟨db, 3, none⟩ = some (.map (some f2))) from k3)
            go_region_held3 (fun Y => Y.cell? ⟨db, 3, none⟩ = some (.map (some f2))) (first | exact KS.out | exact KT.out | exact KU.out)
              (first
                | (go_at_call 28; refine (safeBody_any _ _ _ _).mono ?_; rintro e w5 ⟨rfl, h5⟩; obtain ⟨w6, hrun, hown6, hg6⟩ := UP.out w4 (.cells #[.slice p4 n4 c4, .int .i64 (n4 : Int)] 108) HO4.out.2; obtain rfl : w5 = (w4.alloc (.cells #[.slice p4 n4 c4, .int .i64 (n4 : Int)] 108)).drew := h5; have KT := (show Hid (((w4.alloc (.cells #[.slice p4 n4 c4, .int .i64 (n4 : Int)] 108)).drew).cell? ⟨db, 3, none⟩ = some (.map (some f2))) from (show (w4.alloc (.cells #[.slice p4 n4 c4, .int .i64 (n4 : Int)] 108)).cell? ⟨db, 3, none⟩ = _ from cell_belowD k3 (alb w4 _))); have KU := (show Hid (w6.cell? ⟨db, 3, none⟩ = some (.map (some f2))) from (cell_blk 3 (hg6.block db (block_lt_of_cell KT.out) (fun e => by injection e with e; exact hne e.symm))).trans KT.out); have HU := (show Hid (_ ∧ _) from ⟨hown6, hg6⟩); clear hown6 hg6))
            have hln : n4 = lv.length := by
              obtain ⟨p9, c9, h9⟩ := HO4.out.1.len
              injection h9
            have CX := CR.out w4 w6 _ p4 n4 c4 HO4.out.2 HO4.out.1 hln HU.out.1 HU.out.2
            have k6 := CX.2.2.1
            have z6 := CX.2.2.2
            have w9 : wrap64 (us + (n4 : Int)) = us + (n4 : Int) := by
              have := hus.out; have := hll.out; have := HK.out
              unfold wrap64
              omega
            have HCX := (show Hid (_ ∧ _) from ⟨CX.1, CX.2.1⟩)
            clear CX k3 k1 hrun KS KT KU hln
            go_wp2
            refine ⟨⟨j + 1, by omega, by go_num, ?_⟩, by simp [intOf]; omega⟩
            exact CrB.step hQ.out HCU.out.2.2 (hkeys.out x (by rw [HCU.out.2.2]; simp [show j < (nms τ.sf).length by rw [← HN2.out]; exact hlt2])).1 HCX.out.1 HCX.out.2
          · have hjc2 : ¬ (j : Int) < (nc : Int) := by omega
            have hjc3 : decide ((j : Int) < (nc : Int)) = false := by simpa using hjc2
            have hc0 := hl0 hjc
            have HC0 := (show Hid _ from hc0)
            rw [hc0] at LF
            clear hlc hl0 hc0
            go_wp2_with (go_at_call 27; refine LF.out.mono ?_; rintro e w4 ⟨p4, n4, c4, rfl, hO4, hb4⟩; have HO4 := (show Hid (Ob _ _ _ _ ∧ _) from ⟨hO4, hb4⟩); obtain ⟨k3, k1⟩ := hsd.out w4 hb4; clear hO4 hb4)
            have KS := (show Hid (w4.drew.cell? ⟨db, 3, none⟩ = some (.map (some f2))) from k3)
            go_region_held3 (fun Y => Y.cell? ⟨db, 3, none⟩ = some (.map (some f2))) (first | exact KS.out | exact KT.out | exact KU.out)
              (first
                | (go_at_call 28; refine (safeBody_any _ _ _ _).mono ?_; rintro e w5 ⟨rfl, h5⟩; obtain ⟨w6, hrun, hown6, hg6⟩ := UP.out w4 (.cells #[.slice p4 n4 c4, .int .i64 (n4 : Int)] 108) HO4.out.2; obtain rfl : w5 = (w4.alloc (.cells #[.slice p4 n4 c4, .int .i64 (n4 : Int)] 108)).drew := h5; have KT := (show Hid (((w4.alloc (.cells #[.slice p4 n4 c4, .int .i64 (n4 : Int)] 108)).drew).cell? ⟨db, 3, none⟩ = some (.map (some f2))) from (show (w4.alloc (.cells #[.slice p4 n4 c4, .int .i64 (n4 : Int)] 108)).cell? ⟨db, 3, none⟩ = _ from cell_belowD k3 (alb w4 _))); have KU := (show Hid (w6.cell? ⟨db, 3, none⟩ = some (.map (some f2))) from (cell_blk 3 (hg6.block db (block_lt_of_cell KT.out) (fun e => by injection e with e; exact hne e.symm))).trans KT.out); have HU := (show Hid (_ ∧ _) from ⟨hown6, hg6⟩); clear hown6 hg6))
            have hln : n4 = lv.length := by
              obtain ⟨p9, c9, h9⟩ := HO4.out.1.len
              injection h9
            have CX := CR.out w4 w6 _ p4 n4 c4 HO4.out.2 HO4.out.1 hln HU.out.1 HU.out.2
            have k6 := CX.2.2.1
            have z6 := CX.2.2.2
            have w9 : wrap64 (us + (n4 : Int)) = us + (n4 : Int) := by
              have := hus.out; have := hll.out; have := HK.out
              unfold wrap64
              omega
            have HCX := (show Hid (_ ∧ _) from ⟨CX.1, CX.2.1⟩)
            clear CX k3 k1 hrun KS KT KU hln
            go_wp2
            refine ⟨⟨j + 1, by omega, by go_num, ?_⟩, by simp [intOf]; omega⟩
            exact CrB.step hQ.out HCU.out.2.2 (hkeys.out x (by rw [HCU.out.2.2]; simp [show j < (nms τ.sf).length by rw [← HN2.out]; exact hlt2])).1 HCX.out.1 HCX.out.2
        · obtain rfl : j = n2 := by omega
          have hi2 : ¬ (j : Int) < (j : Int) := by omega
          obtain ⟨hFd2, hFw2, m2, rv2, st2, sf2, pv2, S2, R2⟩ := hB.D
          have c3 := S2.cell.2.2.2.1
          have c2 := S2.cell.2.2.1
          have z2 := S2.frozen 2
          have EN := (show Hid (∀ w9 : World, DrAt w9 db { crn τ cuts j with st := (crn τ cuts j).sf } (Fn (Fn F w2 wr) wr w9) → Tn (Fn F w2 wr) wr w9 → DrAt w9 db (σ.crash dirs cuts) (Fn F w w9) ∧ Tn F w w9) from fun w9 hD9 hT9 => crash_end HB.out.1 HB.out.2.2.1 HCE.out HB2.out.1 hB.T (by
            have e9 : Ds.crash σ dirs cuts = { crn τ cuts j with st := (crn τ cuts j).sf } := by
              unfold Ds.crash
              rw [← HT.out, ← HN2.out]
            rw [e9]
            exact hD9) hT9)
          rcases clone_cases R2 with ⟨rfl, hcl⟩ | ⟨f2, rfl, hcl⟩
          · have HCL := (show Hid _ from hcl)
            have FI := (show Hid _ from clone_none S2 R2 hFd2 hFw2)
            clear hB S2 R2 hFd2 hFw2 hcl
            go_wp2_with (go_at_call 29; refine (HCL.out wr).mono ?_; rintro e w8 ⟨rfl, h8⟩; obtain rfl := h8.symm)
            go_ret
            exact ⟨rfl, EN.out _ FI.out.1 FI.out.2⟩
          · have HCL := (show Hid _ from hcl)
            have FI := (show Hid (∀ w8, _ → _ → _) from fun w8 => clone_some (w8 := w8) S2 R2 hFd2 hFw2)
            clear hcl
            have hS8 := (show Hid (∀ w8, Below wr.heap.size wr w8 → w8.cell? ⟨db, 2, none⟩ = some (.map st2) ∧ w8.frozen? ⟨db, 2, none⟩ = false) from fun w8 hb8 => ⟨(S2.below hb8).cell.2.2.1, (S2.below hb8).frozen 2⟩)
            clear hB S2 R2 hFd2 hFw2
            go_wp2_with (go_at_call 29; refine (HCL.out).mono ?_; rintro e w8 ⟨rfl, h8, hb8⟩; obtain ⟨y2, x2⟩ := hS8.out w8 hb8; have H8 := (show Hid (_ ∧ _) from ⟨h8, hb8⟩); clear h8 hb8)
            go_ret
            have F9 := FI.out w8 H8.out.1 H8.out.2
            exact ⟨rfl, EN.out _ F9.1 F9.2⟩
theorem crash_any {w : World} {db k0 : Nat} {σ : Ds} {F : Nat → Prop} (h : DrAt w db σ F) (ok : Okk k0 σ) (hk0 : k0 ≤ 134217728) (pd : Option Addr) (nd cd : Nat) (dirs : List Bool) (hdl : dirs.length = nd) (hd : Bls w pd dirs) (pc : Option Addr) (nc cc : Nat) (cuts : List Int) (hcl : cuts.length = nc) (hc : Ils w pc cuts) (hnd : nd ≤ 140737488355328) (hnc : nc ≤ 140737488355328) (hcF : ∀ b o, pc = some ⟨b, o, none⟩ → ¬ F b) : Calls Tryz.prog 17 #[.pointer (some ⟨db, 0, none⟩), .agg #[.slice pd nd cd, .slice pc nc cc]] w fun e w' => e = .returned (.int .i64 0) ∧ DrAt w' db (σ.crash dirs cuts) (Fn F w w') ∧ Tn F w w' := crash_gen h ok hk0 pd nd cd dirs hdl hd pc nc cc cuts hcl hc hnd hnc (fun _ => hcF)
end
end Go.Proofs.YtbdkdoeiajfkfaaGreat
