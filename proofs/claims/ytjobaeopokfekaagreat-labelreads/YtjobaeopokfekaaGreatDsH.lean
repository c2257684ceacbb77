/-
  Crash of a drive: the walk.
-/
import Derived.Test.YtjobaeopokfekaaGreatDsG
namespace Go.Proofs.YtjobaeopokfekaaGreat
open Go.RowKit Go.Maps Go.Sort
theorem CrA.cell {w wr : World} {F : Nat → Prop} {σ : Ds} {dirs : List Bool} {m : List Nat} {rv : Nat → Value} {st sf : Option Nat} {pv : Value} {k : Nat} (h : CrA σ dirs m sf w k wr) (R : Rest w F σ m rv st sf pv) {b o : Nat} {v : Value} (hc : w.cell? ⟨b, o, none⟩ = some v) : wr.cell? ⟨b, o, none⟩ = some v := by
  refine (cell_blk o (h.tn.block b (block_lt_of_cell hc) (fun e => ?_))).trans hc
  rcases R.dirs with ⟨_, e2, _⟩ | ⟨s, f, _, e2, _, _, _, _, hM⟩
  · rw [e] at e2; cases e2
  · rw [e] at e2
    injection e2 with e2
    subst e2
    obtain ⟨es, ck, ho, _⟩ := hM
    simp [World.cell?, ho] at hc
theorem Bls.below {w w' : World} {p : Option Addr} {xs : List Bool} (h : Bls w p xs) (hb : Below w.heap.size w w') : Bls w' p xs := fun i hi => by
  obtain ⟨b, o, e, hc⟩ := h i hi
  exact ⟨b, o, e, cell_belowD hc hb⟩
theorem Ils.below {w w' : World} {p : Option Addr} {xs : List Int} (h : Ils w p xs) (hb : Below w.heap.size w w') : Ils w' p xs := fun i hi => by
  obtain ⟨b, o, e, hc⟩ := h i hi
  exact ⟨b, o, e, cell_belowD hc hb⟩
theorem crf_nn {σ : Ds} {k0 : Nat} (ok : Okk k0 σ) (dirs : List Bool) : ∀ k, NN (crf σ dirs k) ∧ Tidy (crf σ dirs k)
  | 0 => ⟨ok.nf, ok.tf⟩
  | k + 1 => by
    obtain ⟨h1, h2⟩ := crf_nn ok dirs k
    rw [crf_succ]
    split
    · exact ⟨fol_nn h2 h1 _, (fol_tidy h2 _).1⟩
    · exact ⟨h1, h2⟩
theorem rising_dr {X : World} {db : Nat} {τ : Ds} {F : Nat → Prop} {sf : Option Nat} (h : DrAt X db τ F) (hc : X.cell? ⟨db, 3, none⟩ = some (.map sf)) (hs : Maps.size τ.sf ≤ 8000000000000) : Calls Tryz.prog 73 #[.map sf] X fun e w' => ∃ v, e = .returned v ∧ Ts w' X.heap.size v (nms τ.sf) ∧ Below X.heap.size X w' := by
  obtain ⟨_, _, m, rv, st, sf', pv, S, R⟩ := h
  rw [S.cell.2.2.2.1] at hc
  injection hc with hc
  injection hc with hc
  subst hc
  exact rising_sf R hs
/-- The second loop of Crash. -/
structure CrB (τ : Ds) (cuts : List Int) (db : Nat) (F : Nat → Prop) (K Z : Nat) (w2 : World) (k : Nat) (wr : World) : Prop where
  D : DrAt wr db (crn τ cuts k) (Fn F w2 wr)
  T : Tn F w2 wr
  C : CI K k Z (crn τ cuts k)
  hs : ∀ y, has τ.sf (.string y) = true → has (crn τ cuts k).sf (.string y) = true
theorem cr1_ci {σ : Ds} {k0 : Nat} {w : World} {F : Nat → Prop} {m : List Nat} {rv : Nat → Value} {st sf : Option Nat} {pv : Value} (ok : Okk k0 σ) (okp : Okp σ) (R : Rest w F σ m rv st sf pv) (dirs : List Bool) : CI k0 0 (2 * k0) (cr1 σ dirs) := by
  obtain ⟨h1, h2⟩ := crf_nn ok dirs σ.pend.length
  have h3 := (crf_small okp R dirs σ.pend.length (Nat.le_refl _)).2
  have h4 := ok.sp
  refine ⟨h1, h2, fun i => ⟨ok.sa i, ok.bl i⟩, Int.le_refl _, by simp [cr1], ?_⟩
  show Maps.size (crf σ dirs σ.pend.length) ≤ _
  omega
theorem CrB.start {σ : Ds} {k0 db : Nat} {w X w2 : World} {F : Nat → Prop} {m : List Nat} {rv : Nat → Value} {st sf : Option Nat} {pv : Value} {dirs : List Bool} {cuts : List Int} (ok : Okk k0 σ) (okp : Okp σ) (R : Rest w F σ m rv st sf pv) (D : DrAt X db (cr1 σ dirs) F) (hb : Below X.heap.size X w2) (_hk : k0 ≤ 134217728) : CrB (cr1 σ dirs) cuts db F k0 (2 * k0) w2 0 w2 :=
  ⟨(DrAt.fn (D.below hb) (Below.refl _ _)).1, Tn.refl _ _, cr1_ci ok okp R dirs, fun _ h => h⟩
theorem dr_keys {X : World} {db : Nat} {τ : Ds} {F : Nat → Prop} (h : DrAt X db τ F) : ∀ x ∈ nms τ.sf, has τ.sf (.string x) = true ∧ x.length ≤ maxLen := by
  intro x hx
  obtain ⟨_, _, m, rv, st, sf, pv, S, R⟩ := h
  rcases R.dirs with ⟨_, _, _, e, _⟩ | ⟨s, f, _, _, _, _, _, _, hM⟩
  · rw [e, nms_nil] at hx; simp at hx
  · exact key_has hM (nms_mem.1 hx)
theorem ts_base {w : World} {base g n c : Nat} {xs : List Tx} (h : Ts w base (.slice (some ⟨g, 0, none⟩) n c) xs) : base ≤ g := by
  rcases h.2 with ⟨hv, _⟩ | ⟨g', cap, cur, hv, h1, _⟩
  · cases hv
  · cases hv; exact h1
theorem cr_used {u : Int} {j K : Nat} (h0 : 0 ≤ u) (h1 : u ≤ ((j * K : Nat) : Int)) (hK : K ≤ 134217728) (hj : j ≤ 268435456) : 0 ≤ u ∧ u ≤ 36028797018963968 := by
  have : j * K ≤ 268435456 * 134217728 := Nat.mul_le_mul hj hK
  omega
theorem crs_upd {wr w4 : World} {f : Nat} {F : Nat → Prop} {σ : Ds} {m : List Nat} {rv : Nat → Value} {st : Option Nat} {pv : Value} (R : Rest wr F σ m rv st (some f) pv) (hFw : ∀ b, F b → b < wr.heap.size) (hb4 : Below wr.heap.size wr w4) (o : Obj) (x : Tx) (hx : x.length ≤ maxLen) (hs : Maps.size σ.sf < maxLen) : ∃ w6, (Instr.mapUpdate 83 (.map (some f)) (encStr x) (.pointer (some ⟨w4.heap.size, 0, none⟩))).run Tryz.prog ((w4.alloc o).drew) = .ok () w6 ∧ w6.ownsMap Tryz.prog 9 (ptR (m ++ [w4.heap.size])) f (Maps.size σ.sf + 1) (σ.sf.put (.string x) (ip σ.bs.length)) ∧ (w4.alloc o).drew.grownBy w6 (some f) := by
  obtain ⟨s, f', _, e2, _, _, _, _, hM⟩ : ∃ s f', st = some s ∧ some f = some f' ∧ s ≠ f' ∧ F s ∧ F f' ∧ MpAt wr m s σ.st ∧ MpAt wr m f' σ.sf := by
    rcases R.dirs with ⟨_, e, _⟩ | h9
    · cases e
    · exact h9
  injection e2 with e2
  subst e2
  have hM5 : ((w4.alloc o).drew).ownsMap Tryz.prog 9 (ptR (m ++ [w4.heap.size])) f (Maps.size σ.sf) σ.sf := om_same (om_more (om_upto hM (btD hb4 (alb w4 o))) [w4.heap.size]) rfl
  have hnd : (m ++ [w4.heap.size]).Nodup := by
    rw [List.nodup_append]
    refine ⟨R.nodup, by simp, fun a ha b hb e => ?_⟩
    obtain ⟨i, hi, rfl⟩ := List.getElem_of_mem ha
    have hb' : b = w4.heap.size := by simpa using hb
    have hi' : i < σ.bs.length := by rw [← R.len]; exact hi
    have := hFw _ (R.bod i hi').inF
    have e3 : m.getD i 0 = m[i] := by simp [hi]
    have := hb4.size
    omega
  have hv := ptR_some hnd (i := m.length) (by simp)
  rw [show ptv (m ++ [w4.heap.size]) (some m.length) = .pointer (some ⟨w4.heap.size, 0, none⟩) by simp [ptv, pta], R.len] at hv
  exact hM5.update lawS Tryz.underlying83 hs (key_enc hx) hv
theorem CrB.step {τ : Ds} {cuts : List Int} {db : Nat} {F : Nat → Prop} {K Z : Nat} {w2 : World} {k : Nat} {wr w7 : World} (h : CrB τ cuts db F K Z w2 k wr) {x : Tx} (hx : x = (nms τ.sf).getD k []) (hh : has τ.sf (.string x) = true) (hD : DrAt w7 db (crs1 (crn τ cuts k) x (cuts.getD k 0)) (Fn (Fn F w2 wr) wr w7)) (hT : Tn (Fn F w2 wr) wr w7) : CrB τ cuts db F K Z w2 (k + 1) w7 := by
  have s1 := h.T.size
  have s2 := hT.size
  have hF := h.D.2.1
  have e : crn τ cuts (k + 1) = crs1 (crn τ cuts k) x (cuts.getD k 0) := by rw [crn_succ, hx]
  refine ⟨?_, ⟨hT.os.trans h.T.os, hT.tape.trans h.T.tape, hT.output.trans h.T.output, by omega, fun b hb hn => (hT.block b (by omega) ?_).trans (h.T.block b hb hn)⟩, ?_, fun y hy => ?_⟩
  · rw [e]
    refine hD.more ?_ ?_
    · rintro b ((h9 | h9) | h9)
      · exact .inl h9
      · exact .inr ⟨h9.1, by omega⟩
      · exact .inr ⟨by omega, h9.2⟩
    · rintro b (h9 | h9)
      · have := hF b (.inl h9); omega
      · exact h9.2
  · rintro (h9 | h9)
    · exact hn h9
    · omega
  · rw [e]
    exact h.C.step (h.hs x hh) _
  · rw [e]
    exact has_crs h.C.ti _ (h.hs y hy)
theorem crash_end {w W X w2 wr w9 : World} {db : Nat} {F : Nat → Prop} {τ : Ds} (bW : Below w.heap.size w W) (hFw : ∀ b, F b → b < w.heap.size) (hTX : Tn F W X) (hb2 : Below X.heap.size X w2) (hT : Tn F w2 wr) (hD : DrAt w9 db τ (Fn (Fn F w2 wr) wr w9)) (hT9 : Tn (Fn F w2 wr) wr w9) : DrAt w9 db τ (Fn F w w9) ∧ Tn F w w9 := by
  have s0 := bW.size
  have s1 := hTX.size
  have s2 := hb2.size
  have s3 := hT.size
  have s4 := hT9.size
  refine ⟨hD.more ?_ ?_, ⟨hT9.os.trans (hT.os.trans (hb2.os.trans (hTX.os.trans bW.os))), hT9.tape.trans (hT.tape.trans (hb2.tape.trans (hTX.tape.trans bW.tape))), hT9.output.trans (hT.output.trans (hb2.output.trans (hTX.output.trans bW.output))), by omega, fun b hb hn => ?_⟩⟩
  · rintro b ((h | h) | h)
    · exact .inl h
    · exact .inr ⟨by omega, by omega⟩
    · exact .inr ⟨by omega, h.2⟩
  · rintro b (h | h)
    · have := hFw b h; omega
    · exact h.2
  · refine (hT9.block b (by omega) ?_).trans ((hT.block b (by omega) hn).trans ((hb2.block b (by omega)).trans ((hTX.block b (by omega) hn).trans (bW.block b hb))))
    rintro (h | h)
    · exact hn h
    · omega
theorem clone_cases {wr : World} {F : Nat → Prop} {τ : Ds} {m : List Nat} {rv : Nat → Value} {st sf : Option Nat} {pv : Value} (R : Rest wr F τ m rv st sf pv) :
    (sf = none ∧ ∀ w, Calls Tryz.prog 42 #[.map none] w fun e w' => e = .returned (.map none) ∧ w' = w) ∨
    ∃ f, sf = some f ∧ Calls Tryz.prog 42 #[.map (some f)] wr fun e w' => e = .returned (.map (some wr.heap.size)) ∧ MpAt w' m wr.heap.size τ.sf ∧ Below wr.heap.size wr w' := by
  rcases R.dirs with ⟨_, e, _⟩ | ⟨s, f, _, e, _, _, _, _, hM⟩
  · exact .inl ⟨e, fun w => AnyW.maps_Clone_nil Tryz.mclone w⟩
  · refine .inr ⟨f, e, (AnyW.maps_Clone_owns Tryz.mclone 9 (ptR m) f (Maps.size τ.sf) τ.sf wr hM).mono ?_⟩
    rintro e w' ⟨h1, h2, _, h4⟩
    exact ⟨h1, h2, h4⟩
theorem clone_none {wr : World} {db : Nat} {F : Nat → Prop} {τ : Ds} {m : List Nat} {rv : Nat → Value} {st : Option Nat} {pv : Value} (S : StAt wr db τ.room τ.used st none pv) (R : Rest wr F τ m rv st none pv) (hFd : F db) (hFw : ∀ b, F b → b < wr.heap.size) : DrAt (wr.setCell ⟨db, 2, none⟩ (.map none)) db { τ with st := τ.sf } (Fn F wr (wr.setCell ⟨db, 2, none⟩ (.map none))) ∧ Tn F wr (wr.setCell ⟨db, 2, none⟩ (.map none)) := by
  obtain ⟨e1, e2, e3, e4, e5⟩ : st = none ∧ (none : Option Nat) = none ∧ τ.st = .map [] ∧ τ.sf = .map [] ∧ τ.pend = [] := by
    rcases R.dirs with h | ⟨s, f, _, e, _⟩
    · exact h
    · cases e
  subst e1
  have T := Tn.setCell (F := F) wr ⟨db, 2, none⟩ hFd (.map none)
  have S' : StAt (wr.setCell ⟨db, 2, none⟩ (.map none)) db τ.room τ.used none none pv := by
    unfold StAt at S ⊢
    rw [heap_setCell_same wr db 2 _ _ _ S]
    rfl
  have R' := (R.setSt S 2 (.map none)).more (G := Fn F wr (wr.setCell ⟨db, 2, none⟩ (.map none))) (fun b h => .inl h)
  refine ⟨⟨.inl hFd, ?_, m, rv, none, none, pv, S', ?_⟩, T⟩
  · rintro b (h | h)
    · exact Nat.lt_of_lt_of_le (hFw b h) T.size
    · exact h.2
  · exact ⟨.inl ⟨rfl, rfl, e4, e4, e5⟩, R'.len, R'.nodup, R'.bod, R'.sep, R'.pnd, R'.pvF⟩
theorem clone_some {wr w8 : World} {db f : Nat} {F : Nat → Prop} {τ : Ds} {m : List Nat} {rv : Nat → Value} {st : Option Nat} {pv : Value} (S : StAt wr db τ.room τ.used st (some f) pv) (R : Rest wr F τ m rv st (some f) pv) (hFd : F db) (hFw : ∀ b, F b → b < wr.heap.size) (hM : MpAt w8 m wr.heap.size τ.sf) (hb : Below wr.heap.size wr w8) : DrAt (w8.setCell ⟨db, 2, none⟩ (.map (some wr.heap.size))) db { τ with st := τ.sf } (Fn F wr (w8.setCell ⟨db, 2, none⟩ (.map (some wr.heap.size)))) ∧ Tn F wr (w8.setCell ⟨db, 2, none⟩ (.map (some wr.heap.size))) := by
  obtain ⟨s, f', e1, e2, hne, f1, f2, m1, m2⟩ : ∃ s f', st = some s ∧ some f = some f' ∧ s ≠ f' ∧ F s ∧ F f' ∧ MpAt wr m s τ.st ∧ MpAt wr m f' τ.sf := by
    rcases R.dirs with ⟨_, e, _⟩ | h9
    · cases e
    · exact h9
  injection e2 with e2
  subst e2
  have S8 := S.below hb
  have R8 := R.below hb
  have hlt : wr.heap.size < w8.heap.size := by
    obtain ⟨es, ck, ho, _⟩ := hM
    exact blt ho
  have T8 : Tn F wr w8 := Tn.of_below hb
  have T := T8.trans (Tn.setCell (F := F) w8 ⟨db, 2, none⟩ hFd (.map (some wr.heap.size)))
  have S' : StAt (w8.setCell ⟨db, 2, none⟩ (.map (some wr.heap.size))) db τ.room τ.used (some wr.heap.size) (some f) pv := by
    unfold StAt at S8 ⊢
    rw [heap_setCell_same w8 db 2 _ _ _ S8]
    rfl
  have R' := (R8.setSt S8 2 (.map (some wr.heap.size))).more (G := Fn F wr (w8.setCell ⟨db, 2, none⟩ (.map (some wr.heap.size)))) (fun b h => .inl h)
  have hkeep : ∀ b, b ≠ db → (w8.setCell ⟨db, 2, none⟩ (.map (some wr.heap.size))).heap[b]? = w8.heap[b]? := fun b h => Below.heap_setCell _ _ _ _ h
  have hfd : f ≠ db := fun e => by
    obtain ⟨es, ck, ho, _⟩ := m2
    unfold StAt at S
    rw [← e, ho] at S
    cases S
  refine ⟨⟨.inl hFd, ?_, m, rv, some wr.heap.size, some f, pv, S', ?_⟩, T⟩
  · rintro b (h | h)
    · exact Nat.lt_of_lt_of_le (hFw b h) T.size
    · exact h.2
  · refine ⟨.inr ⟨wr.heap.size, f, rfl, rfl, fun e => ?_, .inr ⟨Nat.le_refl _, ?_⟩, .inl f2, om_same hM (hkeep _ (fun e => ?_)), om_same (om_upto m2 hb) (hkeep _ hfd)⟩, R'.len, R'.nodup, R'.bod, R'.sep, R'.pnd, R'.pvF⟩
    · have := hFw f f2; omega
    · simp [World.setCell]; exact hlt
    · have := hFw db hFd; omega
section
attribute [local irreducible] Calls
end
end Go.Proofs.YtjobaeopokfekaaGreat
