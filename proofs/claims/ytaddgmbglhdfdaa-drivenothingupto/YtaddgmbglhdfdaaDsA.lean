/-
  SyncDir of a drive.
-/
import Derived.Test.YtaddgmbglhdfdaaDn
namespace Go.Proofs.Ytaddgmbglhdfdaa
open Go.RowKit Go.Maps
/-- A cell of an own row. -/
theorem own_cell {w : World} {base : Nat} {e : TypeId} {n : Nat} {v : Value} {xs : List Value} (h : w.ownsRow base e 1 v n xs) (i : Nat) (hi : i < n) : ∃ g c cur, v = .slice (some ⟨g, 0, none⟩) n c ∧ w.heap[g]? = some (.cells cur e (0, 0)) ∧ w.cell? ⟨g, i, none⟩ = some (xs.getD i undef) := by
  have hl := h.1
  rcases h.2 with ⟨hv, h1⟩ | ⟨g, cap, cur, hv, hg, hb, h1, h2, h3, h4⟩
  · omega
  · refine ⟨g, cap, cur, hv, hb, ?_⟩
    rw [cell_of_row w g i _ _ _ hb]
    have hx : i < xs.length := by omega
    have : xs[i]? = some (xs.getD i undef) := by simp [hx]
    rw [← this, ← h4]
    simp [hi]
/-- What SyncDir has done. -/
structure SyR (σ : Ds) (m : List Nat) (sf : Option Nat) (w : World) (k : Nat) (wr : World) : Prop where
  tn : Tn (fun b => sf = some b) w wr
  mp : ∀ f, sf = some f → MpAt wr m f ((σ.pend.take k).foldl fol σ.sf)
theorem SyR.start {w : World} {F : Nat → Prop} {σ : Ds} {m : List Nat} {rv : Nat → Value} {st sf : Option Nat} {pv : Value} (R : Rest w F σ m rv st sf pv) : SyR σ m sf w 0 w := by
  refine ⟨Tn.refl _ _, fun f e => ?_⟩
  rcases R.dirs with ⟨_, e2, _⟩ | ⟨s, f', _, e2, _, _, _, _, h⟩
  · rw [e] at e2; cases e2
  · rw [e] at e2; injection e2 with e2; subst e2; exact h
theorem SyR.cells {w wr : World} {F : Nat → Prop} {σ : Ds} {m : List Nat} {rv : Nat → Value} {st sf : Option Nat} {pv : Value} {k : Nat} (h : SyR σ m sf w k wr) (R : Rest w F σ m rv st sf pv) {b : Nat} {c : Array Value} {t : TypeId} {r : Nat × Nat} (hb : w.heap[b]? = some (.cells c t r)) : wr.heap[b]? = w.heap[b]? := by
  refine h.tn.block b (blt hb) (fun e => ?_)
  rcases R.dirs with ⟨_, e2, _⟩ | ⟨s, f, _, e2, _, _, _, _, hM⟩
  · rw [e] at e2; cases e2
  · rw [e] at e2
    injection e2 with e2
    subst e2
    obtain ⟨es, ck, ho, _⟩ := hM
    rw [ho] at hb
    cases hb
theorem sy_small {w : World} {F : Nat → Prop} {σ : Ds} {m : List Nat} {rv : Nat → Value} {st sf : Option Nat} {pv : Value} (ok : Okp σ) (R : Rest w F σ m rv st sf pv) {k : Nat} (hk : k < σ.pend.length) : Maps.size ((σ.pend.take k).foldl fol σ.sf) + (σ.pend.getD k []).length ≤ 1000000000000 := by
  have ht : Tidy σ.sf := by
    rcases R.dirs with ⟨_, _, _, e, _⟩ | ⟨s, f, _, _, _, _, _, _, hM⟩
    · rw [e]; exact tidy_empty
    · exact hM.tidy lawS
  have h1 := (fols_tidy ht (σ.pend.take k) (fun c hc => ok.pl c (List.mem_of_mem_take hc))).2
  have h2 : (σ.pend.getD k []).length ≤ 2 := ok.pl _ (by simp [hk])
  have h3 := ok.sf
  have h4 := ok.pn
  have h5 : (σ.pend.take k).length ≤ σ.pend.length := by simp; omega
  omega
theorem cell_blk {w w' : World} {b : Nat} (o : Nat) (h : w'.heap[b]? = w.heap[b]?) : w'.cell? ⟨b, o, none⟩ = w.cell? ⟨b, o, none⟩ := World.cell?_of_block (w := w) h
theorem sydir_end {w wr : World} {db : Nat} {F : Nat → Prop} {σ : Ds} {m : List Nat} {rv : Nat → Value} {st sf : Option Nat} {pv : Value} (S : StAt w db σ.room σ.used st sf pv) (R : Rest w F σ m rv st sf pv) (hFd : F db) (hFw : ∀ b, F b → b < w.heap.size) (h : SyR σ m sf w σ.pend.length wr) :
    DrAt (wr.setCell ⟨db, 4, none⟩ (.slice none 0 0)) db σ.syncDir (Fn F w (wr.setCell ⟨db, 4, none⟩ (.slice none 0 0))) ∧ Tn F w (wr.setCell ⟨db, 4, none⟩ (.slice none 0 0)) := by
  have hfF : ∀ f, sf = some f → F f := fun f e => by
    rcases R.dirs with ⟨_, e2, _⟩ | ⟨s, f', _, e2, _, _, f2, _⟩
    · rw [e] at e2; cases e2
    · rw [e] at e2; injection e2 with e2; subst e2; exact f2
  have T0 : Tn F w wr := h.tn.more (fun b e => hfF b e)
  have S2 : StAt wr db σ.room σ.used st sf pv := (h.cells R S).trans S
  have hk : ∀ bl, bl ≠ db → (wr.setCell ⟨db, 4, none⟩ (.slice none 0 0)).heap[bl]? = wr.heap[bl]? := fun bl h => Below.heap_setCell _ _ _ _ h
  have hdb := heap_setCell_same wr db 4 _ _ (.slice none 0 0) S2
  have T := T0.trans (Tn.setCell (F := F) wr ⟨db, 4, none⟩ hFd (.slice none 0 0))
  generalize (wr.setCell ⟨db, 4, none⟩ (.slice none 0 0)) = w' at *
  have hcell : ∀ {b : Nat} {c : Array Value} {t : TypeId} {r : Nat × Nat}, w.heap[b]? = some (.cells c t r) → t ≠ 89 → w'.heap[b]? = w.heap[b]? := by
    intro b c t r hb ht
    refine (hk b (fun e => ?_)).trans (h.cells R hb)
    have h9 : w.heap[db]? = _ := S
    rw [← e, hb] at h9
    injection h9 with h9
    revert h9
    exact cells_ne ht
  have hrow : ∀ {e : TypeId} {sz n : Nat} {v : Value} {xs : List Value}, w.ownsRow 0 e sz v n xs → e ≠ 89 → w'.ownsRow 0 e sz v n xs := by
    intro e sz n v xs h1 hne
    refine ob_same h1 fun g hg => ?_
    rcases h1.2 with ⟨hv, _⟩ | ⟨g', cap, c, hv, _, hh, _⟩
    · rw [hv] at hg; cases hg
    · rw [hv] at hg
      simp [Value.ownBlock] at hg
      subst hg
      exact hcell hh hne
  have hmap : ∀ {b : Nat} {D : Dir}, MpAt wr m b D → MpAt w' m b D := by
    intro b D h1
    refine om_same h1 (hk b (fun e => ?_))
    obtain ⟨es, ck, ho, _⟩ := h1
    have h9 : wr.heap[db]? = _ := S2
    rw [← e, ho] at h9
    cases h9
  refine ⟨⟨.inl hFd, ?_, m, rv, st, sf, .slice none 0 0, hdb, ?_⟩, T⟩
  · rintro b (h | h)
    · exact Nat.lt_of_lt_of_le (hFw b h) T.size
    · exact h.2
  · refine ⟨?_, R.len, R.nodup, fun i hi => ?_, R.sep, ⟨[], ⟨rfl, .inl ⟨rfl, rfl⟩⟩, rfl, fun j hj => absurd hj (Nat.not_lt_zero _)⟩, fun g hg => by cases hg⟩
    · rcases R.dirs with ⟨e1, e2, e3, e4, e5⟩ | ⟨s, f, e1, e2, hne, f1, f2, h1, h2⟩
      · left
        refine ⟨e1, e2, e3, ?_, rfl⟩
        show σ.pend.foldl fol σ.sf = _
        rw [e5, e4]
        rfl
      · right
        refine ⟨s, f, e1, e2, hne, .inl f1, .inl f2, hmap (om_same h1 (h.tn.block s ?_ ?_)), ?_⟩
        · obtain ⟨es, ck, ho, _⟩ := h1
          exact blt ho
        · rw [e2]
          intro e
          injection e with e
          exact hne e.symm
        · have h9 := h.mp f e2
          rw [List.take_length] at h9
          exact hmap h9
    · have B := R.bod i hi
      exact ⟨(hcell B.blk (by decide)).trans B.blk, hrow B.row (by decide), .inl B.inF, fun g hg => .inl (B.rowF g hg)⟩
section
attribute [local irreducible] Calls
set_option maxHeartbeats 4000000 in
set_option maxRecDepth 1000000 in
theorem syncDir_any {w : World} {db : Nat} {σ : Ds} {F : Nat → Prop} (h : DrAt w db σ F) (ok : Okp σ) : Calls Try.prog 16 #[.pointer (some ⟨db, 0, none⟩)] w fun e w' => e = .returned (.int .i64 0) ∧ DrAt w' db σ.syncDir (Fn F w w') ∧ Tn F w w' := by
  obtain ⟨hFd, hFw, m, rv, st, sf, pv, S, R⟩ := h
  obtain ⟨cv, h1, h2, h3⟩ := R.pnd
  obtain ⟨n, hn⟩ : ∃ n, n = σ.pend.length := ⟨_, rfl⟩
  obtain ⟨p, c, hpv⟩ := own_len h1
  rw [← hn] at hpv
  have c4 := S.cell.2.2.2.2
  rw [hpv] at c4
  have hnb : n ≤ 100000000000 := by rw [hn]; exact ok.pn
  have HS := (show Hid (_ ∧ _ ∧ _ ∧ _) from ⟨S, R, hFd, hFw⟩)
  have HN := (show Hid _ from hn)
  have HP := (show Hid _ from hpv)
  have HO := (show Hid (_ ∧ _ ∧ _) from ⟨h1, h2, h3⟩)
  have OK := (show Hid _ from ok)
  clear S R hFd hFw h1 h2 h3 ok hn hpv
  go_enter Try.func16, Try.ntmps16
  go_wp2
  go_loopw [12] (fun i wr => ∃ k : Nat, k ≤ n ∧ i = .int .i64 k ∧ Hid (SyR σ m sf w k wr)) (fun i _ => n - (intOf i).toNat)
  case atStart => exact ⟨0, Nat.zero_le _, rfl, SyR.start HS.out.2.1⟩
  case round =>
    obtain ⟨k, hk, rfl, hR⟩ := hrel
    by_cases hlt : k < n
    · have hi : (k : Int) < (n : Int) := by omega
      have hkx : k < σ.pend.length := by rw [← HN.out]; exact hlt
      obtain ⟨g, cg, cur, hp, hgb, hck⟩ := own_cell HO.out.1 k hkx
      rw [HP.out, HN.out] at hp
      injection hp with hp _ hcc
      subst hp hcc
      obtain ⟨⟨gl, cl, hcv, hFl, hgl⟩, hids, htx⟩ := HO.out.2.2 k hkx
      obtain ⟨f, hf⟩ : ∃ f, sf = some f := by
        rcases HS.out.2.1.dirs with ⟨_, _, _, _, e⟩ | ⟨s, f, _, e, _⟩
        · rw [e] at hkx; simp at hkx
        · exact ⟨f, e⟩
      subst hf
      have HW := hR.out
      have hgk : wr.cell? ⟨g, k, none⟩ = some (.slice (some ⟨gl, 0, none⟩) (σ.pend.getD k []).length cl) := by
        rw [cell_blk k (HW.cells HS.out.2.1 hgb), hck, hcv]
      have hsd : wr.heap[db]? = w.heap[db]? := HW.cells HS.out.2.1 HS.out.1
      have hS2 : StAt wr db σ.room σ.used st (some f) pv := hsd.trans HS.out.1
      have c3 := hS2.cell.2.2.2.1
      have FO := (show Hid _ from follow_any HS.out.2.1.nodup (HW.mp f rfl) (σ.pend.getD k []) gl cl ((HW.cells HS.out.2.1 hgl).trans hgl) hids htx (sy_small OK.out HS.out.2.1 hkx))
      have hsn := (show Hid (σ.pend.take (k + 1) = σ.pend.take k ++ [σ.pend.getD k []]) from by
        show _ = _
        rw [List.take_add_one]; simp [hkx])
      generalize σ.pend.getD k [] = ck at *
      clear HW hgl hids htx hck hgb hcv hS2 hsd hkx
      go_wp2_with (go_at_call 46; refine FO.out.mono ?_; rintro e w2 ⟨⟨v2, rfl⟩, hM2, hT2⟩)
      go_roundw
      case rel =>
        refine ⟨k + 1, by omega, by go_num, hR.out.tn.trans (hT2.more (fun b e => by rw [show b = f from e])), fun f' e => ?_⟩
        injection e with e
        subst e
        rw [hsn.out, List.foldl_append]
        exact hM2
      case measure => simp [intOf]; omega
    · obtain rfl : k = n := by omega
      have hi : ¬ (k : Int) < (k : Int) := by omega
      have HW := hR.out
      have hsd : wr.heap[db]? = w.heap[db]? := HW.cells HS.out.2.1 HS.out.1
      have hS2 : StAt wr db σ.room σ.used st sf pv := hsd.trans HS.out.1
      have y4 := hS2.cell.2.2.2.2
      have f4 := hS2.frozen 4
      clear HW hsd hS2
      go_wp2
      go_ret
      obtain ⟨S, R, hFd, hFw⟩ := HS.out
      have := sydir_end S R hFd hFw (HN.out ▸ hR.out)
      exact ⟨rfl, this⟩
end
end Go.Proofs.Ytaddgmbglhdfdaa
