/-
  change: what is used.
-/
import Derived.Test.YtjobaeopokfekaaGreatDe
import Derived.StillTailTactics
import Derived.Maps.AppendAt
namespace Go.Proofs.YtjobaeopokfekaaGreat
open Go.RowKit Go.Maps
theorem BdAt.sl {w : World} {F : Nat → Prop} {b : Nat} {x : Bd} {v : Value} (h : BdAt w F b x v) : ∃ p cap, v = .slice p x.data.length cap ∧ x.data.length ≤ cap := by
  rcases h.row.2 with ⟨hv, h0⟩ | ⟨g, cap, c, hv, _, _, hc, _⟩
  · exact ⟨none, 0, by rw [hv, h0], by omega⟩
  · exact ⟨_, cap, hv, hc⟩
theorem BdAt.cells {w : World} {F : Nat → Prop} {b : Nat} {x : Bd} {v : Value} (h : BdAt w F b x v) : w.cell? ⟨b, 0, none⟩ = some v ∧ w.cell? ⟨b, 1, none⟩ = some (.int .i64 (x.safe : Int)) := by
  refine ⟨?_, ?_⟩ <;> rw [cell_of_row w b _ _ _ _ h.blk] <;> rfl
/-- size, of a body by its number. -/
theorem size_any {w : World} {F : Nat → Prop} {σ : Ds} {m : List Nat} {rv : Nat → Value} {st sf : Option Nat} {pv : Value} (h : Rest w F σ m rv st sf pv) (o : Option Nat) (ho : ∀ i, o = some i → i < σ.bs.length) : Calls Tryz.prog 143 #[ptv m o] w fun e w' => e = .returned (.int .i64 (sz σ.bs o : Int)) ∧ w' = w := by
  cases o with
  | none => exact size_none w
  | some i =>
    have hb := h.bod i (ho i rfl)
    obtain ⟨p, cap, hv, _⟩ := hb.sl
    have hc := hb.cells.1
    rw [hv] at hc
    exact size_some _ _ _ _ w hc
theorem usd_snoc (bs : List Bd) (D : Dir) (u : Int) (c : List Ld) (l : Ld) : usd bs D u (c ++ [l]) = usd bs D u c + ((sz bs l.2 : Int) - (sz bs (lk D l.1) : Int)) := by simp [usd, List.foldl_append]
theorem StAt.set1 {w : World} {db room : Nat} {used : Int} {st sf : Option Nat} {pv : Value} (h : StAt w db room used st sf pv) (u : Int) : StAt (w.setCell ⟨db, 1, none⟩ (.int .i64 u)) db room u st sf pv := by
  unfold StAt at h ⊢
  rw [heap_setCell_same w db 1 _ _ _ h]; rfl
theorem Rest.setSt {w : World} {db room : Nat} {used : Int} {F : Nat → Prop} {σ : Ds} {m : List Nat} {rv : Nat → Value} {st sf st' sf' : Option Nat} {pv pv' : Value} (h : Rest w F σ m rv st sf pv) (hS : StAt w db room used st' sf' pv') (k : Nat) (u : Value) : Rest (w.setCell ⟨db, k, none⟩ u) F σ m rv st sf pv := by
  refine h.same (fun b o _ ho hne => Below.heap_setCell _ _ _ _ ?_)
  intro e
  rw [show b = db from e] at ho
  unfold StAt at hS
  rw [hS] at ho
  injection ho with ho
  exact hne _ _ ho.symm
theorem Rest.used {w : World} {F : Nat → Prop} {σ : Ds} {m : List Nat} {rv : Nat → Value} {st sf : Option Nat} {pv : Value} (h : Rest w F σ m rv st sf pv) (u : Int) : Rest w F { σ with used := u } m rv st sf pv := ⟨h.dirs, h.len, h.nodup, h.bod, h.sep, h.pnd, h.pvF⟩
theorem wr_used {u a b : Int} (h1 : -4611686018427387904 ≤ u) (h2 : u ≤ 4611686018427387904) (h3 : 0 ≤ a) (h4 : a ≤ 1152921504606846976) (h5 : 0 ≤ b) (h6 : b ≤ 1152921504606846976) : wrap64 (u + wrap64 (a - b)) = u + (a - b) := by
  unfold wrap64; omega
theorem Rest.drew {w : World} {F : Nat → Prop} {σ : Ds} {m : List Nat} {rv : Nat → Value} {st sf : Option Nat} {pv : Value} (h : Rest w F σ m rv st sf pv) : Rest w.drew F σ m rv st sf pv := h.same (fun _ _ _ _ _ => rfl)
theorem Rest.alloc {w : World} {F : Nat → Prop} {σ : Ds} {m : List Nat} {rv : Nat → Value} {st sf : Option Nat} {pv : Value} (h : Rest w F σ m rv st sf pv) (o : Obj) : Rest (w.alloc o) F σ m rv st sf pv := h.same (fun _ _ _ hb _ => Below.heap_alloc _ _ _ (blt hb))
theorem StAt.alloc {w : World} {db room : Nat} {used : Int} {st sf : Option Nat} {pv : Value} (h : StAt w db room used st sf pv) (o : Obj) : StAt (w.alloc o) db room used st sf pv := (Below.heap_alloc _ _ _ (blt h)).trans h
theorem StAt.drew {w : World} {db room : Nat} {used : Int} {st sf : Option Nat} {pv : Value} (h : StAt w db room used st sf pv) : StAt w.drew db room used st sf pv := h
theorem Rest.mp {w : World} {F : Nat → Prop} {σ : Ds} {m : List Nat} {rv : Nat → Value} {s f : Nat} {pv : Value} (h : Rest w F σ m rv (some s) (some f) pv) : s ≠ f ∧ F s ∧ F f ∧ MpAt w m s σ.st ∧ MpAt w m f σ.sf := by
  rcases h.dirs with ⟨e, _⟩ | ⟨s', f', e1, e2, hne, f1, f2, h1, h2⟩
  · cases e
  · injection e1 with e1
    injection e2 with e2
    subst e1 e2
    exact ⟨hne, f1, f2, h1, h2⟩
theorem map_blk {w : World} {m : List Nat} {s : Nat} {D : Dir} (h : MpAt w m s D) : ∃ es c, w.heap[s]? = some (.map es c) := by
  obtain ⟨es, c, hb, _⟩ := h
  exact ⟨es, c, hb⟩
/-- Behind 'follow': the drive's own block, its row of changes. -/
theorem chg_mid {w w1 : World} {db room s : Nat} {f : Option Nat} {used : Int} {F : Nat → Prop} {σ : Ds} {m : List Nat} {rv : Nat → Value} {pv : Value} (S : StAt w db room used (some s) f pv) (R : Rest w F σ m rv (some s) f pv) (hT : Tn (· = s) w w1) :
    StAt w1 db room used (some s) f pv ∧ ∃ cv : List Value, w1.ownsRow 0 193 1 pv σ.pend.length cv ∧ cv.length = σ.pend.length ∧ ∀ j, j < σ.pend.length → LdAt w1 F m (σ.pend.getD j []) (cv.getD j undef) := by
  have hms : ∃ es c, w.heap[s]? = some (.map es c) := by
    rcases R.dirs with ⟨e, _⟩ | ⟨s', f', e1, _, _, _, _, h1, _⟩
    · cases e
    · injection e1 with e1
      subst e1
      exact map_blk h1
  obtain ⟨es, ck, hms⟩ := hms
  have keep : ∀ (b : Nat) c t r, w.heap[b]? = some (Obj.cells c t r) → w1.heap[b]? = some (Obj.cells c t r) := by
    intro b c t r hb
    rw [hT.block b (blt hb) (fun e => by rw [show b = s from e, hms] at hb; cases hb)]
    exact hb
  refine ⟨keep _ _ _ _ S, ?_⟩
  obtain ⟨cv, h1, h2, h3⟩ := R.pnd
  refine ⟨cv, ⟨h1.1, ?_⟩, h2, fun j hj => ?_⟩
  · rcases h1.2 with h4 | ⟨g, cap, c, hv, hg, hh, hc⟩
    · exact .inl h4
    · exact .inr ⟨g, cap, c, hv, hg, keep _ _ _ _ hh, hc⟩
  · obtain ⟨⟨g, cap, e1, hF, hg⟩, i1, i2⟩ := h3 j hj
    exact ⟨⟨g, cap, e1, hF, keep _ _ _ _ hg⟩, i1, i2⟩
theorem own_succ {w : World} {base : Nat} {e : TypeId} {sz n : Nat} {v : Value} {xs : List Value} (h : w.ownsRow base e sz v (n + 1) xs) : ∃ g cap, v = .slice (some ⟨g, 0, none⟩) (n + 1) cap := by
  rcases h.2 with ⟨_, h0⟩ | ⟨g, cap, c, hv, _⟩
  · omega
  · exact ⟨g, cap, hv⟩
/-- The drive's own block stays when its row of changes grows. -/
theorem chg_st {w w3 : World} {db room : Nat} {st sf : Option Nat} {used : Int} {pv : Value} {n : Nat} {cv : List Value} {o : Obj} (S : StAt w db room used st sf pv) (hrow : w.ownsRow 0 193 1 pv n cv) (hg : (w.alloc o).grownBy w3 pv.ownBlock) : StAt w3 db room used st sf pv := by
  have hlt := blt S
  refine (hg.block db (by simp; omega) (fun e => ?_)).trans ((Below.heap_alloc _ _ _ hlt).trans S)
  rcases hrow.2 with ⟨hv, _⟩ | ⟨g, cap, c, hv, _, hh, _⟩
  · rw [hv] at e; cases e
  · rw [hv] at e
    simp [Value.ownBlock] at e
    subst e
    unfold StAt at S
    rw [S] at hh
    injection hh with hh
    injection hh with _ e2
    revert e2
    decide
/-- All but its own block, where its directory and its row of changes have turned. -/
theorem Rest.turn {w w' : World} {F : Nat → Prop} {σ : Ds} {m : List Nat} {rv : Nat → Value} {s f : Nat} {pv pv' : Value} (h : Rest w F σ m rv (some s) (some f) pv)
    (hk : ∀ b o, F b → w.heap[b]? = some o → (∀ c r, o ≠ .cells c 86 r) → (∀ c r, o ≠ .cells c 193 r) → b ≠ s → w'.heap[b]? = w.heap[b]?) (D' : Dir) (hM : MpAt w' m s D') (pend' : List (List Ld)) (u' : Int)
    (hp : ∃ cv : List Value, w'.ownsRow 0 193 1 pv' pend'.length cv ∧ cv.length = pend'.length ∧ ∀ j, j < pend'.length → LdAt w' F m (pend'.getD j []) (cv.getD j undef)) (hpv : ∀ g, pv'.ownBlock = some g → F g) :
    Rest w' F { σ with used := u', st := D', pend := pend' } m rv (some s) (some f) pv' := by
  obtain ⟨hne, f1, f2, h1, h2⟩ := h.mp
  obtain ⟨es, ck, hms⟩ := map_blk h1
  have hcell : ∀ b c t r, F b → w.heap[b]? = some (Obj.cells c t r) → t ≠ 86 → t ≠ 193 → w'.heap[b]? = some (Obj.cells c t r) := by
    intro b c t r hF hb n1 n2
    rw [hk b _ hF hb (fun c r e => by injection e with _ e2; exact n1 e2) (fun c r e => by injection e with _ e2; exact n2 e2) (fun e => by rw [e, hms] at hb; cases hb)]
    exact hb
  refine ⟨.inr ⟨s, f, rfl, rfl, hne, f1, f2, hM, om_same h2 ?_⟩, h.len, h.nodup, fun i hi => ?_, h.sep, hp, hpv⟩
  · obtain ⟨es2, c2, hm2⟩ := map_blk h2
    exact hk f _ f2 hm2 (fun c r e => by cases e) (fun c r e => by cases e) (fun e => hne e.symm)
  · have hb := h.bod i hi
    refine ⟨hcell _ _ _ _ hb.inF hb.blk (by decide) (by decide), ⟨hb.row.1, ?_⟩, hb.inF, hb.rowF⟩
    rcases hb.row.2 with h4 | ⟨g, cap, c, hv, hg, hh, hc⟩
    · exact .inl h4
    · exact .inr ⟨g, cap, c, hv, hg, hcell _ _ _ _ (hb.rowF g (by rw [hv]; rfl)) hh (by decide) (by decide), hc⟩
theorem own_blk {w : World} {base : Nat} {e : TypeId} {sz n g cap : Nat} {xs : List Value} (h : w.ownsRow base e sz (.slice (some ⟨g, 0, none⟩) n cap) n xs) : ∃ c, w.heap[g]? = some (.cells c e (0, 0)) := by
  rcases h.2 with ⟨h0, _⟩ | ⟨g', cap', c, hv, _, hh, _⟩
  · cases h0
  · injection hv with hv
    injection hv with hv
    injection hv with hv
    subst hv
    exact ⟨c, hh⟩
theorem StAt.set4 {w : World} {db room : Nat} {used : Int} {st sf : Option Nat} {pv : Value} (h : StAt w db room used st sf pv) (v : Value) : StAt (w.setCell ⟨db, 4, none⟩ v) db room used st sf v := by
  unfold StAt at h ⊢
  rw [heap_setCell_same w db 4 _ _ _ h]; rfl
/-- What stays when the row of changes has grown and was stored. -/
theorem chg_keep {w1 w3 : World} {db room : Nat} {st sf : Option Nat} {used : Int} {pv v : Value} {n : Nat} {cv : List Value} {o : Obj} (S : StAt w1 db room used st sf pv) (hrow : w1.ownsRow 0 193 1 pv n cv) (hg : (w1.alloc o).grownBy w3 pv.ownBlock) (b : Nat) (ob : Obj) (hb : w1.heap[b]? = some ob) (n1 : ∀ c r, ob ≠ .cells c 86 r) (n2 : ∀ c r, ob ≠ .cells c 193 r) : (w3.setCell ⟨db, 4, none⟩ v).heap[b]? = some ob := by
  have hlt := blt hb
  rw [Below.heap_setCell _ _ _ _ (fun e => ?_), hg.block b (by simp; omega) (fun e => ?_), Below.heap_alloc _ _ _ hlt, hb]
  · rcases hrow.2 with ⟨hv, _⟩ | ⟨g, cap, c, hv, _, hh, _⟩
    · rw [hv] at e; cases e
    · rw [hv] at e
      simp [Value.ownBlock] at e
      subst e
      rw [hb] at hh
      injection hh with hh
      exact n2 _ _ hh
  · have h8 : w1.heap[db]? = _ := S
    rw [← show b = db from e, hb] at h8
    injection h8 with h8
    exact n1 _ _ h8
theorem infoC : (Tryz.prog.info? 193).map (fun i => (i.zero, i.size, i.bytes)) = some (some (.slice none 0 0), 1, 24) := by kernel_rfl
section
attribute [local irreducible] Calls
set_option maxHeartbeats 4000000 in
set_option maxRecDepth 1000000 in
theorem change_ok {w : World} {db room : Nat} {used : Int} {F : Nat → Prop} {σ : Ds} {m : List Nat} {rv : Nat → Value} {s f : Nat} {pv : Value} (S : StAt w db room used (some s) (some f) pv) (R : Rest w F σ m rv (some s) (some f) pv) (hFd : F db)
    (c : List Ld) (g cap : Nat) (hb : w.heap[g]? = some (.cells (ldc m c).toArray 190 (0, 0))) (ids : ∀ l ∈ c, ∀ i, l.2 = some i → i < σ.bs.length) (txt : ∀ l ∈ c, l.1.length ≤ 1024) (hn : c.length ≤ 1000)
    (hu : ∀ k, k ≤ c.length → -4611686018427387904 ≤ usd σ.bs σ.st used (c.take k) ∧ usd σ.bs σ.st used (c.take k) ≤ 4611686018427387904) (hz : ∀ o, sz σ.bs o ≤ 1152921504606846976) (hms : Maps.size σ.st ≤ 100000000000) (hpl : σ.pend.length ≤ 1000000000000) :
    Calls Tryz.prog 140 #[.pointer (some ⟨db, 0, none⟩), .slice (some ⟨g, 0, none⟩) c.length cap] w fun e w' => (∃ v, e = .returned v) ∧ ∃ pv', StAt w' db room (usd σ.bs σ.st used c) (some s) (some f) pv' ∧ Rest w' (fun b => F b ∨ b = g ∨ (w.heap.size ≤ b ∧ b < w'.heap.size)) (σ.change c) m rv (some s) (some f) pv' ∧ Tn F w w' := by
  obtain ⟨n, hN⟩ : ∃ n, n = c.length := ⟨_, rfl⟩
  rw [← hN]
  rw [← hN] at hn
  have HN := (show Hid (n = c.length) from hN)
  have HB := (show Hid _ from hb)
  have HI := (show Hid _ from And.intro ids txt)
  have HU := (show Hid (_ ∧ _) from And.intro hu hz)
  have HFd := (show Hid (F db) from hFd)
  clear hFd
  have HP := (show Hid (Maps.size σ.st ≤ 100000000000 ∧ σ.pend.length ≤ 1000000000000) from ⟨hms, hpl⟩)
  obtain ⟨i0, hi0, hz0, hz1, hz2⟩ := info_parts infoC
  have hgd : g ≠ db := by
    intro e
    subst e
    unfold StAt at S
    rw [hb] at S
    injection S with S
    injection S with _ e2
    revert e2
    decide
  have SS := (show Hid _ from S)
  have RR := (show Hid _ from R)
  have s2 := S.cell.2.2.1
  clear hN hb ids txt hu hz S R hms hpl
  have qT : ∀ (w : World) (r : Option Nat), (binOp .eql 83 (.map r) (.map none)).run Tryz.prog w = .ok (.bool r.isNone) w := fun w r => run_eql_map_nil w _ _ _ r Tryz.underlying83
  go_enter Tryz.func140, Tryz.ntmps140
  go_wp2
  go_loopw [21] (fun i wr => ∃ k : Nat, k ≤ n ∧ i = .int .i64 k ∧ Hid (StAt wr db room (usd σ.bs σ.st used (c.take k)) (some s) (some f) pv) ∧ Hid (Rest wr F σ m rv (some s) (some f) pv) ∧ Hid (Tn (· = db) w wr)) (fun i _ => n - (intOf i).toNat)
  case atStart => exact ⟨0, Nat.zero_le _, rfl, SS.out, RR.out, Tn.refl _ _⟩
  case round =>
    obtain ⟨k, hk, rfl, hS, hR, hT⟩ := hrel
    by_cases hlt : k < n
    · have hi : (k : Int) < (n : Int) := by omega
      have hkx : k < c.length := by rw [← HN.out]; exact hlt
      have hk' : k ≤ c.length := by omega
      have hgw : wr.heap[g]? = some (.cells (ldc m c).toArray 190 (0, 0)) := (hT.out.block g (blt HB.out) hgd).trans HB.out
      obtain ⟨l, hl⟩ : ∃ l, l = c.getD k ([], none) := ⟨_, rfl⟩
      obtain ⟨g1, g2⟩ := ldc_cell hgw hkx
      rw [← hl] at g1 g2
      have hlm : l ∈ c := by rw [hl]; simp [hkx]
      have hsn := (show Hid (c.take (k + 1) = c.take k ++ [l]) from by
        show _ = _
        rw [List.take_add_one, hl]; simp [hkx])
      have hid := HI.out.1 l hlm
      have htx := HI.out.2 l hlm
      obtain ⟨x, o⟩ := l
      simp only at htx g1 g2 hid
      obtain ⟨X, hX⟩ : ∃ X, X = (wr.alloc (.cells #[encStr x, ptv m o] 190)).drew := ⟨_, rfl⟩
      have XS : StAt X db room (usd σ.bs σ.st used (c.take k)) (some s) (some f) pv := by rw [hX]; exact (hS.out.alloc _).drew
      have XR : Rest X F σ m rv (some s) (some f) pv := by rw [hX]; exact (hR.out.alloc _).drew
      have XT : Tn (· = db) w X := by
        rw [hX]
        exact hT.out.trans ⟨rfl, rfl, rfl, by simp [World.drew], fun b hb _ => Below.heap_alloc _ _ _ hb⟩
      have y0 : X.cell? ⟨wr.heap.size, 0, none⟩ = some (encStr x) := by rw [hX]; exact (cell_of_row (wr.alloc _) wr.heap.size 0 _ _ (0, 0) (heap_alloc_new wr _)).trans rfl
      have y1 : X.cell? ⟨wr.heap.size, 1, none⟩ = some (ptv m o) := by rw [hX]; exact (cell_of_row (wr.alloc _) wr.heap.size 1 _ _ (0, 0) (heap_alloc_new wr _)).trans rfl
      obtain ⟨hlk, hli⟩ := XR.look (x := x) (by unfold maxLen; omega)
      have z1 := (show Hid _ from size_any XR o (fun i e => hid i e))
      have z2 := (show Hid _ from size_any XR (lk σ.st x) hli)
      have c1 := XS.cell.2.1
      have c2 := XS.cell.2.2.1
      have fz := XS.frozen 1
      have hub := HU.out.1 k hk'
      have wu := wr_used (a := (sz σ.bs o : Int)) (b := (sz σ.bs (lk σ.st x) : Int)) hub.1 hub.2 (by omega) (by have := HU.out.2 o; omega) (by omega) (by have := HU.out.2 (lk σ.st x); omega)
      have HX := (show Hid (_ ∧ _ ∧ _) from ⟨XS, XR, XT⟩)
      clear hid hli XS XR XT hub hS hR hT
      have hus := (show Hid (usd σ.bs σ.st used (c.take (k + 1)) = _) from by
        show _ = _
        rw [hsn.out, usd_snoc])
      simp only at hus
      unfold ptv at g2 hlk hX y1 z1 z2
      generalize pta m o = po at *
      generalize pta m (lk σ.st x) = pq at *
      generalize usd σ.bs σ.st used (c.take k) = u at *
      generalize (sz σ.bs o : Int) = so at *
      generalize (sz σ.bs (lk σ.st x) : Int) = sq at *
      clear hl hkx hgw hlm
      go_wp2
      refine wp_region_still_tail 17 (by kernel_rfl) (by kernel_rfl) ?_
      simp only [List.take_succ_cons, List.take_zero, List.drop_succ_cons, List.drop_zero]
      have eX : ({ wr.alloc (.cells #[encStr x, .pointer po] 190) with drawn := (wr.alloc (.cells #[encStr x, .pointer po] 190)).drawn + 1 } : World) = X := hX.symm
      rw [eX]
      clear eX hX
      repeat still_step
      still_call z1.out
      repeat still_step
      still_call z2.out
      repeat still_step
      refine wpStill_nil ?_
      go_wp2
      go_roundw
      case rel =>
        refine ⟨k + 1, by omega, by go_num, ?_, HX.out.2.1.setSt HX.out.1 _ _, ?_⟩
        · show StAt _ _ _ _ _ _ _
          rw [hus.out]
          exact HX.out.1.set1 _
        · exact HX.out.2.2.trans (Tn.setCell (F := (· = db)) X ⟨db, 1, none⟩ rfl _)
      case measure => simp [intOf]; omega
    · obtain rfl : k = n := by omega
      have hi : ¬ (k : Int) < (k : Int) := by omega
      obtain ⟨hsf, hFs, hFf, hMs, hMf⟩ := hR.out.mp
      have hgw : wr.heap[g]? = some (.cells (ldc m c).toArray 190 (0, 0)) := (hT.out.block g (blt HB.out) hgd).trans HB.out
      have FO := (show Hid _ from follow_any hR.out.nodup hMs c g cap hgw (fun l hl i e => by rw [hR.out.len]; exact HI.out.1 l hl i e) HI.out.2 (by have := HP.out.1; have := HN.out; omega))
      rw [← HN.out] at FO
      have c2 := hS.out.cell.2.2.1
      have eu : usd σ.bs σ.st used (c.take k) = usd σ.bs σ.st used c := by rw [HN.out, List.take_length]
      have hS' := (show Hid (StAt wr db room (usd σ.bs σ.st used c) (some s) (some f) pv) from by show StAt _ _ _ _ _ _ _; rw [← eu]; exact hS.out)
      have HM := (show Hid (_ ∧ _ ∧ _ ∧ _) from ⟨hsf, hFs, hFf, hMs⟩)
      have hgF := (show Hid _ from hgw)
      clear hsf hFs hFf hMs hMf hgw hS eu
      go_wp2_with (first
        | (go_at_call 142; refine FO.out.mono ?_; rintro e w1 ⟨⟨v1, rfl⟩, hM1, hT1⟩; have PK := chg_mid hS'.out hR.out hT1; have c4 := PK.1.cell.2.2.2.2; have HPK := (show Hid _ from PK); have H1 := (show Hid (_ ∧ _) from ⟨hM1, hT1⟩); clear PK hM1 hT1 c2)
        | (at_builtin; obtain ⟨cv, hrow, hcl, hcs⟩ := HPK.out.2; refine wpList_append_own_at _ rfl _ _ 84 rfl 0 193 i0 (.slice none 0 0) 1 24 Tryz.underlying84 hi0 hz0 hz1 hz2 rfl (by decide) _ _ _ rfl (hrow.alloc _) ⟨w1.heap.size, 0, none⟩ 1 1 [.slice (some ⟨g, 0, none⟩) k cap] rfl rfl (one_newD _ _ _) (by simp [Value.oneCell']) (by have := HP.out.2; unfold maxLen; omega) (by have := HP.out.2; omega) (Nat.zero_le _) ?_; intro v' w3 hown' hg3 _ hloc; obtain ⟨g', cap', rfl⟩ := own_succ hown'; have S3 := chg_st HPK.out.1 hrow hg3; have f4 := S3.frozen 4; have e4 := S3.cell.2.2.2.2; have HF := (show Hid (_ ∧ _ ∧ _ ∧ _ ∧ _ ∧ _) from ⟨hown', hg3, hloc, S3, hcl, hcs⟩); have HR9 := (show Hid _ from hrow); clear hown' hg3 hloc S3 hcl hcs hrow))
      go_end0
      obtain ⟨hown', hg3, hloc, S3, hcl, hcs⟩ := HF.out
      obtain ⟨hM1, hT1⟩ := H1.out
      have hR' := hR.out
      have hS1 := HPK.out.1
      have hrow := HR9.out
      have hb3 := (own_blk hown').choose_spec
      have keep := chg_keep (db := db) hS1 hrow hg3 (v := .slice (some ⟨g', 0, none⟩) (σ.pend.length + 1) cap')
      have hsz1 : wr.heap.size ≤ w1.heap.size := hT1.size
      have hsz3 : w1.heap.size + 1 ≤ w3.heap.size := by have := hg3.size; simpa using this
      have hszw := hT.out.size
      have hms : ∃ es c, wr.heap[s]? = some (.map es c) := map_blk HM.out.2.2.2
      have kp1 : ∀ (b : Nat) o, wr.heap[b]? = some o → b ≠ s → w1.heap[b]? = some o := fun b o hb hne => (hT1.block b (blt hb) hne).trans hb
      refine ⟨⟨_, rfl⟩, .slice (some ⟨g', 0, none⟩) (σ.pend.length + 1) cap', S3.set4 _, ?_, ?_⟩
      · refine Rest.turn (s := s) (f := f) (hR'.more (fun b hb => Or.inl hb)) ?_ (fol σ.st c) ?_ (σ.pend ++ [c]) (usd σ.bs σ.st σ.used c) ?_ ?_
        · intro b o _ hb n1 n2 n3
          rw [keep b o (kp1 b o hb n3) n1 n2, hb]
        · refine om_same hM1 ?_
          obtain ⟨es, ck, hm1⟩ := map_blk hM1
          rw [keep s _ hm1 (fun c r e => by cases e) (fun c r e => by cases e), hm1]
        · refine ⟨cv ++ [.slice (some ⟨g, 0, none⟩) k cap], ?_, by simp [hcl], fun j hj => ?_⟩
          · have e1 : (σ.pend ++ [c]).length = σ.pend.length + 1 := by simp
            rw [e1]
            refine ob_same hown' fun g9 hg9 => Below.heap_setCell _ _ _ _ (fun e => ?_)
            have e9 : g9 = g' := by simpa [Value.ownBlock] using hg9.symm
            subst e9
            have h8 : w3.heap[db]? = _ := S3
            rw [← show g9 = db from e, hb3] at h8
            injection h8 with h8
            injection h8 with _ e2
            revert e2
            decide
          · by_cases hjl : j < σ.pend.length
            · obtain ⟨⟨g9, cap9, e9, hF9, hb9⟩, i1, i2⟩ := hcs j hjl
              have q1 : (σ.pend ++ [c]).getD j [] = σ.pend.getD j [] := by simp [hjl, List.getElem?_append_left hjl]
              have q2 : (cv ++ [Value.slice (some ⟨g, 0, none⟩) k cap]).getD j undef = cv.getD j undef := by
                have : j < cv.length := by rw [hcl]; exact hjl
                simp [this, List.getElem?_append_left this]
              rw [q1, q2]
              exact ⟨⟨g9, cap9, e9, .inl hF9, keep g9 _ hb9 (fun c r e => by injection e with _ e2; revert e2; decide) (fun c r e => by injection e with _ e2; revert e2; decide)⟩, i1, i2⟩
            · have ej : j = σ.pend.length := by simp at hj; omega
              subst ej
              have q1 : (σ.pend ++ [c]).getD σ.pend.length [] = c := by simp
              have q2 : (cv ++ [Value.slice (some ⟨g, 0, none⟩) k cap]).getD σ.pend.length undef = .slice (some ⟨g, 0, none⟩) k cap := by rw [← hcl]; simp
              rw [q1, q2, HN.out]
              have hgs : g ≠ s := by
                intro e
                obtain ⟨es, ck, h8⟩ := hms
                have h7 := hgF.out
                rw [e, h8] at h7
                cases h7
              exact ⟨⟨g, cap, rfl, .inr (.inl rfl), keep g _ (kp1 g _ hgF.out hgs) (fun c r e => by injection e with _ e2; revert e2; decide) (fun c r e => by injection e with _ e2; revert e2; decide)⟩, fun l hl i e => by rw [hR'.len]; exact HI.out.1 l hl i e, HI.out.2⟩
        · intro g9 hg9
          rcases hloc with h8 | h8
          · exact .inl (hR'.pvF g9 (h8 ▸ hg9))
          · refine .inr (.inr ?_)
            rw [h8] at hg9
            injection hg9 with hg9
            have := blt hb3
            simp [Value.ownBlock] at h8
            simp [World.setCell]
            simp at hg9
            omega
      · refine (hT.out.more (fun b e => by rw [show b = db from e]; exact HFd.out)).trans ((hT1.more (fun b e => by rw [show b = s from e]; exact HM.out.2.1)).trans ((Tn.of_below ((Below.refl _ w1).alloc (Nat.le_refl _) _)).trans ((Tn.grown hg3 (fun g9 e => hR'.pvF g9 e)).trans (Tn.setCell w3 ⟨db, 4, none⟩ HFd.out _))))
end
end Go.Proofs.YtjobaeopokfekaaGreat
