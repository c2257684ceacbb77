/-
  The walk of DriveCalm.
-/
import Derived.Test.YtbkndoamcnfbjaaKw11
import Derived.Test.YtbkndoamcnfbjaaKt11
namespace Go.Proofs.Ytbkndoamcnfbjaa
open Go.RowKit Go.Maps Go.Sort
theorem crf_lt {σ : Ds} (hw : Wfd σ) (hi : Iv σ) (dirs : List Bool) : ∀ k, k ≤ σ.pend.length → ∀ y j, lk (crf σ dirs k) y = some j → j < σ.bs.length
  | 0, _ => hw.sf
  | k + 1, hk => by
    have ih := crf_lt hw hi dirs k (by omega)
    have hm : σ.pend.getD k [] ∈ σ.pend := by
      have hl : k < σ.pend.length := by omega
      rw [List.getD, List.getElem?_eq_getElem hl]
      exact List.getElem_mem _
    rw [crf_succ]
    split
    · exact lk_fol_lt (hi.crf dirs k (by omega)).1.t.isMap ih _ (hw.pn _ hm)
    · exact ih
theorem calm_one {σ : Ds} (hw : Wfd σ) (hi : Iv σ) (dirs : List Bool) (cuts : List Int) : tol (σ.crash dirs cuts) (·.data) (σ.crash dirs cuts).st = crl (cr1 σ dirs) cuts ∧ tol (σ.crash dirs cuts) (fun b => b.data.take b.safe) (σ.crash dirs cuts).sf = crl (cr1 σ dirs) cuts ∧ Sf (σ.crash dirs cuts) := by
  have h := crash_cw dirs cuts (hi.crf dirs _ (Nat.le_refl _)).1 (crf_lt hw hi dirs _ (Nat.le_refl _))
  exact ⟨h.tol _ (fun d => rfl), h.tol _ (fun d => List.take_length), h.sf⟩
theorem calm_two {σ : Ds} (hw : Wfd σ) (hi : Iv σ) (hp : σ.pend = []) (hs : Sf σ) (dirs : List Bool) (cuts : List Int) : tol (σ.crash dirs cuts) (·.data) (σ.crash dirs cuts).st = tol σ (·.data) σ.sf := by
  rw [(calm_one hw hi dirs cuts).1]
  exact crl_calm dirs cuts hp hi.td hs
/-- A drive of the law's own, and what it leaves as it is. -/
structure Tm (w w2 w5 Xc : World) (C : Array Value) (db k : Nat) (τ : Ds) (X : World) : Prop where
  kb : GB X w.heap.size 32 C
  dr : ∃ F, DrAt X db τ F ∧ ∀ b, F b → (w2.heap.size ≤ b ∧ b < w5.heap.size) ∨ Xc.heap.size ≤ b
  kp : ∀ g, w5.heap.size ≤ g → g < Xc.heap.size → X.heap[g]? = Xc.heap[g]?
  bl : Below w2.heap.size w2 X
  sz : Xc.heap.size ≤ X.heap.size
  ok : Okk k τ
  lt : w.heap.size < w2.heap.size ∧ w2.heap.size ≤ w5.heap.size ∧ w5.heap.size ≤ Xc.heap.size
theorem Tm.below {w w2 w5 Xc X X' : World} {C : Array Value} {db k : Nat} {τ : Ds} (h : Tm w w2 w5 Xc C db k τ X) (hb : Below X.heap.size X X') : Tm w w2 w5 Xc C db k τ X' := by
  obtain ⟨kb, ⟨F, dr, hF⟩, kp, bl, sz, ok, lt⟩ := h
  exact ⟨kb.below hb, ⟨F, dr.below hb, hF⟩, fun g h1 h2 => (hb.block g (by omega)).trans (kp g h1 h2), bl.trans (hb.mono bl.size), Nat.le_trans sz hb.size, ok, lt⟩
theorem Tm.files {w w2 w5 Xc X : World} {C : Array Value} {db k : Nat} {τ : Ds} (h : Tm w w2 w5 Xc C db k τ X) {v : Value} {L : List (Tx × Tx)} (hv : FsAt Xc w5.heap.size v L) : FsAt X w5.heap.size v L := hv.keep h.kp
theorem Tm.crash {w w2 w5 Xc X : World} {C : Array Value} {db k : Nat} {τ : Ds} (h : Tm w w2 w5 Xc C db k τ X) (hk : k ≤ 134217728) (pd : Option Addr) (nd cd : Nat) (dirs : List Bool) (hdl : dirs.length = nd) (hd : Bls X pd dirs) (pc : Option Addr) (nc cc : Nat) (cuts : List Int) (hcl : cuts.length = nc) (hc : Ils X pc cuts) (hnd : nd ≤ 1000000000) (hnc : nc ≤ 1000000000) (hcF : 0 < nc → ∀ b o, pc = some ⟨b, o, none⟩ → b < w2.heap.size ∨ (w5.heap.size ≤ b ∧ b < Xc.heap.size)) : Calls Try.prog 20 #[.pointer (some ⟨db, 0, none⟩), .agg (ftC (.slice pd nd cd) (.slice pc nc cc))] X fun e w' => e = .returned (.int .i64 0) ∧ Tm w w2 w5 Xc C db k (τ.crash dirs cuts) w' := by
  obtain ⟨kb, ⟨F, dr, hF⟩, kp, bl, sz, ok, lt⟩ := h
  refine (crash_gen dr ok hk pd nd cd dirs hdl hd pc nc cc cuts hcl hc hnd hnc (fun h0 b o e hFb => by have := hcF h0 b o e; have := hF b hFb; omega)).mono ?_
  rintro e w' ⟨e1, hD, hT⟩
  have hl := kb.lt
  refine ⟨e1, ⟨?_, ⟨_, hD, ?_⟩, fun g h1 h2 => ?_, tn_bel bl hT (fun b hb => by have := hF b hb; omega), Nat.le_trans sz hT.size, ok.crash hk dirs cuts dr, lt⟩⟩
  · unfold GB at kb ⊢
    rw [hT.block _ hl (fun hb => by have := hF _ hb; omega)]
    exact kb
  · rintro b (hb | hb)
    · exact hF b hb
    · exact .inr (by omega)
  · exact (hT.block g (by omega) (fun hb => by have := hF _ hb; omega)).trans (kp g h1 h2)
theorem Tm.wfd {w w2 w5 Xc X : World} {C : Array Value} {db k : Nat} {τ : Ds} (h : Tm w w2 w5 Xc C db k τ X) : Wfd τ := by
  obtain ⟨F, dr, _⟩ := h.dr
  exact wfd_of dr h.ok
theorem Tm.image {w w2 w5 Xc X : World} {C : Array Value} {db k : Nat} {τ : Ds} (h : Tm w w2 w5 Xc C db k τ X) (hk : k ≤ 134217728) : Calls Try.prog 24 #[.pointer (some ⟨db, 0, none⟩)] X fun e w' => ∃ v, e = .returned v ∧ FsAt w' X.heap.size v (tol τ (·.data) τ.st) ∧ Tm w w2 w5 Xc C db k τ w' := by
  obtain ⟨F, dr, _⟩ := h.dr
  refine (image_any dr h.ok hk).mono ?_
  rintro e w' ⟨v, e1, h1, h2⟩
  exact ⟨v, e1, h1, h.below h2⟩
theorem Tm.safe {w w2 w5 Xc X : World} {C : Array Value} {db k : Nat} {τ : Ds} (h : Tm w w2 w5 Xc C db k τ X) (hk : k ≤ 134217728) : Calls Try.prog 28 #[.pointer (some ⟨db, 0, none⟩)] X fun e w' => ∃ v, e = .returned v ∧ FsAt w' X.heap.size v (tol τ (fun b => b.data.take b.safe) τ.sf) ∧ Tm w w2 w5 Xc C db k τ w' := by
  obtain ⟨F, dr, _⟩ := h.dr
  refine (safe_any dr h.ok hk).mono ?_
  rintro e w' ⟨v, e1, h1, h2⟩
  exact ⟨v, e1, h1, h.below h2⟩
theorem Tm.same {w w2 w5 Xc X : World} {C : Array Value} {db k : Nat} {τ : Ds} (h : Tm w w2 w5 Xc C db k τ X) {b : Nat} {u v : Value} {L : List (Tx × Tx)} (h1 : FsAt X b u L) (h2 : FsAt Xc w5.heap.size v L) (hL : L.length ≤ 1000000000) : Calls Try.prog 30 #[u, v] X fun e w' => e = .returned (.bool true) ∧ Tm w w2 w5 Xc C db k τ w' := by
  refine (same_files h1 (h.files h2) hL).mono ?_
  rintro e w' ⟨e1, hb⟩
  exact ⟨e1, h.below hb⟩
theorem Tm.pending {w w2 w5 Xc X : World} {C : Array Value} {db k : Nat} {τ : Ds} (h : Tm w w2 w5 Xc C db k τ X) : Calls Try.prog 22 #[.pointer (some ⟨db, 0, none⟩)] X fun e w' => e = .returned (.int .i64 (τ.pend.length : Int)) ∧ w' = X := by
  obtain ⟨F, dr, _⟩ := h.dr
  exact pending_any dr
theorem Tm.pend0 {w w2 w5 Xc X : World} {C : Array Value} {db k : Nat} {τ : Ds} (h : Tm w w2 w5 Xc C db k τ X) (hp : τ.pend = []) : Calls Try.prog 22 #[.pointer (some ⟨db, 0, none⟩)] X fun e w' => e = .returned (.int .i64 0) ∧ w' = X := by
  have h9 := h.pending
  rw [hp] at h9
  exact h9
theorem gb_set0 {w : World} {g : Nat} {t : TypeId} {u v : Value} (h : GB w g t (ftC u v)) (x : Value) : GB (w.setCell ⟨g, 0, none⟩ x) g t (ftC x v) := by
  unfold GB ftC at *
  exact heap_setCell_same _ _ 0 _ _ x h
theorem gb_set1 {w : World} {g : Nat} {t : TypeId} {u v : Value} (h : GB w g t (ftC u v)) (x : Value) : GB (w.setCell ⟨g, 1, none⟩ x) g t (ftC u x) := by
  unfold GB ftC at *
  exact heap_setCell_same _ _ 1 _ _ x h
/-- A fate while its lists are made. -/
structure Ev (w7 : World) (dv cv : Value) (m n : Nat) (xs ys : List Value) (wr : World) : Prop where
  g : GB wr w7.heap.size 30 (ftC dv cv)
  d : wr.ownsRow w7.heap.size 4 1 dv m xs
  c : wr.ownsRow w7.heap.size 3 1 cv n ys
  b : Below w7.heap.size w7 wr
theorem Ev.below {w7 wr w' : World} {dv cv : Value} {m n : Nat} {xs ys : List Value} (h : Ev w7 dv cv m n xs ys wr) (hb : Below wr.heap.size wr w') : Ev w7 dv cv m n xs ys w' := ⟨h.g.below hb, own_below h.d hb, own_below h.c hb, h.b.trans (hb.mono h.b.size)⟩
theorem Ev.drew {w7 wr : World} {dv cv : Value} {m n : Nat} {xs ys : List Value} (h : Ev w7 dv cv m n xs ys wr) : Ev w7 dv cv m n xs ys wr.drew := ⟨h.g, h.d, h.c, h.b.drew⟩
theorem one_nd (w : World) (u : Value) (t : TypeId) : ∀ j x, ([u] : List Value)[j]? = some x → (w.alloc (.cells #[u] t)).drew.cell? ((⟨w.heap.size, 0, none⟩ : Addr).add j) = some x := one_new w u t
theorem Ev.start {w7 w8 : World} (h : GB w8 w7.heap.size 30 (ftC (.slice none 0 0) (.slice none 0 0))) (hb : Below w7.heap.size w7 w8) : Ev w7 (.slice none 0 0) (.slice none 0 0) 0 0 [] [] w8 := ⟨h, ⟨rfl, .inl ⟨rfl, rfl⟩⟩, ⟨rfl, .inl ⟨rfl, rfl⟩⟩, hb⟩
theorem own_sep {w : World} {b1 b2 : Nat} {t1 t2 : TypeId} {n1 n2 s1 s2 : Nat} {u v : Value} {xs ys : List Value} (h1 : w.ownsRow b1 t1 s1 u n1 xs) (h2 : w.ownsRow b2 t2 s2 v n2 ys) (ht : t1 ≠ t2) : ∀ g, u.ownBlock = some g → v.ownBlock ≠ some g := by
  intro g e1 e2
  obtain ⟨_, _, cs, k1⟩ := own_lt h1 e1
  obtain ⟨_, _, cs', k2⟩ := own_lt h2 e2
  rw [k1] at k2
  injection k2 with k2
  injection k2 with _ k3
  exact ht k3
/-- A list of dirs grows by one. -/
theorem Ev.dirs {w7 W w2 : World} {dv cv v2 : Value} {m n : Nat} {xs ys zs : List Value} (h : Ev w7 dv cv m n xs ys W) (hO : w2.ownsRow w7.heap.size 4 1 v2 (m + 1) zs) (hg : W.grownBy w2 dv.ownBlock) : GB w2 w7.heap.size 30 (ftC dv cv) ∧ Ev w7 v2 cv (m + 1) n zs ys (w2.setCell ⟨w7.heap.size, 0, none⟩ v2) := by
  have G2 := h.g.kept hg (fun e => h.g.ne h.d e (by decide) rfl)
  have C2 := own_kept h.c hg (fun g e e2 => own_sep h.c h.d (by decide) g e e2)
  refine ⟨G2, gb_set0 G2 v2, ?_, ?_, ?_⟩
  · exact ob_same hO (fun g e => Below.heap_setCell _ _ _ _ (fun e2 => G2.ne hO e (by decide) e2))
  · exact ob_same C2 (fun g e => Below.heap_setCell _ _ _ _ (fun e2 => G2.ne C2 e (by decide) e2))
  · exact (grown_own h.b h.d hg h.b.size).setCell (Nat.le_refl _) _
/-- A list of cuts grows by one. -/
theorem Ev.cuts {w7 W w2 : World} {dv cv v2 : Value} {m n : Nat} {xs ys zs : List Value} (h : Ev w7 dv cv m n xs ys W) (hO : w2.ownsRow w7.heap.size 3 1 v2 (n + 1) zs) (hg : W.grownBy w2 cv.ownBlock) : GB w2 w7.heap.size 30 (ftC dv cv) ∧ Ev w7 dv v2 m (n + 1) xs zs (w2.setCell ⟨w7.heap.size, 1, none⟩ v2) := by
  have G2 := h.g.kept hg (fun e => h.g.ne h.c e (by decide) rfl)
  have D2 := own_kept h.d hg (fun g e e2 => own_sep h.d h.c (by decide) g e e2)
  refine ⟨G2, gb_set1 G2 v2, ?_, ?_, ?_⟩
  · exact ob_same D2 (fun g e => Below.heap_setCell _ _ _ _ (fun e2 => G2.ne D2 e (by decide) e2))
  · exact ob_same hO (fun g e => Below.heap_setCell _ _ _ _ (fun e2 => G2.ne hO e (by decide) e2))
  · exact (grown_own h.b h.c hg h.b.size).setCell (Nat.le_refl _) _
theorem Ev.bls {w7 wr : World} {p : Option Addr} {c m n : Nat} {cv : Value} {bs : List Bool} {ys : List Value} (h : Ev w7 (.slice p m c) cv m n (bs.map bov) ys wr) (hm : bs.length = m) : Bls wr p bs := by
  intro i hi
  obtain ⟨g, cg, cur, hp, _, hc⟩ := own_cell h.d i (by omega)
  injection hp with hp
  refine ⟨g, 0, hp, ?_⟩
  rw [Nat.zero_add, hc]
  simp only [List.getD, List.getElem?_map, List.getElem?_eq_getElem hi]
  rfl
theorem Ev.ils {w7 wr : World} {p : Option Addr} {c m n : Nat} {dv : Value} {zs : List Int} {xs : List Value} (h : Ev w7 dv (.slice p n c) m n xs (zs.map inv6) wr) (hn : zs.length = n) : Ils wr p zs := by
  intro i hi
  obtain ⟨g, cg, cur, hp, _, hc⟩ := own_cell h.c i (by omega)
  injection hp with hp
  refine ⟨g, 0, hp, ?_⟩
  rw [Nat.zero_add, hc]
  simp only [List.getD, List.getElem?_map, List.getElem?_eq_getElem hi]
  rfl
theorem Ev.ib {w7 wr : World} {p : Option Addr} {c m n : Nat} {dv : Value} {ys xs : List Value} (h : Ev w7 dv (.slice p n c) m n xs ys wr) {b o : Nat} (e : p = some ⟨b, o, none⟩) : w7.heap.size ≤ b ∧ b < wr.heap.size := by
  subst e
  rcases h.c.2 with ⟨hv, _⟩ | ⟨g', cap, c', hv, h1, hh, _⟩
  · cases hv
  · injection hv with e1
    injection e1 with e1
    injection e1 with e1
    subst e1
    exact ⟨h1, blt hh⟩
theorem cuts_snoc (L : List (Tx × Tx)) (j : Nat) (h : j < L.length) : ((L.take j).map fun f => (f.2.length : Int)).map inv6 ++ [.int .i64 ((L.getD j ([], [])).2.length : Int)] = ((L.take (j + 1)).map fun f => (f.2.length : Int)).map inv6 := by
  rw [List.take_add_one, List.getElem?_eq_getElem h, List.map_append, List.map_append]
  simp only [List.getD, List.getElem?_eq_getElem h, Option.getD_some, Option.toList_some, List.map_cons, List.map_nil]
  rfl
theorem rep_map (k : Nat) : (List.replicate k true).map bov = List.replicate k (.bool true) := by simp [bov]
section
attribute [local irreducible] Calls GB ftC stC kpC anC Ac.v
set_option maxHeartbeats 8000000 in
set_option maxRecDepth 1000000 in
theorem driveCalm_walk {w : World} (how room : Int) (p : Option Addr) (n c : Nat) (nm' dt : Nat → Tx) (pa : Option Addr) (ca : Nat) (LA : List Atp) (nm : Tx) (pd : Option Addr) (cd : Nat) (d : Tx) (pm : Option Addr) (cm : Nat) (LM : List Atp) (qd : Option Addr) (cq : Nat) (dirs : List Bool) (qc : Option Addr) (cc : Nat) (cuts : List Int) (all : Bool) (hK : KeepAt w p n nm' dt pa LA nm pd d pm LM qd dirs qc cuts) :
    Calls Try.prog 5 #[.agg (kpC how room (.slice p n c) (.slice pa LA.length ca) nm (.slice pd d.length cd) (.slice pm LM.length cm) (.slice qd dirs.length cq) (.slice qc cuts.length cc)), .bool all] w fun e w' => e = .returned (.bool true) ∧ Below w.heap.size w w' := by
  have HK := (show Hid (KeepAt w p n nm' dt pa LA nm pd d pm LM qd dirs qc cuts) from hK)
  obtain ⟨na, hna⟩ : ∃ na, na = LA.length := ⟨_, rfl⟩
  obtain ⟨KC, hKC⟩ : ∃ KC, KC = kpC how room (.slice p n c) (.slice pa LA.length ca) nm (.slice pd d.length cd) (.slice pm LM.length cm) (.slice qd dirs.length cq) (.slice qc cuts.length cc) := ⟨_, rfl⟩
  have HC := (show Hid (KC = kpC how room (.slice p n c) (.slice pa LA.length ca) nm (.slice pd d.length cd) (.slice pm LM.length cm) (.slice qd dirs.length cq) (.slice qc cuts.length cc)) from hKC)
  rw [← hKC]
  have HN := (show Hid (na = LA.length) from hna)
  clear hK hna hKC
  go_enter Try.func5, Try.ntmps5
  go_upto_region 4 with (first
    | (refine wpList_bxB (cs := KC) rfl _ rfl rfl ?_; intro w1 hG1 hb1 hs1)
    | (go_at_call 8; refine (awake_any _).mono ?_; rintro e w2 ⟨rfl, hb2⟩))
  have G2 := (show Hid (GB w2 w.heap.size 32 KC) from hG1.below hb2)
  have B2 := (show Hid (Below w.heap.size w w2) from bt hb1 hb2)
  have hst := (show (loadVar 24 ⟨w.heap.size, 0, none⟩).run Try.prog w2 = .ok (.agg (stC how room (.slice p n c))) w2 from by have h9 := G2.out; rw [HC.out] at h9; exact kp_start h9)
  clear hG1 hb1 hs1 hb2
  go_upto_region 5 with (first
    | (refine wpList_ldAt rfl _ _ rfl w.heap.size 0 rfl _ hst ?_)
    | (go_at_call 9; refine (made_any how room p n c nm' dt (HK.out.fl.below B2.out) (by have := HK.out.fz; omega) HK.out.fx HK.out.fn).mono ?_; rintro e w3 ⟨pt, rfl, hM, hb3⟩))
  have G3 := (show Hid (GB w3 w.heap.size 32 KC) from G2.out.below hb3)
  have B3 := (show Hid (Below w.heap.size w w3) from bt B2.out hb3)
  have HB23 := (show Hid (True ∧ Below w2.heap.size w2 w3) from ⟨trivial, hb3⟩)
  have HM := (show Hid (MadeR w2 w3 (Ds.start how room (fls nm' dt n)) pt) from hM)
  have c3 := (show w3.cell? ⟨w.heap.size, 3, none⟩ = some (.slice pa na ca) from by have h9 := G3.out; rw [HC.out] at h9; rw [HN.out]; exact (kp_c h9).1)
  clear hst hM hb3
  rcases HM.out with ⟨_, rfl⟩ | ⟨σ, db, F0, hs, rfl, hD, hF⟩
  · go_wp2
    go_ret
    exact ⟨rfl, B3.out⟩
  · have K3 := (show Hid (Kd w2 db (fsz (fls nm' dt n)) σ w3) from ⟨⟨F0, hD, hF⟩, start_okk hs, by
      obtain ⟨h1, h2⟩ := HB23.out
      exact h2⟩)
    have IV0 := (show Hid (Iv σ) from Iv.start hs)
    clear HM hs hD hF
    have PL := (show Hid (Calls Try.prog 11 #[.pointer (some ⟨db, 0, none⟩), .slice pa na ca] w3 fun e w' => (∃ r, e = .returned r) ∧ PlR w2 db σ LA (fsz (fls nm' dt n)) na w') from played_any LA pa na ca HN.out.symm (HK.out.ac.below B2.out) (K3.out.pl LA) (by have := HK.out.fz; have := HK.out.az; omega) (by have := HK.out.an; have := HN.out; omega))
    go_upto_region 8 with (go_at_call 11; refine PL.out.mono ?_; rintro e w5 ⟨⟨r5, rfl⟩, hP5⟩)
    obtain ⟨k5, hk5⟩ : ∃ k5, k5 = fsz (fls nm' dt n) + aesz LA := ⟨_, rfl⟩
    have K5 := (show Hid (Kd w2 db k5 (σ.run LA) w5) from by rw [hk5]; exact Kd.of hP5 HN.out.symm)
    have HK5 := (show Hid (k5 ≤ 5242880) from by have := HK.out.fz; have := HK.out.az; show _ ≤ _; omega)
    have IV := (show Hid (Iv (σ.run LA)) from IV0.out.run LA)
    clear hP5 hk5 c3 K3 PL IV0
    generalize σ.run LA = τ at K5 IV
    have G5 := (show Hid (GB w5 w.heap.size 32 KC) from G2.out.below K5.out.bl)
    obtain ⟨F, hD5, hF5⟩ := K5.out.ex
    have D5 := (show Hid (DrAt w5 db τ F ∧ ∀ b, F b → w2.heap.size ≤ b ∧ b < w5.heap.size) from ⟨hD5, fun b hb => ⟨hF5 b hb, hD5.2.1 b hb⟩⟩)
    have OK := (show Hid (Okk k5 τ) from K5.out.ok)
    have WF := (show Hid (Wfd τ) from K5.out.wfd)
    clear hD5 hF5
    have NL := (show Hid ((tol τ (·.data) τ.st).length ≤ 10485760 ∧ (tol τ (fun b => b.data.take b.safe) τ.sf).length ≤ 10485760) from by
      have h1 := OK.out.ss
      have h2 := OK.out.sp
      have h3 := HK5.out
      rw [size_nms OK.out.ts] at h1
      rw [size_nms OK.out.tf] at h2
      constructor
      · rw [tol_len]; omega
      · rw [tol_len]; omega)
    have FZ := (show Hid (fsz (tol τ (·.data) τ.st) ≤ 140737488355328) from by
      have h1 := fsz_tol τ (·.data) τ.st k5 OK.out.bl
      have h2 := NL.out.1
      rw [tol_len] at h2
      have h3 := Nat.mul_le_mul h2 (show 1 + k5 ≤ 5242881 from by have := HK5.out; omega)
      show _ ≤ _
      omega)
    obtain ⟨σl, hl, hlp, hlf, hlt⟩ := load_whole (L := tol τ (·.data) τ.st) (D := τ.st) IV.out.std.1 (by simp [tol, Function.comp_def]) IV.out.std.2 (room := 1048576) (by decide)
    have LW := (show Hid (Ds.load 1048576 (tol τ (·.data) τ.st) = some σl ∧ σl.pend = [] ∧ tol σl (·.data) σl.st = tol τ (·.data) τ.st ∧ tol σl (fun b => b.data.take b.safe) σl.sf = tol τ (·.data) τ.st) from ⟨hl, hlp, hlt _ (fun d => rfl), by rw [hlf]; exact hlt _ (fun d => List.take_length)⟩)
    have LK := (show Hid (Okk (fsz (tol τ (·.data) τ.st)) σl) from (load_okk hl).1)
    have LX := (show Hid (∀ f ∈ tol τ (·.data) τ.st, f.1.length ≤ 134217728) from fun f hf => by
      obtain ⟨x, hx, rfl⟩ := List.mem_map.1 hf
      obtain ⟨i, hi⟩ := IV.out.std.1.mem.1 hx
      have h9 := IV.out.std.2 x i hi
      unfold isN at h9
      simp at h9
      show x.length ≤ _
      omega)
    clear hl hlp hlf hlt
    have IM := (show Hid (∀ X, Below w5.heap.size w5 X → Calls Try.prog 24 #[.pointer (some ⟨db, 0, none⟩)] X fun e w' => ∃ v, e = .returned v ∧ FsAt w' X.heap.size v (tol τ (·.data) τ.st) ∧ Below X.heap.size X w') from fun X hb => image_any (D5.out.1.below hb) OK.out (by have := HK5.out; omega))
    have SA := (show Hid (∀ X, Below w5.heap.size w5 X → Calls Try.prog 28 #[.pointer (some ⟨db, 0, none⟩)] X fun e w' => ∃ v, e = .returned v ∧ FsAt w' X.heap.size v (tol τ (fun b => b.data.take b.safe) τ.sf) ∧ Below X.heap.size X w') from fun X hb => safe_any (D5.out.1.below hb) OK.out (by have := HK5.out; omega))
    obtain ⟨L6, hL6⟩ : ∃ L6, L6 = tol τ (·.data) τ.st := ⟨_, rfl⟩
    obtain ⟨L7, hL7⟩ : ∃ L7, L7 = tol τ (fun b => b.data.take b.safe) τ.sf := ⟨_, rfl⟩
    rw [← hL6] at LW LK LX FZ IM
    rw [← hL6, ← hL7] at NL
    rw [← hL7] at SA
    have HL := (show Hid (L6 = tol τ (·.data) τ.st ∧ L7 = tol τ (fun b => b.data.take b.safe) τ.sf) from ⟨hL6, hL7⟩)
    clear hL6 hL7
    go_upto_region 11 with (first
      | (go_at_call 24; refine (IM.out _ (Below.refl _ _)).mono ?_; rintro e w6 ⟨v6, rfl, f6, hb6⟩)
      | (go_at_call 28; refine (SA.out _ hb6).mono ?_; rintro e w7 ⟨v7, rfl, f7, hb7⟩)
      | (refine wpList_alB (cs := ftC (.slice none 0 0) (.slice none 0 0)) rfl rfl (by unfold ftC; exact ft0) ?_; intro w8 hG8 hb8 hs8))
    obtain ⟨n6, hn6⟩ : ∃ n6, n6 = L6.length := ⟨_, rfl⟩
    obtain ⟨p6, c6, rfl⟩ : ∃ p c, v6 = .slice p n6 c := by rw [hn6]; exact f6.len
    have F6 := (show Hid (FsAt w7 w5.heap.size (.slice p6 n6 c6) L6 ∧ FsAt w7 w5.heap.size v7 L7 ∧ n6 = L6.length) from ⟨f6.below hb7, f7.up hb6.size, hn6⟩)
    have B7 := (show Hid (Below w5.heap.size w5 w7) from bt hb6 hb7)
    have E8 := (show Hid (Ev w7 (.slice none 0 0) (.slice none 0 0) 0 0 [] [] w8) from Ev.start hG8 hb8)
    clear f6 f7 hb6 hb7 hG8 hb8 hs8 hn6 IM SA
    cases all with
    | false =>
      go_upto_region 21 with fail
      have EV := (show Hid (∃ (p1 : Option Addr) (n1 c1 : Nat) (p2 : Option Addr) (n2 c2 : Nat) (bs : List Bool) (zs : List Int), Ev w7 (.slice p1 n1 c1) (.slice p2 n2 c2) n1 n2 (bs.map bov) (zs.map inv6) w8 ∧ bs.length = n1 ∧ zs.length = n2 ∧ n1 ≤ 1000000000 ∧ n2 ≤ 1000000000 ∧ crl (cr1 τ bs) zs = L7) from ⟨none, 0, 0, none, 0, 0, [], [], E8.out, rfl, rfl, by decide, by decide, by rw [HL.out.2]; exact crl_none τ⟩)
      have FS := (show Hid (FsAt w8 w5.heap.size v7 L7 ∧ FsAt w8 w5.heap.size (.slice p6 n6 c6) L6 ∧ n6 = L6.length ∧ L7.length ≤ 10485760) from ⟨F6.out.2.1.below E8.out.b, F6.out.1.below E8.out.b, F6.out.2.2, NL.out.2⟩)
      clear F6 E8
      obtain ⟨p1, n1, c1, p2, n2, c2, bs, zs, hEv, hb1, hz1, hn1, hn2, hcr⟩ := EV.out
      have EW := (show Hid (Ev w7 (.slice p1 n1 c1) (.slice p2 n2 c2) n1 n2 (bs.map bov) (zs.map inv6) w8) from hEv)
      have HQ := (show Hid (bs.length = n1 ∧ zs.length = n2 ∧ n1 ≤ 1000000000 ∧ n2 ≤ 1000000000) from ⟨hb1, hz1, hn1, hn2⟩)
      have C1 := (show Hid (tol (τ.crash bs zs) (·.data) (τ.crash bs zs).st = L7 ∧ tol (τ.crash bs zs) (fun b => b.data.take b.safe) (τ.crash bs zs).sf = L7) from ⟨(calm_one WF.out IV.out bs zs).1.trans hcr, (calm_one WF.out IV.out bs zs).2.1.trans hcr⟩)
      have C2 := (show Hid (∀ (ds : List Bool) (cs : List Int), Wfd (τ.crash bs zs) → tol ((τ.crash bs zs).crash ds cs) (·.data) ((τ.crash bs zs).crash ds cs).st = L7) from fun ds cs hw => (calm_two hw (IV.out.crash bs zs) (crash_pend _ _ _) (calm_one WF.out IV.out bs zs).2.2 ds cs).trans C1.out.1)
      clear hEv hb1 hz1 hn1 hn2 hcr EV
      have BW := (show Hid (Below w5.heap.size w5 w8) from bt B7.out EW.out.b)
      have LDC := (show Hid (Calls Try.prog 29 #[.int .i64 1048576, .slice p6 n6 c6] w8 fun e w' => ∃ dbl, e = .returned (.pointer (some ⟨dbl, 0, none⟩)) ∧ (∃ Fl, DrAt w' dbl σl Fl) ∧ Below (w8).heap.size w8 w') from (load_any 1048576 p6 n6 c6 L6 FS.out.2.1.fl FS.out.2.2.1.symm FZ.out LX.out (by have := FS.out.2.2.1; have := NL.out.1; omega)).mono (by
        rintro e w' ⟨hl | ⟨σ', dbl, hl, rfl, hd⟩, hb⟩
        · have := hl.1
          rw [LW.out.1] at this
          cases this
        · rw [LW.out.1] at hl
          injection hl with hl
          subst hl
          exact ⟨dbl, rfl, ⟨_, hd⟩, hb⟩))
      have IML := (show Hid (∀ X dbl, (∃ Fl, DrAt X dbl σl Fl) → Calls Try.prog 24 #[.pointer (some ⟨dbl, 0, none⟩)] X fun e w' => ∃ v, e = .returned v ∧ FsAt w' X.heap.size v L6 ∧ Below X.heap.size X w') from fun X dbl ⟨Fl, h⟩ => by
        have h9 := image_gen h LK.out.nn (by rw [size_nms LK.out.ts, ← tol_len σl (·.data), LW.out.2.2.1]; have := NL.out.1; omega) (fun i => Nat.le_trans (LK.out.bl i) FZ.out)
        rw [LW.out.2.2.1] at h9
        exact h9)
      have SAL := (show Hid (∀ X dbl, (∃ Fl, DrAt X dbl σl Fl) → Calls Try.prog 28 #[.pointer (some ⟨dbl, 0, none⟩)] X fun e w' => ∃ v, e = .returned v ∧ FsAt w' X.heap.size v L6 ∧ Below X.heap.size X w') from fun X dbl ⟨Fl, h⟩ => by
        have h9 := safe_gen h LK.out.nf (by rw [size_nms LK.out.tf, ← tol_len σl (fun b => b.data.take b.safe), LW.out.2.2.2]; have := NL.out.1; omega) (fun i => Nat.le_trans (LK.out.bl i) FZ.out) LK.out.sa
        rw [LW.out.2.2.2] at h9
        exact h9)
      have PEL := (show Hid (∀ X dbl, (∃ Fl, DrAt X dbl σl Fl) → Calls Try.prog 22 #[.pointer (some ⟨dbl, 0, none⟩)] X fun e w' => e = .returned (.int .i64 0) ∧ w' = X) from fun X dbl ⟨Fl, h⟩ => by
        have h9 := pending_any h
        rw [LW.out.2.1] at h9
        exact h9)
      have SF6 := (show Hid (∀ X v b, Below (w8).heap.size w8 X → FsAt X b v L6 → Calls Try.prog 30 #[v, .slice p6 n6 c6] X fun e w' => e = .returned (.bool true) ∧ Below X.heap.size X w') from fun X v b hb h => same_files h (FS.out.2.1.below hb) (by have := NL.out.1; omega))
      have CRA := (show Hid (∀ X, Below (w8).heap.size w8 X → Calls Try.prog 20 #[.pointer (some ⟨db, 0, none⟩), .agg (ftC (.slice p1 n1 c1) (.slice p2 n2 c2))] X fun e w' => e = .returned (.int .i64 0) ∧ Tm w w2 w5 X KC db k5 (τ.crash bs zs) w') from fun X hb => by
        have hlt := (show w.heap.size < w2.heap.size from G2.out.lt)
        have h5 := K5.out.bl.size
        have h7 := B7.out.size
        have hW := BW.out.size
        have hX := hb.size
        have bX := bt BW.out hb
        have T0 : Tm w w2 w5 X KC db k5 τ X := ⟨G5.out.below bX, ⟨F, D5.out.1.below bX, fun b hb => .inl (D5.out.2 b hb)⟩, fun _ _ _ => rfl, K5.out.bl.trans (bX.mono h5), Nat.le_refl _, OK.out, ⟨hlt, h5, by omega⟩⟩
        have EX := EW.out.below hb
        exact T0.crash (by have := HK5.out; omega) p1 n1 c1 bs HQ.out.1 (EX.bls HQ.out.1) p2 n2 c2 zs HQ.out.2.1 (EX.ils HQ.out.2.1) HQ.out.2.2.1 HQ.out.2.2.2 (fun _ b o e => .inr (by have := EX.ib e; omega)))
      have LDE := (show Hid (∀ X, Below (w8).heap.size w8 X → GB X w7.heap.size 30 (ftC (.slice p1 n1 c1) (.slice p2 n2 c2))) from fun X hb => EW.out.g.below hb)
      have LDF := (show Hid (∀ X, GB X w.heap.size 32 KC → (loadVar 30 ⟨w.heap.size, 7, none⟩).run Try.prog X = .ok (.agg (ftC (.slice qd dirs.length cq) (.slice qc cuts.length cc))) X) from fun X h => by rw [HC.out] at h; exact kp_fate h)
      have CRB := (show Hid (∀ X Xc, Tm w w2 w5 Xc KC db k5 (τ.crash bs zs) X → Calls Try.prog 20 #[.pointer (some ⟨db, 0, none⟩), .agg (ftC (.slice qd dirs.length cq) (.slice qc cuts.length cc))] X fun e w' => e = .returned (.int .i64 0) ∧ Tm w w2 w5 Xc KC db k5 ((τ.crash bs zs).crash dirs cuts) w' ∧ tol ((τ.crash bs zs).crash dirs cuts) (·.data) ((τ.crash bs zs).crash dirs cuts).st = L7) from fun X Xc h => by
        have bX := bt B2.out h.bl
        refine (h.crash (by have := HK5.out; omega) qd dirs.length cq dirs rfl (fun i hi => by
          obtain ⟨b, o, e, hc⟩ := HK.out.bq i hi
          exact ⟨b, o, e, cell_below hc bX⟩) qc cuts.length cc cuts rfl (fun i hi => by
          obtain ⟨b, o, e, hc⟩ := HK.out.iq i hi
          exact ⟨b, o, e, cell_below hc bX⟩) (by have := HK.out.bn; omega) (by have := HK.out.iN; omega) (fun h0 b o e => .inl (by have := HK.out.ib b o e h0; have := B2.out.size; omega))).mono ?_
        rintro e w' ⟨e1, h1⟩
        exact ⟨e1, h1, C2.out dirs cuts h.wfd⟩)
      have U0 := (show Hid True from trivial)
      go_wp2_with (first
        | (have hx := V8; go_at_call 22; refine (V8.out.pend0 (crash_pend _ _ _)).mono ?_; rintro e x9 ⟨rfl, h9⟩; obtain rfl := h9.symm; have V9 := (show Hid (Below w2.heap.size w2 x8) from V8.out.bl); clear hx V8)
        | (have hx := V7; go_at_call 30; refine (V7.out.2.same (L := L7) V7.out.1 VS.out (by have := FS.out.2.2.2; omega)).mono ?_; rintro e x8 ⟨rfl, h9⟩; have V8 := (show Hid (Tm w w2 w5 Xc KC db k5 ((τ.crash bs zs).crash dirs cuts) x8) from h9); clear hx V7 h9)
        | (have hx := V6; go_at_call 24; refine (V6.out.1.image (by have := HK5.out; omega)).mono ?_; rintro e x7 ⟨v9, rfl, h8, h9⟩; rw [V6.out.2] at h8; have V7 := (show Hid (FsAt x7 _ v9 L7 ∧ Tm w w2 w5 Xc KC db k5 ((τ.crash bs zs).crash dirs cuts) x7) from ⟨h8, h9⟩); clear hx V6 h8 h9)
        | (have hx := V5; refine wpList_ldAt rfl _ _ rfl w.heap.size 7 rfl _ (LDF.out _ V5.out.kb) ?_)
        | (have hx := V5; go_at_call 20; refine (CRB.out _ Xc V5.out).mono ?_; rintro e x6 ⟨rfl, h8, h9⟩; have V6 := (show Hid (Tm w w2 w5 Xc KC db k5 ((τ.crash bs zs).crash dirs cuts) x6 ∧ tol ((τ.crash bs zs).crash dirs cuts) (·.data) ((τ.crash bs zs).crash dirs cuts).st = L7) from ⟨h8, h9⟩); clear hx V5 h8 h9)
        | (have hx := V4; go_at_call 30; refine (V4.out.2.same (L := L7) V4.out.1 VS.out (by have := FS.out.2.2.2; omega)).mono ?_; rintro e x5 ⟨rfl, h9⟩; have V5 := (show Hid (Tm w w2 w5 Xc KC db k5 (τ.crash bs zs) x5) from h9); clear hx V4 h9)
        | (have hx := V3; go_at_call 28; refine (V3.out.safe (by have := HK5.out; omega)).mono ?_; rintro e x4 ⟨v4, rfl, h8, h9⟩; rw [C1.out.2] at h8; have V4 := (show Hid (FsAt x4 _ v4 L7 ∧ Tm w w2 w5 Xc KC db k5 (τ.crash bs zs) x4) from ⟨h8, h9⟩); clear hx V3 h8 h9)
        | (have hx := V2; go_at_call 30; refine (V2.out.2.same (L := L7) V2.out.1 VS.out (by have := FS.out.2.2.2; omega)).mono ?_; rintro e x3 ⟨rfl, h9⟩; have V3 := (show Hid (Tm w w2 w5 Xc KC db k5 (τ.crash bs zs) x3) from h9); clear hx V2 h9)
        | (have hx := V1; go_at_call 24; refine (V1.out.image (by have := HK5.out; omega)).mono ?_; rintro e x2 ⟨v2, rfl, h8, h9⟩; rw [C1.out.1] at h8; have V2 := (show Hid (FsAt x2 _ v2 L7 ∧ Tm w w2 w5 Xc KC db k5 (τ.crash bs zs) x2) from ⟨h8, h9⟩); clear hx V1 h8 h9)
        | (have hx := U6; refine wpList_ldB (cs := ftC (.slice p1 n1 c1) (.slice p2 n2 c2)) rfl _ rfl w7.heap.size rfl (LDE.out _ U6.out) Try.underlying30 (by unfold ftC; exact size_Ft) ?_)
        | (have hx := U6; go_at_call 20; refine (CRA.out _ U6.out).mono ?_; rintro e x1 ⟨rfl, h9⟩; have V1 := (show Hid (Tm w w2 w5 Xc KC db k5 (τ.crash bs zs) x1) from h9); have VS := (show Hid (FsAt Xc w5.heap.size v7 L7) from FS.out.1.below U6.out); clear hx U6 h9)
        | (have hx := U5; go_at_call 22; refine (PEL.out _ dbl U5.out.1).mono ?_; rintro e y6 ⟨rfl, h9⟩; obtain rfl := h9.symm; have U6 := (show Hid (Below (w8).heap.size w8 Xc) from U5.out.2); clear hx U5)
        | (have hx := U4; go_at_call 30; refine (SF6.out _ _ _ U4.out.2.1 U4.out.2.2).mono ?_; rintro e Xc ⟨rfl, h9⟩; have U5 := (show Hid ((∃ Fl, DrAt Xc dbl σl Fl) ∧ Below (w8).heap.size w8 Xc) from ⟨(by obtain ⟨Fl, h8⟩ := U4.out.1; exact ⟨Fl, h8.below h9⟩), bt U4.out.2.1 h9⟩); clear hx U4 h9)
        | (have hx := U3; go_at_call 28; refine (SAL.out _ dbl U3.out.1).mono ?_; rintro e y4 ⟨v4, rfl, h8, h9⟩; have U4 := (show Hid ((∃ Fl, DrAt y4 dbl σl Fl) ∧ Below (w8).heap.size w8 y4 ∧ FsAt y4 _ v4 L6) from ⟨(by obtain ⟨Fl, h7⟩ := U3.out.1; exact ⟨Fl, h7.below h9⟩), bt U3.out.2 h9, h8⟩); clear hx U3 h8 h9)
        | (have hx := U2; go_at_call 30; refine (SF6.out _ _ _ U2.out.2.1 U2.out.2.2).mono ?_; rintro e y3 ⟨rfl, h9⟩; have U3 := (show Hid ((∃ Fl, DrAt y3 dbl σl Fl) ∧ Below (w8).heap.size w8 y3) from ⟨(by obtain ⟨Fl, h8⟩ := U2.out.1; exact ⟨Fl, h8.below h9⟩), bt U2.out.2.1 h9⟩); clear hx U2 h9)
        | (have hx := U1; go_at_call 24; refine (IML.out _ dbl U1.out.1).mono ?_; rintro e y2 ⟨v1, rfl, h8, h9⟩; have U2 := (show Hid ((∃ Fl, DrAt y2 dbl σl Fl) ∧ Below (w8).heap.size w8 y2 ∧ FsAt y2 _ v1 L6) from ⟨(by obtain ⟨Fl, h7⟩ := U1.out.1; exact ⟨Fl, h7.below h9⟩), bt U1.out.2 h9, h8⟩); clear hx U1 h8 h9)
        | (have hx := U0; go_at_call 29; refine LDC.out.mono ?_; rintro e y1 ⟨dbl, rfl, h8, h9⟩; have U1 := (show Hid ((∃ Fl, DrAt y1 dbl σl Fl) ∧ Below (w8).heap.size w8 y1) from ⟨h8, h9⟩); clear hx U0 h8 h9)
        | (go_at_call 12; refine (lnum_any _ _).mono ?_; rintro e wq ⟨rfl, h9⟩; obtain rfl := h9.symm))
      go_ret
      exact ⟨rfl, bt B2.out V9.out⟩
    | true =>
      have PE := (show Hid (∀ X, Below w7.heap.size w7 X → Calls Try.prog 22 #[.pointer (some ⟨db, 0, none⟩)] X fun e w' => e = .returned (.int .i64 (τ.pend.length : Int)) ∧ w' = X) from fun X hb => pending_any ((D5.out.1.below B7.out).below hb))
      obtain ⟨m, hm⟩ : ∃ m, m = τ.pend.length := ⟨_, rfl⟩
      rw [← hm] at PE
      have hm9 : m ≤ 10485760 := by have := OK.out.sp; have := HK5.out; omega
      have HMm := (show Hid (m = τ.pend.length) from hm)
      clear hm
      go_wp2_with fail
      go_loopw [11] (fun i wr => ∃ (k : Nat) (v : Value), k ≤ m ∧ i = .int .i64 (k : Int) ∧ Hid (Ev w7 v (.slice none 0 0) k 0 ((List.replicate k true).map bov) [] wr)) (fun i _ => m - (intOf i).toNat)
      case atStart => exact ⟨0, _, Nat.zero_le _, rfl, E8⟩
      case round =>
        obtain ⟨k, v, hk, rfl, hE⟩ := hrel
        obtain ⟨pv, cv, rfl, hcv⟩ := own_form hE.out.d
        have PEr := (show Hid _ from PE.out wr hE.out.b)
        by_cases hlt : k < m
        · have hi : (k : Int) < (m : Int) := by omega
          have c0 := ft_c0 hE.out.g
          have c1 := ft_c0 (hE.out.g.below (alb wr (.cells #[.bool true] 4)))
          have EA := (show Hid (Ev w7 (.slice pv k cv) (.slice none 0 0) k 0 ((List.replicate k true).map bov) [] (wr.alloc (.cells #[.bool true] 4))) from hE.out.below (alb _ _))
          go_wp2_with (first
            | (go_at_call 22; refine PEr.out.mono ?_; rintro e wq ⟨rfl, h9⟩; obtain rfl := h9.symm)
            | (at_builtin; refine wpList_apS rfl (.tmp 46) (.tmp 47) 27 4 rfl Try.underlying27 infoB rfl w7.heap.size (.slice pv k cv) k ((List.replicate k true).map bov) rfl EA.out.d (some ⟨wr.heap.size, 0, none⟩) 1 1 [.bool true] rfl (sr_new wr [.bool true] _) rfl (by intro u hu; simp at hu; subst hu; rfl) (by omega) (by decide) EA.out.b.size ?_; intro v2 w2' ho2 hg2 hk2; obtain ⟨pz, cz, hvz, _⟩ := own_form ho2; subst hvz; have EB := (show Hid _ from EA.out.dirs ho2 hg2); have d0 := ft_c0 EB.out.1; have fz0 := EB.out.1.frozen 0))
          go_roundw
          case rel =>
            refine ⟨k + 1, .slice pz (k + 1) cz, by omega, by go_num, ?_⟩
            show Ev _ _ _ _ _ _ _ _
            have h9 := EB.out.2
            have e9 : (List.replicate k true).map bov ++ [.bool true] = (List.replicate (k + 1) true).map bov := by rw [rep_map, rep_map, List.replicate_succ']
            rw [e9] at h9
            exact h9
          case measure => simp [intOf]; omega
        · obtain rfl : k = m := by omega
          have hi : ¬ (k : Int) < (k : Int) := by omega
          have EK := (show Hid (Ev w7 (.slice pv k cv) (.slice none 0 0) k 0 ((List.replicate k true).map bov) [] wr) from hE.out)
          go_wp2_with (go_at_call 22; refine PEr.out.mono ?_; rintro e wq ⟨rfl, h9⟩; obtain rfl := h9.symm)
          clear hE PEr PE E8 hcv
          have hn9 : n6 ≤ 10485760 := by have := NL.out.1; have := F6.out.2.2; omega
          go_loopw [12] (fun i wr => ∃ (j : Nat) (v : Value), j ≤ n6 ∧ i = .int .i64 (j : Int) ∧ Hid (Ev w7 (.slice pv k cv) v k j ((List.replicate k true).map bov) (((L6.take j).map fun f => (f.2.length : Int)).map inv6) wr)) (fun i _ => n6 - (intOf i).toNat)
          case atStart => exact ⟨0, _, Nat.zero_le _, rfl, EK⟩
          case round =>
            obtain ⟨j, v, hj, rfl, hE⟩ := hrel
            obtain ⟨pu, cu, rfl, hcu⟩ := own_form hE.out.c
            have f6 := (show Hid (FsAt wr w5.heap.size (.slice p6 n6 c6) L6) from F6.out.1.below hE.out.b)
            by_cases hlt : j < n6
            · have hi : (j : Int) < (n6 : Int) := by omega
              obtain ⟨g6, cg6, pd6, cd6, e1, _, e3, _⟩ := f6.out.file j (by have := F6.out.2.2; omega)
              injection e1 with e1 en ec
              subst e1 ec
              clear en
              obtain ⟨nd, hnd⟩ : ∃ nd, nd = (L6.getD j ([], [])).2.length := ⟨_, rfl⟩
              rw [← hnd] at e3
              have HND := (show Hid (nd = (L6.getD j ([], [])).2.length) from hnd)
              obtain ⟨i0, hi0, hz0, hz1, hz2⟩ := info_parts infoI
              have c1 := ft_c1 hE.out.g
              have EA := (show Hid (Ev w7 (.slice pv k cv) (.slice pu j cu) k j ((List.replicate k true).map bov) (((L6.take j).map fun f => (f.2.length : Int)).map inv6) (wr.alloc (.cells #[.int .i64 (nd : Int)] 3)).drew) from (hE.out.below (alb _ _)).drew)
              have YS : ∃ ys, ys = (((L6.take j).map fun f => (f.2.length : Int)).map inv6) := ⟨_, rfl⟩
              obtain ⟨ys, hys⟩ := YS
              rw [← hys] at EA
              have HYS := (show Hid (ys = (((L6.take j).map fun f => (f.2.length : Int)).map inv6)) from hys)
              clear hys
              have M1 : Hid (j + 1 ≤ maxLen ∧ (j + 1) * 8 ≤ 140737488355328) := ⟨by unfold maxLen; omega, by omega⟩
              have c2 := ft_c1 EA.out.g
              clear hnd hE f6
              go_wp2
              go_region_law (refine step_apO rfl (.tmp 57) (.tmp 64) 28 rfl w7.heap.size 3 i0 (.int .i64 0) 1 8 Try.underlying28 hi0 hz0 hz1 hz2 rfl (by decide) (.slice pu j cu) j ys (by first | (simp [Act.eval]; done) | simp [Act.eval, Act.put]) EA.out.c ⟨wr.heap.size, 0, none⟩ 1 1 [.int .i64 (nd : Int)] (by first | (simp [Act.eval]; done) | simp [Act.eval, Act.put]) rfl (one_nd wr _ _) (by intro u hu; simp at hu; subst hu; rfl) M1.out.1 M1.out.2 EA.out.b.size ?_; intro v2 w2' ho2 hg2; obtain ⟨pz, cz, hvz, _⟩ := own_form ho2; subst hvz; have EB := (show Hid _ from EA.out.cuts ho2 hg2); have d1 := ft_c1 EB.out.1; have fz1 := EB.out.1.frozen 1)
              all_goals
                go_wp2
                go_roundw
                case rel =>
                  refine ⟨j + 1, .slice pz (j + 1) cz, by omega, by go_num, ?_⟩
                  show Ev _ _ _ _ _ _ _ _
                  have h9 := EB.out.2
                  rw [HYS.out] at h9
                  have hjl : j < L6.length := by have := F6.out.2.2; omega
                  have e9 := cuts_snoc L6 j hjl
                  rw [← HND.out] at e9
                  rw [e9] at h9
                  exact h9
                case measure => simp [intOf]; omega
            · obtain rfl : j = n6 := by omega
              have hi : ¬ (j : Int) < (j : Int) := by omega
              go_upto_region 21 with fail
              have EV := (show Hid (∃ (p1 : Option Addr) (n1 c1 : Nat) (p2 : Option Addr) (n2 c2 : Nat) (bs : List Bool) (zs : List Int), Ev w7 (.slice p1 n1 c1) (.slice p2 n2 c2) n1 n2 (bs.map bov) (zs.map inv6) wr ∧ bs.length = n1 ∧ zs.length = n2 ∧ n1 ≤ 1000000000 ∧ n2 ≤ 1000000000 ∧ crl (cr1 τ bs) zs = L6) from by
                have e9 : L6.take j = L6 := List.take_of_length_le (by rw [F6.out.2.2]; exact Nat.le_refl _)
                have h9 := hE.out
                rw [e9] at h9
                refine ⟨pv, k, cv, pu, j, cu, _, _, h9, by simp, by simp [F6.out.2.2], by omega, by omega, ?_⟩
                rw [HL.out.1]
                exact crl_all _ (fun i hi => by rw [← HMm.out] at hi; simp [List.getD, hi]) IV.out.eq OK.out.sa)
              have FS := (show Hid (FsAt wr w5.heap.size (.slice p6 j c6) L6 ∧ FsAt wr w5.heap.size (.slice p6 j c6) L6 ∧ j = L6.length ∧ L6.length ≤ 10485760) from ⟨f6.out, f6.out, F6.out.2.2, NL.out.1⟩)
              clear hE f6 hcu F6 EK
              obtain ⟨p1, n1, c1, p2, n2, c2, bs, zs, hEv, hb1, hz1, hn1, hn2, hcr⟩ := EV.out
              have EW := (show Hid (Ev w7 (.slice p1 n1 c1) (.slice p2 n2 c2) n1 n2 (bs.map bov) (zs.map inv6) wr) from hEv)
              have HQ := (show Hid (bs.length = n1 ∧ zs.length = n2 ∧ n1 ≤ 1000000000 ∧ n2 ≤ 1000000000) from ⟨hb1, hz1, hn1, hn2⟩)
              have C1 := (show Hid (tol (τ.crash bs zs) (·.data) (τ.crash bs zs).st = L6 ∧ tol (τ.crash bs zs) (fun b => b.data.take b.safe) (τ.crash bs zs).sf = L6) from ⟨(calm_one WF.out IV.out bs zs).1.trans hcr, (calm_one WF.out IV.out bs zs).2.1.trans hcr⟩)
              have C2 := (show Hid (∀ (ds : List Bool) (cs : List Int), Wfd (τ.crash bs zs) → tol ((τ.crash bs zs).crash ds cs) (·.data) ((τ.crash bs zs).crash ds cs).st = L6) from fun ds cs hw => (calm_two hw (IV.out.crash bs zs) (crash_pend _ _ _) (calm_one WF.out IV.out bs zs).2.2 ds cs).trans C1.out.1)
              clear hEv hb1 hz1 hn1 hn2 hcr EV
              have BW := (show Hid (Below w5.heap.size w5 wr) from bt B7.out EW.out.b)
              have LDC := (show Hid (Calls Try.prog 29 #[.int .i64 1048576, .slice p6 j c6] wr fun e w' => ∃ dbl, e = .returned (.pointer (some ⟨dbl, 0, none⟩)) ∧ (∃ Fl, DrAt w' dbl σl Fl) ∧ Below (wr).heap.size wr w') from (load_any 1048576 p6 j c6 L6 FS.out.2.1.fl FS.out.2.2.1.symm FZ.out LX.out (by have := FS.out.2.2.1; have := NL.out.1; omega)).mono (by
                rintro e w' ⟨hl | ⟨σ', dbl, hl, rfl, hd⟩, hb⟩
                · have := hl.1
                  rw [LW.out.1] at this
                  cases this
                · rw [LW.out.1] at hl
                  injection hl with hl
                  subst hl
                  exact ⟨dbl, rfl, ⟨_, hd⟩, hb⟩))
              have IML := (show Hid (∀ X dbl, (∃ Fl, DrAt X dbl σl Fl) → Calls Try.prog 24 #[.pointer (some ⟨dbl, 0, none⟩)] X fun e w' => ∃ v, e = .returned v ∧ FsAt w' X.heap.size v L6 ∧ Below X.heap.size X w') from fun X dbl ⟨Fl, h⟩ => by
                have h9 := image_gen h LK.out.nn (by rw [size_nms LK.out.ts, ← tol_len σl (·.data), LW.out.2.2.1]; have := NL.out.1; omega) (fun i => Nat.le_trans (LK.out.bl i) FZ.out)
                rw [LW.out.2.2.1] at h9
                exact h9)
              have SAL := (show Hid (∀ X dbl, (∃ Fl, DrAt X dbl σl Fl) → Calls Try.prog 28 #[.pointer (some ⟨dbl, 0, none⟩)] X fun e w' => ∃ v, e = .returned v ∧ FsAt w' X.heap.size v L6 ∧ Below X.heap.size X w') from fun X dbl ⟨Fl, h⟩ => by
                have h9 := safe_gen h LK.out.nf (by rw [size_nms LK.out.tf, ← tol_len σl (fun b => b.data.take b.safe), LW.out.2.2.2]; have := NL.out.1; omega) (fun i => Nat.le_trans (LK.out.bl i) FZ.out) LK.out.sa
                rw [LW.out.2.2.2] at h9
                exact h9)
              have PEL := (show Hid (∀ X dbl, (∃ Fl, DrAt X dbl σl Fl) → Calls Try.prog 22 #[.pointer (some ⟨dbl, 0, none⟩)] X fun e w' => e = .returned (.int .i64 0) ∧ w' = X) from fun X dbl ⟨Fl, h⟩ => by
                have h9 := pending_any h
                rw [LW.out.2.1] at h9
                exact h9)
              have SF6 := (show Hid (∀ X v b, Below (wr).heap.size wr X → FsAt X b v L6 → Calls Try.prog 30 #[v, .slice p6 j c6] X fun e w' => e = .returned (.bool true) ∧ Below X.heap.size X w') from fun X v b hb h => same_files h (FS.out.2.1.below hb) (by have := NL.out.1; omega))
              have CRA := (show Hid (∀ X, Below (wr).heap.size wr X → Calls Try.prog 20 #[.pointer (some ⟨db, 0, none⟩), .agg (ftC (.slice p1 n1 c1) (.slice p2 n2 c2))] X fun e w' => e = .returned (.int .i64 0) ∧ Tm w w2 w5 X KC db k5 (τ.crash bs zs) w') from fun X hb => by
                have hlt := (show w.heap.size < w2.heap.size from G2.out.lt)
                have h5 := K5.out.bl.size
                have h7 := B7.out.size
                have hW := BW.out.size
                have hX := hb.size
                have bX := bt BW.out hb
                have T0 : Tm w w2 w5 X KC db k5 τ X := ⟨G5.out.below bX, ⟨F, D5.out.1.below bX, fun b hb => .inl (D5.out.2 b hb)⟩, fun _ _ _ => rfl, K5.out.bl.trans (bX.mono h5), Nat.le_refl _, OK.out, ⟨hlt, h5, by omega⟩⟩
                have EX := EW.out.below hb
                exact T0.crash (by have := HK5.out; omega) p1 n1 c1 bs HQ.out.1 (EX.bls HQ.out.1) p2 n2 c2 zs HQ.out.2.1 (EX.ils HQ.out.2.1) HQ.out.2.2.1 HQ.out.2.2.2 (fun _ b o e => .inr (by have := EX.ib e; omega)))
              have LDE := (show Hid (∀ X, Below (wr).heap.size wr X → GB X w7.heap.size 30 (ftC (.slice p1 n1 c1) (.slice p2 n2 c2))) from fun X hb => EW.out.g.below hb)
              have LDF := (show Hid (∀ X, GB X w.heap.size 32 KC → (loadVar 30 ⟨w.heap.size, 7, none⟩).run Try.prog X = .ok (.agg (ftC (.slice qd dirs.length cq) (.slice qc cuts.length cc))) X) from fun X h => by rw [HC.out] at h; exact kp_fate h)
              have CRB := (show Hid (∀ X Xc, Tm w w2 w5 Xc KC db k5 (τ.crash bs zs) X → Calls Try.prog 20 #[.pointer (some ⟨db, 0, none⟩), .agg (ftC (.slice qd dirs.length cq) (.slice qc cuts.length cc))] X fun e w' => e = .returned (.int .i64 0) ∧ Tm w w2 w5 Xc KC db k5 ((τ.crash bs zs).crash dirs cuts) w' ∧ tol ((τ.crash bs zs).crash dirs cuts) (·.data) ((τ.crash bs zs).crash dirs cuts).st = L6) from fun X Xc h => by
                have bX := bt B2.out h.bl
                refine (h.crash (by have := HK5.out; omega) qd dirs.length cq dirs rfl (fun i hi => by
                  obtain ⟨b, o, e, hc⟩ := HK.out.bq i hi
                  exact ⟨b, o, e, cell_below hc bX⟩) qc cuts.length cc cuts rfl (fun i hi => by
                  obtain ⟨b, o, e, hc⟩ := HK.out.iq i hi
                  exact ⟨b, o, e, cell_below hc bX⟩) (by have := HK.out.bn; omega) (by have := HK.out.iN; omega) (fun h0 b o e => .inl (by have := HK.out.ib b o e h0; have := B2.out.size; omega))).mono ?_
                rintro e w' ⟨e1, h1⟩
                exact ⟨e1, h1, C2.out dirs cuts h.wfd⟩)
              have U0 := (show Hid True from trivial)
              go_wp2_with (first
                | (have hx := V8; go_at_call 22; refine (V8.out.pend0 (crash_pend _ _ _)).mono ?_; rintro e x9 ⟨rfl, h9⟩; obtain rfl := h9.symm; have V9 := (show Hid (Below w2.heap.size w2 x8) from V8.out.bl); clear hx V8)
                | (have hx := V7; go_at_call 30; refine (V7.out.2.same (L := L6) V7.out.1 VS.out (by have := FS.out.2.2.2; omega)).mono ?_; rintro e x8 ⟨rfl, h9⟩; have V8 := (show Hid (Tm w w2 w5 Xc KC db k5 ((τ.crash bs zs).crash dirs cuts) x8) from h9); clear hx V7 h9)
                | (have hx := V6; go_at_call 24; refine (V6.out.1.image (by have := HK5.out; omega)).mono ?_; rintro e x7 ⟨v9, rfl, h8, h9⟩; rw [V6.out.2] at h8; have V7 := (show Hid (FsAt x7 _ v9 L6 ∧ Tm w w2 w5 Xc KC db k5 ((τ.crash bs zs).crash dirs cuts) x7) from ⟨h8, h9⟩); clear hx V6 h8 h9)
                | (have hx := V5; refine wpList_ldAt rfl _ _ rfl w.heap.size 7 rfl _ (LDF.out _ V5.out.kb) ?_)
                | (have hx := V5; go_at_call 20; refine (CRB.out _ Xc V5.out).mono ?_; rintro e x6 ⟨rfl, h8, h9⟩; have V6 := (show Hid (Tm w w2 w5 Xc KC db k5 ((τ.crash bs zs).crash dirs cuts) x6 ∧ tol ((τ.crash bs zs).crash dirs cuts) (·.data) ((τ.crash bs zs).crash dirs cuts).st = L6) from ⟨h8, h9⟩); clear hx V5 h8 h9)
                | (have hx := V4; go_at_call 30; refine (V4.out.2.same (L := L6) V4.out.1 VS.out (by have := FS.out.2.2.2; omega)).mono ?_; rintro e x5 ⟨rfl, h9⟩; have V5 := (show Hid (Tm w w2 w5 Xc KC db k5 (τ.crash bs zs) x5) from h9); clear hx V4 h9)
                | (have hx := V3; go_at_call 28; refine (V3.out.safe (by have := HK5.out; omega)).mono ?_; rintro e x4 ⟨v4, rfl, h8, h9⟩; rw [C1.out.2] at h8; have V4 := (show Hid (FsAt x4 _ v4 L6 ∧ Tm w w2 w5 Xc KC db k5 (τ.crash bs zs) x4) from ⟨h8, h9⟩); clear hx V3 h8 h9)
                | (have hx := V2; go_at_call 30; refine (V2.out.2.same (L := L6) V2.out.1 VS.out (by have := FS.out.2.2.2; omega)).mono ?_; rintro e x3 ⟨rfl, h9⟩; have V3 := (show Hid (Tm w w2 w5 Xc KC db k5 (τ.crash bs zs) x3) from h9); clear hx V2 h9)
                | (have hx := V1; go_at_call 24; refine (V1.out.image (by have := HK5.out; omega)).mono ?_; rintro e x2 ⟨v2, rfl, h8, h9⟩; rw [C1.out.1] at h8; have V2 := (show Hid (FsAt x2 _ v2 L6 ∧ Tm w w2 w5 Xc KC db k5 (τ.crash bs zs) x2) from ⟨h8, h9⟩); clear hx V1 h8 h9)
                | (have hx := U6; refine wpList_ldB (cs := ftC (.slice p1 n1 c1) (.slice p2 n2 c2)) rfl _ rfl w7.heap.size rfl (LDE.out _ U6.out) Try.underlying30 (by unfold ftC; exact size_Ft) ?_)
                | (have hx := U6; go_at_call 20; refine (CRA.out _ U6.out).mono ?_; rintro e x1 ⟨rfl, h9⟩; have V1 := (show Hid (Tm w w2 w5 Xc KC db k5 (τ.crash bs zs) x1) from h9); have VS := (show Hid (FsAt Xc w5.heap.size (.slice p6 j c6) L6) from FS.out.1.below U6.out); clear hx U6 h9)
                | (have hx := U5; go_at_call 22; refine (PEL.out _ dbl U5.out.1).mono ?_; rintro e y6 ⟨rfl, h9⟩; obtain rfl := h9.symm; have U6 := (show Hid (Below (wr).heap.size wr Xc) from U5.out.2); clear hx U5)
                | (have hx := U4; go_at_call 30; refine (SF6.out _ _ _ U4.out.2.1 U4.out.2.2).mono ?_; rintro e Xc ⟨rfl, h9⟩; have U5 := (show Hid ((∃ Fl, DrAt Xc dbl σl Fl) ∧ Below (wr).heap.size wr Xc) from ⟨(by obtain ⟨Fl, h8⟩ := U4.out.1; exact ⟨Fl, h8.below h9⟩), bt U4.out.2.1 h9⟩); clear hx U4 h9)
                | (have hx := U3; go_at_call 28; refine (SAL.out _ dbl U3.out.1).mono ?_; rintro e y4 ⟨v4, rfl, h8, h9⟩; have U4 := (show Hid ((∃ Fl, DrAt y4 dbl σl Fl) ∧ Below (wr).heap.size wr y4 ∧ FsAt y4 _ v4 L6) from ⟨(by obtain ⟨Fl, h7⟩ := U3.out.1; exact ⟨Fl, h7.below h9⟩), bt U3.out.2 h9, h8⟩); clear hx U3 h8 h9)
                | (have hx := U2; go_at_call 30; refine (SF6.out _ _ _ U2.out.2.1 U2.out.2.2).mono ?_; rintro e y3 ⟨rfl, h9⟩; have U3 := (show Hid ((∃ Fl, DrAt y3 dbl σl Fl) ∧ Below (wr).heap.size wr y3) from ⟨(by obtain ⟨Fl, h8⟩ := U2.out.1; exact ⟨Fl, h8.below h9⟩), bt U2.out.2.1 h9⟩); clear hx U2 h9)
                | (have hx := U1; go_at_call 24; refine (IML.out _ dbl U1.out.1).mono ?_; rintro e y2 ⟨v1, rfl, h8, h9⟩; have U2 := (show Hid ((∃ Fl, DrAt y2 dbl σl Fl) ∧ Below (wr).heap.size wr y2 ∧ FsAt y2 _ v1 L6) from ⟨(by obtain ⟨Fl, h7⟩ := U1.out.1; exact ⟨Fl, h7.below h9⟩), bt U1.out.2 h9, h8⟩); clear hx U1 h8 h9)
                | (have hx := U0; go_at_call 29; refine LDC.out.mono ?_; rintro e y1 ⟨dbl, rfl, h8, h9⟩; have U1 := (show Hid ((∃ Fl, DrAt y1 dbl σl Fl) ∧ Below (wr).heap.size wr y1) from ⟨h8, h9⟩); clear hx U0 h8 h9)
                | (go_at_call 12; refine (lnum_any _ _).mono ?_; rintro e wq ⟨rfl, h9⟩; obtain rfl := h9.symm))
              go_ret
              exact ⟨rfl, bt B2.out V9.out⟩
end
end Go.Proofs.Ytbkndoamcnfbjaa
