/-
  Sync, Remove, Rename, SyncDir, Used, Pending of a drive.
-/
import Derived.Test.YtaddgmbglhdfdaaDl
namespace Go.Proofs.Ytaddgmbglhdfdaa
open Go.RowKit Go.Maps
theorem Ob.len {w : World} {base : Nat} {v : Value} {xs : Tx} (h : Ob w base v xs) : ∃ p c, v = .slice p xs.length c := by
  rcases h.2 with ⟨hv, h1⟩ | ⟨g, cap, cur, hv, _⟩
  · refine ⟨none, 0, ?_⟩
    have : xs = [] := by simpa using h1
    rw [hv, this]
    rfl
  · exact ⟨_, _, hv⟩
/-- A change of a drive whose bodies stay. -/
theorem change_end {w wd : World} {db : Nat} {σ : Ds} {F : Nat → Prop} {m : List Nat} {rv : Nat → Value} {st sf : Option Nat} {pv : Value} (S : StAt w db σ.room σ.used st sf pv) (R : Rest w F σ m rv st sf pv) (hFd : F db) (hFw : ∀ b, F b → b < w.heap.size) (ok : Okd σ) (ba : Below w.heap.size w wd) (c : List Ld) (n : Nat) (hn : n ≤ 2) (hc : c.length = n) (cs : Array Value) (hcs : cs = (ldc m c).toArray) (ids : ∀ l ∈ c, ∀ i, l.2 = some i → i < σ.bs.length) (txt : ∀ l ∈ c, l.1.length ≤ 1024) :
    Calls Try.prog 43 #[.pointer (some ⟨db, 0, none⟩), .slice (some ⟨wd.heap.size, 0, none⟩) n n] (wd.alloc (.cells cs 97)) fun e w' => (∃ v, e = .returned v) ∧ DrAt w' db (σ.change c) (Fn F w w') ∧ Tn F w w' := by
  subst hcs
  have bw : Below wd.heap.size wd (wd.alloc (.cells (ldc m c).toArray 97)) := (Below.refl _ _).alloc (Nat.le_refl _) _
  have bz := bt ba bw
  refine (change_any (S.below bz) (R.below bz) hFd (fun b hb => Nat.lt_of_lt_of_le (hFw b hb) bz.size) ok c wd.heap.size n n hc (heap_alloc_new wd _) ids txt hn).mono ?_
  rintro e w' ⟨h1, h2, h3⟩
  have hs3 := h3.size
  have hsa := ba.size
  simp at hs3
  refine ⟨h1, h2.more ?_ ?_, Tn.up bz h3 (fun k _ hF => hF)⟩
  · rintro b (hF | rfl | ⟨h4, h5⟩)
    · exact .inl hF
    · exact .inr ⟨hsa, by omega⟩
    · exact .inr ⟨by simp at h4; omega, h5⟩
  · rintro b (hF | ⟨h4, h5⟩)
    · have := hFw b hF; omega
    · exact h5
/-- The names that are safe, and the changes that are pending, are few. -/
structure Okp (σ : Ds) : Prop where
  sf : Maps.size σ.sf ≤ 100000000000
  pl : ∀ c ∈ σ.pend, c.length ≤ 2
  pn : σ.pend.length ≤ 100000000000
theorem fol1_tidy {D : Dir} (h : Tidy D) (l : Ld) : Tidy (fol1 D l) ∧ Maps.size (fol1 D l) ≤ Maps.size D + 1 := by
  unfold fol1
  split
  · refine ⟨h.del _, ?_⟩
    have := size_del (k := .string l.1) h
    omega
  · refine ⟨h.put (by simp [WideAt.IsKeyLit]) _, ?_⟩
    rw [size_put h]
    split <;> omega
theorem fol_tidy {D : Dir} (h : Tidy D) (c : List Ld) : Tidy (fol D c) ∧ Maps.size (fol D c) ≤ Maps.size D + c.length := by
  unfold fol
  induction c generalizing D with
  | nil => exact ⟨h, Nat.le_refl _⟩
  | cons l c ih =>
    obtain ⟨h1, h2⟩ := fol1_tidy h l
    obtain ⟨h3, h4⟩ := ih h1
    exact ⟨h3, by simp only [List.foldl_cons, List.length_cons]; omega⟩
theorem fols_tidy {D : Dir} (h : Tidy D) : ∀ (cs : List (List Ld)), (∀ c ∈ cs, c.length ≤ 2) → Tidy (cs.foldl fol D) ∧ Maps.size (cs.foldl fol D) ≤ Maps.size D + 2 * cs.length
  | [], _ => ⟨h, Nat.le_refl _⟩
  | c :: cs, hc => by
    obtain ⟨h1, h2⟩ := fol_tidy h c
    obtain ⟨h3, h4⟩ := fols_tidy h1 cs (fun d hd => hc d (by simp [hd]))
    have := hc c (by simp)
    exact ⟨h3, by simp only [List.foldl_cons, List.length_cons]; omega⟩
/-- A body's bytes are safe. -/
theorem sync_end {w1 : World} {db i : Nat} {F : Nat → Prop} {σ : Ds} {m : List Nat} {rv : Nat → Value} {st sf : Option Nat} {pv : Value} (S : StAt w1 db σ.room σ.used st sf pv) (R : Rest w1 F σ m rv st sf pv) (hFd : F db) (hFw : ∀ b, F b → b < w1.heap.size) (hi : i < σ.bs.length) :
    DrAt (w1.setCell ⟨m.getD i 0, 1, none⟩ (.int .i64 ((σ.body i).data.length : Int))) db (σ.setBody i ⟨(σ.body i).data, (σ.body i).data.length⟩) (Fn F w1 (w1.setCell ⟨m.getD i 0, 1, none⟩ (.int .i64 ((σ.body i).data.length : Int)))) ∧ Tn F w1 (w1.setCell ⟨m.getD i 0, 1, none⟩ (.int .i64 ((σ.body i).data.length : Int))) := by
  have B := R.bod i hi
  have hk : ∀ bl, bl ≠ m.getD i 0 → (w1.setCell ⟨m.getD i 0, 1, none⟩ (.int .i64 ((σ.body i).data.length : Int))).heap[bl]? = w1.heap[bl]? := fun bl h => Below.heap_setCell _ _ _ _ h
  have hnd : db ≠ m.getD i 0 := fun e => by
    have h1 : w1.heap[db]? = _ := S
    rw [e, B.blk] at h1
    injection h1 with h1
    revert h1
    exact cells_ne (by decide)
  have hq := heap_setCell_same w1 (m.getD i 0) 1 _ _ (.int .i64 ((σ.body i).data.length : Int)) B.blk
  have T := Tn.setCell (F := F) w1 ⟨m.getD i 0, 1, none⟩ B.inF (.int .i64 ((σ.body i).data.length : Int))
  generalize (w1.setCell ⟨m.getD i 0, 1, none⟩ (.int .i64 ((σ.body i).data.length : Int))) = w' at *
  refine ⟨⟨.inl hFd, ?_, m, fun j => if j = i then rv i else rv j, st, sf, pv, (hk db hnd).trans S, ?_⟩, T⟩
  · rintro b (h | h)
    · exact Nat.lt_of_lt_of_le (hFw b h) T.size
    · exact h.2
  · refine R.setBody hFw (fun b h => .inl h) i hi ⟨(σ.body i).data, (σ.body i).data.length⟩ (rv i) (fun bl o _ _ h _ _ => hk bl h) hq (ob_same B.row (fun g hg => hk g ?_)) (.inl rfl) σ.used
    intro e
    exact row_typed B.row B.blk (fun c r => cells_ne (by decide)) (by rw [hg, e])
theorem own_len {w : World} {base : Nat} {e : TypeId} {sz n : Nat} {v : Value} {xs : List Value} (h : w.ownsRow base e sz v n xs) : ∃ p c, v = .slice p n c := by
  rcases h.2 with ⟨hv, h1⟩ | ⟨g, cap, c, hv, _⟩
  · exact ⟨none, 0, by rw [hv, h1]⟩
  · exact ⟨_, _, hv⟩
section
attribute [local irreducible] Calls
set_option maxRecDepth 1000000 in
theorem used_any {w : World} {db : Nat} {σ : Ds} {F : Nat → Prop} (h : DrAt w db σ F) : Calls Try.prog 37 #[.pointer (some ⟨db, 0, none⟩)] w fun e w' => e = .returned (.int .i64 σ.used) ∧ w' = w := by
  obtain ⟨hFd, hFw, m, rv, st, sf, pv, S, R⟩ := h
  have c1 := S.cell.2.1
  clear S R
  go_enter Try.func37, Try.ntmps37
  go_wp2
  go_ret
  exact ⟨rfl, rfl⟩
set_option maxRecDepth 1000000 in
theorem pending_any {w : World} {db : Nat} {σ : Ds} {F : Nat → Prop} (h : DrAt w db σ F) : Calls Try.prog 22 #[.pointer (some ⟨db, 0, none⟩)] w fun e w' => e = .returned (.int .i64 (σ.pend.length : Int)) ∧ w' = w := by
  obtain ⟨hFd, hFw, m, rv, st, sf, pv, S, R⟩ := h
  have c4 := S.cell.2.2.2.2
  obtain ⟨cv, h1, h2, h3⟩ := R.pnd
  obtain ⟨p, c, rfl⟩ := own_len h1
  clear S R h1 h2 h3
  go_enter Try.func22, Try.ntmps22
  go_wp2
  go_ret
  exact ⟨rfl, rfl⟩
set_option maxHeartbeats 4000000 in
set_option maxRecDepth 1000000 in
theorem sync_any {w : World} {db : Nat} {σ : Ds} {F : Nat → Prop} (h : DrAt w db σ F) (x : Tx) (hx : x.length ≤ 9223372036854775807) : Calls Try.prog 15 #[.pointer (some ⟨db, 0, none⟩), encStr x] w fun e w' => e = .returned (.int .i64 (σ.sync x).1) ∧ DrAt w' db (σ.sync x).2 (Fn F w w') ∧ Tn F w w' := by
  have h0 := (show Hid (DrAt w db σ F) from h)
  obtain ⟨hFd, hFw, m, rv, st, sf, pv, S, R⟩ := h
  have hF := (show Hid _ from find_any S R hFw x hx)
  unfold Ds.sync
  cases hf : σ.find x with
  | inl e9 =>
    dsimp only
    rw [hf] at hF
    unfold fndv at hF
    have he := find_inl hf
    have g1 : ((e9 : Int) != 0) = true := by
      rcases he with rfl | rfl <;> rfl
    have g2 : ¬ (e9 : Int) = 0 := by rcases he with rfl | rfl <;> decide
    clear S R he hf hFw hFd
    go_enter Try.func15, Try.ntmps15
    go_wp2_with (go_at_call 45; refine hF.out.mono ?_; rintro e w1 ⟨rfl, hb⟩)
    go_ret
    exact ⟨rfl, DrAt.fn h0.out hb⟩
  | inr i =>
    dsimp only
    have hi := R.found hf
    rw [hf] at hF
    unfold fndv ptv pta at hF
    simp only at hF
    obtain ⟨p, c, hv⟩ := (R.bod i hi).row.len
    have SB := (show Hid (∀ w1, Below w.heap.size w w1 → _) from fun w1 (hb : Below w.heap.size w w1) => S.below hb)
    have RB := (show Hid (∀ w1, Below w.heap.size w w1 → _) from fun w1 (hb : Below w.heap.size w w1) => R.below hb)
    have HH := (show Hid (_ ∧ _ ∧ _ ∧ _) from ⟨hFd, hFw, hi, hv⟩)
    obtain ⟨q, hq⟩ : ∃ q, q = m.getD i 0 := ⟨_, rfl⟩
    rw [← hq] at hF
    have HQ := (show Hid _ from hq)
    clear S R hFd hFw hi hq hv hf
    go_enter Try.func15, Try.ntmps15
    go_wp2_with (go_at_call 45; refine hF.out.mono ?_; rintro e w1 ⟨rfl, hb⟩; have R1 := (RB.out w1 hb).bod i HH.out.2.2.1; rw [← HQ.out] at R1; have b0 := R1.cells.1; rw [HH.out.2.2.2] at b0; have b1 := R1.cells.2; have b2 := frozen_of_row w1 q 1 _ _ R1.blk; have HB := (show Hid (_ ∧ _) from ⟨hb, R1⟩); clear R1 hF hb)
    go_ret
    obtain ⟨hFd, hFw, hi, hv⟩ := HH.out
    obtain ⟨hb, R1⟩ := HB.out
    have hx2 := sync_end (SB.out w1 hb) (RB.out w1 hb) hFd (fun b hF => Nat.lt_of_lt_of_le (hFw b hF) hb.size) hi
    rw [← HQ.out] at hx2
    exact ⟨rfl, fn_up hb hFw hx2.1 hx2.2, Tn.up hb hx2.2 (fun k _ hk => hk)⟩
set_option maxHeartbeats 4000000 in
set_option maxRecDepth 1000000 in
theorem remove_any {w : World} {db : Nat} {σ : Ds} {F : Nat → Prop} (h : DrAt w db σ F) (ok : Okd σ) (x : Tx) (hx : x.length ≤ 9223372036854775807) : Calls Try.prog 49 #[.pointer (some ⟨db, 0, none⟩), encStr x] w fun e w' => e = .returned (.int .i64 (σ.remove x).1) ∧ DrAt w' db (σ.remove x).2 (Fn F w w') ∧ Tn F w w' := by
  have h0 := (show Hid (DrAt w db σ F) from h)
  obtain ⟨hFd, hFw, m, rv, st, sf, pv, S, R⟩ := h
  have hF := (show Hid _ from find_any S R hFw x hx)
  unfold Ds.remove
  cases hf : σ.find x with
  | inl e9 =>
    dsimp only
    rw [hf] at hF
    unfold fndv at hF
    have he := find_inl hf
    have g1 : ((e9 : Int) != 0) = true := by
      rcases he with rfl | rfl <;> rfl
    have g2 : ¬ (e9 : Int) = 0 := by rcases he with rfl | rfl <;> decide
    clear S R he hf hFw hFd
    go_enter Try.func49, Try.ntmps49
    go_wp2_with (go_at_call 45; refine hF.out.mono ?_; rintro e w1 ⟨rfl, hb⟩)
    go_ret
    exact ⟨rfl, DrAt.fn h0.out hb⟩
  | inr i =>
    dsimp only
    have HL := isN_len (find_inr hf).1
    rw [hf] at hF
    unfold fndv ptv pta at hF
    simp only at hF
    have hLT := (show Hid _ from fun w p => leadTo_any x (by omega) p w)
    have CE := (show Hid (∀ wd : World, Below w.heap.size w wd → _) from fun (wd : World) (hb : Below w.heap.size w wd) => change_end S R hFd hFw ok hb [(x, none)] 1 (by decide) rfl #[encStr x, .pointer none] (by simp [ldc, ptv, pta]) (fun l hl i e => by
      have : l = (x, none) := by simpa using hl
      subst this
      cases e) (fun l hl => by
      have : l = (x, none) := by simpa using hl
      subst this
      exact HL.2))
    obtain ⟨q, hq⟩ : ∃ q, q = m.getD i 0 := ⟨_, rfl⟩
    rw [← hq] at hF
    clear S R hFd hFw hf HL hq
    go_enter Try.func49, Try.ntmps49
    go_wp2_with (first
      | (go_at_call 45; refine hF.out.mono ?_; rintro e w1 ⟨rfl, hb⟩; have HB := (show Hid _ from hb); clear hb)
      | (go_at_call 44; refine (hLT.out _ _).mono ?_; rintro e w2 ⟨rfl, hb2⟩; have HB2 := (show Hid _ from bt HB.out hb2); clear hb2 HB)
      | (go_at_call 43; refine (CE.out w2 HB2.out).mono ?_; rintro e w3 ⟨⟨v3, rfl⟩, h3⟩; have H3 := (show Hid (_ ∧ _) from h3); clear h3))
    go_ret
    exact ⟨rfl, H3.out⟩
set_option maxHeartbeats 4000000 in
set_option maxRecDepth 1000000 in
theorem rename_any {w : World} {db : Nat} {σ : Ds} {F : Nat → Prop} (h : DrAt w db σ F) (ok : Okd σ) (x y : Tx) (hx : x.length ≤ 9223372036854775807) (hy : y.length ≤ 9223372036854775807) : Calls Try.prog 48 #[.pointer (some ⟨db, 0, none⟩), encStr x, encStr y] w fun e w' => e = .returned (.int .i64 (σ.rename x y).1) ∧ DrAt w' db (σ.rename x y).2 (Fn F w w') ∧ Tn F w w' := by
  have h0 := (show Hid (DrAt w db σ F) from h)
  obtain ⟨hFd, hFw, m, rv, st, sf, pv, S, R⟩ := h
  have al := (Below.refl _ w).alloc (Nat.le_refl _) (.cells #[encStr x, encStr y] 9)
  have hfl := (show Hid _ from fault_any ⟨db, 0, none⟩ w.heap.size 2 [x, y] _ (by simp) (by simp; omega) (two_cells w x y 9))
  have hfe : flt [x, y] = if isN x = true ∧ isN y = true then 0 else 91 := by simp [flt]
  rw [hfe] at hfl
  have hF := (show Hid _ from find_any (S.below al) (R.below al) (fun b hb => Nat.lt_of_lt_of_le (hFw b hb) al.size) x hx)
  have AL := (show Hid _ from al)
  by_cases hN : isN x = true ∧ isN y = true
  · rw [if_pos hN] at hfl
    unfold Ds.rename
    rw [if_pos hN.2]
    cases hf : σ.find x with
    | inl e9 =>
      dsimp only
      rw [hf] at hF
      unfold fndv at hF
      have he := find_inl hf
      have g1 : ((e9 : Int) != 0) = true := by
        rcases he with rfl | rfl <;> rfl
      have g2 : ¬ (e9 : Int) = 0 := by rcases he with rfl | rfl <;> decide
      clear S R he hf hFw hFd al
      go_enter Try.func48, Try.ntmps48
      go_wp2_with (first
        | (go_at_call 42; refine hfl.out.mono ?_; rintro e w9 ⟨rfl, rfl⟩)
        | (go_at_call 45; refine hF.out.mono ?_; rintro e w1 ⟨rfl, hb⟩))
      go_ret
      exact ⟨rfl, DrAt.fn h0.out (bt AL.out hb)⟩
    | inr i =>
      dsimp only
      have hi := R.found hf
      have hlx := isN_len hN.1
      have hly := isN_len hN.2
      rw [hf] at hF
      unfold fndv ptv pta at hF
      simp only at hF
      have hLX := (show Hid _ from fun w p => leadTo_any x (by omega) p w)
      have hLY := (show Hid _ from fun w p => leadTo_any y (by omega) p w)
      obtain ⟨q, hq⟩ : ∃ q, q = m.getD i 0 := ⟨_, rfl⟩
      rw [← hq] at hF
      have CE := (show Hid (∀ wd : World, Below w.heap.size w wd → _) from fun (wd : World) (hb : Below w.heap.size w wd) => change_end S R hFd hFw ok hb [(x, none), (y, some i)] 2 (by decide) rfl #[encStr x, .pointer none, encStr y, .pointer (some ⟨q, 0, none⟩)] (by simp [ldc, ptv, pta, hq]) (fun l hl j e => by
        have : l = (x, none) ∨ l = (y, some i) := by simpa using hl
        rcases this with rfl | rfl
        · cases e
        · cases e; exact hi) (fun l hl => by
        have : l = (x, none) ∨ l = (y, some i) := by simpa using hl
        rcases this with rfl | rfl
        · exact hlx.2
        · exact hly.2))
      clear S R hFd hFw hf hlx hly hq al hi
      by_cases hxy : x = y
      · subst hxy
        rw [if_pos rfl]
        clear CE hLX hLY
        go_enter Try.func48, Try.ntmps48
        go_wp2_with (first
          | (go_at_call 42; refine hfl.out.mono ?_; rintro e w9 ⟨rfl, rfl⟩)
          | (go_at_call 45; refine hF.out.mono ?_; rintro e w1 ⟨rfl, hb⟩))
        go_ret
        exact ⟨rfl, DrAt.fn h0.out (bt AL.out hb)⟩
      · rw [if_neg hxy]
        have nxy : (x == y) = false := by simpa using hxy
        clear hxy
        go_enter Try.func48, Try.ntmps48
        go_wp2_with (first
          | (go_at_call 42; refine hfl.out.mono ?_; rintro e w9 ⟨rfl, rfl⟩)
          | (go_at_call 45; refine hF.out.mono ?_; rintro e w1 ⟨rfl, hb⟩; have HB := (show Hid _ from bt AL.out hb); clear hb)
          | (go_at_call 44; refine (hLX.out _ _).mono ?_; rintro e w2 ⟨rfl, hb2⟩; have HB2 := (show Hid _ from bt HB.out hb2); clear hb2 HB hLX)
          | (go_at_call 44; refine (hLY.out _ _).mono ?_; rintro e w3 ⟨rfl, hb3⟩; have HB3 := (show Hid _ from bt HB2.out hb3); clear hb3 HB2)
          | (go_at_call 43; refine (CE.out w3 HB3.out).mono ?_; rintro e w4 ⟨⟨v4, rfl⟩, h4⟩; have H4 := (show Hid (_ ∧ _) from h4); clear h4))
        go_ret
        exact ⟨rfl, H4.out⟩
  · rw [if_neg hN] at hfl
    have hz : σ.rename x y = (91, σ) := by
      unfold Ds.rename
      by_cases h2 : isN y = true
      · rw [if_pos h2]
        have h1 : ¬ isN x = true := fun h => hN ⟨h, h2⟩
        unfold Ds.find
        rw [if_neg h1]
      · rw [if_neg h2]
    rw [hz]
    clear S R hF hFw hFd al hN hz hfe
    go_enter Try.func48, Try.ntmps48
    go_wp2_with (go_at_call 42; refine hfl.out.mono ?_; rintro e w9 ⟨rfl, rfl⟩)
    go_ret
    exact ⟨rfl, DrAt.fn h0.out AL.out⟩
end
end Go.Proofs.Ytaddgmbglhdfdaa
