/-
  bytes.Clone, Read, New.
-/
import Derived.Test.YtjobaeopokfekaaGreatDk
namespace Go.Proofs.YtjobaeopokfekaaGreat
open Go.RowKit Go.Maps
theorem ob_up {w : World} {a b : Nat} {v : Value} {x : Tx} (h : Ob w b v x) (hb : a ≤ b) : Ob w a v x := by
  refine ⟨h.1, ?_⟩
  rcases h.2 with h1 | ⟨g, cap, c, hv, hg, hh⟩
  · exact .inl h1
  · exact .inr ⟨g, cap, c, hv, Nat.le_trans hb hg, hh⟩
theorem own_newD (w : World) : (w.alloc (.cells #[] 5)).ownsRow w.heap.size 5 1 (.slice (some ⟨w.heap.size, 0, none⟩) 0 0) 0 [] :=
  ⟨rfl, .inr ⟨w.heap.size, 0, #[], rfl, Nat.le_refl _, heap_alloc_new w _, Nat.le_refl _, by unfold maxLen; omega, rfl, rfl⟩⟩
section
attribute [local irreducible] Calls
set_option maxRecDepth 1000000 in
theorem cloneB_nil (w : World) : Calls Tryz.prog 40 #[.slice none 0 0] w fun e w' => e = .returned (.slice none 0 0) ∧ w' = w := by
  have qT : ∀ (w : World) (a : Option Addr) (n c : Nat), (binOp .eql 22 (.slice a n c) (.slice none 0 0)).run Tryz.prog w = .ok (.bool a.isNone) w := fun w a n c => by simp only [binOp]; simp [run_equal_slice_nil w _ _ a n c Tryz.underlying22]
  go_enter Tryz.func40, Tryz.ntmps40
  go_wp2
  go_ret
  exact ⟨rfl, rfl⟩
set_option maxRecDepth 1000000 in
theorem cloneB_some {w : World} (g o n c : Nat) (d : Tx) (hn : d.length = n) (hm : n ≤ 140737488355328) (hc : ∀ i, i < d.length → w.cell? ⟨g, o + i, none⟩ = some (u8v (d.getD i 0))) : Calls Tryz.prog 40 #[.slice (some ⟨g, o, none⟩) n c] w fun e w' => ∃ v, e = .returned v ∧ Ob w' w.heap.size v d ∧ Below w.heap.size w w' := by
  have qT : ∀ (w : World) (a : Option Addr) (n c : Nat), (binOp .eql 22 (.slice a n c) (.slice none 0 0)).run Tryz.prog w = .ok (.bool a.isNone) w := fun w a n c => by simp only [binOp]; simp [run_equal_slice_nil w _ _ a n c Tryz.underlying22]
  obtain ⟨i0, hi0, hz0, hz1, hz2⟩ := info_parts info5D
  have HC := (show Hid _ from app_src (z := 0) ((Below.refl _ w).alloc (Nat.le_refl _) (.cells #[] 5)) hc)
  have HN := (show Hid (d.length = n) from hn)
  clear hc hn
  go_enter Tryz.func40, Tryz.ntmps40
  go_wp2_with (at_builtin; refine wpList_append_own_at _ rfl _ _ 22 rfl w.heap.size 5 i0 (.int .u8 0) 1 1 Tryz.underlying22 hi0 hz0 hz1 hz2 rfl (by decide) _ _ _ rfl (own_newD w) ⟨g, o, none⟩ n c (d.map u8v) rfl (by simp [HN.out]) HC.out (app_one d) (by unfold maxLen; omega) (by omega) (by simp) ?_; intro v' w3 hown' hg3 _ _)
  go_ret
  have al := (Below.refl _ w).alloc (Nat.le_refl _) (.cells #[] 5)
  refine ⟨_, rfl, ?_, al.grown hg3 al.size (fun k hk => Nat.le_of_eq (Option.some.inj (show some w.heap.size = some k from hk)))⟩
  unfold Ob
  rw [HN.out]
  simpa using hown'
theorem cloneB_any {w : World} {F : Nat → Prop} {b : Nat} {x : Bd} {v : Value} (h : BdAt w F b x v) (hm : x.data.length ≤ 140737488355328) : Calls Tryz.prog 40 #[v] w fun e w' => ∃ v', e = .returned v' ∧ Ob w' w.heap.size v' x.data ∧ Below w.heap.size w w' := by
  rcases h.row.2 with ⟨hv, h0⟩ | ⟨g, cap, c, hv, _, hh, _, _, hcs, ht⟩
  · rw [hv]
    refine (cloneB_nil w).mono ?_
    rintro e w' ⟨rfl, rfl⟩
    have : x.data = [] := List.length_eq_zero_iff.1 h0
    rw [this]
    exact ⟨_, rfl, World.ownsRow_nil _ _ _ _, Below.refl _ _⟩
  · rw [hv]
    refine cloneB_some g 0 _ cap x.data rfl hm (fun i hi => ?_)
    rw [Nat.zero_add, cell_of_row w g i _ _ _ hh]
    have : (x.data.map u8v)[i]? = some (u8v (x.data.getD i 0)) := by simp [hi]
    rw [← this, ← ht]
    simp [hi]
set_option maxRecDepth 1000000 in
theorem read_none (x : Tx) (w : World) : Calls Tryz.prog 26 #[.pointer none, encStr x] w fun e w' => e = .returned (.tuple #[.slice none 0 0, .int .i64 1]) ∧ Below w.heap.size w w' := by
  have hF := (show Hid _ from fun w => find_nil x w)
  go_enter Tryz.func26, Tryz.ntmps26
  go_wp2_with (go_at_call 54; refine (hF.out _).mono ?_; rintro e w1 ⟨rfl, hb⟩)
  go_ret2
  exact ⟨rfl, hb⟩
set_option maxHeartbeats 4000000 in
set_option maxRecDepth 1000000 in
theorem read_any {w : World} {db : Nat} {σ : Ds} {F : Nat → Prop} (h : DrAt w db σ F) (x : Tx) (hx : x.length ≤ 9223372036854775807) (hm : ∀ i, σ.find x = .inr i → (σ.body i).data.length ≤ 140737488355328) :
    Calls Tryz.prog 26 #[.pointer (some ⟨db, 0, none⟩), encStr x] w fun e w' => ∃ v, e = .returned (.tuple #[v, .int .i64 (σ.read x).1]) ∧ Ob w' w.heap.size v (σ.read x).2 ∧ Below w.heap.size w w' := by
  obtain ⟨hFd, hFw, m, rv, st, sf, pv, S, R⟩ := h
  have hF := (show Hid _ from find_any S R hFw x hx)
  unfold Ds.read
  cases hf : σ.find x with
  | inl e9 =>
    dsimp only
    rw [hf] at hF
    unfold fndv at hF
    have he := find_inl hf
    have g1 : ((e9 : Int) != 0) = true := by
      rcases he with rfl | rfl <;> rfl
    have g2 : ¬ (e9 : Int) = 0 := by rcases he with rfl | rfl <;> decide
    clear hm S R he hf hFw hFd
    go_enter Tryz.func26, Tryz.ntmps26
    go_wp2_with (go_at_call 54; refine hF.out.mono ?_; rintro e w1 ⟨rfl, hb⟩)
    go_ret2
    exact ⟨_, rfl, World.ownsRow_nil _ _ _ _, hb⟩
  | inr i =>
    dsimp only
    have hi := R.found hf
    have hl := hm i hf
    rw [hf] at hF
    unfold fndv ptv pta at hF
    simp only at hF
    have RB := (show Hid (∀ w1, Below w.heap.size w w1 → BdAt w1 F (m.getD i 0) (σ.body i) (rv i)) from fun w1 (hb : Below w.heap.size w w1) => (R.below hb).bod i hi)
    have HL := (show Hid _ from hl)
    generalize m.getD i 0 = q at *
    clear hm S R hf hFw hFd hi hl
    go_enter Tryz.func26, Tryz.ntmps26
    go_wp2_with (first
      | (go_at_call 54; refine hF.out.mono ?_; rintro e w1 ⟨rfl, hb⟩; have R1 := RB.out w1 hb; have b0 := R1.cells.1; have HB := (show Hid (_ ∧ _) from ⟨hb, R1⟩); clear R1 hb hF)
      | (go_at_call 40; refine (cloneB_any HB.out.2 HL.out).mono ?_; rintro e w2 ⟨v2, rfl, hO2, hb2⟩))
    go_ret2
    exact ⟨_, rfl, ob_up hO2 HB.out.1.size, btD HB.out.1 hb2⟩
end
end Go.Proofs.YtjobaeopokfekaaGreat
/-
  Sync, Remove, Rename, SyncDir, Used, Pending of a drive.
-/
namespace Go.Proofs.YtjobaeopokfekaaGreat
open Go.RowKit Go.Maps
theorem Ob.len {w : World} {base : Nat} {v : Value} {xs : Tx} (h : Ob w base v xs) : ∃ p c, v = .slice p xs.length c := by
  rcases h.2 with ⟨hv, h1⟩ | ⟨g, cap, cur, hv, _⟩
  · refine ⟨none, 0, ?_⟩
    have : xs = [] := by simpa using h1
    rw [hv, this]
    rfl
  · exact ⟨_, _, hv⟩
/-- A change of a drive whose bodies stay. -/
theorem change_end {w wd : World} {db : Nat} {σ : Ds} {F : Nat → Prop} {m : List Nat} {rv : Nat → Value} {st sf : Option Nat} {pv : Value} (S : StAt w db σ.room σ.used st sf pv) (R : Rest w F σ m rv st sf pv) (hFd : F db) (hFw : ∀ b, F b → b < w.heap.size) (ok : Okd σ) (ba : Below w.heap.size w wd) (c : List Ld) (n : Nat) (hn : n ≤ 2) (hc : c.length = n) (cs : Array Value) (hcs : cs = (ldc m c).toArray) (ids : ∀ l ∈ c, ∀ i, l.2 = some i → i < σ.bs.length) (txt : ∀ l ∈ c, l.1.length ≤ 1024) :
    Calls Tryz.prog 140 #[.pointer (some ⟨db, 0, none⟩), .slice (some ⟨wd.heap.size, 0, none⟩) n n] (wd.alloc (.cells cs 190)) fun e w' => (∃ v, e = .returned v) ∧ DrAt w' db (σ.change c) (Fn F w w') ∧ Tn F w w' := by
  subst hcs
  have bw : Below wd.heap.size wd (wd.alloc (.cells (ldc m c).toArray 190)) := (Below.refl _ _).alloc (Nat.le_refl _) _
  have bz := btD ba bw
  refine (change_any (S.below bz) (R.below bz) hFd (fun b hb => Nat.lt_of_lt_of_le (hFw b hb) bz.size) ok c wd.heap.size n n hc (heap_alloc_new wd _) ids txt hn).mono ?_
  rintro e w' ⟨h1, h2, h3⟩
  have hs3 := h3.size
  have hsa := ba.size
  simp at hs3
  refine ⟨h1, h2.more ?_ ?_, Tn.up bz h3 (fun k _ hF => hF)⟩
  · rintro b (hF | rfl | ⟨h4, h5⟩)
    · exact .inl hF
    · exact .inr ⟨hsa, by omega⟩
    · exact .inr ⟨by simp at h4; omega, h5⟩
  · rintro b (hF | ⟨h4, h5⟩)
    · have := hFw b hF; omega
    · exact h5
/-- The names that are safe, and the changes that are pending, are few. -/
structure Okp (σ : Ds) : Prop where
  sf : Maps.size σ.sf ≤ 100000000000
  pl : ∀ c ∈ σ.pend, c.length ≤ 2
  pn : σ.pend.length ≤ 100000000000
theorem fol1_tidy {D : Dir} (h : Tidy D) (l : Ld) : Tidy (fol1 D l) ∧ Maps.size (fol1 D l) ≤ Maps.size D + 1 := by
  unfold fol1
  split
  · refine ⟨h.del _, ?_⟩
    have := size_del (k := .string l.1) h
    omega
  · refine ⟨h.put (by simp [WideAt.IsKeyLit]) _, ?_⟩
    rw [size_put h]
    split <;> omega
theorem fol_tidy {D : Dir} (h : Tidy D) (c : List Ld) : Tidy (fol D c) ∧ Maps.size (fol D c) ≤ Maps.size D + c.length := by
  unfold fol
  induction c generalizing D with
  | nil => exact ⟨h, Nat.le_refl _⟩
  | cons l c ih =>
    obtain ⟨h1, h2⟩ := fol1_tidy h l
    obtain ⟨h3, h4⟩ := ih h1
    exact ⟨h3, by simp only [List.foldl_cons, List.length_cons]; omega⟩
theorem fols_tidy {D : Dir} (h : Tidy D) : ∀ (cs : List (List Ld)), (∀ c ∈ cs, c.length ≤ 2) → Tidy (cs.foldl fol D) ∧ Maps.size (cs.foldl fol D) ≤ Maps.size D + 2 * cs.length
  | [], _ => ⟨h, Nat.le_refl _⟩
  | c :: cs, hc => by
    obtain ⟨h1, h2⟩ := fol_tidy h c
    obtain ⟨h3, h4⟩ := fols_tidy h1 cs (fun d hd => hc d (by simp [hd]))
    have := hc c (by simp)
    exact ⟨h3, by simp only [List.foldl_cons, List.length_cons]; omega⟩
/-- A body's bytes are safe. -/
theorem sync_end {w1 : World} {db i : Nat} {F : Nat → Prop} {σ : Ds} {m : List Nat} {rv : Nat → Value} {st sf : Option Nat} {pv : Value} (S : StAt w1 db σ.room σ.used st sf pv) (R : Rest w1 F σ m rv st sf pv) (hFd : F db) (hFw : ∀ b, F b → b < w1.heap.size) (hi : i < σ.bs.length) :
    DrAt (w1.setCell ⟨m.getD i 0, 1, none⟩ (.int .i64 ((σ.body i).data.length : Int))) db (σ.setBody i ⟨(σ.body i).data, (σ.body i).data.length⟩) (Fn F w1 (w1.setCell ⟨m.getD i 0, 1, none⟩ (.int .i64 ((σ.body i).data.length : Int)))) ∧ Tn F w1 (w1.setCell ⟨m.getD i 0, 1, none⟩ (.int .i64 ((σ.body i).data.length : Int))) := by
  have B := R.bod i hi
  have hk : ∀ bl, bl ≠ m.getD i 0 → (w1.setCell ⟨m.getD i 0, 1, none⟩ (.int .i64 ((σ.body i).data.length : Int))).heap[bl]? = w1.heap[bl]? := fun bl h => Below.heap_setCell _ _ _ _ h
  have hnd : db ≠ m.getD i 0 := fun e => by
    have h1 : w1.heap[db]? = _ := S
    rw [e, B.blk] at h1
    injection h1 with h1
    revert h1
    exact cells_ne (by decide)
  have hq := heap_setCell_same w1 (m.getD i 0) 1 _ _ (.int .i64 ((σ.body i).data.length : Int)) B.blk
  have T := Tn.setCell (F := F) w1 ⟨m.getD i 0, 1, none⟩ B.inF (.int .i64 ((σ.body i).data.length : Int))
  generalize (w1.setCell ⟨m.getD i 0, 1, none⟩ (.int .i64 ((σ.body i).data.length : Int))) = w' at *
  refine ⟨⟨.inl hFd, ?_, m, fun j => if j = i then rv i else rv j, st, sf, pv, (hk db hnd).trans S, ?_⟩, T⟩
  · rintro b (h | h)
    · exact Nat.lt_of_lt_of_le (hFw b h) T.size
    · exact h.2
  · refine R.setBody hFw (fun b h => .inl h) i hi ⟨(σ.body i).data, (σ.body i).data.length⟩ (rv i) (fun bl o _ _ h _ _ => hk bl h) hq (ob_same B.row (fun g hg => hk g ?_)) (.inl rfl) σ.used
    intro e
    exact row_typed B.row B.blk (fun c r => cells_ne (by decide)) (by rw [hg, e])
theorem own_len {w : World} {base : Nat} {e : TypeId} {sz n : Nat} {v : Value} {xs : List Value} (h : w.ownsRow base e sz v n xs) : ∃ p c, v = .slice p n c := by
  rcases h.2 with ⟨hv, h1⟩ | ⟨g, cap, c, hv, _⟩
  · exact ⟨none, 0, by rw [hv, h1]⟩
  · exact ⟨_, _, hv⟩
section
attribute [local irreducible] Calls
set_option maxRecDepth 1000000 in
theorem used_any {w : World} {db : Nat} {σ : Ds} {F : Nat → Prop} (h : DrAt w db σ F) : Calls Tryz.prog 32 #[.pointer (some ⟨db, 0, none⟩)] w fun e w' => e = .returned (.int .i64 σ.used) ∧ w' = w := by
  obtain ⟨hFd, hFw, m, rv, st, sf, pv, S, R⟩ := h
  have c1 := S.cell.2.1
  clear S R
  go_enter Tryz.func32, Tryz.ntmps32
  go_wp2
  go_ret
  exact ⟨rfl, rfl⟩
set_option maxRecDepth 1000000 in
theorem pending_any {w : World} {db : Nat} {σ : Ds} {F : Nat → Prop} (h : DrAt w db σ F) : Calls Tryz.prog 31 #[.pointer (some ⟨db, 0, none⟩)] w fun e w' => e = .returned (.int .i64 (σ.pend.length : Int)) ∧ w' = w := by
  obtain ⟨hFd, hFw, m, rv, st, sf, pv, S, R⟩ := h
  have c4 := S.cell.2.2.2.2
  obtain ⟨cv, h1, h2, h3⟩ := R.pnd
  obtain ⟨p, c, rfl⟩ := own_len h1
  clear S R h1 h2 h3
  go_enter Tryz.func31, Tryz.ntmps31
  go_wp2
  go_ret
  exact ⟨rfl, rfl⟩
set_option maxHeartbeats 4000000 in
set_option maxRecDepth 1000000 in
theorem sync_any {w : World} {db : Nat} {σ : Ds} {F : Nat → Prop} (h : DrAt w db σ F) (x : Tx) (hx : x.length ≤ 9223372036854775807) : Calls Tryz.prog 138 #[.pointer (some ⟨db, 0, none⟩), encStr x] w fun e w' => e = .returned (.int .i64 (σ.sync x).1) ∧ DrAt w' db (σ.sync x).2 (Fn F w w') ∧ Tn F w w' := by
  have h0 := (show Hid (DrAt w db σ F) from h)
  obtain ⟨hFd, hFw, m, rv, st, sf, pv, S, R⟩ := h
  have hF := (show Hid _ from find_any S R hFw x hx)
  unfold Ds.sync
  cases hf : σ.find x with
  | inl e9 =>
    dsimp only
    rw [hf] at hF
    unfold fndv at hF
    have he := find_inl hf
    have g1 : ((e9 : Int) != 0) = true := by
      rcases he with rfl | rfl <;> rfl
    have g2 : ¬ (e9 : Int) = 0 := by rcases he with rfl | rfl <;> decide
    clear S R he hf hFw hFd
    go_enter Tryz.func138, Tryz.ntmps138
    go_wp2_with (go_at_call 54; refine hF.out.mono ?_; rintro e w1 ⟨rfl, hb⟩)
    go_ret
    exact ⟨rfl, DrAt.fn h0.out hb⟩
  | inr i =>
    dsimp only
    have hi := R.found hf
    rw [hf] at hF
    unfold fndv ptv pta at hF
    simp only at hF
    obtain ⟨p, c, hv⟩ := (R.bod i hi).row.len
    have SB := (show Hid (∀ w1, Below w.heap.size w w1 → _) from fun w1 (hb : Below w.heap.size w w1) => S.below hb)
    have RB := (show Hid (∀ w1, Below w.heap.size w w1 → _) from fun w1 (hb : Below w.heap.size w w1) => R.below hb)
    have HH := (show Hid (_ ∧ _ ∧ _ ∧ _) from ⟨hFd, hFw, hi, hv⟩)
    obtain ⟨q, hq⟩ : ∃ q, q = m.getD i 0 := ⟨_, rfl⟩
    rw [← hq] at hF
    have HQ := (show Hid _ from hq)
    clear S R hFd hFw hi hq hv hf
    go_enter Tryz.func138, Tryz.ntmps138
    go_wp2_with (go_at_call 54; refine hF.out.mono ?_; rintro e w1 ⟨rfl, hb⟩; have R1 := (RB.out w1 hb).bod i HH.out.2.2.1; rw [← HQ.out] at R1; have b0 := R1.cells.1; rw [HH.out.2.2.2] at b0; have b1 := R1.cells.2; have b2 := frozen_of_row w1 q 1 _ _ R1.blk; have HB := (show Hid (_ ∧ _) from ⟨hb, R1⟩); clear R1 hF hb)
    go_ret
    obtain ⟨hFd, hFw, hi, hv⟩ := HH.out
    obtain ⟨hb, R1⟩ := HB.out
    have hx2 := sync_end (SB.out w1 hb) (RB.out w1 hb) hFd (fun b hF => Nat.lt_of_lt_of_le (hFw b hF) hb.size) hi
    rw [← HQ.out] at hx2
    exact ⟨rfl, fn_up hb hFw hx2.1 hx2.2, Tn.up hb hx2.2 (fun k _ hk => hk)⟩
set_option maxHeartbeats 4000000 in
set_option maxRecDepth 1000000 in
theorem rename_any {w : World} {db : Nat} {σ : Ds} {F : Nat → Prop} (h : DrAt w db σ F) (ok : Okd σ) (x y : Tx) (hx : x.length ≤ 9223372036854775807) (hy : y.length ≤ 9223372036854775807) : Calls Tryz.prog 137 #[.pointer (some ⟨db, 0, none⟩), encStr x, encStr y] w fun e w' => e = .returned (.int .i64 (σ.rename x y).1) ∧ DrAt w' db (σ.rename x y).2 (Fn F w w') ∧ Tn F w w' := by
  have h0 := (show Hid (DrAt w db σ F) from h)
  obtain ⟨hFd, hFw, m, rv, st, sf, pv, S, R⟩ := h
  have al := (Below.refl _ w).alloc (Nat.le_refl _) (.cells #[encStr x, encStr y] 9)
  have hfl := (show Hid _ from fault_anyD ⟨db, 0, none⟩ w.heap.size 2 [x, y] _ (by simp) (by simp; omega) (two_cells w x y 9))
  have hfe : flt [x, y] = if isN x = true ∧ isN y = true then 0 else 91 := by simp [flt]
  rw [hfe] at hfl
  have hF := (show Hid _ from find_any (S.below al) (R.below al) (fun b hb => Nat.lt_of_lt_of_le (hFw b hb) al.size) x hx)
  have AL := (show Hid _ from al)
  by_cases hN : isN x = true ∧ isN y = true
  · rw [if_pos hN] at hfl
    unfold Ds.rename
    rw [if_pos hN.2]
    cases hf : σ.find x with
    | inl e9 =>
      dsimp only
      rw [hf] at hF
      unfold fndv at hF
      have he := find_inl hf
      have g1 : ((e9 : Int) != 0) = true := by
        rcases he with rfl | rfl <;> rfl
      have g2 : ¬ (e9 : Int) = 0 := by rcases he with rfl | rfl <;> decide
      clear S R he hf hFw hFd al
      go_enter Tryz.func137, Tryz.ntmps137
      go_wp2_with (first
        | (go_at_call 72; refine hfl.out.mono ?_; rintro e w9 ⟨rfl, rfl⟩)
        | (go_at_call 54; refine hF.out.mono ?_; rintro e w1 ⟨rfl, hb⟩))
      go_ret
      exact ⟨rfl, DrAt.fn h0.out (btD AL.out hb)⟩
    | inr i =>
      dsimp only
      have hi := R.found hf
      have hlx := isN_len hN.1
      have hly := isN_len hN.2
      rw [hf] at hF
      unfold fndv ptv pta at hF
      simp only at hF
      have hLX := (show Hid _ from fun w p => leadTo_any x (by omega) p w)
      have hLY := (show Hid _ from fun w p => leadTo_any y (by omega) p w)
      obtain ⟨q, hq⟩ : ∃ q, q = m.getD i 0 := ⟨_, rfl⟩
      rw [← hq] at hF
      have CE := (show Hid (∀ wd : World, Below w.heap.size w wd → _) from fun (wd : World) (hb : Below w.heap.size w wd) => change_end S R hFd hFw ok hb [(x, none), (y, some i)] 2 (by decide) rfl #[encStr x, .pointer none, encStr y, .pointer (some ⟨q, 0, none⟩)] (by simp [ldc, ptv, pta, hq]) (fun l hl j e => by
        have : l = (x, none) ∨ l = (y, some i) := by simpa using hl
        rcases this with rfl | rfl
        · cases e
        · cases e; exact hi) (fun l hl => by
        have : l = (x, none) ∨ l = (y, some i) := by simpa using hl
        rcases this with rfl | rfl
        · exact hlx.2
        · exact hly.2))
      clear S R hFd hFw hf hlx hly hq al hi
      by_cases hxy : x = y
      · subst hxy
        rw [if_pos rfl]
        clear CE hLX hLY
        go_enter Tryz.func137, Tryz.ntmps137
        go_wp2_with (first
          | (go_at_call 72; refine hfl.out.mono ?_; rintro e w9 ⟨rfl, rfl⟩)
          | (go_at_call 54; refine hF.out.mono ?_; rintro e w1 ⟨rfl, hb⟩))
        go_ret
        exact ⟨rfl, DrAt.fn h0.out (btD AL.out hb)⟩
      · rw [if_neg hxy]
        have nxy : (x == y) = false := by simpa using hxy
        clear hxy
        go_enter Tryz.func137, Tryz.ntmps137
        go_wp2_with (first
          | (go_at_call 72; refine hfl.out.mono ?_; rintro e w9 ⟨rfl, rfl⟩)
          | (go_at_call 54; refine hF.out.mono ?_; rintro e w1 ⟨rfl, hb⟩; have HB := (show Hid _ from btD AL.out hb); clear hb)
          | (go_at_call 141; refine (hLX.out _ _).mono ?_; rintro e w2 ⟨rfl, hb2⟩; have HB2 := (show Hid _ from btD HB.out hb2); clear hb2 HB hLX)
          | (go_at_call 141; refine (hLY.out _ _).mono ?_; rintro e w3 ⟨rfl, hb3⟩; have HB3 := (show Hid _ from btD HB2.out hb3); clear hb3 HB2)
          | (go_at_call 140; refine (CE.out w3 HB3.out).mono ?_; rintro e w4 ⟨⟨v4, rfl⟩, h4⟩; have H4 := (show Hid (_ ∧ _) from h4); clear h4))
        go_ret
        exact ⟨rfl, H4.out⟩
  · rw [if_neg hN] at hfl
    have hz : σ.rename x y = (91, σ) := by
      unfold Ds.rename
      by_cases h2 : isN y = true
      · rw [if_pos h2]
        have h1 : ¬ isN x = true := fun h => hN ⟨h, h2⟩
        unfold Ds.find
        rw [if_neg h1]
      · rw [if_neg h2]
    rw [hz]
    clear S R hF hFw hFd al hN hz hfe
    go_enter Tryz.func137, Tryz.ntmps137
    go_wp2_with (go_at_call 72; refine hfl.out.mono ?_; rintro e w9 ⟨rfl, rfl⟩)
    go_ret
    exact ⟨rfl, DrAt.fn h0.out AL.out⟩
end
end Go.Proofs.YtjobaeopokfekaaGreat
/-
  SyncDir of a drive.
-/
namespace Go.Proofs.YtjobaeopokfekaaGreat
open Go.RowKit Go.Maps
/-- A cell of an own row. -/
theorem own_cell {w : World} {base : Nat} {e : TypeId} {n : Nat} {v : Value} {xs : List Value} (h : w.ownsRow base e 1 v n xs) (i : Nat) (hi : i < n) : ∃ g c cur, v = .slice (some ⟨g, 0, none⟩) n c ∧ w.heap[g]? = some (.cells cur e (0, 0)) ∧ w.cell? ⟨g, i, none⟩ = some (xs.getD i undef) := by
  have hl := h.1
  rcases h.2 with ⟨hv, h1⟩ | ⟨g, cap, cur, hv, hg, hb, h1, h2, h3, h4⟩
  · omega
  · refine ⟨g, cap, cur, hv, hb, ?_⟩
    rw [cell_of_row w g i _ _ _ hb]
    have hx : i < xs.length := by omega
    have : xs[i]? = some (xs.getD i undef) := by simp [hx]
    rw [← this, ← h4]
    simp [hi]
/-- What SyncDir has done. -/
structure SyR (σ : Ds) (m : List Nat) (sf : Option Nat) (w : World) (k : Nat) (wr : World) : Prop where
  tn : Tn (fun b => sf = some b) w wr
  mp : ∀ f, sf = some f → MpAt wr m f ((σ.pend.take k).foldl fol σ.sf)
theorem SyR.start {w : World} {F : Nat → Prop} {σ : Ds} {m : List Nat} {rv : Nat → Value} {st sf : Option Nat} {pv : Value} (R : Rest w F σ m rv st sf pv) : SyR σ m sf w 0 w := by
  refine ⟨Tn.refl _ _, fun f e => ?_⟩
  rcases R.dirs with ⟨_, e2, _⟩ | ⟨s, f', _, e2, _, _, _, _, h⟩
  · rw [e] at e2; cases e2
  · rw [e] at e2; injection e2 with e2; subst e2; exact h
theorem SyR.cells {w wr : World} {F : Nat → Prop} {σ : Ds} {m : List Nat} {rv : Nat → Value} {st sf : Option Nat} {pv : Value} {k : Nat} (h : SyR σ m sf w k wr) (R : Rest w F σ m rv st sf pv) {b : Nat} {c : Array Value} {t : TypeId} {r : Nat × Nat} (hb : w.heap[b]? = some (.cells c t r)) : wr.heap[b]? = w.heap[b]? := by
  refine h.tn.block b (blt hb) (fun e => ?_)
  rcases R.dirs with ⟨_, e2, _⟩ | ⟨s, f, _, e2, _, _, _, _, hM⟩
  · rw [e] at e2; cases e2
  · rw [e] at e2
    injection e2 with e2
    subst e2
    obtain ⟨es, ck, ho, _⟩ := hM
    rw [ho] at hb
    cases hb
theorem sy_small {w : World} {F : Nat → Prop} {σ : Ds} {m : List Nat} {rv : Nat → Value} {st sf : Option Nat} {pv : Value} (ok : Okp σ) (R : Rest w F σ m rv st sf pv) {k : Nat} (hk : k < σ.pend.length) : Maps.size ((σ.pend.take k).foldl fol σ.sf) + (σ.pend.getD k []).length ≤ 1000000000000 := by
  have ht : Tidy σ.sf := by
    rcases R.dirs with ⟨_, _, _, e, _⟩ | ⟨s, f, _, _, _, _, _, _, hM⟩
    · rw [e]; exact tidy_empty
    · exact hM.tidy lawS
  have h1 := (fols_tidy ht (σ.pend.take k) (fun c hc => ok.pl c (List.mem_of_mem_take hc))).2
  have h2 : (σ.pend.getD k []).length ≤ 2 := ok.pl _ (by simp [hk])
  have h3 := ok.sf
  have h4 := ok.pn
  have h5 : (σ.pend.take k).length ≤ σ.pend.length := by simp; omega
  omega
theorem cell_blk {w w' : World} {b : Nat} (o : Nat) (h : w'.heap[b]? = w.heap[b]?) : w'.cell? ⟨b, o, none⟩ = w.cell? ⟨b, o, none⟩ := World.cell?_of_block (w := w) h
theorem sydir_end {w wr : World} {db : Nat} {F : Nat → Prop} {σ : Ds} {m : List Nat} {rv : Nat → Value} {st sf : Option Nat} {pv : Value} (S : StAt w db σ.room σ.used st sf pv) (R : Rest w F σ m rv st sf pv) (hFd : F db) (hFw : ∀ b, F b → b < w.heap.size) (h : SyR σ m sf w σ.pend.length wr) :
    DrAt (wr.setCell ⟨db, 4, none⟩ (.slice none 0 0)) db σ.syncDir (Fn F w (wr.setCell ⟨db, 4, none⟩ (.slice none 0 0))) ∧ Tn F w (wr.setCell ⟨db, 4, none⟩ (.slice none 0 0)) := by
  have hfF : ∀ f, sf = some f → F f := fun f e => by
    rcases R.dirs with ⟨_, e2, _⟩ | ⟨s, f', _, e2, _, _, f2, _⟩
    · rw [e] at e2; cases e2
    · rw [e] at e2; injection e2 with e2; subst e2; exact f2
  have T0 : Tn F w wr := h.tn.more (fun b e => hfF b e)
  have S2 : StAt wr db σ.room σ.used st sf pv := (h.cells R S).trans S
  have hk : ∀ bl, bl ≠ db → (wr.setCell ⟨db, 4, none⟩ (.slice none 0 0)).heap[bl]? = wr.heap[bl]? := fun bl h => Below.heap_setCell _ _ _ _ h
  have hdb := heap_setCell_same wr db 4 _ _ (.slice none 0 0) S2
  have T := T0.trans (Tn.setCell (F := F) wr ⟨db, 4, none⟩ hFd (.slice none 0 0))
  generalize (wr.setCell ⟨db, 4, none⟩ (.slice none 0 0)) = w' at *
  have hcell : ∀ {b : Nat} {c : Array Value} {t : TypeId} {r : Nat × Nat}, w.heap[b]? = some (.cells c t r) → t ≠ 86 → w'.heap[b]? = w.heap[b]? := by
    intro b c t r hb ht
    refine (hk b (fun e => ?_)).trans (h.cells R hb)
    have h9 : w.heap[db]? = _ := S
    rw [← e, hb] at h9
    injection h9 with h9
    revert h9
    exact cells_ne ht
  have hrow : ∀ {e : TypeId} {sz n : Nat} {v : Value} {xs : List Value}, w.ownsRow 0 e sz v n xs → e ≠ 86 → w'.ownsRow 0 e sz v n xs := by
    intro e sz n v xs h1 hne
    refine ob_same h1 fun g hg => ?_
    rcases h1.2 with ⟨hv, _⟩ | ⟨g', cap, c, hv, _, hh, _⟩
    · rw [hv] at hg; cases hg
    · rw [hv] at hg
      simp [Value.ownBlock] at hg
      subst hg
      exact hcell hh hne
  have hmap : ∀ {b : Nat} {D : Dir}, MpAt wr m b D → MpAt w' m b D := by
    intro b D h1
    refine om_same h1 (hk b (fun e => ?_))
    obtain ⟨es, ck, ho, _⟩ := h1
    have h9 : wr.heap[db]? = _ := S2
    rw [← e, ho] at h9
    cases h9
  refine ⟨⟨.inl hFd, ?_, m, rv, st, sf, .slice none 0 0, hdb, ?_⟩, T⟩
  · rintro b (h | h)
    · exact Nat.lt_of_lt_of_le (hFw b h) T.size
    · exact h.2
  · refine ⟨?_, R.len, R.nodup, fun i hi => ?_, R.sep, ⟨[], ⟨rfl, .inl ⟨rfl, rfl⟩⟩, rfl, fun j hj => absurd hj (Nat.not_lt_zero _)⟩, fun g hg => by cases hg⟩
    · rcases R.dirs with ⟨e1, e2, e3, e4, e5⟩ | ⟨s, f, e1, e2, hne, f1, f2, h1, h2⟩
      · left
        refine ⟨e1, e2, e3, ?_, rfl⟩
        show σ.pend.foldl fol σ.sf = _
        rw [e5, e4]
        rfl
      · right
        refine ⟨s, f, e1, e2, hne, .inl f1, .inl f2, hmap (om_same h1 (h.tn.block s ?_ ?_)), ?_⟩
        · obtain ⟨es, ck, ho, _⟩ := h1
          exact blt ho
        · rw [e2]
          intro e
          injection e with e
          exact hne e.symm
        · have h9 := h.mp f e2
          rw [List.take_length] at h9
          exact hmap h9
    · have B := R.bod i hi
      exact ⟨(hcell B.blk (by decide)).trans B.blk, hrow B.row (by decide), .inl B.inF, fun g hg => .inl (B.rowF g hg)⟩
section
attribute [local irreducible] Calls
set_option maxHeartbeats 4000000 in
set_option maxRecDepth 1000000 in
theorem syncDir_any {w : World} {db : Nat} {σ : Ds} {F : Nat → Prop} (h : DrAt w db σ F) (ok : Okp σ) : Calls Tryz.prog 139 #[.pointer (some ⟨db, 0, none⟩)] w fun e w' => e = .returned (.int .i64 0) ∧ DrAt w' db σ.syncDir (Fn F w w') ∧ Tn F w w' := by
  obtain ⟨hFd, hFw, m, rv, st, sf, pv, S, R⟩ := h
  obtain ⟨cv, h1, h2, h3⟩ := R.pnd
  obtain ⟨n, hn⟩ : ∃ n, n = σ.pend.length := ⟨_, rfl⟩
  obtain ⟨p, c, hpv⟩ := own_len h1
  rw [← hn] at hpv
  have c4 := S.cell.2.2.2.2
  rw [hpv] at c4
  have hnb : n ≤ 100000000000 := by rw [hn]; exact ok.pn
  have HS := (show Hid (_ ∧ _ ∧ _ ∧ _) from ⟨S, R, hFd, hFw⟩)
  have HN := (show Hid _ from hn)
  have HP := (show Hid _ from hpv)
  have HO := (show Hid (_ ∧ _ ∧ _) from ⟨h1, h2, h3⟩)
  have OK := (show Hid _ from ok)
  clear S R hFd hFw h1 h2 h3 ok hn hpv
  go_enter Tryz.func139, Tryz.ntmps139
  go_wp2
  go_loopw [12] (fun i wr => ∃ k : Nat, k ≤ n ∧ i = .int .i64 k ∧ Hid (SyR σ m sf w k wr)) (fun i _ => n - (intOf i).toNat)
  case atStart => exact ⟨0, Nat.zero_le _, rfl, SyR.start HS.out.2.1⟩
  case round =>
    obtain ⟨k, hk, rfl, hR⟩ := hrel
    by_cases hlt : k < n
    · have hi : (k : Int) < (n : Int) := by omega
      have hkx : k < σ.pend.length := by rw [← HN.out]; exact hlt
      obtain ⟨g, cg, cur, hp, hgb, hck⟩ := own_cell HO.out.1 k hkx
      rw [HP.out, HN.out] at hp
      injection hp with hp _ hcc
      subst hp hcc
      obtain ⟨⟨gl, cl, hcv, hFl, hgl⟩, hids, htx⟩ := HO.out.2.2 k hkx
      obtain ⟨f, hf⟩ : ∃ f, sf = some f := by
        rcases HS.out.2.1.dirs with ⟨_, _, _, _, e⟩ | ⟨s, f, _, e, _⟩
        · rw [e] at hkx; simp at hkx
        · exact ⟨f, e⟩
      subst hf
      have HW := hR.out
      have hgk : wr.cell? ⟨g, k, none⟩ = some (.slice (some ⟨gl, 0, none⟩) (σ.pend.getD k []).length cl) := by
        rw [cell_blk k (HW.cells HS.out.2.1 hgb), hck, hcv]
      have hsd : wr.heap[db]? = w.heap[db]? := HW.cells HS.out.2.1 HS.out.1
      have hS2 : StAt wr db σ.room σ.used st (some f) pv := hsd.trans HS.out.1
      have c3 := hS2.cell.2.2.2.1
      have FO := (show Hid _ from follow_any HS.out.2.1.nodup (HW.mp f rfl) (σ.pend.getD k []) gl cl ((HW.cells HS.out.2.1 hgl).trans hgl) hids htx (sy_small OK.out HS.out.2.1 hkx))
      have hsn := (show Hid (σ.pend.take (k + 1) = σ.pend.take k ++ [σ.pend.getD k []]) from by
        show _ = _
        rw [List.take_add_one]; simp [hkx])
      generalize σ.pend.getD k [] = ck at *
      clear HW hgl hids htx hck hgb hcv hS2 hsd hkx
      go_wp2_with (go_at_call 142; refine FO.out.mono ?_; rintro e w2 ⟨⟨v2, rfl⟩, hM2, hT2⟩)
      go_roundw
      case rel =>
        refine ⟨k + 1, by omega, by go_num, hR.out.tn.trans (hT2.more (fun b e => by rw [show b = f from e])), fun f' e => ?_⟩
        injection e with e
        subst e
        rw [hsn.out, List.foldl_append]
        exact hM2
      case measure => simp [intOf]; omega
    · obtain rfl : k = n := by omega
      have hi : ¬ (k : Int) < (k : Int) := by omega
      have HW := hR.out
      have hsd : wr.heap[db]? = w.heap[db]? := HW.cells HS.out.2.1 HS.out.1
      have hS2 : StAt wr db σ.room σ.used st sf pv := hsd.trans HS.out.1
      have y4 := hS2.cell.2.2.2.2
      have f4 := hS2.frozen 4
      clear HW hsd hS2
      go_wp2
      go_ret
      obtain ⟨S, R, hFd, hFw⟩ := HS.out
      have := sydir_end S R hFd hFw (HN.out ▸ hR.out)
      exact ⟨rfl, this⟩
end
end Go.Proofs.YtjobaeopokfekaaGreat
