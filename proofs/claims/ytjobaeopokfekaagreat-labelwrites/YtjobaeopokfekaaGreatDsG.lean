/-
  files; Image, Safe of a drive.
-/
import Derived.Test.YtjobaeopokfekaaGreatDsB
import Derived.Test.YtjobaeopokfekaaGreatDsC
import Derived.Deep.RegionHeld3
import Derived.Test.YtjobaeopokfekaaGreatMc
import Derived.Shelf.SlMaps.Clone
namespace Go.Proofs.YtjobaeopokfekaaGreat
open Go.RowKit Go.Maps Go.Sort
/-- A slice that reads as these bytes. -/
def Tv (w : World) (v : Value) (d : Tx) : Prop := (v = .slice none 0 0 ∧ d = []) ∨ ∃ g c, v = .slice (some ⟨g, 0, none⟩) d.length c ∧ ∀ i, i < d.length → w.cell? ⟨g, 0 + i, none⟩ = some (u8v (d.getD i 0))
theorem Tv.below {w w' : World} {v : Value} {d : Tx} (h : Tv w v d) (hb : Below w.heap.size w w') : Tv w' v d := by
  rcases h with h | ⟨g, c, e, h⟩
  · exact .inl h
  · exact .inr ⟨g, c, e, fun i hi => cell_belowD (h i hi) hb⟩
theorem cloneTv {w : World} {v : Value} {d : Tx} (h : Tv w v d) (hm : d.length ≤ 140737488355328) : Calls Tryz.prog 40 #[v] w fun e w' => ∃ p n c, e = .returned (.slice p n c) ∧ Ob w' w.heap.size (.slice p n c) d ∧ Below w.heap.size w w' := by
  rcases h with ⟨rfl, rfl⟩ | ⟨g, c, rfl, h⟩
  · refine (cloneB_nil w).mono ?_
    rintro e w' ⟨rfl, rfl⟩
    exact ⟨none, 0, 0, rfl, ⟨rfl, .inl ⟨rfl, rfl⟩⟩, Below.refl _ _⟩
  · refine (cloneB_some g 0 d.length c d rfl hm h).mono ?_
    rintro e w' ⟨v, h1, h2, h3⟩
    obtain ⟨p, c', rfl⟩ := h2.len
    exact ⟨p, _, c', h1, h2, h3⟩
/-- Files, as cells. -/
def flc (L : List (Tx × Value)) : List Value := L.flatMap fun x => [encStr x.1, x.2]
theorem flc_len (L : List (Tx × Value)) : (flc L).length = L.length * 2 := by
  unfold flc
  induction L with
  | nil => rfl
  | cons a L ih => rw [List.flatMap_cons, List.length_append, ih]; simp; omega
theorem flc_snoc (L : List (Tx × Value)) (a : Tx × Value) : flc (L ++ [a]) = flc L ++ [encStr a.1, a.2] := by simp [flc]
theorem flc_at (L : List (Tx × Value)) (k : Nat) (hk : k < L.length) : (flc L)[k * 2]? = some (encStr (L.getD k ([], undef)).1) ∧ (flc L)[k * 2 + 1]? = some (L.getD k ([], undef)).2 := by
  unfold flc
  induction L generalizing k with
  | nil => simp at hk
  | cons l c ih =>
    cases k with
    | zero => exact ⟨rfl, rfl⟩
    | succ k =>
      have := ih k (by simpa using hk)
      rw [List.flatMap_cons]
      refine ⟨?_, ?_⟩
      · rw [List.getElem?_append_right (by simp; omega)]
        have e : (k + 1) * 2 - [encStr l.1, l.2].length = k * 2 := by simp; omega
        rw [e]
        simpa using this.1
      · rw [List.getElem?_append_right (by simp; omega)]
        have e : (k + 1) * 2 + 1 - [encStr l.1, l.2].length = k * 2 + 1 := by simp; omega
        rw [e]
        simpa using this.2
/-- Files in memory of the call's own. -/
structure FsAt (w : World) (base : Nat) (v : Value) (L : List (Tx × Tx)) : Prop where
  ex : ∃ dv : List Value, dv.length = L.length ∧ w.ownsRow base 58 2 v L.length (flc ((L.map (·.1)).zip dv)) ∧ ∀ i, i < L.length → Ob w base (dv.getD i undef) (L.getD i ([], [])).2
theorem info_File : (Tryz.prog.info? 58).map (fun i => (i.zero, i.size, i.bytes)) = some (some (.agg #[.string ⟨#[]⟩, .slice none 0 0]), 2, 40) := by kernel_rfl
theorem make_files {n : Nat} (hn : n ≤ 1000000000000) (w : World) : ∃ w', (Instr.makeSlice 55 (.int .i64 0) (.int .i64 (n : Int))).run Tryz.prog w = .ok (.slice (some ⟨w.heap.size, 0, none⟩) 0 n) w' ∧ FsAt w' w.heap.size (.slice (some ⟨w.heap.size, 0, none⟩) 0 n) [] ∧ Below w.heap.size w w' := by
  obtain ⟨i0, hi, hz0, hz1, hz2⟩ := info_parts info_File
  obtain ⟨w', h1, h2, h3⟩ := run_make_own (P := Tryz.prog) w w.heap.size 55 58 i0 _ 2 Tryz.underlying55 hi hz0 hz1 .i64 .i64 n (by rw [hz2]; omega) (by unfold maxLen; omega) (Nat.le_refl _)
  exact ⟨w', h1, ⟨[], rfl, h2, fun i hi => absurd hi (Nat.not_lt_zero _)⟩, ⟨h3.os, h3.tape, h3.output, h3.size, fun k hk => h3.block k hk (by simp)⟩⟩
theorem FsAt.below {w w' : World} {base : Nat} {v : Value} {L : List (Tx × Tx)} (h : FsAt w base v L) (hb : Below w.heap.size w w') : FsAt w' base v L := by
  obtain ⟨dv, h1, h2, h3⟩ := h
  have hrow : ∀ {e : TypeId} {sz n : Nat} {v : Value} {xs : List Value}, w.ownsRow base e sz v n xs → w'.ownsRow base e sz v n xs := by
    intro e sz n v xs h1
    refine ob_same h1 fun g hg => ?_
    rcases h1.2 with ⟨hv, _⟩ | ⟨g', cap, c, hv, _, hh, _⟩
    · rw [hv] at hg; cases hg
    · rw [hv] at hg
      simp [Value.ownBlock] at hg
      subst hg
      exact hb.block g' (blt hh)
  exact ⟨dv, h1, hrow h2, fun i hi => hrow (h3 i hi)⟩
/-- What told says. -/
def tol (σ : Ds) (T : Bd → Tx) (D : Dir) : List (Tx × Tx) := (nms D).map fun x => (x, T (σ.body ((lk D x).getD 0)))
theorem tol_len (σ : Ds) (T : Bd → Tx) (D : Dir) : (tol σ T D).length = (nms D).length := by simp [tol]
theorem len_dir {w : World} {m : List Nat} {mp : Option Nat} {D : Dir} (h : (mp = none ∧ D = .map []) ∨ ∃ s, mp = some s ∧ MpAt w m s D) (ty : TypeId) : (Builtin.len_ #[83] ty #[.map mp]).run Tryz.prog w = .ok (.int .i64 (Maps.size D)) w := by
  rcases h with ⟨rfl, rfl⟩ | ⟨s, rfl, h1⟩
  · exact Maps.len_nil Tryz.underlying83 ty
  · exact h1.len Tryz.underlying83 ty
theorem mk_lt {w wm : World} {n : Nat} (h : FsAt wm w.heap.size (.slice (some ⟨w.heap.size, 0, none⟩) 0 n) []) : w.heap.size < wm.heap.size := by
  obtain ⟨dv, _, h2, _⟩ := h.ex
  rcases h2.2 with ⟨hv, _⟩ | ⟨g, cap, c, hv, _, hh, _⟩
  · cases hv
  · cases hv; exact blt hh
theorem key_has {w : World} {m : List Nat} {s : Nat} {D : Dir} (h : MpAt w m s D) {x : Tx} (hx : x ∈ strKeys D) : has D (.string x) = true ∧ x.length ≤ maxLen := by
  refine ⟨?_, strKeys_le h undSD x hx⟩
  obtain ⟨es, rfl, hko⟩ := World.ownsMap.keysOf h
  obtain ⟨p, hp, rfl⟩ := List.mem_map.1 hx
  obtain ⟨v, hv⟩ := hko p hp
  obtain ⟨y, _, hy, hl⟩ := Maps.keyOf_str undSD hv
  rw [has_eq, List.any_eq_true]
  refine ⟨p, hp, ?_⟩
  rw [hy]
  simp [strOf, Lit.sameKey]
theorem fil_look {w wr : World} {m : List Nat} {mp : Option Nat} {D : Dir} (h : (mp = none ∧ D = .map []) ∨ ∃ s, mp = some s ∧ MpAt w m s D) (nn : NN D) {x : Tx} (hx : x ∈ nms D) (hb : Below w.heap.size w wr) : ∃ j s, mp = some s ∧ lk D x = some j ∧ j < m.length ∧ (Instr.lookup 83 (.map (some s)) (encStr x) false).run Tryz.prog wr = .ok (.pointer (some ⟨m.getD j 0, 0, none⟩)) wr := by
  rcases h with ⟨_, rfl⟩ | ⟨s, rfl, hM⟩
  · rw [nms_nil] at hx; simp at hx
  · obtain ⟨h1, h2⟩ := key_has hM (nms_mem.1 hx)
    obtain ⟨j, hj⟩ := nn x h1
    obtain ⟨h3, h4⟩ := look_dir (om_upto hM hb) h2
    rw [hj] at h3
    exact ⟨j, s, rfl, hj, h4 j hj, h3⟩
theorem nms_small {w : World} {m : List Nat} {mp : Option Nat} {D : Dir} (h : (mp = none ∧ D = .map []) ∨ ∃ s, mp = some s ∧ MpAt w m s D) {z : Nat} (hs : Maps.size D ≤ z) : (nms D).length ≤ z := by
  rw [nms_len]
  rcases h with ⟨_, rfl⟩ | ⟨s, rfl, es, ck, _, _, _, rfl⟩
  · exact Nat.zero_le _
  · simpa [strKeys, Maps.size] using hs
/-- What files has done. -/
structure FzR (σ : Ds) (T : Bd → Tx) (D : Dir) (w w2 : World) (f : Value) (k : Nat) (wr : World) : Prop where
  fs : FsAt wr w.heap.size f ((tol σ T D).take k)
  tn : Tn (· = w.heap.size) w2 wr
  bl : ∀ g, f.ownBlock = some g → g = w.heap.size ∨ w2.heap.size ≤ g
  ty : ∃ c, w2.heap[w.heap.size]? = some (.cells c 58 (0, 0))
theorem FzR.start {σ : Ds} {T : Bd → Tx} {D : Dir} {w w2 : World} {n : Nat} (h : FsAt w2 w.heap.size (.slice (some ⟨w.heap.size, 0, none⟩) 0 n) []) : FzR σ T D w w2 (.slice (some ⟨w.heap.size, 0, none⟩) 0 n) 0 w2 := by
  refine ⟨h, Tn.refl _ _, fun g hg => .inl (by simpa [Value.ownBlock] using hg.symm), ?_⟩
  obtain ⟨dv, _, h2, _⟩ := h.ex
  rcases h2.2 with ⟨hv, _⟩ | ⟨g, cap, c, hv, _, hh, _⟩
  · cases hv
  · cases hv; exact ⟨c, hh⟩
theorem FzR.all {σ : Ds} {T : Bd → Tx} {D : Dir} {w w2 wr : World} {f : Value} {k : Nat} (h : FzR σ T D w w2 f k wr) (hb : Below w.heap.size w w2) : Below w.heap.size w wr :=
  ⟨h.tn.os.trans hb.os, h.tn.tape.trans hb.tape, h.tn.output.trans hb.output, Nat.le_trans hb.size h.tn.size, fun b hl => (h.tn.block b (Nat.lt_of_lt_of_le hl hb.size) (Nat.ne_of_lt hl)).trans (hb.block b hl)⟩
theorem FzR.text {σ : Ds} {T : Bd → Tx} {D : Dir} {w w2 wr : World} {f : Value} {k g o : Nat} {c : Array Value} {v : Value} (h : FzR σ T D w w2 f k wr) (hg : w2.heap[g]? = some (.cells c 9 (0, 0))) (hc : w2.cell? ⟨g, o, none⟩ = some v) : wr.cell? ⟨g, o, none⟩ = some v := by
  refine (cell_blk o (h.tn.block g (blt hg) (fun e => ?_))).trans hc
  obtain ⟨c', h9⟩ := h.ty
  rw [← show g = w.heap.size from e, hg] at h9
  injection h9 with h9
  revert h9
  exact cells_ne (by decide)
theorem own_belowD {w w' : World} {base : Nat} {e : TypeId} {sz n : Nat} {v : Value} {xs : List Value} (h1 : w.ownsRow base e sz v n xs) (hb : Below w.heap.size w w') : w'.ownsRow base e sz v n xs := by
  refine ob_same h1 fun g hg => ?_
  rcases h1.2 with ⟨hv, _⟩ | ⟨g', cap, c, hv, _, hh, _⟩
  · rw [hv] at hg; cases hg
  · rw [hv] at hg
    simp [Value.ownBlock] at hg
    subst hg
    exact hb.block g' (blt hh)
theorem alb (w : World) (o : Obj) : Below w.heap.size w (w.alloc o) := (Below.refl _ w).alloc (Nat.le_refl _) o
theorem FzR.push {σ : Ds} {T : Bd → Tx} {D : Dir} {w w2 wr w4 w5 : World} {f v4 v5 : Value} {k j : Nat} {x : Tx} {o : Obj} {dv fl0 : List Value} (h : FzR σ T D w w2 f k wr) (hk : k < (nms D).length) (hx : x = (nms D).getD k []) (hlk : lk D x = some j) (hb : Below wr.heap.size wr w4) (hdv : dv.length = k) (hobs : ∀ i, i < k → Ob wr w.heap.size (dv.getD i undef) (((tol σ T D).take k).getD i ([], [])).2) (hfl : fl0 = flc ((((tol σ T D).take k).map (·.1)).zip dv)) (hO4 : Ob w4 w.heap.size v4 (T (σ.body j)))
    (hrow : (w4.alloc o).ownsRow w.heap.size 58 2 f k fl0) (hown5 : w5.ownsRow w.heap.size 58 2 v5 (k + 1) (fl0 ++ [encStr x, v4])) (hg5 : (w4.alloc o).grownBy w5 f.ownBlock) (hloc : v5.ownBlock = f.ownBlock ∨ v5.ownBlock = some (w4.alloc o).heap.size) : FzR σ T D w w2 v5 (k + 1) w5 := by
  have htl : k < (tol σ T D).length := by rw [tol_len]; exact hk
  have hsn : (tol σ T D).take (k + 1) = (tol σ T D).take k ++ [(x, T (σ.body j))] := by
    rw [List.take_add_one, List.getElem?_eq_getElem htl]
    simp [tol, hx, hk] at hlk ⊢
    rw [hlk]
    rfl
  have htk : ((tol σ T D).take k).length = k := by rw [List.length_take]; omega
  have ba := btD hb (alb w4 o)
  have hsz : w2.heap.size ≤ (w4.alloc o).heap.size := Nat.le_trans h.tn.size ba.size
  have hrows : ∀ {v : Value} {d : Tx}, Ob (w4.alloc o) w.heap.size v d → Ob w5 w.heap.size v d := by
    intro v d h1
    refine ob_same h1 fun g hg => ?_
    rcases h1.2 with ⟨hv, _⟩ | ⟨g', cap, c, hv, _, hh, _⟩
    · rw [hv] at hg; cases hg
    · rw [hv] at hg
      simp [Value.ownBlock] at hg
      subst hg
      exact hg5.block g' (blt hh) (row_typed hrow hh (fun c r => cells_ne (by decide)))
  refine ⟨⟨dv ++ [v4], ?_, ?_, fun i hi => ?_⟩, ⟨hg5.os.trans (ba.os.trans h.tn.os), hg5.tape.trans (ba.tape.trans h.tn.tape), hg5.output.trans (ba.output.trans h.tn.output), Nat.le_trans hsz hg5.size, fun b hl hne => ?_⟩, fun g hg => ?_, h.ty⟩
  · rw [hsn, List.length_append, List.length_append, htk, hdv]; rfl
  · rw [hsn, List.map_append, List.length_append, htk, List.zip_append (by rw [List.length_map, htk, hdv])]
    show w5.ownsRow _ _ _ _ (k + 1) (flc (_ ++ [(x, v4)]))
    rw [flc_snoc, ← hfl]
    exact hown5
  · rw [hsn, List.length_append, htk] at hi
    simp only [List.length_cons, List.length_nil] at hi
    rw [hsn]
    by_cases e : i = k
    · subst e
      have e1 : (dv ++ [v4]).getD i undef = v4 := by simp [List.getD, hdv]
      have e2 : ((tol σ T D).take i ++ [(x, T (σ.body j))]).getD i ([], []) = (x, T (σ.body j)) := by
        rw [List.getD, List.getElem?_append_right (by rw [htk]; exact Nat.le_refl _), htk]
        simp
      rw [e1, e2]
      exact hrows (own_belowD hO4 (alb w4 o))
    · have hik : i < k := by omega
      have e1 : (dv ++ [v4]).getD i undef = dv.getD i undef := by rw [List.getD, List.getElem?_append_left (by omega), List.getD]
      have e2 : ((tol σ T D).take k ++ [(x, T (σ.body j))]).getD i ([], []) = ((tol σ T D).take k).getD i ([], []) := by rw [List.getD, List.getElem?_append_left (by rw [htk]; exact hik), List.getD]
      rw [e1, e2]
      exact hrows (own_belowD (hobs i hik) ba)
  · have hl2 : b < wr.heap.size := Nat.lt_of_lt_of_le hl h.tn.size
    refine (hg5.block b (Nat.lt_of_lt_of_le hl2 ba.size) (fun e => ?_)).trans ((ba.block b hl2).trans (h.tn.block b hl hne))
    rcases h.bl b e.symm with h9 | h9
    · exact hne h9
    · omega
  · rcases hloc with h9 | h9
    · exact h.bl g (h9 ▸ hg)
    · rw [h9] at hg
      injection hg with hg
      right
      omega
section
attribute [local irreducible] Calls
set_option maxHeartbeats 4000000 in
set_option maxRecDepth 1000000 in
theorem files_im {w : World} {m : List Nat} (σ : Ds) (mp : Option Nat) (D : Dir) (hmp : (mp = none ∧ D = .map []) ∨ ∃ s, mp = some s ∧ MpAt w m s D) (nn : NN D) (hs : Maps.size D ≤ 1000000000) (T : Bd → Tx) (hlen : ∀ i, (T (σ.body i)).length ≤ 140737488355328)
    (hT : ∀ w', Below w.heap.size w w' → ∀ i, i < m.length → Calls Tryz.prog 56 #[.pointer (some ⟨m.getD i 0, 0, none⟩)] w' fun e w'' => ∃ v, e = .returned v ∧ Tv w'' v (T (σ.body i)) ∧ Below w'.heap.size w' w'') :
    Calls Tryz.prog 55 #[.map mp, .func (.func 56) #[] #[]] w fun e w' => ∃ v, e = .returned v ∧ FsAt w' w.heap.size v (tol σ T D) ∧ Below w.heap.size w w' := by
  have hln := len_dir hmp
  obtain ⟨wm, hmk, hF0, hbm⟩ := make_files (n := Maps.size D) (by omega) w
  have RI := (show Hid (∀ w1, Below w.heap.size w w1 → Calls Tryz.prog 73 #[.map mp] w1 fun e w' => ∃ v, e = .returned v ∧ Ts w' w1.heap.size v (nms D) ∧ Below w1.heap.size w1 w') from by
    intro w1 hb
    rcases hmp with ⟨rfl, rfl⟩ | ⟨s, rfl, hM⟩
    · rw [nms_nil]
      exact (rising_nil w1).mono (fun e w' h => ⟨_, h.1, ts_nil _ _, h.2⟩)
    · exact rising_any (om_upto hM hb) (by omega))
  have HM := (show Hid (_ ∧ _ ∧ _) from ⟨hmp, nn, hlen⟩)
  have hnb0 := nms_small hmp hs
  have HT := (show Hid _ from hT)
  have HF := (show Hid _ from hF0)
  have HB := (show Hid _ from hbm)
  generalize Maps.size D = nd at *
  clear hmp nn hT hF0 hbm hlen hs
  go_enter Tryz.func55, Tryz.ntmps55
  go_wp2_with (go_at_call 73; refine (RI.out wm HB.out).mono ?_; rintro e w2 ⟨vn, rfl, hTs, hb2⟩; obtain ⟨pn, cn, rfl⟩ := own_len hTs)
  obtain ⟨n, hn⟩ : ∃ n, n = (nms D).length := ⟨_, rfl⟩
  rw [← hn]
  have HN := (show Hid _ from hn)
  have HS := (show Hid _ from hTs)
  have HB2 := (show Hid _ from btD HB.out hb2)
  have hwm := (show w.heap.size < wm.heap.size from mk_lt HF.out)
  have hw2 : w.heap.size < w2.heap.size := Nat.lt_of_lt_of_le hwm hb2.size
  have HF2 := (show Hid _ from HF.out.below hb2)
  have hnb : n ≤ 1000000000 := by rw [hn]; exact hnb0
  clear hn hTs hb2 HF HB hmk hln RI hnb0
  go_loopw [5, 14] (fun f i wr => ∃ k : Nat, k ≤ n ∧ i = .int .i64 k ∧ ∃ p c, f = .slice p k c ∧ Hid (FzR σ T D w w2 f k wr)) (fun _ i _ => n - (intOf i).toNat)
  case atStart => exact ⟨0, Nat.zero_le _, rfl, _, _, rfl, FzR.start HF2.out⟩
  case round =>
    obtain ⟨k, hk, rfl, pf, cf, rfl, hR⟩ := hrel
    by_cases hlt : k < n
    · have hi : (k : Int) < (n : Int) := by omega
      have hkx : k < (nms D).length := by rw [← HN.out]; exact hlt
      obtain ⟨g, cg, cur, hp, hgb, hck⟩ := own_cell HS.out k hkx
      injection hp with hp _ hcc
      subst hp hcc
      obtain ⟨x, hx⟩ : ∃ x, x = (nms D).getD k [] := ⟨_, rfl⟩
      have hxe : ((nms D).map encStr).getD k undef = encStr x := by rw [hx]; simp [hkx]
      rw [hxe] at hck
      have hck2 : wr.cell? ⟨g, k, none⟩ = some (encStr x) := hR.out.text hgb hck
      have hbw : Below w.heap.size w wr := hR.out.all HB2.out
      have hxm : x ∈ nms D := by rw [hx]; simp [hkx]
      obtain ⟨j, s, hmpe, hlk, hj, hlook⟩ := fil_look HM.out.1 HM.out.2.1 hxm hbw
      subst hmpe
      have TO := (show Hid _ from HT.out wr hbw j hj)
      have hdl := HM.out.2.2 j
      obtain ⟨q, hq⟩ : ∃ q, q = m.getD j 0 := ⟨_, rfl⟩
      rw [← hq] at hlook TO
      clear hq hj
      obtain ⟨i0, hi0, hz0, hz1, hz2⟩ := info_parts info_File
      obtain ⟨dv, hdv, hrow0, hobs0⟩ := hR.out.fs.ex
      have htk : ((tol σ T D).take k).length = k := by rw [List.length_take, tol_len, ← HN.out]; omega
      rw [htk] at hdv hrow0 hobs0
      obtain ⟨fl0, hfl⟩ : ∃ fl0, fl0 = flc ((((tol σ T D).take k).map (·.1)).zip dv) := ⟨_, rfl⟩
      rw [← hfl] at hrow0
      have HO := (show Hid (_ ∧ _ ∧ _ ∧ _) from ⟨hdv, hobs0, hfl, hkx⟩)
      clear hdv hobs0 hfl htk hkx
      have HX := (show Hid (_ ∧ _) from ⟨hx, hlk⟩)
      clear hck hgb hxe hx hxm hlk
      go_wp2_with (first
        | (go_at_call 56; refine TO.out.mono ?_; rintro e w3 ⟨v3, rfl, hTv, hb3⟩)
        | (go_at_call 40; refine (cloneTv hTv hdl).mono ?_; rintro e w4 ⟨p4, n4, c4, rfl, hO4, hb4⟩; have RW := own_belowD hrow0 (btD (btD hb3 hb4) (alb w4 (.cells #[encStr x, .slice p4 n4 c4] 58))))
        | (at_builtin; refine wpList_append_own_at _ rfl _ _ 55 rfl w.heap.size 58 i0 _ 2 40 Tryz.underlying55 hi0 hz0 hz1 hz2 rfl (by decide) _ _ _ rfl RW ⟨w4.heap.size, 0, none⟩ 1 1 [encStr x, .slice p4 n4 c4] rfl rfl (two_newD w4 _ _ _) (by simp [Value.oneCell', encStr]) (by unfold maxLen; omega) (by omega) (by have := hbw.size; have := hb3.size; have := hb4.size; simp; omega) ?_; intro v5 w5 hown5 hg5 _ hloc5))
      refine ⟨⟨k + 1, by omega, by go_num, ?_⟩, by simp [intOf]; omega⟩
      obtain ⟨p5, c5, hv5⟩ := own_len hown5
      refine ⟨p5, c5, hv5, ?_⟩
      obtain ⟨hdv, hobs0, hfl, hkx⟩ := HO.out
      exact hR.out.push hkx HX.out.1 HX.out.2 (btD hb3 hb4) hdv hobs0 hfl (ob_up hO4 (Nat.le_trans hbw.size hb3.size)) RW hown5 hg5 hloc5
    · obtain rfl : k = n := by omega
      have hi : ¬ (k : Int) < (k : Int) := by omega
      go_wp2
      go_ret
      refine ⟨_, rfl, ?_, hR.out.all HB2.out⟩
      have := hR.out.fs
      rw [List.take_of_length_le (by unfold tol; rw [List.length_map, ← HN.out]; exact Nat.le_refl _)] at this
      exact this
set_option maxHeartbeats 4000000 in
set_option maxRecDepth 1000000 in
theorem files_sa {w : World} {m : List Nat} (σ : Ds) (mp : Option Nat) (D : Dir) (hmp : (mp = none ∧ D = .map []) ∨ ∃ s, mp = some s ∧ MpAt w m s D) (nn : NN D) (hs : Maps.size D ≤ 1000000000) (T : Bd → Tx) (hlen : ∀ i, (T (σ.body i)).length ≤ 140737488355328)
    (hT : ∀ w', Below w.heap.size w w' → ∀ i, i < m.length → Calls Tryz.prog 57 #[.pointer (some ⟨m.getD i 0, 0, none⟩)] w' fun e w'' => ∃ v, e = .returned v ∧ Tv w'' v (T (σ.body i)) ∧ Below w'.heap.size w' w'') :
    Calls Tryz.prog 55 #[.map mp, .func (.func 57) #[] #[]] w fun e w' => ∃ v, e = .returned v ∧ FsAt w' w.heap.size v (tol σ T D) ∧ Below w.heap.size w w' := by
  have hln := len_dir hmp
  obtain ⟨wm, hmk, hF0, hbm⟩ := make_files (n := Maps.size D) (by omega) w
  have RI := (show Hid (∀ w1, Below w.heap.size w w1 → Calls Tryz.prog 73 #[.map mp] w1 fun e w' => ∃ v, e = .returned v ∧ Ts w' w1.heap.size v (nms D) ∧ Below w1.heap.size w1 w') from by
    intro w1 hb
    rcases hmp with ⟨rfl, rfl⟩ | ⟨s, rfl, hM⟩
    · rw [nms_nil]
      exact (rising_nil w1).mono (fun e w' h => ⟨_, h.1, ts_nil _ _, h.2⟩)
    · exact rising_any (om_upto hM hb) (by omega))
  have HM := (show Hid (_ ∧ _ ∧ _) from ⟨hmp, nn, hlen⟩)
  have hnb0 := nms_small hmp hs
  have HT := (show Hid _ from hT)
  have HF := (show Hid _ from hF0)
  have HB := (show Hid _ from hbm)
  generalize Maps.size D = nd at *
  clear hmp nn hT hF0 hbm hlen hs
  go_enter Tryz.func55, Tryz.ntmps55
  go_wp2_with (go_at_call 73; refine (RI.out wm HB.out).mono ?_; rintro e w2 ⟨vn, rfl, hTs, hb2⟩; obtain ⟨pn, cn, rfl⟩ := own_len hTs)
  obtain ⟨n, hn⟩ : ∃ n, n = (nms D).length := ⟨_, rfl⟩
  rw [← hn]
  have HN := (show Hid _ from hn)
  have HS := (show Hid _ from hTs)
  have HB2 := (show Hid _ from btD HB.out hb2)
  have hwm := (show w.heap.size < wm.heap.size from mk_lt HF.out)
  have hw2 : w.heap.size < w2.heap.size := Nat.lt_of_lt_of_le hwm hb2.size
  have HF2 := (show Hid _ from HF.out.below hb2)
  have hnb : n ≤ 1000000000 := by rw [hn]; exact hnb0
  clear hn hTs hb2 HF HB hmk hln RI hnb0
  go_loopw [5, 14] (fun f i wr => ∃ k : Nat, k ≤ n ∧ i = .int .i64 k ∧ ∃ p c, f = .slice p k c ∧ Hid (FzR σ T D w w2 f k wr)) (fun _ i _ => n - (intOf i).toNat)
  case atStart => exact ⟨0, Nat.zero_le _, rfl, _, _, rfl, FzR.start HF2.out⟩
  case round =>
    obtain ⟨k, hk, rfl, pf, cf, rfl, hR⟩ := hrel
    by_cases hlt : k < n
    · have hi : (k : Int) < (n : Int) := by omega
      have hkx : k < (nms D).length := by rw [← HN.out]; exact hlt
      obtain ⟨g, cg, cur, hp, hgb, hck⟩ := own_cell HS.out k hkx
      injection hp with hp _ hcc
      subst hp hcc
      obtain ⟨x, hx⟩ : ∃ x, x = (nms D).getD k [] := ⟨_, rfl⟩
      have hxe : ((nms D).map encStr).getD k undef = encStr x := by rw [hx]; simp [hkx]
      rw [hxe] at hck
      have hck2 : wr.cell? ⟨g, k, none⟩ = some (encStr x) := hR.out.text hgb hck
      have hbw : Below w.heap.size w wr := hR.out.all HB2.out
      have hxm : x ∈ nms D := by rw [hx]; simp [hkx]
      obtain ⟨j, s, hmpe, hlk, hj, hlook⟩ := fil_look HM.out.1 HM.out.2.1 hxm hbw
      subst hmpe
      have TO := (show Hid _ from HT.out wr hbw j hj)
      have hdl := HM.out.2.2 j
      obtain ⟨q, hq⟩ : ∃ q, q = m.getD j 0 := ⟨_, rfl⟩
      rw [← hq] at hlook TO
      clear hq hj
      obtain ⟨i0, hi0, hz0, hz1, hz2⟩ := info_parts info_File
      obtain ⟨dv, hdv, hrow0, hobs0⟩ := hR.out.fs.ex
      have htk : ((tol σ T D).take k).length = k := by rw [List.length_take, tol_len, ← HN.out]; omega
      rw [htk] at hdv hrow0 hobs0
      obtain ⟨fl0, hfl⟩ : ∃ fl0, fl0 = flc ((((tol σ T D).take k).map (·.1)).zip dv) := ⟨_, rfl⟩
      rw [← hfl] at hrow0
      have HO := (show Hid (_ ∧ _ ∧ _ ∧ _) from ⟨hdv, hobs0, hfl, hkx⟩)
      clear hdv hobs0 hfl htk hkx
      have HX := (show Hid (_ ∧ _) from ⟨hx, hlk⟩)
      clear hck hgb hxe hx hxm hlk
      go_wp2_with (first
        | (go_at_call 57; refine TO.out.mono ?_; rintro e w3 ⟨v3, rfl, hTv, hb3⟩)
        | (go_at_call 40; refine (cloneTv hTv hdl).mono ?_; rintro e w4 ⟨p4, n4, c4, rfl, hO4, hb4⟩; have RW := own_belowD hrow0 (btD (btD hb3 hb4) (alb w4 (.cells #[encStr x, .slice p4 n4 c4] 58))))
        | (at_builtin; refine wpList_append_own_at _ rfl _ _ 55 rfl w.heap.size 58 i0 _ 2 40 Tryz.underlying55 hi0 hz0 hz1 hz2 rfl (by decide) _ _ _ rfl RW ⟨w4.heap.size, 0, none⟩ 1 1 [encStr x, .slice p4 n4 c4] rfl rfl (two_newD w4 _ _ _) (by simp [Value.oneCell', encStr]) (by unfold maxLen; omega) (by omega) (by have := hbw.size; have := hb3.size; have := hb4.size; simp; omega) ?_; intro v5 w5 hown5 hg5 _ hloc5))
      refine ⟨⟨k + 1, by omega, by go_num, ?_⟩, by simp [intOf]; omega⟩
      obtain ⟨p5, c5, hv5⟩ := own_len hown5
      refine ⟨p5, c5, hv5, ?_⟩
      obtain ⟨hdv, hobs0, hfl, hkx⟩ := HO.out
      exact hR.out.push hkx HX.out.1 HX.out.2 (btD hb3 hb4) hdv hobs0 hfl (ob_up hO4 (Nat.le_trans hbw.size hb3.size)) RW hown5 hg5 hloc5
    · obtain rfl : k = n := by omega
      have hi : ¬ (k : Int) < (k : Int) := by omega
      go_wp2
      go_ret
      refine ⟨_, rfl, ?_, hR.out.all HB2.out⟩
      have := hR.out.fs
      rw [List.take_of_length_le (by unfold tol; rw [List.length_map, ← HN.out]; exact Nat.le_refl _)] at this
      exact this
theorem Ob.tv {w : World} {base : Nat} {v : Value} {d : Tx} (h : Ob w base v d) : Tv w v d := by
  by_cases hd : d = []
  · subst hd
    rcases h.2 with ⟨hv, _⟩ | ⟨g, cap, cur, hv, _⟩
    · exact .inl ⟨hv, rfl⟩
    · exact .inr ⟨g, cap, hv, fun i hi => absurd hi (Nat.not_lt_zero _)⟩
  · obtain ⟨g, c, h1, h2⟩ := h.shape hd
    exact .inr ⟨g, c, h1, h2⟩
set_option maxRecDepth 1000000 in
theorem imf_any {w : World} {F : Nat → Prop} {b : Nat} {x : Bd} {v : Value} (h : BdAt w F b x v) : Calls Tryz.prog 56 #[.pointer (some ⟨b, 0, none⟩)] w fun e w' => ∃ v, e = .returned v ∧ Tv w' v x.data ∧ Below w.heap.size w w' := by
  have c0 := h.cells.1
  have HT := (show Hid _ from h.row.tv)
  clear h
  go_enter Tryz.func56, Tryz.ntmps56
  go_wp2
  go_ret
  exact ⟨_, rfl, HT.out, Below.refl _ _⟩
set_option maxRecDepth 1000000 in
theorem saf_any {w : World} {F : Nat → Prop} {b : Nat} {x : Bd} {v : Value} (h : BdAt w F b x v) (hs : x.safe ≤ x.data.length) : Calls Tryz.prog 57 #[.pointer (some ⟨b, 0, none⟩)] w fun e w' => ∃ v, e = .returned v ∧ Tv w' v (x.data.take x.safe) ∧ Below w.heap.size w w' := by
  obtain ⟨c0, c1⟩ := h.cells
  obtain ⟨p, c, hnc, rfl⟩ : ∃ p c, x.data.length ≤ c ∧ v = .slice p x.data.length c := by
    rcases h.row.2 with ⟨hv, h1⟩ | ⟨g, cap, cur, hv, _, _, h2, _⟩
    · exact ⟨none, 0, by omega, by rw [hv, h1]⟩
    · exact ⟨_, _, h2, hv⟩
  have HT := (show Hid (∀ z, Tv (w.drewN z) (.slice p x.safe c) (x.data.take x.safe)) from fun z => by
    rcases h.row.tv with ⟨e, hd⟩ | ⟨g, c', e, hc⟩
    · injection e with e1 e2 e3
      subst e1 e3
      have hs0 : x.safe = 0 := by rw [hd] at hs; simpa using hs
      exact .inl ⟨by rw [hs0], by rw [hs0]; rfl⟩
    · injection e with e1 e2 e3
      subst e1 e3
      have hl : (x.data.take x.safe).length = x.safe := by rw [List.length_take]; omega
      refine .inr ⟨g, c, by rw [hl], fun i hi => ?_⟩
      rw [hl] at hi
      have := hc i (by omega)
      rw [show (x.data.take x.safe).getD i 0 = x.data.getD i 0 by simp [List.getD, hi]]
      exact this)
  have hcc : (x.safe : Int) ≤ (c : Int) := by omega
  obtain ⟨sf, hsf⟩ : ∃ s, s = x.safe := ⟨_, rfl⟩
  rw [← hsf] at c1 hcc HT ⊢
  have hss : sf ≤ c := by omega
  clear h hs hnc hsf
  go_enter Tryz.func57, Tryz.ntmps57
  go_wp2
  go_quiet (fail)
  go_wp2
  go_ret
  exact ⟨_, rfl, HT.out _, ⟨rfl, rfl, rfl, Nat.le_refl _, fun _ _ => rfl⟩⟩
set_option maxRecDepth 1000000 in
theorem image_any {w : World} {db k : Nat} {σ : Ds} {F : Nat → Prop} (h : DrAt w db σ F) (ok : Okk k σ) (hk : k ≤ 134217728) : Calls Tryz.prog 29 #[.pointer (some ⟨db, 0, none⟩)] w fun e w' => ∃ v, e = .returned v ∧ FsAt w' w.heap.size v (tol σ (·.data) σ.st) ∧ Below w.heap.size w w' := by
  obtain ⟨hFd, hFw, m, rv, st, sf, pv, S, R⟩ := h
  have c2 := S.cell.2.2.1
  have FI := (show Hid _ from files_im (w := w) (m := m) σ st σ.st (by
    rcases R.dirs with ⟨rfl, rfl, e1, _⟩ | ⟨s, f, rfl, rfl, _, _, _, h1, _⟩
    · exact .inl ⟨rfl, e1⟩
    · exact .inr ⟨s, rfl, h1⟩) ok.nn (by have := ok.ss; omega) (·.data) (fun i => by have := ok.bl i; omega) (fun w' hb i hi => imf_any ((R.below hb).bod i (by rw [← R.len]; exact hi))))
  clear S R ok hFw hFd
  go_enter Tryz.func29, Tryz.ntmps29
  go_wp2_with (go_at_call 55; refine FI.out.mono ?_; rintro e w1 ⟨v, rfl, h1, h2⟩)
  go_ret
  exact ⟨v, rfl, h1, h2⟩
set_option maxRecDepth 1000000 in
theorem safe_any {w : World} {db k : Nat} {σ : Ds} {F : Nat → Prop} (h : DrAt w db σ F) (ok : Okk k σ) (hk : k ≤ 134217728) : Calls Tryz.prog 30 #[.pointer (some ⟨db, 0, none⟩)] w fun e w' => ∃ v, e = .returned v ∧ FsAt w' w.heap.size v (tol σ (fun b => b.data.take b.safe) σ.sf) ∧ Below w.heap.size w w' := by
  obtain ⟨hFd, hFw, m, rv, st, sf, pv, S, R⟩ := h
  have c3 := S.cell.2.2.2.1
  have FI := (show Hid _ from files_sa (w := w) (m := m) σ sf σ.sf (by
    rcases R.dirs with ⟨rfl, rfl, _, e1, _⟩ | ⟨s, f, rfl, rfl, _, _, _, _, h1⟩
    · exact .inl ⟨rfl, e1⟩
    · exact .inr ⟨f, rfl, h1⟩) ok.nf (by have := ok.sp; omega) (fun b => b.data.take b.safe) (fun i => by have := ok.bl i; simp; omega) (fun w' hb i hi => saf_any ((R.below hb).bod i (by rw [← R.len]; exact hi)) (ok.sa i)))
  clear S R ok hFw hFd
  go_enter Tryz.func30, Tryz.ntmps30
  go_wp2_with (go_at_call 55; refine FI.out.mono ?_; rintro e w1 ⟨v, rfl, h1, h2⟩)
  go_ret
  exact ⟨v, rfl, h1, h2⟩
end
end Go.Proofs.YtjobaeopokfekaaGreat
/-
  left, safeBody of a drive; Loose, Wipe.
-/
namespace Go.Proofs.YtjobaeopokfekaaGreat
open Go.RowKit Go.Maps Go.Sort
/-- What a loss of power leaves of a body. -/
def lft (x : Bd) (cut : Int) : Tx := x.data.take (x.safe + min (max cut 0).toNat (x.data.length - x.safe))
theorem tv_take {w : World} {v : Value} {d : Tx} {p : Option Addr} {n c : Nat} (h : Tv w v d) (hv : v = .slice p n c) (k : Nat) (hk : k ≤ d.length) : Tv w (.slice p k c) (d.take k) := by
  subst hv
  have hl : (d.take k).length = k := by rw [List.length_take]; omega
  rcases h with ⟨e, rfl⟩ | ⟨g, c', e, hc⟩
  · injection e with e1 e2 e3
    subst e1 e3
    have : k = 0 := by simpa using hk
    subst this
    exact .inl ⟨rfl, rfl⟩
  · injection e with e1 e2 e3
    subst e1 e3
    refine .inr ⟨g, c, by rw [hl], fun i hi => ?_⟩
    rw [hl] at hi
    rw [show (d.take k).getD i 0 = d.getD i 0 by simp [List.getD, hi]]
    exact hc i (by omega)
section
attribute [local irreducible] Calls
set_option maxRecDepth 1000000 in
theorem safeBody_any (p : Option Addr) (n c : Nat) (w : World) : Calls Tryz.prog 39 #[.slice p n c] w fun e w' => e = .returned (.pointer (some ⟨w.heap.size, 0, none⟩)) ∧ w' = w.alloc (.cells #[.slice p n c, .int .i64 (n : Int)] 103) := by
  go_enter Tryz.func39, Tryz.ntmps39
  go_wp2
  go_ret
  exact ⟨rfl, rfl⟩
end
end Go.Proofs.YtjobaeopokfekaaGreat
/-
  A loss of power: one name's turn.
-/
namespace Go.Proofs.YtjobaeopokfekaaGreat
open Go.RowKit Go.Maps Go.Sort
/-- A new body with bytes. -/
theorem Rest.addBody2 {w : World} {F : Nat → Prop} {σ : Ds} {m : List Nat} {rv : Nat → Value} {st sf : Option Nat} {pv : Value} {N : Nat} (h : Rest w F σ m rv st sf pv) (hN : ∀ b, F b → b < N) (hNw : N ≤ w.heap.size) (v : Value) (x : Bd) (hrow : Ob w N v x.data) :
    Rest (w.alloc (.cells #[v, .int .i64 (x.safe : Int)] 103)) (fun b => F b ∨ (N ≤ b ∧ b ≤ w.heap.size)) { σ with bs := σ.bs ++ [x] } (m ++ [w.heap.size]) (fun i => if i < σ.bs.length then rv i else v) st sf pv := by
  have h1 := (h.alloc (.cells #[v, .int .i64 (x.safe : Int)] 103)).more (G := fun b => F b ∨ (N ≤ b ∧ b ≤ w.heap.size)) (fun b hb => .inl hb)
  have hvg : ∀ g, v.ownBlock = some g → N ≤ g ∧ g < w.heap.size := fun g hg => by
    rcases hrow.2 with ⟨hv, _⟩ | ⟨g', cap, c, hv, h2, hh, _⟩
    · rw [hv] at hg; cases hg
    · rw [hv] at hg
      simp [Value.ownBlock] at hg
      subst hg
      exact ⟨h2, blt hh⟩
  refine ⟨?_, by simp [h1.len], ?_, fun i hi => ?_, ?_, ?_, h1.pvF⟩
  · rcases h1.dirs with h2 | ⟨s, f, e1, e2, hne, f1, f2, m1, m2⟩
    · exact .inl h2
    · exact .inr ⟨s, f, e1, e2, hne, f1, f2, om_more m1 _, om_more m2 _⟩
  · rw [List.nodup_append]
    refine ⟨h1.nodup, by simp, fun a ha b hb e => ?_⟩
    obtain ⟨i, hi, rfl⟩ := List.getElem_of_mem ha
    have hb' : b = w.heap.size := by simpa using hb
    have hi' : i < σ.bs.length := by rw [← h.len]; exact hi
    have := hN _ (h.bod i hi').inF
    have e3 : m.getD i 0 = m[i] := by simp [hi]
    omega
  · by_cases hlt : i < σ.bs.length
    · have hb := h1.bod i hlt
      have e1 : (m ++ [w.heap.size]).getD i 0 = m.getD i 0 := getD_app _ _ _ (by rw [h.len]; exact hlt)
      have e2 : Ds.body { σ with bs := σ.bs ++ [x] } i = σ.body i := by unfold Ds.body; exact getD_app _ _ _ hlt
      simp only [e1, e2, if_pos hlt]
      exact hb
    · have hi' : i = σ.bs.length := by simp at hi; omega
      subst hi'
      have e1 : (m ++ [w.heap.size]).getD σ.bs.length 0 = w.heap.size := by rw [← h.len]; simp
      have e2 : Ds.body { σ with bs := σ.bs ++ [x] } σ.bs.length = x := by simp [Ds.body]
      simp only [e1, e2, if_neg hlt]
      refine ⟨heap_alloc_new w _, ob_up (own_belowD hrow (alb w _)) (Nat.zero_le _), .inr ⟨hNw, Nat.le_refl _⟩, fun g hg => ?_⟩
      have := hvg g hg
      exact .inr ⟨this.1, by omega⟩
  · intro i j g hi hj hne e1 e2
    by_cases h3 : i < σ.bs.length
    · rw [if_pos h3] at e1
      by_cases h4 : j < σ.bs.length
      · rw [if_pos h4] at e2
        exact h.sep i j g h3 h4 hne e1 e2
      · rw [if_neg h4] at e2
        have g1 := (hvg g e2).1
        have g2 := hN g ((h.bod i h3).rowF g e1)
        omega
    · rw [if_neg h3] at e1
      by_cases h4 : j < σ.bs.length
      · rw [if_pos h4] at e2
        have g1 := (hvg g e1).1
        have g2 := hN g ((h.bod j h4).rowF g e2)
        omega
      · simp at hi hj; omega
  · obtain ⟨cv, p1, p2, p3⟩ := h1.pnd
    refine ⟨cv, p1, p2, fun j hj => ?_⟩
    obtain ⟨⟨g, cap, e1, hF, hg⟩, i1, i2⟩ := p3 j hj
    refine ⟨⟨g, cap, e1, hF, ?_⟩, fun l hl i e => ?_, i2⟩
    · rw [ldc_more i1]; exact hg
    · have := i1 l hl i e
      simp; omega
/-- A name is made to lead elsewhere in what is safe. -/
theorem Rest.putSf {w w' : World} {F : Nat → Prop} {σ : Ds} {m : List Nat} {rv : Nat → Value} {st : Option Nat} {f n : Nat} {pv : Value} {D : Dir} (h : Rest w F σ m rv st (some f) pv) (hown : w'.ownsMap Tryz.prog 9 (ptR m) f n D) (hg : w.grownBy w' (some f)) : Rest w' F { σ with sf := D } m rv st (some f) pv := by
  obtain ⟨s, f', e1, e2, hne, f1, f2, m1, m2⟩ : ∃ s f', st = some s ∧ some f = some f' ∧ s ≠ f' ∧ F s ∧ F f' ∧ MpAt w m s σ.st ∧ MpAt w m f' σ.sf := by
    rcases h.dirs with ⟨_, e, _⟩ | h9
    · cases e
    · exact h9
  injection e2 with e2
  subst e2
  obtain ⟨es, ck, hob, _⟩ := m2
  have hcell : ∀ {b : Nat} {c : Array Value} {t : TypeId} {r : Nat × Nat}, w.heap[b]? = some (.cells c t r) → w'.heap[b]? = w.heap[b]? := by
    intro b c t r hb
    refine hg.block b (blt hb) (fun e => ?_)
    injection e with e
    subst e
    rw [hob] at hb
    cases hb
  have hrow : ∀ {e : TypeId} {sz n : Nat} {v : Value} {xs : List Value}, w.ownsRow 0 e sz v n xs → w'.ownsRow 0 e sz v n xs := by
    intro e sz n v xs h1
    refine ob_same h1 fun g hg => ?_
    rcases h1.2 with ⟨hv, _⟩ | ⟨g', cap, c, hv, _, hh, _⟩
    · rw [hv] at hg; cases hg
    · rw [hv] at hg
      simp [Value.ownBlock] at hg
      subst hg
      exact hcell hh
  refine ⟨.inr ⟨s, f, e1, rfl, hne, f1, f2, om_same m1 (hg.block s ?_ (fun e => by injection e with e; exact hne e)), om_tight hown⟩, h.len, h.nodup, fun i hi => ?_, h.sep, ?_, h.pvF⟩
  · obtain ⟨es', ck', ho', _⟩ := m1
    exact blt ho'
  · have B := h.bod i hi
    exact ⟨(hcell B.blk).trans B.blk, hrow B.row, B.inF, B.rowF⟩
  · obtain ⟨cv, p1, p2, p3⟩ := h.pnd
    refine ⟨cv, hrow p1, p2, fun j hj => ?_⟩
    obtain ⟨⟨g, cap, e3, hF, hgb⟩, i1, i2⟩ := p3 j hj
    exact ⟨⟨g, cap, e3, hF, (hcell hgb).trans hgb⟩, i1, i2⟩
/-- One name's turn in a loss of power. -/
def crs1 (σ : Ds) (x : Tx) (cut : Int) : Ds := { σ with sf := σ.sf.put (.string x) (ip σ.bs.length), bs := σ.bs ++ [⟨lft (σ.body ((lk σ.sf x).getD 0)) cut, (lft (σ.body ((lk σ.sf x).getD 0)) cut).length⟩], used := σ.used + (lft (σ.body ((lk σ.sf x).getD 0)) cut).length }
theorem crs1_end {wr w4 w6 : World} {db f i n : Nat} {F : Nat → Prop} {σ : Ds} {m : List Nat} {rv : Nat → Value} {st : Option Nat} {pv : Value} (S : StAt wr db σ.room σ.used st (some f) pv) (R : Rest wr F σ m rv st (some f) pv) (hFd : F db) (hFw : ∀ b, F b → b < wr.heap.size) (x : Tx) (cut : Int) (hlk : lk σ.sf x = some i) (p : Option Addr) (ln c : Nat) (hb4 : Below wr.heap.size wr w4) (hO : Ob w4 wr.heap.size (.slice p ln c) (lft (σ.body i) cut)) (hln : ln = (lft (σ.body i) cut).length)
    (hown : w6.ownsMap Tryz.prog 9 (ptR (m ++ [w4.heap.size])) f n (σ.sf.put (.string x) (ip σ.bs.length))) (hg : (w4.alloc (.cells #[.slice p ln c, .int .i64 (ln : Int)] 103)).drew.grownBy w6 (some f)) :
    DrAt (w6.setCell ⟨db, 1, none⟩ (.int .i64 (σ.used + (ln : Int)))) db (crs1 σ x cut) (Fn F wr (w6.setCell ⟨db, 1, none⟩ (.int .i64 (σ.used + (ln : Int))))) ∧ Tn F wr (w6.setCell ⟨db, 1, none⟩ (.int .i64 (σ.used + (ln : Int)))) ∧ w6.cell? ⟨db, 1, none⟩ = some (.int .i64 σ.used) ∧ w6.frozen? ⟨db, 1, none⟩ = false := by
  have hfF : F f := by
    rcases R.dirs with ⟨_, e, _⟩ | ⟨s, f', _, e, _, _, f2, _⟩
    · cases e
    · injection e with e; subst e; exact f2
  have hN : ∀ b, F b → b < wr.heap.size := hFw
  have R4 := (R.below hb4).addBody2 hN hb4.size (.slice p ln c) ⟨lft (σ.body i) cut, ln⟩ hO
  have hg' : (w4.alloc (.cells #[.slice p ln c, .int .i64 (ln : Int)] 103)).grownBy w6 (some f) := ⟨hg.os, hg.tape, hg.output, hg.size, hg.block⟩
  have R6 := R4.putSf hown hg'
  have b5 := btD hb4 (alb w4 (.cells #[.slice p ln c, .int .i64 (ln : Int)] 103))
  have S5 := S.below b5
  have S6 : StAt w6 db σ.room σ.used st (some f) pv := by
    refine (hg'.block db (blt S5) (fun e => ?_)).trans S5
    injection e with e
    subst e
    rcases R.dirs with ⟨_, e, _⟩ | ⟨s, f', _, e, _, _, _, _, hM⟩
    · cases e
    · injection e with e
      subst e
      obtain ⟨es, ck, ho, _⟩ := hM
      have h9 : wr.heap[db]? = _ := S
      rw [ho] at h9
      cases h9
  have T6 : Tn F wr w6 := ⟨hg'.os.trans b5.os, hg'.tape.trans b5.tape, hg'.output.trans b5.output, Nat.le_trans b5.size hg'.size, fun k hk hn => (hg'.block k (Nat.lt_of_lt_of_le hk b5.size) (fun e => by injection e with e; subst e; exact hn hfF)).trans (b5.block k hk)⟩
  have hs6 : w4.heap.size < w6.heap.size := by have := hg'.size; simp at this; omega
  have e0 : (lk σ.sf x).getD 0 = i := by rw [hlk]; rfl
  have eu : (crs1 σ x cut).used = σ.used + (ln : Int) := by unfold crs1; rw [e0, hln]
  refine ⟨⟨.inl hFd, ?_, m ++ [w4.heap.size], (fun j => if j < σ.bs.length then rv j else .slice p ln c), st, some f, pv, by rw [eu]; exact S6.set1 _, ?_⟩, T6.trans (Tn.setCell (F := F) w6 ⟨db, 1, none⟩ hFd _), S6.cell.2.1, S6.frozen 1⟩
  · rintro b (h | h)
    · have := hFw b h
      have := T6.size
      simp [World.setCell]
      omega
    · exact h.2
  · have R7 := (R6.setSt S6 1 (.int .i64 (σ.used + (ln : Int)))).more (G := Fn F wr (w6.setCell ⟨db, 1, none⟩ (.int .i64 (σ.used + (ln : Int))))) (by
      rintro b (h | h)
      · exact .inl h
      · refine .inr ⟨h.1, ?_⟩
        simp [World.setCell]
        omega)
    unfold crs1
    rw [e0, ← hln]
    exact R7.used _
end Go.Proofs.YtjobaeopokfekaaGreat
/-
  Crash of a drive.
-/
namespace Go.Proofs.YtjobaeopokfekaaGreat
open Go.RowKit Go.Maps Go.Sort
/-- What is safe behind the first k changes that are kept. -/
def crf (σ : Ds) (dirs : List Bool) (k : Nat) : Dir := (List.range k).foldl (fun D i => if dirs.getD i false = true then fol D (σ.pend.getD i []) else D) σ.sf
theorem crf_succ (σ : Ds) (dirs : List Bool) (k : Nat) : crf σ dirs (k + 1) = if dirs.getD k false = true then fol (crf σ dirs k) (σ.pend.getD k []) else crf σ dirs k := by
  unfold crf
  rw [List.range_succ, List.foldl_append]
  rfl
def cr1 (σ : Ds) (dirs : List Bool) : Ds := { σ with sf := crf σ dirs σ.pend.length, pend := [], used := 0 }
/-- Behind the first k names' turns. -/
def crn (τ : Ds) (cuts : List Int) (k : Nat) : Ds := (List.range k).foldl (fun ρ j => crs1 ρ ((nms τ.sf).getD j []) (cuts.getD j 0)) τ
theorem crn_succ (τ : Ds) (cuts : List Int) (k : Nat) : crn τ cuts (k + 1) = crs1 (crn τ cuts k) ((nms τ.sf).getD k []) (cuts.getD k 0) := by
  unfold crn
  rw [List.range_succ, List.foldl_append]
  rfl
/-- A loss of power. -/
def Ds.crash (σ : Ds) (dirs : List Bool) (cuts : List Int) : Ds := { crn (cr1 σ dirs) cuts (nms (cr1 σ dirs).sf).length with st := (crn (cr1 σ dirs) cuts (nms (cr1 σ dirs).sf).length).sf }
/-- Words of a fate in memory. -/
def Bls (w : World) (p : Option Addr) (xs : List Bool) : Prop := ∀ i, i < xs.length → ∃ b o, p = some ⟨b, o, none⟩ ∧ w.cell? ⟨b, o + i, none⟩ = some (.bool (xs.getD i false))
def Ils (w : World) (p : Option Addr) (xs : List Int) : Prop := ∀ i, i < xs.length → ∃ b o, p = some ⟨b, o, none⟩ ∧ w.cell? ⟨b, o + i, none⟩ = some (.int .i64 (xs.getD i 0))
/-- The first loop of Crash. -/
structure CrA (σ : Ds) (dirs : List Bool) (m : List Nat) (sf : Option Nat) (w : World) (k : Nat) (wr : World) : Prop where
  tn : Tn (fun b => sf = some b) w wr
  mp : ∀ f, sf = some f → MpAt wr m f (crf σ dirs k)
theorem CrA.start {w : World} {F : Nat → Prop} {σ : Ds} {m : List Nat} {rv : Nat → Value} {st sf : Option Nat} {pv : Value} (R : Rest w F σ m rv st sf pv) (dirs : List Bool) : CrA σ dirs m sf w 0 w := by
  have := SyR.start R
  exact ⟨this.tn, this.mp⟩
theorem CrA.cells {w wr : World} {F : Nat → Prop} {σ : Ds} {dirs : List Bool} {m : List Nat} {rv : Nat → Value} {st sf : Option Nat} {pv : Value} {k : Nat} (h : CrA σ dirs m sf w k wr) (R : Rest w F σ m rv st sf pv) {b : Nat} {c : Array Value} {t : TypeId} {r : Nat × Nat} (hb : w.heap[b]? = some (.cells c t r)) : wr.heap[b]? = w.heap[b]? := by
  refine h.tn.block b (blt hb) (fun e => ?_)
  rcases R.dirs with ⟨_, e2, _⟩ | ⟨s, f, _, e2, _, _, _, _, hM⟩
  · rw [e] at e2; cases e2
  · rw [e] at e2
    injection e2 with e2
    subst e2
    obtain ⟨es, ck, ho, _⟩ := hM
    rw [ho] at hb
    cases hb
theorem crf_small {w : World} {F : Nat → Prop} {σ : Ds} {m : List Nat} {rv : Nat → Value} {st sf : Option Nat} {pv : Value} (ok : Okp σ) (R : Rest w F σ m rv st sf pv) (dirs : List Bool) : ∀ k, k ≤ σ.pend.length → Tidy (crf σ dirs k) ∧ Maps.size (crf σ dirs k) ≤ Maps.size σ.sf + 2 * k
  | 0, _ => by
    refine ⟨?_, Nat.le_refl _⟩
    rcases R.dirs with ⟨_, _, _, e, _⟩ | ⟨s, f, _, _, _, _, _, _, hM⟩
    · show Tidy σ.sf; rw [e]; exact tidy_empty
    · exact hM.tidy lawS
  | k + 1, h => by
    obtain ⟨h1, h2⟩ := crf_small ok R dirs k (by omega)
    rw [crf_succ]
    split
    · obtain ⟨h3, h4⟩ := fol_tidy h1 (σ.pend.getD k [])
      have : (σ.pend.getD k []).length ≤ 2 := ok.pl _ (by simp [show k < σ.pend.length by omega])
      exact ⟨h3, by omega⟩
    · exact ⟨h1, by omega⟩
theorem cra_end {w wr : World} {db : Nat} {F : Nat → Prop} {σ : Ds} {dirs : List Bool} {m : List Nat} {rv : Nat → Value} {st sf : Option Nat} {pv : Value} (S : StAt w db σ.room σ.used st sf pv) (R : Rest w F σ m rv st sf pv) (hFd : F db) (hFw : ∀ b, F b → b < w.heap.size) (h : CrA σ dirs m sf w σ.pend.length wr) :
    DrAt ((wr.setCell ⟨db, 4, none⟩ (.slice none 0 0)).setCell ⟨db, 1, none⟩ (.int .i64 0)) db (cr1 σ dirs) F ∧ Tn F w ((wr.setCell ⟨db, 4, none⟩ (.slice none 0 0)).setCell ⟨db, 1, none⟩ (.int .i64 0)) := by
  have hfF : ∀ f, sf = some f → F f := fun f e => by
    rcases R.dirs with ⟨_, e2, _⟩ | ⟨s, f', _, e2, _, _, f2, _⟩
    · rw [e] at e2; cases e2
    · rw [e] at e2; injection e2 with e2; subst e2; exact f2
  have T0 : Tn F w wr := h.tn.more (fun b e => hfF b e)
  have S2 : StAt wr db σ.room σ.used st sf pv := (h.cells R S).trans S
  have hk : ∀ bl, bl ≠ db → ((wr.setCell ⟨db, 4, none⟩ (.slice none 0 0)).setCell ⟨db, 1, none⟩ (.int .i64 0)).heap[bl]? = wr.heap[bl]? := fun bl h => (Below.heap_setCell _ _ _ _ h).trans (Below.heap_setCell _ _ _ _ h)
  have hdb := heap_setCell_same _ db 1 _ _ (.int .i64 0) (heap_setCell_same wr db 4 _ _ (.slice none 0 0) S2)
  have T := (T0.trans (Tn.setCell (F := F) wr ⟨db, 4, none⟩ hFd (.slice none 0 0))).trans (Tn.setCell (F := F) _ ⟨db, 1, none⟩ hFd (.int .i64 0))
  generalize ((wr.setCell ⟨db, 4, none⟩ (.slice none 0 0)).setCell ⟨db, 1, none⟩ (.int .i64 0)) = w' at *
  have hcell : ∀ {b : Nat} {c : Array Value} {t : TypeId} {r : Nat × Nat}, w.heap[b]? = some (.cells c t r) → t ≠ 86 → w'.heap[b]? = w.heap[b]? := by
    intro b c t r hb ht
    refine (hk b (fun e => ?_)).trans (h.cells R hb)
    have h9 : w.heap[db]? = _ := S
    rw [← e, hb] at h9
    injection h9 with h9
    revert h9
    exact cells_ne ht
  have hrow : ∀ {e : TypeId} {sz n : Nat} {v : Value} {xs : List Value}, w.ownsRow 0 e sz v n xs → e ≠ 86 → w'.ownsRow 0 e sz v n xs := by
    intro e sz n v xs h1 hne
    refine ob_same h1 fun g hg => ?_
    rcases h1.2 with ⟨hv, _⟩ | ⟨g', cap, c, hv, _, hh, _⟩
    · rw [hv] at hg; cases hg
    · rw [hv] at hg
      simp [Value.ownBlock] at hg
      subst hg
      exact hcell hh hne
  have hmap : ∀ {b : Nat} {D : Dir}, MpAt wr m b D → MpAt w' m b D := by
    intro b D h1
    refine om_same h1 (hk b (fun e => ?_))
    obtain ⟨es, ck, ho, _⟩ := h1
    have h9 : wr.heap[db]? = _ := S2
    rw [← e, ho] at h9
    cases h9
  refine ⟨⟨hFd, fun b h => Nat.lt_of_lt_of_le (hFw b h) T.size, m, rv, st, sf, .slice none 0 0, hdb, ?_⟩, T⟩
  refine ⟨?_, R.len, R.nodup, fun i hi => ?_, R.sep, ⟨[], ⟨rfl, .inl ⟨rfl, rfl⟩⟩, rfl, fun j hj => absurd hj (Nat.not_lt_zero _)⟩, fun g hg => by cases hg⟩
  · rcases R.dirs with ⟨e1, e2, e3, e4, e5⟩ | ⟨s, f, e1, e2, hne, f1, f2, h1, h2⟩
    · left
      refine ⟨e1, e2, e3, ?_, rfl⟩
      show crf σ dirs σ.pend.length = _
      rw [e5]
      exact e4
    · right
      refine ⟨s, f, e1, e2, hne, f1, f2, hmap (om_same h1 (h.tn.block s ?_ ?_)), hmap (h.mp f e2)⟩
      · obtain ⟨es, ck, ho, _⟩ := h1
        exact blt ho
      · rw [e2]
        intro e
        injection e with e
        exact hne e.symm
  · have B := R.bod i hi
    exact ⟨(hcell B.blk (by decide)).trans B.blk, hrow B.row (by decide), B.inF, B.rowF⟩
/-- What holds of the drive in the second loop. -/
structure CI (K j Z : Nat) (σ : Ds) : Prop where
  nn : NN σ.sf
  ti : Tidy σ.sf
  bo : ∀ i, (σ.body i).safe ≤ (σ.body i).data.length ∧ (σ.body i).data.length ≤ K
  u0 : 0 ≤ σ.used
  u1 : σ.used ≤ ((j * K : Nat) : Int)
  sz : Maps.size σ.sf ≤ Z
theorem lft_le (x : Bd) (cut : Int) : (lft x cut).length ≤ x.data.length := by unfold lft; rw [List.length_take]; omega
theorem body_snoc (σ : Ds) (x : Bd) (D : Dir) (u : Int) (i : Nat) : Ds.body { σ with sf := D, bs := σ.bs ++ [x], used := u } i = if i < σ.bs.length then σ.body i else if i = σ.bs.length then x else ⟨[], 0⟩ := by
  unfold Ds.body
  simp only [List.getD]
  split
  · rename_i h; rw [List.getElem?_append_left h]
  · rename_i h
    split
    · rename_i h2; subst h2; simp
    · rename_i h2
      rw [List.getElem?_eq_none (by simp; omega)]
      rfl
theorem CI.step {K j Z : Nat} {σ : Ds} (h : CI K j Z σ) {x : Tx} (hx : has σ.sf (.string x) = true) (cut : Int) : CI K (j + 1) Z (crs1 σ x cut) := by
  have hl := lft_le (σ.body ((lk σ.sf x).getD 0)) cut
  have hb := (h.bo ((lk σ.sf x).getD 0)).2
  have h0 := h.u0
  have h1 := h.u1
  refine ⟨?_, h.ti.put (by simp [WideAt.IsKeyLit]) _, fun i => ?_, ?_, ?_, ?_⟩
  · have := fol1_nn h.ti h.nn (x, some σ.bs.length)
    exact this
  · unfold crs1
    rw [body_snoc]
    split
    · exact h.bo i
    · split
      · exact ⟨Nat.le_refl _, Nat.le_trans hl hb⟩
      · exact ⟨Nat.le_refl _, Nat.zero_le _⟩
  · show 0 ≤ σ.used + ((lft (σ.body ((lk σ.sf x).getD 0)) cut).length : Int); omega
  · show σ.used + ((lft (σ.body ((lk σ.sf x).getD 0)) cut).length : Int) ≤ _
    have e : (((j + 1) * K : Nat) : Int) = ((j * K : Nat) : Int) + (K : Int) := by rw [Nat.add_mul, Nat.one_mul]; omega
    rw [e]
    omega
  · show Maps.size (σ.sf.put _ _) ≤ Z
    rw [size_put h.ti, if_pos hx]
    exact h.sz
theorem has_crs {σ : Ds} (ht : Tidy σ.sf) {x y : Tx} (cut : Int) (h : has σ.sf (.string y) = true) : has (crs1 σ x cut).sf (.string y) = true := by
  show has (σ.sf.put (.string x) _) (.string y) = true
  by_cases e : y = x
  · subst e
    rw [has_put_same ht.isMap (by simp [WideAt.IsKeyLit])]
  · rw [has_put_other (fun e2 => e (by injection e2))]
    exact h
end Go.Proofs.YtjobaeopokfekaaGreat
