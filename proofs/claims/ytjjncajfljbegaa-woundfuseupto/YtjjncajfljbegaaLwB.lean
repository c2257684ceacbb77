/-
  plain: a step of a drive alone.
-/
import Derived.Test.YtjjncajfljbegaaLwA
import Derived.Deep.RegionHeld3
namespace Go.Proofs.Ytjjncajfljbegaa
open Go.RowKit Go.Maps
/-- What a call answers: the error, the bytes, the names. -/
abbrev An := Int × Tx × List Tx
/-- An answer in memory. -/
def SdV (w : World) (base : Nat) (v : Value) (a : An) : Prop := ∃ dv nv, v = .agg #[.int .i64 a.1, dv, nv, .slice none 0 0, .int .i64 0, .bool false] ∧ Ob w base dv a.2.1 ∧ Ts w base nv a.2.2
theorem ob_nil (w : World) (base : Nat) : Ob w base (.slice none 0 0) [] := ⟨rfl, .inl ⟨rfl, rfl⟩⟩
/-- The answer of a drive's call. -/
def ans (c : Nat) (σ : Ds) (x y d : Tx) : An := match c with
  | 1 => (((σ.create x).1 : Int), [], [])
  | 2 => (((σ.append x d).1 : Int), [], [])
  | 3 => (((σ.sync x).1 : Int), [], [])
  | 4 => (((σ.rename x y).1 : Int), [], [])
  | 5 => (((σ.remove x).1 : Int), [], [])
  | 6 => (0, [], [])
  | 7 => (((σ.read x).1 : Int), (σ.read x).2, [])
  | _ => (0, [], nms σ.st)
/-- The drive behind it. -/
def nxt (c : Nat) (σ : Ds) (x y d : Tx) : Ds := match c with
  | 1 => (σ.create x).2
  | 2 => (σ.append x d).2
  | 3 => (σ.sync x).2
  | 4 => (σ.rename x y).2
  | 5 => (σ.remove x).2
  | 6 => σ.syncDir
  | _ => σ
theorem al3 (w : World) (a b c : Obj) : Below w.heap.size w (((w.alloc a).alloc b).alloc c) := bt (bt (alb w a) (alb _ b)) (alb _ c)
theorem sz3 (w : World) (a b c : Obj) : (((w.alloc a).alloc b).alloc c).heap.size = w.heap.size + 3 := by simp
theorem at3 (w : World) (a b c : Obj) : (((w.alloc a).alloc b).alloc c).heap[w.heap.size]? = some a ∧ (((w.alloc a).alloc b).alloc c).heap[w.heap.size + 1]? = some b ∧ (((w.alloc a).alloc b).alloc c).heap[w.heap.size + 2]? = some c := by
  have h1 : (w.alloc a).heap.size = w.heap.size + 1 := by simp
  have h2 : ((w.alloc a).alloc b).heap.size = w.heap.size + 2 := by simp
  refine ⟨?_, ?_, new_at _ c _ h2⟩
  · rw [Below.heap_alloc _ _ _ (by omega), Below.heap_alloc _ _ _ (by omega)]; exact heap_alloc_new w a
  · rw [Below.heap_alloc _ _ _ (by omega)]; exact new_at _ b _ h1
theorem tri {w w1 : World} {F : Nat → Prop} {a b c : Obj} (hF : ∀ b, F b → b < w.heap.size) (hT : Tn F (((w.alloc a).alloc b).alloc c) w1) : w1.heap[w.heap.size]? = some a ∧ w1.heap[w.heap.size + 1]? = some b ∧ w1.heap[w.heap.size + 2]? = some c := by
  obtain ⟨h1, h2, h3⟩ := at3 w a b c
  have hs := sz3 w a b c
  refine ⟨(hT.block _ (by omega) (fun h => ?_)).trans h1, (hT.block _ (by omega) (fun h => ?_)).trans h2, (hT.block _ (by omega) (fun h => ?_)).trans h3⟩
  all_goals (have := hF _ h; omega)
/-- Six cells of a block. -/
theorem six {w : World} {b : Nat} {u0 u1 u2 u3 u4 u5 : Value} {t : TypeId} (h : w.heap[b]? = some (.cells #[u0, u1, u2, u3, u4, u5] t (0, 0))) : w.cell? ⟨b, 0, none⟩ = some u0 ∧ w.cell? ⟨b, 1, none⟩ = some u1 ∧ w.cell? ⟨b, 2, none⟩ = some u2 ∧ w.cell? ⟨b, 3, none⟩ = some u3 ∧ w.cell? ⟨b, 4, none⟩ = some u4 ∧ w.cell? ⟨b, 5, none⟩ = some u5 := by
  refine ⟨?_, ?_, ?_, ?_, ?_, ?_⟩ <;> rw [cell_of_row w b _ _ _ _ h] <;> rfl
theorem sixf {w : World} {b : Nat} {cs : Array Value} {t : TypeId} (h : w.heap[b]? = some (.cells cs t (0, 0))) : w.frozen? ⟨b, 0, none⟩ = false ∧ w.frozen? ⟨b, 1, none⟩ = false ∧ w.frozen? ⟨b, 2, none⟩ = false ∧ w.frozen? ⟨b, 3, none⟩ = false ∧ w.frozen? ⟨b, 4, none⟩ = false ∧ w.frozen? ⟨b, 5, none⟩ = false := by
  refine ⟨?_, ?_, ?_, ?_, ?_, ?_⟩ <;> exact frozen_of_row w b _ _ _ h
/-- The answer is handed back. -/
theorem said_fin {w1 : World} {b b3 : Nat} {u0 u1 u2 u3 u4 u5 : Value} {t : TypeId} (h : w1.heap[b]? = some (.cells #[u0, u1, u2, u3, u4, u5] t (0, 0))) (v0 v1 v2 v3 v4 v5 : Value) : ((((((w1.setCell ⟨b, 0, none⟩ v0).setCell ⟨b, 1, none⟩ v1).setCell ⟨b, 2, none⟩ v2).setCell ⟨b, 3, none⟩ v3).setCell ⟨b, 4, none⟩ v4).setCell ⟨b, 5, none⟩ v5).heap[b]? = some (.cells #[v0, v1, v2, v3, v4, v5] t (0, 0)) ∧ Tn (fun k => k = b ∨ k = b3) w1 ((((((w1.setCell ⟨b, 0, none⟩ v0).setCell ⟨b, 1, none⟩ v1).setCell ⟨b, 2, none⟩ v2).setCell ⟨b, 3, none⟩ v3).setCell ⟨b, 4, none⟩ v4).setCell ⟨b, 5, none⟩ v5) := by
  refine ⟨?_, ?_⟩
  · rw [heap_setCell_same _ b 5 _ _ _ (heap_setCell_same _ b 4 _ _ _ (heap_setCell_same _ b 3 _ _ _ (heap_setCell_same _ b 2 _ _ _ (heap_setCell_same _ b 1 _ _ _ (heap_setCell_same _ b 0 _ _ _ h)))))]
    rfl
  · have T : ∀ (u : World) (i : Nat) (v : Value), Tn (fun k => k = b ∨ k = b3) u (u.setCell ⟨b, i, none⟩ v) := fun u i v => Tn.setCell (F := fun k => k = b ∨ k = b3) u ⟨b, i, none⟩ (.inl rfl) v
    exact (((((T _ _ _).trans (T _ _ _)).trans (T _ _ _)).trans (T _ _ _)).trans (T _ _ _)).trans (T _ _ _)
theorem sd_end {w W w1 w2 : World} {db : Nat} {F : Nat → Prop} {σ' : Ds} (hWs : w.heap.size + 3 ≤ W.heap.size) (hWb : Below w.heap.size w W) (hF : ∀ b, F b → b < w.heap.size) (hD : DrAt w1 db σ' (Fn F W w1)) (hT : Tn F W w1) (hX : Tn (fun b => b = w.heap.size + 1 ∨ b = w.heap.size + 2) w1 w2) : DrAt w2 db σ' (Fn F w w2) ∧ Tn F w w2 := by
  have s1 := hT.size
  have s2 := hX.size
  have nX : ∀ b, Fn F W w1 b → ¬ (b = w.heap.size + 1 ∨ b = w.heap.size + 2) := by
    rintro b (h | h) h9
    · have := hF b h; omega
    · omega
  refine ⟨(hD.tn hX nX).more ?_ ?_, ⟨hX.os.trans (hT.os.trans hWb.os), hX.tape.trans (hT.tape.trans hWb.tape), hX.output.trans (hT.output.trans hWb.output), by omega, fun k hk hn => ?_⟩⟩
  · rintro b (h | h)
    · exact .inl h
    · exact .inr ⟨by omega, by omega⟩
  · rintro b (h | h)
    · have := hF b h; omega
    · exact h.2
  · exact (hX.block k (by omega) (by omega)).trans ((hT.block k (by omega) hn).trans (hWb.block k hk))
theorem row_end {w w1 w2 : World} {base : Nat} {e : TypeId} {sz n : Nat} {v : Value} {xs : List Value} (h : w1.ownsRow base e sz v n xs) (hb : w.heap.size + 3 ≤ base) (hX : Tn (fun b => b = w.heap.size + 1 ∨ b = w.heap.size + 2) w1 w2) : w2.ownsRow w.heap.size e sz v n xs := by
  refine ownsRow_base_a (ob_same h fun g hg => ?_) (show w.heap.size ≤ base by omega)
  rcases h.2 with ⟨hv, _⟩ | ⟨g', cap, c, hv, h1, hh, _⟩
  · rw [hv] at hg; cases hg
  · rw [hv] at hg
    simp [Value.ownBlock] at hg
    subst hg
    exact hX.block g' (blt hh) (by omega)
theorem ob_rx {w : World} {base : Nat} {p : Option Addr} {n c : Nat} {d : Tx} (h : Ob w base (.slice p n c) d) : Rx w p d := by
  by_cases hd : d = []
  · exact .inl hd
  · obtain ⟨g, c', hv, hc⟩ := h.shape hd
    injection hv with hv
    exact .inr ⟨g, 0, hv, hc⟩
section
attribute [local irreducible] Calls
set_option maxHeartbeats 4000000 in
set_option maxRecDepth 1000000 in
theorem plain1 {w : World} {db k : Nat} {σ : Ds} {F : Nat → Prop} (h : DrAt w db σ F) (ok : Okk k σ) (hk : k ≤ 134217728) (s : Sp) (d : Tx) (hx : s.x.length ≤ 140737488355328) (hy : s.y.length ≤ 140737488355328) : Calls Try.prog 15 #[.pointer (some ⟨db, 0, none⟩), .agg (s.v 1)] w fun e w' => ∃ v, e = .returned v ∧ SdV w' w.heap.size v (ans 1 σ s.x s.y d) ∧ DrAt w' db (nxt 1 σ s.x s.y d) (Fn F w w') ∧ Tn F w w' := by
  obtain ⟨x, y, pd, nd, cd, a, b, c, ye, pp, np, cp, pq, nq, cq, pr, nr, cr⟩ := s
  dsimp only [Sp.v] at hx hy ⊢
  have hFw := (show Hid _ from h.2.1)
  have h0 := (show Hid (DrAt w db σ F) from h)
  have CL := (show Hid (∀ a b c, Calls Try.prog 42 _ (((w.alloc a).alloc b).alloc c) _) from fun (a b c : Obj) => create_any (h.below (al3 w a b c)) (ok.okd hk) x hx)
  obtain ⟨er, her⟩ : ∃ er, er = (ans 1 σ x y d).1 := ⟨_, rfl⟩
  have HE := (show Hid _ from her)
  clear h ok hx hy
  go_enter Try.func15, Try.ntmps15
  go_wp2_with (go_at_call 42; refine (CL.out _ _ _).mono ?_; rintro e w1 ⟨h1, hD1, hT1⟩; obtain rfl : e = .returned (.int .i64 er) := (by rw [h1, her]; rfl); obtain ⟨_, hg2, hg3⟩ := tri hFw.out hT1; obtain ⟨a0, a1, a2, a3, a4, a5⟩ := six hg2; obtain ⟨z0, z1, z2, z3, z4, z5⟩ := sixf hg2; obtain ⟨b0, b1, b2, b3, b4, b5⟩ := six hg3; obtain ⟨y0, y1, y2, y3, y4, y5⟩ := sixf hg3; have HX := (show Hid (_ ∧ _ ∧ _) from ⟨hg2, hD1, hT1⟩); clear hg2 hg3 hD1 hT1 h1 her)
  have T0 := Tn.setCell (F := fun k => k = w.heap.size + 1 ∨ k = w.heap.size + 2) (w1) ⟨w.heap.size + 2, 0, none⟩ (.inr rfl) (.int .i64 er)
  obtain ⟨hg2, hD1, hT1⟩ := HX.out
  have hfin := said_fin (w1 := w1.setCell ⟨w.heap.size + 2, 0, none⟩ (.int .i64 er)) (b3 := w.heap.size + 2) ((Below.heap_setCell _ _ _ _ (show w.heap.size + 1 ≠ w.heap.size + 2 by omega)).trans hg2) (.int .i64 er) (.slice none 0 0) (.slice none 0 0) (.slice none 0 0) (.int .i64 0) (.bool false)
  have TT := (T0).trans hfin.2
  refine bodyPost_ret (v := .agg #[.int .i64 er, (.slice none 0 0), (.slice none 0 0), .slice none 0 0, .int .i64 0, .bool false]) (results_cell_row rfl _ _ (w.heap.size + 1) 44 _ (0, 0) _ rfl hfin.1 Try.underlying44 rfl (by kernel_rfl)) rfl ⟨_, rfl, ⟨_, _, by rw [← HE.out], ob_nil _ _, ts_nil _ _⟩, sd_end (Nat.le_of_eq (sz3 _ _ _ _).symm) (al3 _ _ _ _) hFw.out hD1 hT1 TT⟩
set_option maxHeartbeats 4000000 in
set_option maxRecDepth 1000000 in
theorem plain2 {w : World} {db k : Nat} {σ : Ds} {F : Nat → Prop} (h : DrAt w db σ F) (ok : Okk k σ) (hk : k ≤ 134217728) (s : Sp) (d : Tx) (hd : Rx w s.pd d) (hn : d.length = s.nd) (hm : s.nd ≤ 134217728) (hx : s.x.length ≤ 140737488355328) (hy : s.y.length ≤ 140737488355328) : Calls Try.prog 15 #[.pointer (some ⟨db, 0, none⟩), .agg (s.v 2)] w fun e w' => ∃ v, e = .returned v ∧ SdV w' w.heap.size v (ans 2 σ s.x s.y d) ∧ DrAt w' db (nxt 2 σ s.x s.y d) (Fn F w w') ∧ Tn F w w' := by
  obtain ⟨x, y, pd, nd, cd, a, b, c, ye, pp, np, cp, pq, nq, cq, pr, nr, cr⟩ := s
  dsimp only [Sp.v] at hx hy hd hn hm ⊢
  have hFw := (show Hid _ from h.2.1)
  have h0 := (show Hid (DrAt w db σ F) from h)
  have CT := (show Hid (∀ W1 : World, Below w.heap.size w W1 → Calls Try.prog 22 _ W1 _) from fun (W1 : World) hb => twin_any pd nd cd d (hd.below hb) hn (by omega))
  have CL := (show Hid (∀ (W1 : World) p' c', Below w.heap.size w W1 → Ob W1 w.heap.size (.slice p' nd c') d → Calls Try.prog 21 #[.pointer (some ⟨db, 0, none⟩), encStr x, .slice p' nd c'] W1 _) from fun (W1 : World) p' c' hb hO => append_any (h.below hb) (ok.okd hk) x (by omega) p' nd c' d (ob_rx hO) hn (by omega) (fun i _ _ => by have := ok.bl i; omega))
  obtain ⟨er, her⟩ : ∃ er, er = (ans 2 σ x y d).1 := ⟨_, rfl⟩
  have HE := (show Hid _ from her)
  have AT := (show Hid _ from at3 w (.cells #[.int .i64 2, encStr x, encStr y, .slice pd nd cd, .int .i64 a, .int .i64 b, .int .i64 c, .bool ye, .slice pp np cp, .slice pq nq cq, .slice pr nr cr] 36) (.cells #[.int .i64 0, .slice none 0 0, .slice none 0 0, .slice none 0 0, .int .i64 0, .bool false] 44) (.cells #[.int .i64 0, .slice none 0 0, .slice none 0 0, .slice none 0 0, .int .i64 0, .bool false] 44))
  have AL := (show Hid _ from al3 w (.cells #[.int .i64 2, encStr x, encStr y, .slice pd nd cd, .int .i64 a, .int .i64 b, .int .i64 c, .bool ye, .slice pp np cp, .slice pq nq cq, .slice pr nr cr] 36) (.cells #[.int .i64 0, .slice none 0 0, .slice none 0 0, .slice none 0 0, .int .i64 0, .bool false] 44) (.cells #[.int .i64 0, .slice none 0 0, .slice none 0 0, .slice none 0 0, .int .i64 0, .bool false] 44))
  have SZ := (show Hid _ from sz3 w (.cells #[.int .i64 2, encStr x, encStr y, .slice pd nd cd, .int .i64 a, .int .i64 b, .int .i64 c, .bool ye, .slice pp np cp, .slice pq nq cq, .slice pr nr cr] 36) (.cells #[.int .i64 0, .slice none 0 0, .slice none 0 0, .slice none 0 0, .int .i64 0, .bool false] 44) (.cells #[.int .i64 0, .slice none 0 0, .slice none 0 0, .slice none 0 0, .int .i64 0, .bool false] 44))
  clear h ok hx hy hd hn hm
  go_enter Try.func15, Try.ntmps15
  go_wp2
  generalize (((w.alloc (.cells #[.int .i64 2, encStr x, encStr y, .slice pd nd cd, .int .i64 a, .int .i64 b, .int .i64 c, .bool ye, .slice pp np cp, .slice pq nq cq, .slice pr nr cr] 36)).alloc (.cells #[.int .i64 0, .slice none 0 0, .slice none 0 0, .slice none 0 0, .int .i64 0, .bool false] 44)).alloc (.cells #[.int .i64 0, .slice none 0 0, .slice none 0 0, .slice none 0 0, .int .i64 0, .bool false] 44)) = W at *
  have KS := (show Hid (W.drew.cell? ⟨w.heap.size, 1, none⟩ = some (encStr x) ∧ W.drew.cell? ⟨w.heap.size, 3, none⟩ = some (.slice pd nd cd)) from ⟨(cell_of_row W w.heap.size 1 _ _ _ AT.out.1).trans rfl, (cell_of_row W w.heap.size 3 _ _ _ AT.out.1).trans rfl⟩)
  go_region_held3 (fun X => X.cell? ⟨w.heap.size, 1, none⟩ = some (encStr x) ∧ X.cell? ⟨w.heap.size, 3, none⟩ = some (.slice pd nd cd)) (first | exact KS.out | exact KT.out | exact KU.out | exact KV.out)
    (first
      | (go_at_call 22; refine (CT.out _ AL.out.drew).mono ?_; rintro e w2 ⟨p', c', rfl, hO2, _, _, hb2⟩; have hbw := (show Hid _ from AL.out.drew.trans (hb2.mono AL.out.size)); have hs2 : W.heap.size ≤ w2.heap.size := hb2.size; have hq1 := (hb2.block w.heap.size (show w.heap.size < W.heap.size by have := SZ.out; omega)).trans AT.out.1; have hq2 := (hb2.block (w.heap.size + 1) (show w.heap.size + 1 < W.heap.size by have := SZ.out; omega)).trans AT.out.2.1; have hq3 := (hb2.block (w.heap.size + 2) (show w.heap.size + 2 < W.heap.size by have := SZ.out; omega)).trans AT.out.2.2; have KT := (show Hid (w2.cell? ⟨w.heap.size, 1, none⟩ = some (encStr x) ∧ w2.cell? ⟨w.heap.size, 3, none⟩ = some (.slice pd nd cd)) from ⟨(cell_of_row w2 w.heap.size 1 _ _ _ hq1).trans rfl, (cell_of_row w2 w.heap.size 3 _ _ _ hq1).trans rfl⟩); have HQ := (show Hid (_ ∧ _ ∧ _ ∧ _) from ⟨hq1, hq2, hq3, hs2⟩); have HO2 := (show Hid (Ob _ _ _ _) from ob_up hO2 AL.out.size); clear hq1 hq2 hq3 hs2 hb2 hO2)
      | (go_at_call 21; refine (CL.out w2 p' c' hbw.out HO2.out).mono ?_; rintro e w1 ⟨h1, hD1, hT1⟩; obtain rfl : e = .returned (.int .i64 er) := (by rw [h1, her]; rfl); have hg1 := (hT1.block w.heap.size (by have := SZ.out; have := HQ.out.2.2.2; omega) (fun h => absurd (hFw.out _ h) (by omega))).trans HQ.out.1; have hg2 := (hT1.block (w.heap.size + 1) (by have := SZ.out; have := HQ.out.2.2.2; omega) (fun h => absurd (hFw.out _ h) (by omega))).trans HQ.out.2.1; have hg3 := (hT1.block (w.heap.size + 2) (by have := SZ.out; have := HQ.out.2.2.2; omega) (fun h => absurd (hFw.out _ h) (by omega))).trans HQ.out.2.2.1; have KU := (show Hid (w1.cell? ⟨w.heap.size, 1, none⟩ = some (encStr x) ∧ w1.cell? ⟨w.heap.size, 3, none⟩ = some (.slice pd nd cd)) from ⟨(cell_of_row w1 w.heap.size 1 _ _ _ hg1).trans rfl, (cell_of_row w1 w.heap.size 3 _ _ _ hg1).trans rfl⟩); have KV := (show Hid ((w1.setCell ⟨w.heap.size + 2, 0, none⟩ (.int .i64 er)).cell? ⟨w.heap.size, 1, none⟩ = some (encStr x) ∧ (w1.setCell ⟨w.heap.size + 2, 0, none⟩ (.int .i64 er)).cell? ⟨w.heap.size, 3, none⟩ = some (.slice pd nd cd)) from ⟨(cell_blk 1 (Below.heap_setCell _ _ _ _ (show w.heap.size ≠ w.heap.size + 2 by omega))).trans KU.out.1, (cell_blk 3 (Below.heap_setCell _ _ _ _ (show w.heap.size ≠ w.heap.size + 2 by omega))).trans KU.out.2⟩); obtain ⟨a0, a1, a2, a3, a4, a5⟩ := six hg2; obtain ⟨z0, z1, z2, z3, z4, z5⟩ := sixf hg2; obtain ⟨b0, b1, b2, b3, b4, b5⟩ := six hg3; obtain ⟨y0, y1, y2, y3, y4, y5⟩ := sixf hg3; have HX := (show Hid (_ ∧ _ ∧ _) from ⟨hg2, hD1, hT1⟩); clear hg1 hg2 hg3 hD1 hT1 h1 her))
  go_wp2
  have T0 := Tn.setCell (F := fun k => k = w.heap.size + 1 ∨ k = w.heap.size + 2) (w1) ⟨w.heap.size + 2, 0, none⟩ (.inr rfl) (.int .i64 er)
  obtain ⟨hg2, hD1, hT1⟩ := HX.out
  have hfin := said_fin (w1 := w1.setCell ⟨w.heap.size + 2, 0, none⟩ (.int .i64 er)) (b3 := w.heap.size + 2) ((Below.heap_setCell _ _ _ _ (show w.heap.size + 1 ≠ w.heap.size + 2 by omega)).trans hg2) (.int .i64 er) (.slice none 0 0) (.slice none 0 0) (.slice none 0 0) (.int .i64 0) (.bool false)
  have TT := (T0).trans hfin.2
  refine bodyPost_ret (v := .agg #[.int .i64 er, (.slice none 0 0), (.slice none 0 0), .slice none 0 0, .int .i64 0, .bool false]) (results_cell_row rfl _ _ (w.heap.size + 1) 44 _ (0, 0) _ rfl hfin.1 Try.underlying44 rfl (by kernel_rfl)) rfl ⟨_, rfl, ⟨_, _, by rw [← HE.out], ob_nil _ _, ts_nil _ _⟩, sd_end (Nat.le_trans (Nat.le_of_eq SZ.out.symm) HQ.out.2.2.2) hbw.out hFw.out hD1 hT1 TT⟩
set_option maxHeartbeats 4000000 in
set_option maxRecDepth 1000000 in
theorem plain3 {w : World} {db k : Nat} {σ : Ds} {F : Nat → Prop} (h : DrAt w db σ F) (ok : Okk k σ) (hk : k ≤ 134217728) (s : Sp) (d : Tx) (hx : s.x.length ≤ 140737488355328) (hy : s.y.length ≤ 140737488355328) : Calls Try.prog 15 #[.pointer (some ⟨db, 0, none⟩), .agg (s.v 3)] w fun e w' => ∃ v, e = .returned v ∧ SdV w' w.heap.size v (ans 3 σ s.x s.y d) ∧ DrAt w' db (nxt 3 σ s.x s.y d) (Fn F w w') ∧ Tn F w w' := by
  obtain ⟨x, y, pd, nd, cd, a, b, c, ye, pp, np, cp, pq, nq, cq, pr, nr, cr⟩ := s
  dsimp only [Sp.v] at hx hy ⊢
  have hFw := (show Hid _ from h.2.1)
  have h0 := (show Hid (DrAt w db σ F) from h)
  have CL := (show Hid (∀ a b c, Calls Try.prog 43 _ (((w.alloc a).alloc b).alloc c) _) from fun (a b c : Obj) => sync_any (h.below (al3 w a b c)) x (by have := ok.okd hk; omega))
  obtain ⟨er, her⟩ : ∃ er, er = (ans 3 σ x y d).1 := ⟨_, rfl⟩
  have HE := (show Hid _ from her)
  clear h ok hx hy
  go_enter Try.func15, Try.ntmps15
  go_wp2_with (go_at_call 43; refine (CL.out _ _ _).mono ?_; rintro e w1 ⟨h1, hD1, hT1⟩; obtain rfl : e = .returned (.int .i64 er) := (by rw [h1, her]; rfl); obtain ⟨_, hg2, hg3⟩ := tri hFw.out hT1; obtain ⟨a0, a1, a2, a3, a4, a5⟩ := six hg2; obtain ⟨z0, z1, z2, z3, z4, z5⟩ := sixf hg2; obtain ⟨b0, b1, b2, b3, b4, b5⟩ := six hg3; obtain ⟨y0, y1, y2, y3, y4, y5⟩ := sixf hg3; have HX := (show Hid (_ ∧ _ ∧ _) from ⟨hg2, hD1, hT1⟩); clear hg2 hg3 hD1 hT1 h1 her)
  have T0 := Tn.setCell (F := fun k => k = w.heap.size + 1 ∨ k = w.heap.size + 2) (w1) ⟨w.heap.size + 2, 0, none⟩ (.inr rfl) (.int .i64 er)
  obtain ⟨hg2, hD1, hT1⟩ := HX.out
  have hfin := said_fin (w1 := w1.setCell ⟨w.heap.size + 2, 0, none⟩ (.int .i64 er)) (b3 := w.heap.size + 2) ((Below.heap_setCell _ _ _ _ (show w.heap.size + 1 ≠ w.heap.size + 2 by omega)).trans hg2) (.int .i64 er) (.slice none 0 0) (.slice none 0 0) (.slice none 0 0) (.int .i64 0) (.bool false)
  have TT := (T0).trans hfin.2
  refine bodyPost_ret (v := .agg #[.int .i64 er, (.slice none 0 0), (.slice none 0 0), .slice none 0 0, .int .i64 0, .bool false]) (results_cell_row rfl _ _ (w.heap.size + 1) 44 _ (0, 0) _ rfl hfin.1 Try.underlying44 rfl (by kernel_rfl)) rfl ⟨_, rfl, ⟨_, _, by rw [← HE.out], ob_nil _ _, ts_nil _ _⟩, sd_end (Nat.le_of_eq (sz3 _ _ _ _).symm) (al3 _ _ _ _) hFw.out hD1 hT1 TT⟩
set_option maxHeartbeats 4000000 in
set_option maxRecDepth 1000000 in
theorem plain4 {w : World} {db k : Nat} {σ : Ds} {F : Nat → Prop} (h : DrAt w db σ F) (ok : Okk k σ) (hk : k ≤ 134217728) (s : Sp) (d : Tx) (hx : s.x.length ≤ 140737488355328) (hy : s.y.length ≤ 140737488355328) : Calls Try.prog 15 #[.pointer (some ⟨db, 0, none⟩), .agg (s.v 4)] w fun e w' => ∃ v, e = .returned v ∧ SdV w' w.heap.size v (ans 4 σ s.x s.y d) ∧ DrAt w' db (nxt 4 σ s.x s.y d) (Fn F w w') ∧ Tn F w w' := by
  obtain ⟨x, y, pd, nd, cd, a, b, c, ye, pp, np, cp, pq, nq, cq, pr, nr, cr⟩ := s
  dsimp only [Sp.v] at hx hy ⊢
  have hFw := (show Hid _ from h.2.1)
  have h0 := (show Hid (DrAt w db σ F) from h)
  have CL := (show Hid (∀ a b c, Calls Try.prog 44 _ (((w.alloc a).alloc b).alloc c) _) from fun (a b c : Obj) => rename_any (h.below (al3 w a b c)) (ok.okd hk) x y (by omega) (by omega))
  obtain ⟨er, her⟩ : ∃ er, er = (ans 4 σ x y d).1 := ⟨_, rfl⟩
  have HE := (show Hid _ from her)
  clear h ok hx hy
  go_enter Try.func15, Try.ntmps15
  go_wp2_with (go_at_call 44; refine (CL.out _ _ _).mono ?_; rintro e w1 ⟨h1, hD1, hT1⟩; obtain rfl : e = .returned (.int .i64 er) := (by rw [h1, her]; rfl); obtain ⟨_, hg2, hg3⟩ := tri hFw.out hT1; obtain ⟨a0, a1, a2, a3, a4, a5⟩ := six hg2; obtain ⟨z0, z1, z2, z3, z4, z5⟩ := sixf hg2; obtain ⟨b0, b1, b2, b3, b4, b5⟩ := six hg3; obtain ⟨y0, y1, y2, y3, y4, y5⟩ := sixf hg3; have HX := (show Hid (_ ∧ _ ∧ _) from ⟨hg2, hD1, hT1⟩); clear hg2 hg3 hD1 hT1 h1 her)
  have T0 := Tn.setCell (F := fun k => k = w.heap.size + 1 ∨ k = w.heap.size + 2) (w1) ⟨w.heap.size + 2, 0, none⟩ (.inr rfl) (.int .i64 er)
  obtain ⟨hg2, hD1, hT1⟩ := HX.out
  have hfin := said_fin (w1 := w1.setCell ⟨w.heap.size + 2, 0, none⟩ (.int .i64 er)) (b3 := w.heap.size + 2) ((Below.heap_setCell _ _ _ _ (show w.heap.size + 1 ≠ w.heap.size + 2 by omega)).trans hg2) (.int .i64 er) (.slice none 0 0) (.slice none 0 0) (.slice none 0 0) (.int .i64 0) (.bool false)
  have TT := (T0).trans hfin.2
  refine bodyPost_ret (v := .agg #[.int .i64 er, (.slice none 0 0), (.slice none 0 0), .slice none 0 0, .int .i64 0, .bool false]) (results_cell_row rfl _ _ (w.heap.size + 1) 44 _ (0, 0) _ rfl hfin.1 Try.underlying44 rfl (by kernel_rfl)) rfl ⟨_, rfl, ⟨_, _, by rw [← HE.out], ob_nil _ _, ts_nil _ _⟩, sd_end (Nat.le_of_eq (sz3 _ _ _ _).symm) (al3 _ _ _ _) hFw.out hD1 hT1 TT⟩
set_option maxHeartbeats 4000000 in
set_option maxRecDepth 1000000 in
theorem plain5 {w : World} {db k : Nat} {σ : Ds} {F : Nat → Prop} (h : DrAt w db σ F) (ok : Okk k σ) (hk : k ≤ 134217728) (s : Sp) (d : Tx) (hx : s.x.length ≤ 140737488355328) (hy : s.y.length ≤ 140737488355328) : Calls Try.prog 15 #[.pointer (some ⟨db, 0, none⟩), .agg (s.v 5)] w fun e w' => ∃ v, e = .returned v ∧ SdV w' w.heap.size v (ans 5 σ s.x s.y d) ∧ DrAt w' db (nxt 5 σ s.x s.y d) (Fn F w w') ∧ Tn F w w' := by
  obtain ⟨x, y, pd, nd, cd, a, b, c, ye, pp, np, cp, pq, nq, cq, pr, nr, cr⟩ := s
  dsimp only [Sp.v] at hx hy ⊢
  have hFw := (show Hid _ from h.2.1)
  have h0 := (show Hid (DrAt w db σ F) from h)
  have CL := (show Hid (∀ a b c, Calls Try.prog 45 _ (((w.alloc a).alloc b).alloc c) _) from fun (a b c : Obj) => remove_any (h.below (al3 w a b c)) (ok.okd hk) x (by omega))
  obtain ⟨er, her⟩ : ∃ er, er = (ans 5 σ x y d).1 := ⟨_, rfl⟩
  have HE := (show Hid _ from her)
  clear h ok hx hy
  go_enter Try.func15, Try.ntmps15
  go_wp2_with (go_at_call 45; refine (CL.out _ _ _).mono ?_; rintro e w1 ⟨h1, hD1, hT1⟩; obtain rfl : e = .returned (.int .i64 er) := (by rw [h1, her]; rfl); obtain ⟨_, hg2, hg3⟩ := tri hFw.out hT1; obtain ⟨a0, a1, a2, a3, a4, a5⟩ := six hg2; obtain ⟨z0, z1, z2, z3, z4, z5⟩ := sixf hg2; obtain ⟨b0, b1, b2, b3, b4, b5⟩ := six hg3; obtain ⟨y0, y1, y2, y3, y4, y5⟩ := sixf hg3; have HX := (show Hid (_ ∧ _ ∧ _) from ⟨hg2, hD1, hT1⟩); clear hg2 hg3 hD1 hT1 h1 her)
  have T0 := Tn.setCell (F := fun k => k = w.heap.size + 1 ∨ k = w.heap.size + 2) (w1) ⟨w.heap.size + 2, 0, none⟩ (.inr rfl) (.int .i64 er)
  obtain ⟨hg2, hD1, hT1⟩ := HX.out
  have hfin := said_fin (w1 := w1.setCell ⟨w.heap.size + 2, 0, none⟩ (.int .i64 er)) (b3 := w.heap.size + 2) ((Below.heap_setCell _ _ _ _ (show w.heap.size + 1 ≠ w.heap.size + 2 by omega)).trans hg2) (.int .i64 er) (.slice none 0 0) (.slice none 0 0) (.slice none 0 0) (.int .i64 0) (.bool false)
  have TT := (T0).trans hfin.2
  refine bodyPost_ret (v := .agg #[.int .i64 er, (.slice none 0 0), (.slice none 0 0), .slice none 0 0, .int .i64 0, .bool false]) (results_cell_row rfl _ _ (w.heap.size + 1) 44 _ (0, 0) _ rfl hfin.1 Try.underlying44 rfl (by kernel_rfl)) rfl ⟨_, rfl, ⟨_, _, by rw [← HE.out], ob_nil _ _, ts_nil _ _⟩, sd_end (Nat.le_of_eq (sz3 _ _ _ _).symm) (al3 _ _ _ _) hFw.out hD1 hT1 TT⟩
set_option maxHeartbeats 4000000 in
set_option maxRecDepth 1000000 in
theorem plain6 {w : World} {db k : Nat} {σ : Ds} {F : Nat → Prop} (h : DrAt w db σ F) (ok : Okk k σ) (hk : k ≤ 134217728) (s : Sp) (d : Tx) (hx : s.x.length ≤ 140737488355328) (hy : s.y.length ≤ 140737488355328) : Calls Try.prog 15 #[.pointer (some ⟨db, 0, none⟩), .agg (s.v 6)] w fun e w' => ∃ v, e = .returned v ∧ SdV w' w.heap.size v (ans 6 σ s.x s.y d) ∧ DrAt w' db (nxt 6 σ s.x s.y d) (Fn F w w') ∧ Tn F w w' := by
  obtain ⟨x, y, pd, nd, cd, a, b, c, ye, pp, np, cp, pq, nq, cq, pr, nr, cr⟩ := s
  dsimp only [Sp.v] at hx hy ⊢
  have hFw := (show Hid _ from h.2.1)
  have h0 := (show Hid (DrAt w db σ F) from h)
  have CL := (show Hid (∀ a b c, Calls Try.prog 46 _ (((w.alloc a).alloc b).alloc c) _) from fun (a b c : Obj) => syncDir_any (h.below (al3 w a b c)) (ok.okp hk))
  obtain ⟨er, her⟩ : ∃ er, er = (ans 6 σ x y d).1 := ⟨_, rfl⟩
  have HE := (show Hid _ from her)
  clear h ok hx hy
  go_enter Try.func15, Try.ntmps15
  go_wp2_with (go_at_call 46; refine (CL.out _ _ _).mono ?_; rintro e w1 ⟨h1, hD1, hT1⟩; obtain rfl : e = .returned (.int .i64 er) := (by rw [h1, her]; rfl); obtain ⟨_, hg2, hg3⟩ := tri hFw.out hT1; obtain ⟨a0, a1, a2, a3, a4, a5⟩ := six hg2; obtain ⟨z0, z1, z2, z3, z4, z5⟩ := sixf hg2; obtain ⟨b0, b1, b2, b3, b4, b5⟩ := six hg3; obtain ⟨y0, y1, y2, y3, y4, y5⟩ := sixf hg3; have HX := (show Hid (_ ∧ _ ∧ _) from ⟨hg2, hD1, hT1⟩); clear hg2 hg3 hD1 hT1 h1 her)
  have T0 := Tn.setCell (F := fun k => k = w.heap.size + 1 ∨ k = w.heap.size + 2) (w1) ⟨w.heap.size + 2, 0, none⟩ (.inr rfl) (.int .i64 er)
  obtain ⟨hg2, hD1, hT1⟩ := HX.out
  have hfin := said_fin (w1 := w1.setCell ⟨w.heap.size + 2, 0, none⟩ (.int .i64 er)) (b3 := w.heap.size + 2) ((Below.heap_setCell _ _ _ _ (show w.heap.size + 1 ≠ w.heap.size + 2 by omega)).trans hg2) (.int .i64 er) (.slice none 0 0) (.slice none 0 0) (.slice none 0 0) (.int .i64 0) (.bool false)
  have TT := (T0).trans hfin.2
  refine bodyPost_ret (v := .agg #[.int .i64 er, (.slice none 0 0), (.slice none 0 0), .slice none 0 0, .int .i64 0, .bool false]) (results_cell_row rfl _ _ (w.heap.size + 1) 44 _ (0, 0) _ rfl hfin.1 Try.underlying44 rfl (by kernel_rfl)) rfl ⟨_, rfl, ⟨_, _, by rw [← HE.out], ob_nil _ _, ts_nil _ _⟩, sd_end (Nat.le_of_eq (sz3 _ _ _ _).symm) (al3 _ _ _ _) hFw.out hD1 hT1 TT⟩
set_option maxHeartbeats 4000000 in
set_option maxRecDepth 1000000 in
theorem plain7 {w : World} {db k : Nat} {σ : Ds} {F : Nat → Prop} (h : DrAt w db σ F) (ok : Okk k σ) (hk : k ≤ 134217728) (s : Sp) (d : Tx) (hx : s.x.length ≤ 140737488355328) (hy : s.y.length ≤ 140737488355328) : Calls Try.prog 15 #[.pointer (some ⟨db, 0, none⟩), .agg (s.v 7)] w fun e w' => ∃ v, e = .returned v ∧ SdV w' w.heap.size v (ans 7 σ s.x s.y d) ∧ DrAt w' db (nxt 7 σ s.x s.y d) (Fn F w w') ∧ Tn F w w' := by
  obtain ⟨x, y, pd, nd, cd, a, b, c, ye, pp, np, cp, pq, nq, cq, pr, nr, cr⟩ := s
  dsimp only [Sp.v] at hx hy ⊢
  have hFw := (show Hid _ from h.2.1)
  have h0 := (show Hid (DrAt w db σ F) from h)
  have CL := (show Hid (∀ a b c, Calls Try.prog 47 _ (((w.alloc a).alloc b).alloc c) _) from fun (a b c : Obj) => read_any (h.below (al3 w a b c)) x (by omega) (fun i _ => by have := ok.bl i; omega))
  obtain ⟨er, her⟩ : ∃ er, er = (ans 7 σ x y d).1 := ⟨_, rfl⟩
  have HE := (show Hid _ from her)
  clear h ok hx hy
  go_enter Try.func15, Try.ntmps15
  go_wp2_with (go_at_call 47; refine (CL.out _ _ _).mono ?_; rintro e w1 ⟨v, h1, hO, hB⟩; obtain ⟨pv, nv, cv, hv⟩ : ∃ pv nv cv, v = .slice pv nv cv := ⟨_, _, _, (Ob.len hO).choose_spec.choose_spec⟩; subst hv; obtain rfl : e = .returned (.tuple #[.slice pv nv cv, .int .i64 er]) := (by rw [h1, her]; rfl); obtain ⟨hD1, hT1⟩ := DrAt.fn (h0.out.below (al3 w _ _ _)) hB; obtain ⟨_, hg2, hg3⟩ := tri hFw.out hT1; obtain ⟨a0, a1, a2, a3, a4, a5⟩ := six hg2; obtain ⟨z0, z1, z2, z3, z4, z5⟩ := sixf hg2; obtain ⟨b0, b1, b2, b3, b4, b5⟩ := six hg3; obtain ⟨y0, y1, y2, y3, y4, y5⟩ := sixf hg3; have HX := (show Hid (_ ∧ _ ∧ _) from ⟨hg2, hD1, hT1⟩); have HO := (show Hid (Ob _ _ _ _) from hO); clear hO hg2 hg3 hD1 hT1 h1 her)
  have T1 := Tn.setCell (F := fun k => k = w.heap.size + 1 ∨ k = w.heap.size + 2) (w1) ⟨w.heap.size + 2, 1, none⟩ (.inr rfl) (.slice pv nv cv)
  have T0 := Tn.setCell (F := fun k => k = w.heap.size + 1 ∨ k = w.heap.size + 2) (w1.setCell ⟨w.heap.size + 2, 1, none⟩ (.slice pv nv cv)) ⟨w.heap.size + 2, 0, none⟩ (.inr rfl) (.int .i64 er)
  obtain ⟨hg2, hD1, hT1⟩ := HX.out
  have hfin := said_fin (w1 := (w1.setCell ⟨w.heap.size + 2, 1, none⟩ (.slice pv nv cv)).setCell ⟨w.heap.size + 2, 0, none⟩ (.int .i64 er)) (b3 := w.heap.size + 2) ((Below.heap_setCell _ _ _ _ (show w.heap.size + 1 ≠ w.heap.size + 2 by omega)).trans ((Below.heap_setCell _ _ _ _ (show w.heap.size + 1 ≠ w.heap.size + 2 by omega)).trans hg2)) (.int .i64 er) (.slice pv nv cv) (.slice none 0 0) (.slice none 0 0) (.int .i64 0) (.bool false)
  have TT := ((T1).trans T0).trans hfin.2
  refine bodyPost_ret (v := .agg #[.int .i64 er, (.slice pv nv cv), (.slice none 0 0), .slice none 0 0, .int .i64 0, .bool false]) (results_cell_row rfl _ _ (w.heap.size + 1) 44 _ (0, 0) _ rfl hfin.1 Try.underlying44 rfl (by kernel_rfl)) rfl ⟨_, rfl, ⟨_, _, by rw [← HE.out], row_end HO.out (Nat.le_of_eq (sz3 _ _ _ _).symm) TT, ts_nil _ _⟩, sd_end (Nat.le_of_eq (sz3 _ _ _ _).symm) (al3 _ _ _ _) hFw.out hD1 hT1 TT⟩
set_option maxHeartbeats 4000000 in
set_option maxRecDepth 1000000 in
theorem plain8 {w : World} {db k : Nat} {σ : Ds} {F : Nat → Prop} (h : DrAt w db σ F) (ok : Okk k σ) (hk : k ≤ 134217728) (s : Sp) (d : Tx) (hx : s.x.length ≤ 140737488355328) (hy : s.y.length ≤ 140737488355328) : Calls Try.prog 15 #[.pointer (some ⟨db, 0, none⟩), .agg (s.v 8)] w fun e w' => ∃ v, e = .returned v ∧ SdV w' w.heap.size v (ans 8 σ s.x s.y d) ∧ DrAt w' db (nxt 8 σ s.x s.y d) (Fn F w w') ∧ Tn F w w' := by
  obtain ⟨x, y, pd, nd, cd, a, b, c, ye, pp, np, cp, pq, nq, cq, pr, nr, cr⟩ := s
  dsimp only [Sp.v] at hx hy ⊢
  have hFw := (show Hid _ from h.2.1)
  have h0 := (show Hid (DrAt w db σ F) from h)
  have CL := (show Hid (∀ a b c, Calls Try.prog 27 _ (((w.alloc a).alloc b).alloc c) _) from fun (a b c : Obj) => list_any (h.below (al3 w a b c)) (by have := ok.ss; omega))
  obtain ⟨er, her⟩ : ∃ er, er = (ans 8 σ x y d).1 := ⟨_, rfl⟩
  have HE := (show Hid _ from her)
  clear h ok hx hy
  go_enter Try.func15, Try.ntmps15
  go_wp2_with (go_at_call 27; refine (CL.out _ _ _).mono ?_; rintro e w1 ⟨v, h1, hO, hB⟩; obtain ⟨pv, nv, cv, hv⟩ : ∃ pv nv cv, v = .slice pv nv cv := ⟨_, _, _, (own_len hO).choose_spec.choose_spec⟩; subst hv; obtain rfl : e = .returned (.tuple #[.slice pv nv cv, .int .i64 er]) := (by rw [h1, her]; rfl); obtain ⟨hD1, hT1⟩ := DrAt.fn (h0.out.below (al3 w _ _ _)) hB; obtain ⟨_, hg2, hg3⟩ := tri hFw.out hT1; obtain ⟨a0, a1, a2, a3, a4, a5⟩ := six hg2; obtain ⟨z0, z1, z2, z3, z4, z5⟩ := sixf hg2; obtain ⟨b0, b1, b2, b3, b4, b5⟩ := six hg3; obtain ⟨y0, y1, y2, y3, y4, y5⟩ := sixf hg3; have HX := (show Hid (_ ∧ _ ∧ _) from ⟨hg2, hD1, hT1⟩); have HO := (show Hid (Ts _ _ _ _) from hO); clear hO hg2 hg3 hD1 hT1 h1 her)
  have T2 := Tn.setCell (F := fun k => k = w.heap.size + 1 ∨ k = w.heap.size + 2) (w1) ⟨w.heap.size + 2, 2, none⟩ (.inr rfl) (.slice pv nv cv)
  have T0 := Tn.setCell (F := fun k => k = w.heap.size + 1 ∨ k = w.heap.size + 2) (w1.setCell ⟨w.heap.size + 2, 2, none⟩ (.slice pv nv cv)) ⟨w.heap.size + 2, 0, none⟩ (.inr rfl) (.int .i64 er)
  obtain ⟨hg2, hD1, hT1⟩ := HX.out
  have hfin := said_fin (w1 := (w1.setCell ⟨w.heap.size + 2, 2, none⟩ (.slice pv nv cv)).setCell ⟨w.heap.size + 2, 0, none⟩ (.int .i64 er)) (b3 := w.heap.size + 2) ((Below.heap_setCell _ _ _ _ (show w.heap.size + 1 ≠ w.heap.size + 2 by omega)).trans ((Below.heap_setCell _ _ _ _ (show w.heap.size + 1 ≠ w.heap.size + 2 by omega)).trans hg2)) (.int .i64 er) (.slice none 0 0) (.slice pv nv cv) (.slice none 0 0) (.int .i64 0) (.bool false)
  have TT := ((T2).trans T0).trans hfin.2
  refine bodyPost_ret (v := .agg #[.int .i64 er, (.slice none 0 0), (.slice pv nv cv), .slice none 0 0, .int .i64 0, .bool false]) (results_cell_row rfl _ _ (w.heap.size + 1) 44 _ (0, 0) _ rfl hfin.1 Try.underlying44 rfl (by kernel_rfl)) rfl ⟨_, rfl, ⟨_, _, by rw [← HE.out], ob_nil _ _, row_end HO.out (Nat.le_of_eq (sz3 _ _ _ _).symm) TT⟩, sd_end (Nat.le_of_eq (sz3 _ _ _ _).symm) (al3 _ _ _ _) hFw.out hD1 hT1 TT⟩
end
end Go.Proofs.Ytjjncajfljbegaa
