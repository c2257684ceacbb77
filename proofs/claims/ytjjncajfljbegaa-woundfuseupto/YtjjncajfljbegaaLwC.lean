/-
  hurt: a step of a wound.
-/
import Derived.Test.YtjjncajfljbegaaLwB
namespace Go.Proofs.Ytjjncajfljbegaa
open Go.RowKit Go.Maps
def hrm (c : Nat) : Bool := c == 1 || c == 2
/-- The answer of a wound's call. -/
def hans (c : Nat) (g : Gt) (P : DataW Unit) (σ : Ds) (x y d : Tx) : An := if (ahd g P (hrm c)).1.2 = 0 then ans c σ x y d else ((ahd g P (hrm c)).1.2, [], [])
/-- The drive behind it. -/
def hnxt (c : Nat) (g : Gt) (P : DataW Unit) (σ : Ds) (x y d : Tx) : Ds := if (ahd g P (hrm c)).1.2 = 0 then nxt c σ x y d else if c = 2 ∧ (ahd g P (hrm c)).1.1 = true then (σ.append x (d.take (max g.ins 0).toNat)).2 else σ
theorem kd_end {w W w1 w2 : World} {wb db : Nat} {pl : Option Nat} {g : Gt} {P : DataW Unit} {F : Nat → Prop} {σ' : Ds} (hWs : w.heap.size + 3 ≤ W.heap.size) (hWb : Below w.heap.size w W) (hwb : wb < w.heap.size) (hpl : ∀ b, pl = some b → b < w.heap.size) (hF : ∀ b, F b → b < w.heap.size) (hn : ¬ F wb) (hq : ∀ b, pl = some b → ¬ F b) (hK : Kw w1 wb db pl g P σ' (Fn F W w1)) (hT : Tn (fun b => b = wb ∨ F b) W w1) (hX : Tn (fun b => b = w.heap.size + 1 ∨ b = w.heap.size + 2) w1 w2) : Kw w2 wb db pl g P σ' (Fn F w w2) ∧ Tn (fun b => b = wb ∨ F b) w w2 := by
  obtain ⟨hW, hP, hD, _, _⟩ := hK
  have s1 := hT.size
  have s2 := hX.size
  have nX : ∀ b, Fn F W w1 b → ¬ (b = w.heap.size + 1 ∨ b = w.heap.size + 2) := by
    rintro b (h | h) h9
    · have := hF b h; omega
    · omega
  refine ⟨⟨hW.tn hX (by omega), hP.sameAt (fun b e hb => hX.block b hb (by have := hpl b e; omega)), (hD.tn hX nX).more ?_ ?_, ?_, ?_⟩, ⟨hX.os.trans (hT.os.trans hWb.os), hX.tape.trans (hT.tape.trans hWb.tape), hX.output.trans (hT.output.trans hWb.output), by omega, fun k hk hn => ?_⟩⟩
  · rintro b (h | h)
    · exact .inl h
    · exact .inr ⟨by omega, by omega⟩
  · rintro b (h | h)
    · have := hF b h; omega
    · exact h.2
  · rintro (h | h)
    · exact hn h
    · omega
  · rintro b e (h | h)
    · exact hq b e h
    · have := hpl b e; omega
  · exact (hX.block k (by omega) (by omega)).trans ((hT.block k (by omega) hn).trans (hWb.block k hk))
theorem Kw.fn {W w' : World} {wb db : Nat} {pl : Option Nat} {g : Gt} {P : DataW Unit} {F : Nat → Prop} {σ : Ds} (h : Kw w' wb db pl g P σ F) (hwb : wb < W.heap.size) (hpl : ∀ b, pl = some b → b < W.heap.size) : Kw w' wb db pl g P σ (Fn F W w') := by
  obtain ⟨hW, hP, hD, hn, hq⟩ := h
  refine ⟨hW, hP, hD.more (fun _ h => .inl h) ?_, ?_, ?_⟩
  · rintro b (h | h)
    · exact hD.2.1 b h
    · exact h.2
  · rintro (h | h)
    · exact hn h
    · omega
  · rintro b e (h | h)
    · exact hq b e h
    · have := hpl b e; omega
theorem ob_blk {w : World} {base : Nat} {p : Option Addr} {n c : Nat} {d : Tx} (h : Ob w base (.slice p n c) d) {a : Addr} (e : p = some a) : base ≤ a.block ∧ a.block < w.heap.size := by
  rcases h.2 with ⟨hv, _⟩ | ⟨g, cap, cur, hv, h1, hh, _⟩
  · injection hv with hv; rw [e] at hv; cases hv
  · injection hv with hv
    rw [e] at hv
    injection hv with hv
    subst hv
    exact ⟨h1, blt hh⟩
section
attribute [local irreducible] Calls
set_option maxHeartbeats 4000000 in
set_option maxRecDepth 1000000 in
theorem hurt1 {w : World} {wb db k : Nat} {pl : Option Nat} {g : Gt} {P : DataW Unit} {σ : Ds} {F : Nat → Prop} (h : Kw w wb db pl g P σ F) (ok : Gok g) (od : Okk k σ) (hk : k ≤ 134217728) (s : Sp) (d : Tx) (hx : s.x.length ≤ 140737488355328) (hy : s.y.length ≤ 140737488355328) : Calls Try.prog 14 #[.pointer (some ⟨wb, 0, none⟩), .agg (s.v 1)] w fun e w' => ∃ v, e = .returned v ∧ SdV w' w.heap.size v (hans 1 g P σ s.x s.y d) ∧ Kw w' wb db pl (ahd g P (hrm 1)).2 P (hnxt 1 g P σ s.x s.y d) (Fn F w w') ∧ Tn (fun b => b = wb ∨ F b) w w' := by
  obtain ⟨x, y, pd, nd, cd, a, b, c, ye, pp, np, cp, pq, nq, cq, pr, nr, cr⟩ := s
  dsimp only [Sp.v] at hx hy ⊢
  have hwl := blt h.1
  have hpl : ∀ b, pl = some b → b < w.heap.size := fun b e => h.2.1.lt e
  have HS := (show Hid (_ ∧ _ ∧ _ ∧ _ ∧ _) from ⟨hwl, hpl, h.2.2.1.2.1, h.2.2.2.1, h.2.2.2.2⟩)
  have hFw := (show Hid (∀ b, (b = wb ∨ F b) → b < w.heap.size) from fun b h9 => h9.elim (fun e => e ▸ hwl) (h.2.2.1.2.1 b))
  have CL := (show Hid (∀ (a b c : Obj) (args : Array Value), args = #[.pointer (some ⟨wb, 0, none⟩), encStr x] → Calls Try.prog 32 args (((w.alloc a).alloc b).alloc c) fun e w' => e = .returned (.int .i64 (hans 1 g P σ x y d).1) ∧ Kw w' wb db pl (ahd g P (hrm 1)).2 P (hnxt 1 g P σ x y d) (Fn F (((w.alloc a).alloc b).alloc c) w') ∧ Tn (fun b => b = wb ∨ F b) (((w.alloc a).alloc b).alloc c) w') from fun a b c args hargs => by
    subst hargs
    refine (kcreate (h.below (al3 w a b c)) ok (od.okd hk) x hx).mono ?_
    rintro e w' ⟨h1, h2, h3⟩
    by_cases h9 : (ahd g P true).1.2 = 0
    · rw [if_pos h9] at h1 h2
      have e1 : hans 1 g P σ x y d = ans 1 σ x y d := if_pos h9
      have e2 : hnxt 1 g P σ x y d = nxt 1 σ x y d := if_pos h9
      rw [e1, e2]
      exact ⟨h1, h2, h3⟩
    · rw [if_neg h9] at h1 h2
      have e1 : hans 1 g P σ x y d = ((ahd g P true).1.2, [], []) := if_neg h9
      have e2 : hnxt 1 g P σ x y d = σ := (if_neg h9).trans (if_neg (fun h => absurd h.1 (by decide)))
      rw [e1, e2]
      exact ⟨h1, h2, h3⟩)
  obtain ⟨er, her⟩ : ∃ er, er = (hans 1 g P σ x y d).1 := ⟨_, rfl⟩
  have HE := (show Hid (er = _ ∧ _ = _ ∧ _ = _) from ⟨her, (show ([] : Tx) = (hans 1 g P σ x y d).2.1 by unfold hans; split <;> rfl), (show ([] : List Tx) = (hans 1 g P σ x y d).2.2 by unfold hans; split <;> rfl)⟩)
  clear h ok od hx hy hwl hpl
  go_enter Try.func14, Try.ntmps14
  go_wp2_with (go_at_call 32; refine (CL.out _ _ _ _ rfl).mono ?_; rintro e w1 ⟨h1, hD1, hT1⟩; obtain rfl : e = .returned (.int .i64 er) := (by rw [h1, her]); obtain ⟨_, hg2, hg3⟩ := tri hFw.out hT1; obtain ⟨a0, a1, a2, a3, a4, a5⟩ := six hg2; obtain ⟨z0, z1, z2, z3, z4, z5⟩ := sixf hg2; obtain ⟨b0, b1, b2, b3, b4, b5⟩ := six hg3; obtain ⟨y0, y1, y2, y3, y4, y5⟩ := sixf hg3; have HX := (show Hid (_ ∧ _ ∧ _) from ⟨hg2, hD1, hT1⟩); clear hg2 hg3 hD1 hT1 h1 her)
  have T0 := Tn.setCell (F := fun k => k = w.heap.size + 1 ∨ k = w.heap.size + 2) (w1) ⟨w.heap.size + 2, 0, none⟩ (.inr rfl) (.int .i64 er)
  obtain ⟨hg2, hD1, hT1⟩ := HX.out
  obtain ⟨hwl, hpl, hFF, hnF, hqF⟩ := HS.out
  have hfin := said_fin (w1 := w1.setCell ⟨w.heap.size + 2, 0, none⟩ (.int .i64 er)) (b3 := w.heap.size + 2) ((Below.heap_setCell _ _ _ _ (show w.heap.size + 1 ≠ w.heap.size + 2 by omega)).trans hg2) (.int .i64 er) (.slice none 0 0) (.slice none 0 0) (.slice none 0 0) (.int .i64 0) (.bool false)
  have TT := (T0).trans hfin.2
  refine bodyPost_ret (v := .agg #[.int .i64 er, (.slice none 0 0), (.slice none 0 0), .slice none 0 0, .int .i64 0, .bool false]) (results_cell_row rfl _ _ (w.heap.size + 1) 44 _ (0, 0) _ rfl hfin.1 Try.underlying44 rfl (by kernel_rfl)) rfl ⟨_, rfl, ⟨_, _, by rw [← HE.out.1], HE.out.2.1 ▸ ob_nil _ _, HE.out.2.2 ▸ ts_nil _ _⟩, kd_end (Nat.le_of_eq (sz3 _ _ _ _).symm) (al3 _ _ _ _) hwl hpl hFF hnF hqF hD1 hT1 TT⟩
set_option maxHeartbeats 4000000 in
set_option maxRecDepth 1000000 in
theorem hurt2 {w : World} {wb db k : Nat} {pl : Option Nat} {g : Gt} {P : DataW Unit} {σ : Ds} {F : Nat → Prop} (h : Kw w wb db pl g P σ F) (ok : Gok g) (od : Okk k σ) (hk : k ≤ 134217728) (s : Sp) (d : Tx) (hd : Rx w s.pd d) (hn : d.length = s.nd) (hm : s.nd ≤ 134217728) (hx : s.x.length ≤ 140737488355328) (hy : s.y.length ≤ 140737488355328) : Calls Try.prog 14 #[.pointer (some ⟨wb, 0, none⟩), .agg (s.v 2)] w fun e w' => ∃ v, e = .returned v ∧ SdV w' w.heap.size v (hans 2 g P σ s.x s.y d) ∧ Kw w' wb db pl (ahd g P (hrm 2)).2 P (hnxt 2 g P σ s.x s.y d) (Fn F w w') ∧ Tn (fun b => b = wb ∨ F b) w w' := by
  obtain ⟨x, y, pd, nd, cd, a, b, c, ye, pp, np, cp, pq, nq, cq, pr, nr, cr⟩ := s
  dsimp only [Sp.v] at hx hy hd hn hm ⊢
  have hwl := blt h.1
  have hpl : ∀ b, pl = some b → b < w.heap.size := fun b e => h.2.1.lt e
  have HS := (show Hid (_ ∧ _ ∧ _ ∧ _ ∧ _) from ⟨hwl, hpl, h.2.2.1.2.1, h.2.2.2.1, h.2.2.2.2⟩)
  have hFw := (show Hid (∀ b, (b = wb ∨ F b) → b < w.heap.size) from fun b h9 => h9.elim (fun e => e ▸ hwl) (h.2.2.1.2.1 b))
  have CT := (show Hid (∀ W1 : World, Below w.heap.size w W1 → Calls Try.prog 22 _ W1 _) from fun (W1 : World) hb => twin_any pd nd cd d (hd.below hb) hn (by omega))
  have CL := (show Hid (∀ (W1 : World) p' c', Below w.heap.size w W1 → Ob W1 w.heap.size (.slice p' nd c') d → nd ≤ c' → c' ≤ 9223372036854775807 → Calls Try.prog 33 #[.pointer (some ⟨wb, 0, none⟩), encStr x, .slice p' nd c'] W1 fun e w' => e = .returned (.int .i64 (hans 2 g P σ x y d).1) ∧ Kw w' wb db pl (ahd g P (hrm 2)).2 P (hnxt 2 g P σ x y d) (Fn F W1 w') ∧ Tn (fun b => b = wb ∨ F b) W1 w') from fun (W1 : World) p' c' hb hO hnc hcc => by
    refine (kappend (h.below hb) ok (od.okd hk) x (by omega) p' nd c' d (ob_rx hO) (fun a e => by obtain ⟨h1, h2⟩ := ob_blk hO e; exact ⟨by omega, h2⟩) hn hnc (by omega) hcc (fun i k _ _ _ => by have := od.bl i; omega)).mono ?_
    rintro e w' ⟨h1, h2, h3⟩
    have e0 : ((hans 2 g P σ x y d).1, hnxt 2 g P σ x y d) = kans g P σ x d := by
      unfold hans hnxt kans
      rw [show hrm 2 = true from rfl]
      by_cases h9 : (ahd g P true).1.2 = 0
      · simp only [h9, if_true]
        rfl
      · by_cases h8 : (ahd g P true).1.1 = true
        · simp only [h9, h8, if_true, if_false, true_and]
        · simp [h9, h8]
    have e1 : (hans 2 g P σ x y d).1 = (kans g P σ x d).1 := by rw [← e0]
    have e2 : hnxt 2 g P σ x y d = (kans g P σ x d).2 := by rw [← e0]
    rw [e1, e2]
    exact ⟨h1, h2, h3⟩)
  obtain ⟨er, her⟩ : ∃ er, er = (hans 2 g P σ x y d).1 := ⟨_, rfl⟩
  have HE := (show Hid (er = _ ∧ _ = _ ∧ _ = _) from ⟨her, (show ([] : Tx) = (hans 2 g P σ x y d).2.1 by unfold hans; split <;> rfl), (show ([] : List Tx) = (hans 2 g P σ x y d).2.2 by unfold hans; split <;> rfl)⟩)
  have AT := (show Hid _ from at3 w (.cells #[.int .i64 2, encStr x, encStr y, .slice pd nd cd, .int .i64 a, .int .i64 b, .int .i64 c, .bool ye, .slice pp np cp, .slice pq nq cq, .slice pr nr cr] 36) (.cells #[.int .i64 0, .slice none 0 0, .slice none 0 0, .slice none 0 0, .int .i64 0, .bool false] 44) (.cells #[.int .i64 0, .slice none 0 0, .slice none 0 0, .slice none 0 0, .int .i64 0, .bool false] 44))
  have AL := (show Hid _ from al3 w (.cells #[.int .i64 2, encStr x, encStr y, .slice pd nd cd, .int .i64 a, .int .i64 b, .int .i64 c, .bool ye, .slice pp np cp, .slice pq nq cq, .slice pr nr cr] 36) (.cells #[.int .i64 0, .slice none 0 0, .slice none 0 0, .slice none 0 0, .int .i64 0, .bool false] 44) (.cells #[.int .i64 0, .slice none 0 0, .slice none 0 0, .slice none 0 0, .int .i64 0, .bool false] 44))
  have SZ := (show Hid _ from sz3 w (.cells #[.int .i64 2, encStr x, encStr y, .slice pd nd cd, .int .i64 a, .int .i64 b, .int .i64 c, .bool ye, .slice pp np cp, .slice pq nq cq, .slice pr nr cr] 36) (.cells #[.int .i64 0, .slice none 0 0, .slice none 0 0, .slice none 0 0, .int .i64 0, .bool false] 44) (.cells #[.int .i64 0, .slice none 0 0, .slice none 0 0, .slice none 0 0, .int .i64 0, .bool false] 44))
  clear h ok od hx hy hd hn hm hwl hpl
  go_enter Try.func14, Try.ntmps14
  go_wp2
  generalize (((w.alloc (.cells #[.int .i64 2, encStr x, encStr y, .slice pd nd cd, .int .i64 a, .int .i64 b, .int .i64 c, .bool ye, .slice pp np cp, .slice pq nq cq, .slice pr nr cr] 36)).alloc (.cells #[.int .i64 0, .slice none 0 0, .slice none 0 0, .slice none 0 0, .int .i64 0, .bool false] 44)).alloc (.cells #[.int .i64 0, .slice none 0 0, .slice none 0 0, .slice none 0 0, .int .i64 0, .bool false] 44)) = W at *
  have KS := (show Hid (W.drew.cell? ⟨w.heap.size, 1, none⟩ = some (encStr x) ∧ W.drew.cell? ⟨w.heap.size, 3, none⟩ = some (.slice pd nd cd)) from ⟨(cell_of_row W w.heap.size 1 _ _ _ AT.out.1).trans rfl, (cell_of_row W w.heap.size 3 _ _ _ AT.out.1).trans rfl⟩)
  go_region_held3 (fun X => X.cell? ⟨w.heap.size, 1, none⟩ = some (encStr x) ∧ X.cell? ⟨w.heap.size, 3, none⟩ = some (.slice pd nd cd)) (first | exact KS.out | exact KT.out | exact KU.out | exact KV.out)
    (first
      | (go_at_call 22; refine (CT.out _ AL.out.drew).mono ?_; rintro e w2 ⟨p', c', rfl, hO2, hn2, hc2, hb2⟩; have hbw := (show Hid _ from AL.out.drew.trans (hb2.mono AL.out.size)); have hs2 : W.heap.size ≤ w2.heap.size := hb2.size; have hq1 := (hb2.block w.heap.size (show w.heap.size < W.heap.size by have := SZ.out; omega)).trans AT.out.1; have hq2 := (hb2.block (w.heap.size + 1) (show w.heap.size + 1 < W.heap.size by have := SZ.out; omega)).trans AT.out.2.1; have hq3 := (hb2.block (w.heap.size + 2) (show w.heap.size + 2 < W.heap.size by have := SZ.out; omega)).trans AT.out.2.2; have KT := (show Hid (w2.cell? ⟨w.heap.size, 1, none⟩ = some (encStr x) ∧ w2.cell? ⟨w.heap.size, 3, none⟩ = some (.slice pd nd cd)) from ⟨(cell_of_row w2 w.heap.size 1 _ _ _ hq1).trans rfl, (cell_of_row w2 w.heap.size 3 _ _ _ hq1).trans rfl⟩); have HQ := (show Hid (_ ∧ _ ∧ _ ∧ _) from ⟨hq1, hq2, hq3, hs2⟩); have HO2 := (show Hid (Ob _ _ _ _ ∧ _ ∧ _) from ⟨ob_up hO2 AL.out.size, hn2, hc2⟩); clear hq1 hq2 hq3 hs2 hb2 hO2 hn2 hc2)
      | (go_at_call 33; refine (CL.out w2 p' c' hbw.out HO2.out.1 HO2.out.2.1 HO2.out.2.2).mono ?_; rintro e w1 ⟨h1, hD1, hT1⟩; obtain rfl : e = .returned (.int .i64 er) := (by rw [h1, her]); have hg1 := (hT1.block w.heap.size (by have := SZ.out; have := HQ.out.2.2.2; omega) (fun h => absurd (hFw.out _ h) (by omega))).trans HQ.out.1; have hg2 := (hT1.block (w.heap.size + 1) (by have := SZ.out; have := HQ.out.2.2.2; omega) (fun h => absurd (hFw.out _ h) (by omega))).trans HQ.out.2.1; have hg3 := (hT1.block (w.heap.size + 2) (by have := SZ.out; have := HQ.out.2.2.2; omega) (fun h => absurd (hFw.out _ h) (by omega))).trans HQ.out.2.2.1; have KU := (show Hid (w1.cell? ⟨w.heap.size, 1, none⟩ = some (encStr x) ∧ w1.cell? ⟨w.heap.size, 3, none⟩ = some (.slice pd nd cd)) from ⟨(cell_of_row w1 w.heap.size 1 _ _ _ hg1).trans rfl, (cell_of_row w1 w.heap.size 3 _ _ _ hg1).trans rfl⟩); have KV := (show Hid ((w1.setCell ⟨w.heap.size + 2, 0, none⟩ (.int .i64 er)).cell? ⟨w.heap.size, 1, none⟩ = some (encStr x) ∧ (w1.setCell ⟨w.heap.size + 2, 0, none⟩ (.int .i64 er)).cell? ⟨w.heap.size, 3, none⟩ = some (.slice pd nd cd)) from ⟨(cell_blk 1 (Below.heap_setCell _ _ _ _ (show w.heap.size ≠ w.heap.size + 2 by omega))).trans KU.out.1, (cell_blk 3 (Below.heap_setCell _ _ _ _ (show w.heap.size ≠ w.heap.size + 2 by omega))).trans KU.out.2⟩); obtain ⟨a0, a1, a2, a3, a4, a5⟩ := six hg2; obtain ⟨z0, z1, z2, z3, z4, z5⟩ := sixf hg2; obtain ⟨b0, b1, b2, b3, b4, b5⟩ := six hg3; obtain ⟨y0, y1, y2, y3, y4, y5⟩ := sixf hg3; have HX := (show Hid (_ ∧ _ ∧ _) from ⟨hg2, hD1, hT1⟩); clear hg1 hg2 hg3 hD1 hT1 h1 her))
  go_wp2
  have T0 := Tn.setCell (F := fun k => k = w.heap.size + 1 ∨ k = w.heap.size + 2) (w1) ⟨w.heap.size + 2, 0, none⟩ (.inr rfl) (.int .i64 er)
  obtain ⟨hg2, hD1, hT1⟩ := HX.out
  obtain ⟨hwl, hpl, hFF, hnF, hqF⟩ := HS.out
  have hfin := said_fin (w1 := w1.setCell ⟨w.heap.size + 2, 0, none⟩ (.int .i64 er)) (b3 := w.heap.size + 2) ((Below.heap_setCell _ _ _ _ (show w.heap.size + 1 ≠ w.heap.size + 2 by omega)).trans hg2) (.int .i64 er) (.slice none 0 0) (.slice none 0 0) (.slice none 0 0) (.int .i64 0) (.bool false)
  have TT := (T0).trans hfin.2
  refine bodyPost_ret (v := .agg #[.int .i64 er, (.slice none 0 0), (.slice none 0 0), .slice none 0 0, .int .i64 0, .bool false]) (results_cell_row rfl _ _ (w.heap.size + 1) 44 _ (0, 0) _ rfl hfin.1 Try.underlying44 rfl (by kernel_rfl)) rfl ⟨_, rfl, ⟨_, _, by rw [← HE.out.1], HE.out.2.1 ▸ ob_nil _ _, HE.out.2.2 ▸ ts_nil _ _⟩, kd_end (Nat.le_trans (Nat.le_of_eq SZ.out.symm) HQ.out.2.2.2) hbw.out hwl hpl hFF hnF hqF hD1 hT1 TT⟩
set_option maxHeartbeats 4000000 in
set_option maxRecDepth 1000000 in
theorem hurt3 {w : World} {wb db k : Nat} {pl : Option Nat} {g : Gt} {P : DataW Unit} {σ : Ds} {F : Nat → Prop} (h : Kw w wb db pl g P σ F) (ok : Gok g) (od : Okk k σ) (hk : k ≤ 134217728) (s : Sp) (d : Tx) (hx : s.x.length ≤ 140737488355328) (hy : s.y.length ≤ 140737488355328) : Calls Try.prog 14 #[.pointer (some ⟨wb, 0, none⟩), .agg (s.v 3)] w fun e w' => ∃ v, e = .returned v ∧ SdV w' w.heap.size v (hans 3 g P σ s.x s.y d) ∧ Kw w' wb db pl (ahd g P (hrm 3)).2 P (hnxt 3 g P σ s.x s.y d) (Fn F w w') ∧ Tn (fun b => b = wb ∨ F b) w w' := by
  obtain ⟨x, y, pd, nd, cd, a, b, c, ye, pp, np, cp, pq, nq, cq, pr, nr, cr⟩ := s
  dsimp only [Sp.v] at hx hy ⊢
  have hwl := blt h.1
  have hpl : ∀ b, pl = some b → b < w.heap.size := fun b e => h.2.1.lt e
  have HS := (show Hid (_ ∧ _ ∧ _ ∧ _ ∧ _) from ⟨hwl, hpl, h.2.2.1.2.1, h.2.2.2.1, h.2.2.2.2⟩)
  have hFw := (show Hid (∀ b, (b = wb ∨ F b) → b < w.heap.size) from fun b h9 => h9.elim (fun e => e ▸ hwl) (h.2.2.1.2.1 b))
  have CL := (show Hid (∀ (a b c : Obj) (args : Array Value), args = #[.pointer (some ⟨wb, 0, none⟩), encStr x] → Calls Try.prog 36 args (((w.alloc a).alloc b).alloc c) fun e w' => e = .returned (.int .i64 (hans 3 g P σ x y d).1) ∧ Kw w' wb db pl (ahd g P (hrm 3)).2 P (hnxt 3 g P σ x y d) (Fn F (((w.alloc a).alloc b).alloc c) w') ∧ Tn (fun b => b = wb ∨ F b) (((w.alloc a).alloc b).alloc c) w') from fun a b c args hargs => by
    subst hargs
    refine (ksync (h.below (al3 w a b c)) ok x (by have := od.okd hk; omega)).mono ?_
    rintro e w' ⟨h1, h2, h3⟩
    by_cases h9 : (ahd g P false).1.2 = 0
    · rw [if_pos h9] at h1 h2
      have e1 : hans 3 g P σ x y d = ans 3 σ x y d := if_pos h9
      have e2 : hnxt 3 g P σ x y d = nxt 3 σ x y d := if_pos h9
      rw [e1, e2]
      exact ⟨h1, h2, h3⟩
    · rw [if_neg h9] at h1 h2
      have e1 : hans 3 g P σ x y d = ((ahd g P false).1.2, [], []) := if_neg h9
      have e2 : hnxt 3 g P σ x y d = σ := (if_neg h9).trans (if_neg (fun h => absurd h.1 (by decide)))
      rw [e1, e2]
      exact ⟨h1, h2, h3⟩)
  obtain ⟨er, her⟩ : ∃ er, er = (hans 3 g P σ x y d).1 := ⟨_, rfl⟩
  have HE := (show Hid (er = _ ∧ _ = _ ∧ _ = _) from ⟨her, (show ([] : Tx) = (hans 3 g P σ x y d).2.1 by unfold hans; split <;> rfl), (show ([] : List Tx) = (hans 3 g P σ x y d).2.2 by unfold hans; split <;> rfl)⟩)
  clear h ok od hx hy hwl hpl
  go_enter Try.func14, Try.ntmps14
  go_wp2_with (go_at_call 36; refine (CL.out _ _ _ _ rfl).mono ?_; rintro e w1 ⟨h1, hD1, hT1⟩; obtain rfl : e = .returned (.int .i64 er) := (by rw [h1, her]); obtain ⟨_, hg2, hg3⟩ := tri hFw.out hT1; obtain ⟨a0, a1, a2, a3, a4, a5⟩ := six hg2; obtain ⟨z0, z1, z2, z3, z4, z5⟩ := sixf hg2; obtain ⟨b0, b1, b2, b3, b4, b5⟩ := six hg3; obtain ⟨y0, y1, y2, y3, y4, y5⟩ := sixf hg3; have HX := (show Hid (_ ∧ _ ∧ _) from ⟨hg2, hD1, hT1⟩); clear hg2 hg3 hD1 hT1 h1 her)
  have T0 := Tn.setCell (F := fun k => k = w.heap.size + 1 ∨ k = w.heap.size + 2) (w1) ⟨w.heap.size + 2, 0, none⟩ (.inr rfl) (.int .i64 er)
  obtain ⟨hg2, hD1, hT1⟩ := HX.out
  obtain ⟨hwl, hpl, hFF, hnF, hqF⟩ := HS.out
  have hfin := said_fin (w1 := w1.setCell ⟨w.heap.size + 2, 0, none⟩ (.int .i64 er)) (b3 := w.heap.size + 2) ((Below.heap_setCell _ _ _ _ (show w.heap.size + 1 ≠ w.heap.size + 2 by omega)).trans hg2) (.int .i64 er) (.slice none 0 0) (.slice none 0 0) (.slice none 0 0) (.int .i64 0) (.bool false)
  have TT := (T0).trans hfin.2
  refine bodyPost_ret (v := .agg #[.int .i64 er, (.slice none 0 0), (.slice none 0 0), .slice none 0 0, .int .i64 0, .bool false]) (results_cell_row rfl _ _ (w.heap.size + 1) 44 _ (0, 0) _ rfl hfin.1 Try.underlying44 rfl (by kernel_rfl)) rfl ⟨_, rfl, ⟨_, _, by rw [← HE.out.1], HE.out.2.1 ▸ ob_nil _ _, HE.out.2.2 ▸ ts_nil _ _⟩, kd_end (Nat.le_of_eq (sz3 _ _ _ _).symm) (al3 _ _ _ _) hwl hpl hFF hnF hqF hD1 hT1 TT⟩
set_option maxHeartbeats 4000000 in
set_option maxRecDepth 1000000 in
theorem hurt4 {w : World} {wb db k : Nat} {pl : Option Nat} {g : Gt} {P : DataW Unit} {σ : Ds} {F : Nat → Prop} (h : Kw w wb db pl g P σ F) (ok : Gok g) (od : Okk k σ) (hk : k ≤ 134217728) (s : Sp) (d : Tx) (hx : s.x.length ≤ 140737488355328) (hy : s.y.length ≤ 140737488355328) : Calls Try.prog 14 #[.pointer (some ⟨wb, 0, none⟩), .agg (s.v 4)] w fun e w' => ∃ v, e = .returned v ∧ SdV w' w.heap.size v (hans 4 g P σ s.x s.y d) ∧ Kw w' wb db pl (ahd g P (hrm 4)).2 P (hnxt 4 g P σ s.x s.y d) (Fn F w w') ∧ Tn (fun b => b = wb ∨ F b) w w' := by
  obtain ⟨x, y, pd, nd, cd, a, b, c, ye, pp, np, cp, pq, nq, cq, pr, nr, cr⟩ := s
  dsimp only [Sp.v] at hx hy ⊢
  have hwl := blt h.1
  have hpl : ∀ b, pl = some b → b < w.heap.size := fun b e => h.2.1.lt e
  have HS := (show Hid (_ ∧ _ ∧ _ ∧ _ ∧ _) from ⟨hwl, hpl, h.2.2.1.2.1, h.2.2.2.1, h.2.2.2.2⟩)
  have hFw := (show Hid (∀ b, (b = wb ∨ F b) → b < w.heap.size) from fun b h9 => h9.elim (fun e => e ▸ hwl) (h.2.2.1.2.1 b))
  have CL := (show Hid (∀ (a b c : Obj) (args : Array Value), args = #[.pointer (some ⟨wb, 0, none⟩), encStr x, encStr y] → Calls Try.prog 38 args (((w.alloc a).alloc b).alloc c) fun e w' => e = .returned (.int .i64 (hans 4 g P σ x y d).1) ∧ Kw w' wb db pl (ahd g P (hrm 4)).2 P (hnxt 4 g P σ x y d) (Fn F (((w.alloc a).alloc b).alloc c) w') ∧ Tn (fun b => b = wb ∨ F b) (((w.alloc a).alloc b).alloc c) w') from fun a b c args hargs => by
    subst hargs
    refine (krename (h.below (al3 w a b c)) ok (od.okd hk) x y (by omega) (by omega)).mono ?_
    rintro e w' ⟨h1, h2, h3⟩
    by_cases h9 : (ahd g P false).1.2 = 0
    · rw [if_pos h9] at h1 h2
      have e1 : hans 4 g P σ x y d = ans 4 σ x y d := if_pos h9
      have e2 : hnxt 4 g P σ x y d = nxt 4 σ x y d := if_pos h9
      rw [e1, e2]
      exact ⟨h1, h2, h3⟩
    · rw [if_neg h9] at h1 h2
      have e1 : hans 4 g P σ x y d = ((ahd g P false).1.2, [], []) := if_neg h9
      have e2 : hnxt 4 g P σ x y d = σ := (if_neg h9).trans (if_neg (fun h => absurd h.1 (by decide)))
      rw [e1, e2]
      exact ⟨h1, h2, h3⟩)
  obtain ⟨er, her⟩ : ∃ er, er = (hans 4 g P σ x y d).1 := ⟨_, rfl⟩
  have HE := (show Hid (er = _ ∧ _ = _ ∧ _ = _) from ⟨her, (show ([] : Tx) = (hans 4 g P σ x y d).2.1 by unfold hans; split <;> rfl), (show ([] : List Tx) = (hans 4 g P σ x y d).2.2 by unfold hans; split <;> rfl)⟩)
  clear h ok od hx hy hwl hpl
  go_enter Try.func14, Try.ntmps14
  go_wp2_with (go_at_call 38; refine (CL.out _ _ _ _ rfl).mono ?_; rintro e w1 ⟨h1, hD1, hT1⟩; obtain rfl : e = .returned (.int .i64 er) := (by rw [h1, her]); obtain ⟨_, hg2, hg3⟩ := tri hFw.out hT1; obtain ⟨a0, a1, a2, a3, a4, a5⟩ := six hg2; obtain ⟨z0, z1, z2, z3, z4, z5⟩ := sixf hg2; obtain ⟨b0, b1, b2, b3, b4, b5⟩ := six hg3; obtain ⟨y0, y1, y2, y3, y4, y5⟩ := sixf hg3; have HX := (show Hid (_ ∧ _ ∧ _) from ⟨hg2, hD1, hT1⟩); clear hg2 hg3 hD1 hT1 h1 her)
  have T0 := Tn.setCell (F := fun k => k = w.heap.size + 1 ∨ k = w.heap.size + 2) (w1) ⟨w.heap.size + 2, 0, none⟩ (.inr rfl) (.int .i64 er)
  obtain ⟨hg2, hD1, hT1⟩ := HX.out
  obtain ⟨hwl, hpl, hFF, hnF, hqF⟩ := HS.out
  have hfin := said_fin (w1 := w1.setCell ⟨w.heap.size + 2, 0, none⟩ (.int .i64 er)) (b3 := w.heap.size + 2) ((Below.heap_setCell _ _ _ _ (show w.heap.size + 1 ≠ w.heap.size + 2 by omega)).trans hg2) (.int .i64 er) (.slice none 0 0) (.slice none 0 0) (.slice none 0 0) (.int .i64 0) (.bool false)
  have TT := (T0).trans hfin.2
  refine bodyPost_ret (v := .agg #[.int .i64 er, (.slice none 0 0), (.slice none 0 0), .slice none 0 0, .int .i64 0, .bool false]) (results_cell_row rfl _ _ (w.heap.size + 1) 44 _ (0, 0) _ rfl hfin.1 Try.underlying44 rfl (by kernel_rfl)) rfl ⟨_, rfl, ⟨_, _, by rw [← HE.out.1], HE.out.2.1 ▸ ob_nil _ _, HE.out.2.2 ▸ ts_nil _ _⟩, kd_end (Nat.le_of_eq (sz3 _ _ _ _).symm) (al3 _ _ _ _) hwl hpl hFF hnF hqF hD1 hT1 TT⟩
set_option maxHeartbeats 4000000 in
set_option maxRecDepth 1000000 in
theorem hurt5 {w : World} {wb db k : Nat} {pl : Option Nat} {g : Gt} {P : DataW Unit} {σ : Ds} {F : Nat → Prop} (h : Kw w wb db pl g P σ F) (ok : Gok g) (od : Okk k σ) (hk : k ≤ 134217728) (s : Sp) (d : Tx) (hx : s.x.length ≤ 140737488355328) (hy : s.y.length ≤ 140737488355328) : Calls Try.prog 14 #[.pointer (some ⟨wb, 0, none⟩), .agg (s.v 5)] w fun e w' => ∃ v, e = .returned v ∧ SdV w' w.heap.size v (hans 5 g P σ s.x s.y d) ∧ Kw w' wb db pl (ahd g P (hrm 5)).2 P (hnxt 5 g P σ s.x s.y d) (Fn F w w') ∧ Tn (fun b => b = wb ∨ F b) w w' := by
  obtain ⟨x, y, pd, nd, cd, a, b, c, ye, pp, np, cp, pq, nq, cq, pr, nr, cr⟩ := s
  dsimp only [Sp.v] at hx hy ⊢
  have hwl := blt h.1
  have hpl : ∀ b, pl = some b → b < w.heap.size := fun b e => h.2.1.lt e
  have HS := (show Hid (_ ∧ _ ∧ _ ∧ _ ∧ _) from ⟨hwl, hpl, h.2.2.1.2.1, h.2.2.2.1, h.2.2.2.2⟩)
  have hFw := (show Hid (∀ b, (b = wb ∨ F b) → b < w.heap.size) from fun b h9 => h9.elim (fun e => e ▸ hwl) (h.2.2.1.2.1 b))
  have CL := (show Hid (∀ (a b c : Obj) (args : Array Value), args = #[.pointer (some ⟨wb, 0, none⟩), encStr x] → Calls Try.prog 39 args (((w.alloc a).alloc b).alloc c) fun e w' => e = .returned (.int .i64 (hans 5 g P σ x y d).1) ∧ Kw w' wb db pl (ahd g P (hrm 5)).2 P (hnxt 5 g P σ x y d) (Fn F (((w.alloc a).alloc b).alloc c) w') ∧ Tn (fun b => b = wb ∨ F b) (((w.alloc a).alloc b).alloc c) w') from fun a b c args hargs => by
    subst hargs
    refine (kremove (h.below (al3 w a b c)) ok (od.okd hk) x (by omega)).mono ?_
    rintro e w' ⟨h1, h2, h3⟩
    by_cases h9 : (ahd g P false).1.2 = 0
    · rw [if_pos h9] at h1 h2
      have e1 : hans 5 g P σ x y d = ans 5 σ x y d := if_pos h9
      have e2 : hnxt 5 g P σ x y d = nxt 5 σ x y d := if_pos h9
      rw [e1, e2]
      exact ⟨h1, h2, h3⟩
    · rw [if_neg h9] at h1 h2
      have e1 : hans 5 g P σ x y d = ((ahd g P false).1.2, [], []) := if_neg h9
      have e2 : hnxt 5 g P σ x y d = σ := (if_neg h9).trans (if_neg (fun h => absurd h.1 (by decide)))
      rw [e1, e2]
      exact ⟨h1, h2, h3⟩)
  obtain ⟨er, her⟩ : ∃ er, er = (hans 5 g P σ x y d).1 := ⟨_, rfl⟩
  have HE := (show Hid (er = _ ∧ _ = _ ∧ _ = _) from ⟨her, (show ([] : Tx) = (hans 5 g P σ x y d).2.1 by unfold hans; split <;> rfl), (show ([] : List Tx) = (hans 5 g P σ x y d).2.2 by unfold hans; split <;> rfl)⟩)
  clear h ok od hx hy hwl hpl
  go_enter Try.func14, Try.ntmps14
  go_wp2_with (go_at_call 39; refine (CL.out _ _ _ _ rfl).mono ?_; rintro e w1 ⟨h1, hD1, hT1⟩; obtain rfl : e = .returned (.int .i64 er) := (by rw [h1, her]); obtain ⟨_, hg2, hg3⟩ := tri hFw.out hT1; obtain ⟨a0, a1, a2, a3, a4, a5⟩ := six hg2; obtain ⟨z0, z1, z2, z3, z4, z5⟩ := sixf hg2; obtain ⟨b0, b1, b2, b3, b4, b5⟩ := six hg3; obtain ⟨y0, y1, y2, y3, y4, y5⟩ := sixf hg3; have HX := (show Hid (_ ∧ _ ∧ _) from ⟨hg2, hD1, hT1⟩); clear hg2 hg3 hD1 hT1 h1 her)
  have T0 := Tn.setCell (F := fun k => k = w.heap.size + 1 ∨ k = w.heap.size + 2) (w1) ⟨w.heap.size + 2, 0, none⟩ (.inr rfl) (.int .i64 er)
  obtain ⟨hg2, hD1, hT1⟩ := HX.out
  obtain ⟨hwl, hpl, hFF, hnF, hqF⟩ := HS.out
  have hfin := said_fin (w1 := w1.setCell ⟨w.heap.size + 2, 0, none⟩ (.int .i64 er)) (b3 := w.heap.size + 2) ((Below.heap_setCell _ _ _ _ (show w.heap.size + 1 ≠ w.heap.size + 2 by omega)).trans hg2) (.int .i64 er) (.slice none 0 0) (.slice none 0 0) (.slice none 0 0) (.int .i64 0) (.bool false)
  have TT := (T0).trans hfin.2
  refine bodyPost_ret (v := .agg #[.int .i64 er, (.slice none 0 0), (.slice none 0 0), .slice none 0 0, .int .i64 0, .bool false]) (results_cell_row rfl _ _ (w.heap.size + 1) 44 _ (0, 0) _ rfl hfin.1 Try.underlying44 rfl (by kernel_rfl)) rfl ⟨_, rfl, ⟨_, _, by rw [← HE.out.1], HE.out.2.1 ▸ ob_nil _ _, HE.out.2.2 ▸ ts_nil _ _⟩, kd_end (Nat.le_of_eq (sz3 _ _ _ _).symm) (al3 _ _ _ _) hwl hpl hFF hnF hqF hD1 hT1 TT⟩
set_option maxHeartbeats 4000000 in
set_option maxRecDepth 1000000 in
theorem hurt6 {w : World} {wb db k : Nat} {pl : Option Nat} {g : Gt} {P : DataW Unit} {σ : Ds} {F : Nat → Prop} (h : Kw w wb db pl g P σ F) (ok : Gok g) (od : Okk k σ) (hk : k ≤ 134217728) (s : Sp) (d : Tx) (hx : s.x.length ≤ 140737488355328) (hy : s.y.length ≤ 140737488355328) : Calls Try.prog 14 #[.pointer (some ⟨wb, 0, none⟩), .agg (s.v 6)] w fun e w' => ∃ v, e = .returned v ∧ SdV w' w.heap.size v (hans 6 g P σ s.x s.y d) ∧ Kw w' wb db pl (ahd g P (hrm 6)).2 P (hnxt 6 g P σ s.x s.y d) (Fn F w w') ∧ Tn (fun b => b = wb ∨ F b) w w' := by
  obtain ⟨x, y, pd, nd, cd, a, b, c, ye, pp, np, cp, pq, nq, cq, pr, nr, cr⟩ := s
  dsimp only [Sp.v] at hx hy ⊢
  have hwl := blt h.1
  have hpl : ∀ b, pl = some b → b < w.heap.size := fun b e => h.2.1.lt e
  have HS := (show Hid (_ ∧ _ ∧ _ ∧ _ ∧ _) from ⟨hwl, hpl, h.2.2.1.2.1, h.2.2.2.1, h.2.2.2.2⟩)
  have hFw := (show Hid (∀ b, (b = wb ∨ F b) → b < w.heap.size) from fun b h9 => h9.elim (fun e => e ▸ hwl) (h.2.2.1.2.1 b))
  have CL := (show Hid (∀ (a b c : Obj) (args : Array Value), args = #[.pointer (some ⟨wb, 0, none⟩)] → Calls Try.prog 40 args (((w.alloc a).alloc b).alloc c) fun e w' => e = .returned (.int .i64 (hans 6 g P σ x y d).1) ∧ Kw w' wb db pl (ahd g P (hrm 6)).2 P (hnxt 6 g P σ x y d) (Fn F (((w.alloc a).alloc b).alloc c) w') ∧ Tn (fun b => b = wb ∨ F b) (((w.alloc a).alloc b).alloc c) w') from fun a b c args hargs => by
    subst hargs
    refine (ksyncDir (h.below (al3 w a b c)) ok (od.okp hk)).mono ?_
    rintro e w' ⟨h1, h2, h3⟩
    by_cases h9 : (ahd g P false).1.2 = 0
    · rw [if_pos h9] at h1 h2
      have e1 : hans 6 g P σ x y d = ans 6 σ x y d := if_pos h9
      have e2 : hnxt 6 g P σ x y d = nxt 6 σ x y d := if_pos h9
      rw [e1, e2]
      exact ⟨h1, h2, h3⟩
    · rw [if_neg h9] at h1 h2
      have e1 : hans 6 g P σ x y d = ((ahd g P false).1.2, [], []) := if_neg h9
      have e2 : hnxt 6 g P σ x y d = σ := (if_neg h9).trans (if_neg (fun h => absurd h.1 (by decide)))
      rw [e1, e2]
      exact ⟨h1, h2, h3⟩)
  obtain ⟨er, her⟩ : ∃ er, er = (hans 6 g P σ x y d).1 := ⟨_, rfl⟩
  have HE := (show Hid (er = _ ∧ _ = _ ∧ _ = _) from ⟨her, (show ([] : Tx) = (hans 6 g P σ x y d).2.1 by unfold hans; split <;> rfl), (show ([] : List Tx) = (hans 6 g P σ x y d).2.2 by unfold hans; split <;> rfl)⟩)
  clear h ok od hx hy hwl hpl
  go_enter Try.func14, Try.ntmps14
  go_wp2_with (go_at_call 40; refine (CL.out _ _ _ _ rfl).mono ?_; rintro e w1 ⟨h1, hD1, hT1⟩; obtain rfl : e = .returned (.int .i64 er) := (by rw [h1, her]); obtain ⟨_, hg2, hg3⟩ := tri hFw.out hT1; obtain ⟨a0, a1, a2, a3, a4, a5⟩ := six hg2; obtain ⟨z0, z1, z2, z3, z4, z5⟩ := sixf hg2; obtain ⟨b0, b1, b2, b3, b4, b5⟩ := six hg3; obtain ⟨y0, y1, y2, y3, y4, y5⟩ := sixf hg3; have HX := (show Hid (_ ∧ _ ∧ _) from ⟨hg2, hD1, hT1⟩); clear hg2 hg3 hD1 hT1 h1 her)
  have T0 := Tn.setCell (F := fun k => k = w.heap.size + 1 ∨ k = w.heap.size + 2) (w1) ⟨w.heap.size + 2, 0, none⟩ (.inr rfl) (.int .i64 er)
  obtain ⟨hg2, hD1, hT1⟩ := HX.out
  obtain ⟨hwl, hpl, hFF, hnF, hqF⟩ := HS.out
  have hfin := said_fin (w1 := w1.setCell ⟨w.heap.size + 2, 0, none⟩ (.int .i64 er)) (b3 := w.heap.size + 2) ((Below.heap_setCell _ _ _ _ (show w.heap.size + 1 ≠ w.heap.size + 2 by omega)).trans hg2) (.int .i64 er) (.slice none 0 0) (.slice none 0 0) (.slice none 0 0) (.int .i64 0) (.bool false)
  have TT := (T0).trans hfin.2
  refine bodyPost_ret (v := .agg #[.int .i64 er, (.slice none 0 0), (.slice none 0 0), .slice none 0 0, .int .i64 0, .bool false]) (results_cell_row rfl _ _ (w.heap.size + 1) 44 _ (0, 0) _ rfl hfin.1 Try.underlying44 rfl (by kernel_rfl)) rfl ⟨_, rfl, ⟨_, _, by rw [← HE.out.1], HE.out.2.1 ▸ ob_nil _ _, HE.out.2.2 ▸ ts_nil _ _⟩, kd_end (Nat.le_of_eq (sz3 _ _ _ _).symm) (al3 _ _ _ _) hwl hpl hFF hnF hqF hD1 hT1 TT⟩
set_option maxHeartbeats 4000000 in
set_option maxRecDepth 1000000 in
theorem hurt7 {w : World} {wb db k : Nat} {pl : Option Nat} {g : Gt} {P : DataW Unit} {σ : Ds} {F : Nat → Prop} (h : Kw w wb db pl g P σ F) (ok : Gok g) (od : Okk k σ) (hk : k ≤ 134217728) (s : Sp) (d : Tx) (hx : s.x.length ≤ 140737488355328) (hy : s.y.length ≤ 140737488355328) : Calls Try.prog 14 #[.pointer (some ⟨wb, 0, none⟩), .agg (s.v 7)] w fun e w' => ∃ v, e = .returned v ∧ SdV w' w.heap.size v (hans 7 g P σ s.x s.y d) ∧ Kw w' wb db pl (ahd g P (hrm 7)).2 P (hnxt 7 g P σ s.x s.y d) (Fn F w w') ∧ Tn (fun b => b = wb ∨ F b) w w' := by
  obtain ⟨x, y, pd, nd, cd, a, b, c, ye, pp, np, cp, pq, nq, cq, pr, nr, cr⟩ := s
  dsimp only [Sp.v] at hx hy ⊢
  have hwl := blt h.1
  have hpl : ∀ b, pl = some b → b < w.heap.size := fun b e => h.2.1.lt e
  have HS := (show Hid (_ ∧ _ ∧ _ ∧ _ ∧ _) from ⟨hwl, hpl, h.2.2.1.2.1, h.2.2.2.1, h.2.2.2.2⟩)
  have hFw := (show Hid (∀ b, (b = wb ∨ F b) → b < w.heap.size) from fun b h9 => h9.elim (fun e => e ▸ hwl) (h.2.2.1.2.1 b))
  have CL := (show Hid (∀ (a b c : Obj) (args : Array Value), args = #[.pointer (some ⟨wb, 0, none⟩), encStr x] → Calls Try.prog 35 args (((w.alloc a).alloc b).alloc c) fun e w' => ∃ v, e = .returned (.tuple #[v, .int .i64 (hans 7 g P σ x y d).1]) ∧ Ob w' (((w.alloc a).alloc b).alloc c).heap.size v (hans 7 g P σ x y d).2.1 ∧ Kw w' wb db pl (ahd g P (hrm 7)).2 P (hnxt 7 g P σ x y d) (Fn F (((w.alloc a).alloc b).alloc c) w') ∧ Tn (fun b => b = wb ∨ F b) (((w.alloc a).alloc b).alloc c) w') from fun a b c args hargs => by
    subst hargs
    have hsz := sz3 w a b c
    refine (kread (h.below (al3 w a b c)) ok x (by omega) (fun i _ => by have := od.bl i; omega)).mono ?_
    rintro e w' ⟨⟨v, h1, h2⟩, h3, h4⟩
    have hKf := h3.fn (W := ((w.alloc a).alloc b).alloc c) (by omega) (fun b e => by have := hpl b e; omega)
    by_cases h9 : (ahd g P false).1.2 = 0
    · rw [if_pos h9] at h1 h2
      have e1 : hans 7 g P σ x y d = ans 7 σ x y d := if_pos h9
      have e2 : hnxt 7 g P σ x y d = nxt 7 σ x y d := if_pos h9
      rw [e1, e2]
      exact ⟨v, h1, h2, hKf, h4.more (fun _ h => .inl h)⟩
    · rw [if_neg h9] at h1 h2
      have e1 : hans 7 g P σ x y d = ((ahd g P false).1.2, [], []) := if_neg h9
      have e2 : hnxt 7 g P σ x y d = σ := (if_neg h9).trans (if_neg (fun h => absurd h.1 (by decide)))
      rw [e1, e2]
      exact ⟨v, h1, h2, hKf, h4.more (fun _ h => .inl h)⟩)
  obtain ⟨er, her⟩ : ∃ er, er = (hans 7 g P σ x y d).1 := ⟨_, rfl⟩
  have HE := (show Hid (er = _ ∧ _ = _) from ⟨her, (show ([] : List Tx) = (hans 7 g P σ x y d).2.2 by unfold hans; split <;> rfl)⟩)
  clear h ok od hx hy hwl hpl
  go_enter Try.func14, Try.ntmps14
  go_wp2_with (go_at_call 35; refine (CL.out _ _ _ _ rfl).mono ?_; rintro e w1 ⟨v, h1, hO, hD1, hT1⟩; obtain ⟨pv, nv, cv, hv⟩ : ∃ pv nv cv, v = .slice pv nv cv := ⟨_, _, _, (Ob.len hO).choose_spec.choose_spec⟩; subst hv; obtain rfl : e = .returned (.tuple #[.slice pv nv cv, .int .i64 er]) := (by rw [h1, her]); obtain ⟨_, hg2, hg3⟩ := tri hFw.out hT1; obtain ⟨a0, a1, a2, a3, a4, a5⟩ := six hg2; obtain ⟨z0, z1, z2, z3, z4, z5⟩ := sixf hg2; obtain ⟨b0, b1, b2, b3, b4, b5⟩ := six hg3; obtain ⟨y0, y1, y2, y3, y4, y5⟩ := sixf hg3; have HX := (show Hid (_ ∧ _ ∧ _) from ⟨hg2, hD1, hT1⟩); have HO := (show Hid (Ob _ _ _ _) from hO); clear hO hg2 hg3 hD1 hT1 h1 her)
  have T1 := Tn.setCell (F := fun k => k = w.heap.size + 1 ∨ k = w.heap.size + 2) (w1) ⟨w.heap.size + 2, 1, none⟩ (.inr rfl) (.slice pv nv cv)
  have T0 := Tn.setCell (F := fun k => k = w.heap.size + 1 ∨ k = w.heap.size + 2) (w1.setCell ⟨w.heap.size + 2, 1, none⟩ (.slice pv nv cv)) ⟨w.heap.size + 2, 0, none⟩ (.inr rfl) (.int .i64 er)
  obtain ⟨hg2, hD1, hT1⟩ := HX.out
  obtain ⟨hwl, hpl, hFF, hnF, hqF⟩ := HS.out
  have hfin := said_fin (w1 := (w1.setCell ⟨w.heap.size + 2, 1, none⟩ (.slice pv nv cv)).setCell ⟨w.heap.size + 2, 0, none⟩ (.int .i64 er)) (b3 := w.heap.size + 2) ((Below.heap_setCell _ _ _ _ (show w.heap.size + 1 ≠ w.heap.size + 2 by omega)).trans ((Below.heap_setCell _ _ _ _ (show w.heap.size + 1 ≠ w.heap.size + 2 by omega)).trans hg2)) (.int .i64 er) (.slice pv nv cv) (.slice none 0 0) (.slice none 0 0) (.int .i64 0) (.bool false)
  have TT := ((T1).trans T0).trans hfin.2
  refine bodyPost_ret (v := .agg #[.int .i64 er, (.slice pv nv cv), (.slice none 0 0), .slice none 0 0, .int .i64 0, .bool false]) (results_cell_row rfl _ _ (w.heap.size + 1) 44 _ (0, 0) _ rfl hfin.1 Try.underlying44 rfl (by kernel_rfl)) rfl ⟨_, rfl, ⟨_, _, by rw [← HE.out.1], row_end HO.out (Nat.le_of_eq (sz3 _ _ _ _).symm) TT, HE.out.2 ▸ ts_nil _ _⟩, kd_end (Nat.le_of_eq (sz3 _ _ _ _).symm) (al3 _ _ _ _) hwl hpl hFF hnF hqF hD1 hT1 TT⟩
set_option maxHeartbeats 4000000 in
set_option maxRecDepth 1000000 in
theorem hurt8 {w : World} {wb db k : Nat} {pl : Option Nat} {g : Gt} {P : DataW Unit} {σ : Ds} {F : Nat → Prop} (h : Kw w wb db pl g P σ F) (ok : Gok g) (od : Okk k σ) (hk : k ≤ 134217728) (s : Sp) (d : Tx) (hx : s.x.length ≤ 140737488355328) (hy : s.y.length ≤ 140737488355328) : Calls Try.prog 14 #[.pointer (some ⟨wb, 0, none⟩), .agg (s.v 8)] w fun e w' => ∃ v, e = .returned v ∧ SdV w' w.heap.size v (hans 8 g P σ s.x s.y d) ∧ Kw w' wb db pl (ahd g P (hrm 8)).2 P (hnxt 8 g P σ s.x s.y d) (Fn F w w') ∧ Tn (fun b => b = wb ∨ F b) w w' := by
  obtain ⟨x, y, pd, nd, cd, a, b, c, ye, pp, np, cp, pq, nq, cq, pr, nr, cr⟩ := s
  dsimp only [Sp.v] at hx hy ⊢
  have hwl := blt h.1
  have hpl : ∀ b, pl = some b → b < w.heap.size := fun b e => h.2.1.lt e
  have HS := (show Hid (_ ∧ _ ∧ _ ∧ _ ∧ _) from ⟨hwl, hpl, h.2.2.1.2.1, h.2.2.2.1, h.2.2.2.2⟩)
  have hFw := (show Hid (∀ b, (b = wb ∨ F b) → b < w.heap.size) from fun b h9 => h9.elim (fun e => e ▸ hwl) (h.2.2.1.2.1 b))
  have CL := (show Hid (∀ (a b c : Obj) (args : Array Value), args = #[.pointer (some ⟨wb, 0, none⟩)] → Calls Try.prog 26 args (((w.alloc a).alloc b).alloc c) fun e w' => ∃ v, e = .returned (.tuple #[v, .int .i64 (hans 8 g P σ x y d).1]) ∧ Ts w' (((w.alloc a).alloc b).alloc c).heap.size v (hans 8 g P σ x y d).2.2 ∧ Kw w' wb db pl (ahd g P (hrm 8)).2 P (hnxt 8 g P σ x y d) (Fn F (((w.alloc a).alloc b).alloc c) w') ∧ Tn (fun b => b = wb ∨ F b) (((w.alloc a).alloc b).alloc c) w') from fun a b c args hargs => by
    subst hargs
    have hsz := sz3 w a b c
    refine (klist (h.below (al3 w a b c)) ok (by have := od.ss; omega)).mono ?_
    rintro e w' ⟨⟨v, h1, h2⟩, h3, h4⟩
    have hKf := h3.fn (W := ((w.alloc a).alloc b).alloc c) (by omega) (fun b e => by have := hpl b e; omega)
    by_cases h9 : (ahd g P false).1.2 = 0
    · rw [if_pos h9] at h2; rw [h9] at h1
      have e1 : hans 8 g P σ x y d = ans 8 σ x y d := if_pos h9
      have e2 : hnxt 8 g P σ x y d = nxt 8 σ x y d := if_pos h9
      rw [e1, e2]
      exact ⟨v, h1, h2, hKf, h4.more (fun _ h => .inl h)⟩
    · rw [if_neg h9] at h2
      have e1 : hans 8 g P σ x y d = ((ahd g P false).1.2, [], []) := if_neg h9
      have e2 : hnxt 8 g P σ x y d = σ := (if_neg h9).trans (if_neg (fun h => absurd h.1 (by decide)))
      rw [e1, e2]
      exact ⟨v, h1, h2, hKf, h4.more (fun _ h => .inl h)⟩)
  obtain ⟨er, her⟩ : ∃ er, er = (hans 8 g P σ x y d).1 := ⟨_, rfl⟩
  have HE := (show Hid (er = _ ∧ _ = _) from ⟨her, (show ([] : Tx) = (hans 8 g P σ x y d).2.1 by unfold hans; split <;> rfl)⟩)
  clear h ok od hx hy hwl hpl
  go_enter Try.func14, Try.ntmps14
  go_wp2_with (go_at_call 26; refine (CL.out _ _ _ _ rfl).mono ?_; rintro e w1 ⟨v, h1, hO, hD1, hT1⟩; obtain ⟨pv, nv, cv, hv⟩ : ∃ pv nv cv, v = .slice pv nv cv := ⟨_, _, _, (own_len hO).choose_spec.choose_spec⟩; subst hv; obtain rfl : e = .returned (.tuple #[.slice pv nv cv, .int .i64 er]) := (by rw [h1, her]); obtain ⟨_, hg2, hg3⟩ := tri hFw.out hT1; obtain ⟨a0, a1, a2, a3, a4, a5⟩ := six hg2; obtain ⟨z0, z1, z2, z3, z4, z5⟩ := sixf hg2; obtain ⟨b0, b1, b2, b3, b4, b5⟩ := six hg3; obtain ⟨y0, y1, y2, y3, y4, y5⟩ := sixf hg3; have HX := (show Hid (_ ∧ _ ∧ _) from ⟨hg2, hD1, hT1⟩); have HO := (show Hid (Ts _ _ _ _) from hO); clear hO hg2 hg3 hD1 hT1 h1 her)
  have T2 := Tn.setCell (F := fun k => k = w.heap.size + 1 ∨ k = w.heap.size + 2) (w1) ⟨w.heap.size + 2, 2, none⟩ (.inr rfl) (.slice pv nv cv)
  have T0 := Tn.setCell (F := fun k => k = w.heap.size + 1 ∨ k = w.heap.size + 2) (w1.setCell ⟨w.heap.size + 2, 2, none⟩ (.slice pv nv cv)) ⟨w.heap.size + 2, 0, none⟩ (.inr rfl) (.int .i64 er)
  obtain ⟨hg2, hD1, hT1⟩ := HX.out
  obtain ⟨hwl, hpl, hFF, hnF, hqF⟩ := HS.out
  have hfin := said_fin (w1 := (w1.setCell ⟨w.heap.size + 2, 2, none⟩ (.slice pv nv cv)).setCell ⟨w.heap.size + 2, 0, none⟩ (.int .i64 er)) (b3 := w.heap.size + 2) ((Below.heap_setCell _ _ _ _ (show w.heap.size + 1 ≠ w.heap.size + 2 by omega)).trans ((Below.heap_setCell _ _ _ _ (show w.heap.size + 1 ≠ w.heap.size + 2 by omega)).trans hg2)) (.int .i64 er) (.slice none 0 0) (.slice pv nv cv) (.slice none 0 0) (.int .i64 0) (.bool false)
  have TT := ((T2).trans T0).trans hfin.2
  refine bodyPost_ret (v := .agg #[.int .i64 er, (.slice none 0 0), (.slice pv nv cv), .slice none 0 0, .int .i64 0, .bool false]) (results_cell_row rfl _ _ (w.heap.size + 1) 44 _ (0, 0) _ rfl hfin.1 Try.underlying44 rfl (by kernel_rfl)) rfl ⟨_, rfl, ⟨_, _, by rw [← HE.out.1], HE.out.2 ▸ ob_nil _ _, row_end HO.out (Nat.le_of_eq (sz3 _ _ _ _).symm) TT⟩, kd_end (Nat.le_of_eq (sz3 _ _ _ _).symm) (al3 _ _ _ _) hwl hpl hFF hnF hqF hD1 hT1 TT⟩
end
end Go.Proofs.Ytjjncajfljbegaa
