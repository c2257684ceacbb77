/-
  NamingOwn: the law's walk.
-/
import Derived.Test.YtkljlfhplnoldaaAp09
import Derived.Deep.CutRange
namespace Go.Proofs.Ytkljlfhplnoldaa
open Go.RowKit Go.Maps Go.Sort
theorem und22 : Try.prog.underlying 22 = some (.slice (Try.prog.elem 22)) := by kernel_rfl
theorem szS (w : World) : (sizeOf (Try.prog.elem 22)).run Try.prog w = .ok 1 w := by
  obtain ⟨i0, hi, hz0, hz1, hz2⟩ := info_parts info9
  have e : Try.prog.elem 22 = 9 := by kernel_rfl
  rw [e]
  simp [sizeOf, typeInfo, hi, hz1]
theorem front9 (p : Option Addr) (n c N : Nat) (hN : N ≤ n) (hc : n ≤ c) : ∃ p', (∀ w', (Instr.slice 22 (.slice p n c) none (some (.int .i64 (N : Int))) none).run Try.prog w' = .ok (.slice p' N c) w') ∧ ∀ (w : World) (xs : List Tx), Rs w p xs → Rs w p' (xs.take N) := by
  refine ⟨if c = 0 then p else p.map (·.add 0), fun w' => ?_, fun w xs h => ?_⟩
  · rw [run_slice_h (P := Try.prog) w' 22 p n c und22 .i64 (N : Int) (by omega) (by omega), szS]
    simp [Result.andThen, sliced]
  · rcases h with rfl | ⟨b, o, rfl, hx⟩
    · exact .inl (by simp)
    · refine .inr ⟨b, o, ?_, fun i hi => ?_⟩
      · split
        · rfl
        · simp [add_pl]
      · have hi1 : i < N ∧ i < xs.length := by rw [List.length_take] at hi; omega
        rw [hx i hi1.2]
        simp [List.getD, List.getElem?_take_of_lt hi1.1]
theorem back9 (g n m c : Nat) (hc : n + m ≤ c) (hm : 0 < m) (w' : World) : (Instr.slice 22 (.slice (some ⟨g, 0, none⟩) (n + m) c) (some (.int .i64 (n : Int))) none none).run Try.prog w' = .ok (.slice (some ⟨g, n, none⟩) m (c - n)) w' := by
  rw [run_slice_l (P := Try.prog) w' 22 (some ⟨g, 0, none⟩) (n + m) c und22 .i64 (n : Int) (by omega) (by omega), szS]
  simp [Result.andThen, sliced, add_pl]
  omega
theorem Ot.mono9 {w : World} {base base' : Nat} {v : Value} {ts : List Tx} (h : Ot w base v ts) (hb : base' ≤ base) : Ot w base' v ts := ot_mono h hb
theorem ot_mde {w : World} {base g c : Nat} {l : List Tx} (h : Ot w base (.slice (some ⟨g, 0, none⟩) l.length c) l) : Mde 9 w g c l.length (fun i => encStr (l.getD i [])) ∧ base ≤ g ∧ g < w.heap.size := by
  have e : l.map encStr = (List.range l.length).map (fun i => encStr (l.getD i [])) := by
    apply List.ext_getElem?
    intro i
    by_cases hi : i < l.length
    · rw [mde_get _ _ _ hi, List.getElem?_map, List.getElem?_eq_getElem hi]
      simp [List.getD, hi]
    · rw [List.getElem?_eq_none (by simp; omega), List.getElem?_eq_none (by simp; omega)]
  unfold Ot at h
  rw [e] at h
  refine ⟨mde_owns h, ?_⟩
  have := h.lt g rfl
  exact this
def lit3 : List Tx := [[114, 111, 111, 109], [98, 101, 104, 105, 110, 100], [105, 116]]
/-- The room: names and three texts behind them. -/
structure Rm (w : World) (B g c : Nat) (X : List Tx) : Prop where
  own : Ot w B (.slice (some ⟨g, 0, none⟩) (X.length + 3) c) (X ++ lit3)
theorem Rm.below {w w' : World} {B g c : Nat} {X : List Tx} (h : Rm w B g c X) (hb : Below w.heap.size w w') : Rm w' B g c X := ⟨ot_below h.own hb⟩
theorem Rm.ge {w : World} {B g c : Nat} {X : List Tx} (h : Rm w B g c X) : B ≤ g ∧ g < w.heap.size := World.ownsRow.lt h.own g rfl
theorem rm_cell {w : World} {B g c : Nat} {X : List Tx} (h : Rm w B g c X) {i : Nat} (hi : i < X.length + 3) : w.cell? ⟨g, i, none⟩ = some (encStr ((X ++ lit3).getD i [])) := by
  have h1 := h.own.rs.1
  rcases h1 with e | ⟨b, o, e, hx⟩
  · have := congrArg List.length e
    simp [lit3] at this
  · injection e with e
    injection e with e1 e2
    subst e1 e2
    have := hx i (by simp [lit3]; omega)
    rw [Nat.zero_add] at this
    exact this
theorem Rm.rs {w : World} {B g c : Nat} {X : List Tx} (h : Rm w B g c X) : Rs w (some ⟨g, 0, none⟩) X := .inr ⟨g, 0, rfl, fun i hi => by
  rw [Nat.zero_add, rm_cell h (by omega)]
  simp [List.getD, hi, List.getElem?_append_left]⟩
theorem Rm.tail {w : World} {B g c : Nat} {X : List Tx} (h : Rm w B g c X) : Rs w (some ⟨g, X.length, none⟩) lit3 := .inr ⟨g, X.length, rfl, fun i hi => by
  have hi' : i < 3 := by simpa [lit3] using hi
  rw [rm_cell h (by omega)]
  simp [List.getD, List.getElem?_append_right]⟩
theorem Rm.frozen {w : World} {B g c : Nat} {X : List Tx} (h : Rm w B g c X) (i : Nat) : w.frozen? ⟨g, i, none⟩ = false := by
  have h1 := h.own
  unfold Ot at h1
  have e : (X ++ lit3).length = X.length + 3 := by simp [lit3]
  rw [e] at h1
  exact h1.frozenAt i
theorem Rm.set {w : World} {B g c : Nat} {X : List Tx} (h : Rm w B g c X) {i : Nat} (hi : i < X.length) (t : Tx) : Rm (w.setCell ⟨g, i, none⟩ (encStr t)) B g c (X.set i t) ∧ w.grownBy (w.setCell ⟨g, i, none⟩ (encStr t)) (some g) := by
  have h1 := h.own
  unfold Ot at h1
  have e : (X ++ lit3).length = X.length + 3 := by simp [lit3]
  rw [e] at h1
  obtain ⟨h2, h3⟩ := World.ownsRow.stored h1 i (encStr t)
  refine ⟨⟨?_⟩, h3⟩
  unfold Ot
  rw [← List.map_set, List.set_append_left _ _ hi] at h2
  simpa [lit3] using h2
theorem Rm.cap {w : World} {B g c : Nat} {X : List Tx} (h : Rm w B g c X) : X.length + 3 ≤ c := by
  obtain ⟨p, c', e, h2⟩ := h.own.cap
  injection e with _ e1 e2
  simp [lit3] at h2 e1
  omega
/-- A list that is overwritten by another, as far as k. -/
def ovt (X Y : List Tx) (k : Nat) : List Tx := Y.take k ++ X.drop k
theorem ovt_len {X Y : List Tx} {k : Nat} (h : Y.length = X.length) (hk : k ≤ X.length) : (ovt X Y k).length = X.length := by unfold ovt; simp; omega
theorem ovt_set {X Y : List Tx} {k : Nat} (h : Y.length = X.length) (hk : k < X.length) {t : Tx} (ht : Y.getD k [] = t) : (ovt X Y k).set k t = ovt X Y (k + 1) := by
  unfold ovt
  have hl : (Y.take k).length = k := by simp; omega
  have hy : k < Y.length := by omega
  have e : Y.take (k + 1) = Y.take k ++ [t] := by rw [List.take_add_one, ← ht]; simp [List.getD, hy]
  rw [List.set_append_right _ _ (by omega), hl, Nat.sub_self, List.drop_eq_getElem_cons hk, List.set_cons_zero, e, List.append_assoc]
  rfl
theorem ovt_all {X Y : List Tx} (h : Y.length = X.length) : ovt X Y X.length = Y := by unfold ovt; rw [List.drop_length, List.append_nil, ← h, List.take_length]
theorem bsL3 (w : World) : (Instr.buildSlice 22 3 #[(0, .string ⟨#[114, 111, 111, 109]⟩), (1, .string ⟨#[98, 101, 104, 105, 110, 100]⟩), (2, .string ⟨#[105, 116]⟩)]).run Try.prog w = .ok (.slice (some ⟨w.heap.size, 0, none⟩) 3 3) (w.alloc (.cells (lit3.map encStr).toArray 9)) := by kernel_rfl
theorem rs_take {w : World} {a : Option Addr} {xs : List Tx} (h : Rs w a xs) (n : Nat) : Rs w a (xs.take n) := by
  rcases h with rfl | ⟨b, o, rfl, hx⟩
  · exact .inl (by simp)
  · refine .inr ⟨b, o, rfl, fun i hi => ?_⟩
    have hi1 : i < n ∧ i < xs.length := by rw [List.length_take] at hi; omega
    rw [hx i hi1.2]
    simp [List.getD, List.getElem?_take_of_lt hi1.1]
theorem ot_nil9 (w : World) (B : Nat) : Ot w B (.slice none 0 0) [] := World.ownsRow_nil _ _ _ _
theorem grown_none9 {w w' : World} (h : w.grownBy w' (Value.ownBlock (.slice none 0 0))) : Below w.heap.size w w' := grown_bl h
theorem al9 (w : World) (o : Obj) : Below w.heap.size w (w.alloc o) := (Below.refl _ _).alloc (Nat.le_refl _) o
theorem rm_of {w : World} {B : Nat} {v : Value} {X : List Tx} {n : Nat} (h : Ot w B v (X ++ lit3)) (hn : X.length = n) : ∃ g c, v = .slice (some ⟨g, 0, none⟩) (n + 3) c ∧ Rm w B g c X := by
  subst hn
  have h' := h
  rcases h'.2 with ⟨_, h0⟩ | ⟨g, cap, cur, hv, _⟩
  · simp [lit3] at h0
  · have e : (X ++ lit3).length = X.length + 3 := by simp [lit3]
    rw [e] at hv
    exact ⟨g, cap, hv, ⟨by rw [← hv]; exact h⟩⟩
theorem ot_grown9 {w w' w0 : World} {B : Nat} {v : Value} {ts : List Tx} (h : Ot w B v ts) (hb : Below B w0 w) (hB : B ≤ w.heap.size) (hg : w.grownBy w' v.ownBlock) : Below B w0 w' := hb.grown hg hB (fun k hk => (World.ownsRow.lt h k hk).1)
theorem apart_three {w : World} {B Ba Bb Bc ga gb gc ca cb cc : Nat} {la lb lc : List Tx} (ha : Ot w Ba (.slice (some ⟨ga, 0, none⟩) la.length ca) la) (hb : Ot w Bb (.slice (some ⟨gb, 0, none⟩) lb.length cb) lb) (hc : Ot w Bc (.slice (some ⟨gc, 0, none⟩) lc.length cc) lc)
    (h1 : B ≤ ga) (h2 : ga < gb) (h3 : gb < gc) (hB : B ≤ w.heap.size) (n1 : la.length ≤ 8796093021952) (n2 : lb.length ≤ 8796093021952) (n3 : lc.length ≤ 8796093021952) :
    Calls Try.prog 7 #[.slice (some ⟨w.heap.size, 0, none⟩) 3 3] (w.alloc (.cells #[.slice (some ⟨ga, 0, none⟩) la.length ca, .slice (some ⟨gb, 0, none⟩) lb.length cb, .slice (some ⟨gc, 0, none⟩) lc.length cc] 22)) fun e w' => e = .returned (.bool true) ∧ Below B w w' := by
  obtain ⟨W, hW⟩ : ∃ W, W = w.alloc (.cells #[.slice (some ⟨ga, 0, none⟩) la.length ca, .slice (some ⟨gb, 0, none⟩) lb.length cb, .slice (some ⟨gc, 0, none⟩) lc.length cc] 22) := ⟨_, rfl⟩
  have hbW : Below w.heap.size w W := by rw [hW]; exact al9 _ _
  have hrow : W.heap[w.heap.size]? = some (.cells #[.slice (some ⟨ga, 0, none⟩) la.length ca, .slice (some ⟨gb, 0, none⟩) lb.length cb, .slice (some ⟨gc, 0, none⟩) lc.length cc] 22 (0, 0)) := by rw [hW]; exact heap_alloc_new w _
  rw [← hW]
  clear hW
  obtain ⟨ma, _, la1⟩ := ot_mde ha
  obtain ⟨mb, _, lb1⟩ := ot_mde hb
  obtain ⟨mc, _, lc1⟩ := ot_mde hc
  have cases3 : ∀ m, m < 3 → m = 0 ∨ m = 1 ∨ m = 2 := fun m hm => by omega
  obtain ⟨gs, hgs⟩ : ∃ gs : Nat → Nat, gs = fun m => if m = 0 then ga else if m = 1 then gb else gc := ⟨_, rfl⟩
  have g0 : gs 0 = ga := by rw [hgs]; rfl
  have g1 : gs 1 = gb := by rw [hgs]; rfl
  have g2 : gs 2 = gc := by rw [hgs]; rfl
  refine (apart09_any w.heap.size 3 gs (fun m => if m = 0 then ca else if m = 1 then cb else cc) (fun m => if m = 0 then la.length else if m = 1 then lb.length else lc.length) (fun m i => if m = 0 then encStr (la.getD i []) else if m = 1 then encStr (lb.getD i []) else encStr (lc.getD i [])) W ?_ ?_ ?_ ?_ ?_).mono ?_
  · intro m hm
    rcases cases3 m hm with rfl | rfl | rfl
    · rw [g0]; exact cell_of_row W w.heap.size 0 _ _ (0, 0) hrow
    · rw [g1]; exact cell_of_row W w.heap.size 1 _ _ (0, 0) hrow
    · rw [g2]; exact cell_of_row W w.heap.size 2 _ _ (0, 0) hrow
  · intro m hm
    rcases cases3 m hm with rfl | rfl | rfl
    · rw [g0]; exact ma.below hbW
    · rw [g1]; exact mb.below hbW
    · rw [g2]; exact mc.below hbW
  · refine ⟨fun m m' hm hm' hne => ?_, fun m hm => ?_⟩
    · rcases cases3 m hm with rfl | rfl | rfl <;> rcases cases3 m' hm' with rfl | rfl | rfl <;> simp only [g0, g1, g2] <;> omega
    · have := hbW.size
      rcases cases3 m hm with rfl | rfl | rfl <;> simp only [g0, g1, g2] <;> omega
  · intro m hm
    rcases cases3 m hm with rfl | rfl | rfl <;> simp only [g0, g1, g2] <;> omega
  · intro m hm
    rcases cases3 m hm with rfl | rfl | rfl
    · exact n1
    · exact n2
    · exact n3
  · rintro e w' ⟨rfl, hk⟩
    refine ⟨rfl, (hbW.mono hB).trans (hk.toBelow (Nat.le_trans hB hbW.size) (fun m hm => ?_))⟩
    rcases cases3 m hm with rfl | rfl | rfl <;> simp only [g0, g1, g2] <;> omega
section
attribute [local irreducible] Calls Ot
set_option maxHeartbeats 4000000 in
set_option maxRecDepth 1000000 in
theorem namingOwn_walk {w : World} {a0 a1 : Option Addr} {len0 cap0 len1 cap1 : Nat} {xs ys : List Tx} (r0 : Rs w a0 xs) (r1 : Rs w a1 ys) (l0 : xs.length = len0) (l1 : ys.length = len1) (c0 : len0 ≤ cap0) (c1 : len1 ≤ cap1) (hb0 : cap0 ≤ 8796093021952) (hb1 : cap1 ≤ 8796093021952) (p : Tx) :
    Calls Try.prog 3 #[.slice a0 len0 cap0, .slice a1 len1 cap1, encStr p] w fun e w' => e = .returned (.bool true) ∧ Below w.heap.size w w' := by
  obtain ⟨n, hmn⟩ : ∃ n, min len0 len1 = n := ⟨_, rfl⟩
  have hn0 : n ≤ len0 := by omega
  have hn1 : n ≤ len1 := by omega
  have hmin : min (len0 : Int) (len1 : Int) = (n : Int) := by omega
  obtain ⟨X, hX⟩ : ∃ X, xs.take n = X := ⟨_, rfl⟩
  obtain ⟨Y, hY⟩ : ∃ Y, ys.take n = Y := ⟨_, rfl⟩
  have HX := (show Hid (Rs w a0 X ∧ X.length = n) from ⟨by rw [← hX]; exact rs_take r0 n, by rw [← hX, List.length_take]; omega⟩)
  have HY := (show Hid (Rs w a1 Y ∧ Y.length = n) from ⟨by rw [← hY]; exact rs_take r1 n, by rw [← hY, List.length_take]; omega⟩)
  have hi0 : (n : Int) ≤ (cap0 : Int) := by omega
  have hi1 : (n : Int) ≤ (cap1 : Int) := by omega
  have hnb : n ≤ 8796093021952 := by omega
  clear hX hY r0 r1 l0 l1
  go_enter Try.func3, Try.ntmps3
  go_upto_region 4 with (first
    | (at_builtin; refine wpList_apT rfl _ _ rfl w.heap.size (.slice none 0 0) [] rfl (ot_nil9 _ _) a0 n cap0 X rfl HX.out.1 HX.out.2 (by simp; omega) (Nat.le_refl _) ?_; intro v1 w1 ho1 hg1; rw [List.nil_append] at ho1; have HO1 := (show Hid (Ot w1 w.heap.size v1 X ∧ Below w.heap.size w w1) from ⟨ho1, grown_none9 hg1⟩); clear ho1 hg1))
  go_upto_region 5 with (at_builtin; refine wpList_apT rfl _ _ rfl w.heap.size _ X rfl (ot_below HO1.out.1 (al9 _ _)) (some ⟨w1.heap.size, 0, none⟩) 3 3 lit3 rfl (rs_new w1 lit3) rfl (by rw [HX.out.2]; omega) (Nat.le_trans HO1.out.2.size (al9 _ _).size) ?_; intro v2 w2 ho2 hg2; obtain ⟨g, cg, rfl, hRm⟩ := rm_of ho2 HX.out.2; have HM := (show Hid (Rm w2 w.heap.size g cg X ∧ Below w.heap.size w w2) from ⟨hRm, ot_grown9 (ot_below HO1.out.1 (al9 _ _)) (HO1.out.2.trans ((al9 _ _).mono HO1.out.2.size)) (Nat.le_trans HO1.out.2.size (al9 _ _).size) hg2⟩); clear ho2 hg2 hRm HO1)
  have hcg := HM.out.1.cap
  rw [HX.out.2] at hcg
  have hcg' := Int.ofNat_le.2 (Nat.le_trans (Nat.le_add_right n 3) hcg)
  have bk9 := fun w' => back9 g n 3 cg hcg (by decide) w'
  have HR := (show Hid (∀ W, Below w2.heap.size w2 W → Rs W (some ⟨g, 0, none⟩) X ∧ Rs W a0 X ∧ Rs W a1 Y ∧ Rs W (some ⟨g, n, none⟩) lit3) from fun W hW => ⟨HM.out.1.rs.below hW, HX.out.1.below (HM.out.2.trans (hW.mono HM.out.2.size)), HY.out.1.below (HM.out.2.trans (hW.mono HM.out.2.size)), by have h := HM.out.1.tail; rw [HX.out.2] at h; exact h.below hW⟩)
  go_upto_region 9 with (first
    | (have hx := U7; go_at_call 4; refine (under_any (HR.out _ U7.out.2.2.2).1 HX.out.2 (by omega) p).mono ?_; rintro e w8 ⟨gc, cc, lc, rfl, hU8, hO8, hb8⟩; have U8 := (show Hid (IsU X p lc ∧ Ot w8 w7.heap.size (.slice (some ⟨gc, 0, none⟩) lc.length cc) lc ∧ Below w7.heap.size w7 w8 ∧ Below w2.heap.size w2 w8) from ⟨hU8, hO8, hb8, U7.out.2.2.2.trans (hb8.mono U7.out.2.2.2.size)⟩); clear hU8 hO8 hb8 hx)
    | (have hx := U6; go_at_call 4; refine (under_any (HR.out _ U6.out.2.2.2).1 HX.out.2 (by omega) []).mono ?_; rintro e w7 ⟨gb, cb, lb, rfl, hU7, hO7, hb7⟩; have U7 := (show Hid (IsU X [] lb ∧ Ot w7 w6.heap.size (.slice (some ⟨gb, 0, none⟩) lb.length cb) lb ∧ Below w6.heap.size w6 w7 ∧ Below w2.heap.size w2 w7) from ⟨hU7, hO7, hb7, U6.out.2.2.2.trans (hb7.mono U6.out.2.2.2.size)⟩); clear hU7 hO7 hb7 hx)
    | (go_at_call 4; refine (under_any (HR.out _ (Below.refl _ _)).1 HX.out.2 (by omega) p).mono ?_; rintro e w6 ⟨ga, ca, la, rfl, hU6, hO6, hb6⟩; have U6 := (show Hid (IsU X p la ∧ Ot w6 w2.heap.size (.slice (some ⟨ga, 0, none⟩) la.length ca) la ∧ Below w2.heap.size w2 w6 ∧ Below w2.heap.size w2 w6) from ⟨hU6, hO6, hb6, hb6⟩); clear hU6 hO6 hb6))
  have hla : Hid (la.length ≤ n ∧ lb.length ≤ n ∧ lc.length ≤ n ∧ la = lc) := by
    have h1 := isU_len U6.out.1
    have h2 := isU_len U7.out.1
    have h3 := isU_len U8.out.1
    rw [HX.out.2] at h1 h2 h3
    exact ⟨h1, h2, h3, U6.out.1.eq U8.out.1⟩
  have RA := (show Hid (Rs w8 (some ⟨ga, 0, none⟩) la ∧ Rs w8 (some ⟨gb, 0, none⟩) lb ∧ Rs w8 (some ⟨gc, 0, none⟩) lc) from ⟨(U6.out.2.1.rs.1.below U7.out.2.2.1).below U8.out.2.2.1, U7.out.2.1.rs.1.below U8.out.2.2.1, U8.out.2.1.rs.1⟩)
  have B8 := (show Hid (Below w2.heap.size w2 w8) from U8.out.2.2.2)
  go_upto_region 11 with (first
    | (have hx := L10; go_at_call 5; refine (like_any (HR.out _ (B8.out.trans ((L10.out.trans ((al9 _ _).mono L10.out.size)).mono B8.out.size))).2.2.2 (rs_new w10 lit3) rfl rfl (by decide)).mono ?_; rw [decide_eq_true rfl]; rintro e w11 ⟨rfl, hb11⟩; have L11 := (show Hid (Below w8.heap.size w8 w11) from (L10.out.trans ((al9 _ _).mono L10.out.size)).trans (hb11.mono (Nat.le_trans L10.out.size (al9 _ _).size))); clear hb11 hx)
    | (have hx := L9; go_at_call 5; refine (like_any (HR.out _ (B8.out.trans (L9.out.mono B8.out.size))).1 (HR.out _ (B8.out.trans (L9.out.mono B8.out.size))).2.1 HX.out.2 HX.out.2 (by omega)).mono ?_; rw [decide_eq_true rfl]; rintro e w10 ⟨rfl, hb10⟩; have L10 := (show Hid (Below w8.heap.size w8 w10) from L9.out.trans (hb10.mono L9.out.size)); clear hb10 hx)
    | (go_at_call 5; refine (like_any RA.out.1 RA.out.2.2 rfl rfl (by have := hla.out.1; omega)).mono ?_; rw [decide_eq_true hla.out.2.2.2]; rintro e w9 ⟨rfl, hb9⟩; have L9 := (show Hid (Below w8.heap.size w8 w9) from hb9); clear hb9))
  obtain ⟨pa, cpa⟩ : ∃ l, pk p lb = l := ⟨_, rfl⟩
  have HP := (show Hid (pk p lb = pa ∧ la = pa) from ⟨cpa, by rw [← cpa]; exact U6.out.1.eq (isU_pick U7.out.1)⟩)
  clear cpa
  have OG := (show Hid (w2.heap.size ≤ ga ∧ ga < gb ∧ gb < gc) from by
    have h1 := (ot_mde U6.out.2.1).2
    have h2 := (ot_mde U7.out.2.1).2
    have h3 := (ot_mde U8.out.2.1).2
    exact ⟨h1.1, by omega, by omega⟩)
  have OA := (show Hid (Ot w8 w2.heap.size (.slice (some ⟨ga, 0, none⟩) la.length ca) la ∧ Ot w8 w6.heap.size (.slice (some ⟨gb, 0, none⟩) lb.length cb) lb ∧ Ot w8 w7.heap.size (.slice (some ⟨gc, 0, none⟩) lc.length cc) lc) from ⟨ot_below (ot_below U6.out.2.1 U7.out.2.2.1) U8.out.2.2.1, ot_below U7.out.2.1 U8.out.2.2.1, U8.out.2.1⟩)
  clear U6 U7 U8
  go_upto_region 13 with (first
    | (have hx := L14; go_at_call 5; refine (like_any (HR.out _ L14.out).1 (HR.out _ L14.out).2.1 HX.out.2 HX.out.2 (by omega)).mono ?_; rw [decide_eq_true rfl]; rintro e w15 ⟨rfl, hb15⟩; have L15 := (show Hid (Below w2.heap.size w2 w15) from L14.out.trans (hb15.mono L14.out.size)); clear hb15 hx)
    | (go_at_call 7; refine (apart_three (B := w2.heap.size) (ot_below OA.out.1 L13.out) (ot_below OA.out.2.1 L13.out) (ot_below OA.out.2.2 L13.out) OG.out.1 OG.out.2.1 OG.out.2.2 (Nat.le_trans B8.out.size L13.out.size) (by have := hla.out.1; omega) (by have := hla.out.2.1; omega) (by have := hla.out.2.2.1; omega)).mono ?_; rintro e w14 ⟨rfl, hb14⟩; have L14 := (show Hid (Below w2.heap.size w2 w14) from (B8.out.trans (L13.out.mono B8.out.size)).trans hb14); clear hb14)
    | (go_at_call 6; refine (chosen_any (RA.out.2.1.below L11.out) rfl (by have := hla.out.2.1; omega) p).mono ?_; rw [HP.out.1]; rintro e w12 ⟨v12, rfl, ho12, hb12⟩; obtain ⟨p12, c12, rfl, hR12⟩ := ho12.shape; have L12 := (show Hid (Rs w12 p12 pa ∧ Below w8.heap.size w8 w12) from ⟨hR12, L11.out.trans (hb12.mono L11.out.size)⟩); clear ho12 hR12 hb12)
    | (go_at_call 5; refine (like_any (RA.out.1.below L12.out.2) L12.out.1 rfl rfl (by have := hla.out.1; omega)).mono ?_; rw [decide_eq_true HP.out.2]; rintro e w13 ⟨rfl, hb13⟩; have L13 := (show Hid (Below w8.heap.size w8 w13) from L12.out.2.trans (hb13.mono L12.out.2.size)); clear hb13))
  go_wp2_with (go_at_call 4; refine (under_any (HR.out _ L15.out).1 HX.out.2 (by omega) p).mono ?_; rintro e w16 ⟨gd, cd, ld, rfl, hU16, hO16, hb16⟩; have L16 := (show Hid (Below w2.heap.size w2 w16) from L15.out.trans (hb16.mono L15.out.size)); clear hU16 hO16 hb16)
  have HS := (show Hid (Rm w16 w.heap.size g cg X ∧ Below w.heap.size w w16) from ⟨HM.out.1.below L16.out, HM.out.2.trans (L16.out.mono HM.out.2.size)⟩)
  have HXY := (show Hid (Y.length = X.length) from HY.out.2.trans HX.out.2.symm)
  clear L15 L16 OA OG HP RA B8 hla HR HM
  go_loopw [13] (fun i wr => ∃ k : Nat, k ≤ n ∧ i = .int .i64 k ∧ Hid (Rm wr w.heap.size g cg (ovt X Y k) ∧ Below w.heap.size w wr)) (fun i _ => n - (intOf i).toNat)
  case atStart => exact ⟨0, Nat.zero_le _, rfl, by (show _ ∧ _; exact ⟨by simpa [ovt] using HS.out.1, HS.out.2⟩)⟩
  case round =>
    obtain ⟨k, hk, rfl, HW⟩ := hrel
    by_cases hlt : k < n
    · have hi : (k : Int) < (n : Int) := by omega
      have hil : (k : Int) < (len1 : Int) := by omega
      obtain ⟨b, o, hao, hcx⟩ : ∃ b o, a1 = some ⟨b, o, none⟩ ∧ w.cell? ⟨b, o + k, none⟩ = some (encStr (Y.getD k [])) := by
        rcases HY.out.1 with e | ⟨b, o, e, hc⟩
        · have := HY.out.2; rw [e] at this; simp at this; omega
        · exact ⟨b, o, e, hc k (by rw [HY.out.2]; exact hlt)⟩
      obtain ⟨t, ht⟩ : ∃ t, Y.getD k [] = t := ⟨_, rfl⟩
      have HT := (show Hid (Y.getD k [] = t) from ht)
      rw [ht] at hcx
      have g1 := cell_below hcx HW.out.2
      have hkX : k < X.length := by rw [HX.out.2]; exact hlt
      have hlo : k < (ovt X Y k).length := by rw [ovt_len HXY.out (by omega)]; exact hkX
      have g2 := rm_cell HW.out.1 (i := k) (by omega)
      have f2 := HW.out.1.frozen k
      obtain ⟨u, hu⟩ : ∃ u, (ovt X Y k ++ lit3).getD k [] = u := ⟨_, rfl⟩
      rw [hu] at g2
      have HN := (show Hid (Rm (wr.setCell ⟨g, k, none⟩ (encStr t)) w.heap.size g cg (ovt X Y (k + 1)) ∧ Below w.heap.size w (wr.setCell ⟨g, k, none⟩ (encStr t))) from by
        have hs := HW.out.1.set hlo t
        rw [ovt_set HXY.out hkX HT.out] at hs
        exact ⟨hs.1, HW.out.2.grown hs.2 HW.out.2.size (fun j hj => by cases hj; exact HW.out.1.ge.1)⟩)
      subst hao
      clear hu ht hcx hkX hlo
      go_wp2
      go_roundw
      case rel => exact ⟨k + 1, by omega, by go_num, HN⟩
      case measure => simp [intOf]; omega
    · obtain rfl : k = n := by omega
      have HE := (show Hid (Rm wr w.heap.size g cg Y ∧ Rs wr a1 Y ∧ Below w.heap.size w wr) from ⟨by have h := HW.out.1; rw [← HX.out.2, ovt_all HXY.out] at h; exact h, HY.out.1.below HW.out.2, HW.out.2⟩)
      clear HW HS
      obtain ⟨W0, hW0⟩ : ∃ W0, W0 = wr := ⟨_, rfl⟩
      subst hW0
      go_wp2_with (first
        | (at_builtin; refine wpList_apT rfl _ _ rfl W0.heap.size (.slice none 0 0) [] rfl (ot_nil9 _ _) a1 k cap1 Y rfl HE.out.2.1 HY.out.2 (by simp; omega) (Nat.le_refl _) ?_; intro v17 w17 ho17 hg17; rw [List.nil_append] at ho17; obtain ⟨p17, c17, hv17, hR17⟩ := ho17.shape; rw [HY.out.2] at hv17; subst hv17; have L17 := (show Hid (Rs w17 p17 Y ∧ Rs w17 (some ⟨g, 0, none⟩) Y ∧ Below w.heap.size w w17) from ⟨hR17, HE.out.1.rs.below (grown_none9 hg17), HE.out.2.2.trans ((grown_none9 hg17).mono HE.out.2.2.size)⟩); clear ho17 hg17 hR17)
        | (have hx := L18; go_at_call 4; refine (under_any (L17.out.1.below L18.out.2.2.1) HY.out.2 (by omega) p).mono ?_; rintro e w19 ⟨gf, cf, lf, rfl, hU19, hO19, hb19⟩; have L19 := (show Hid (Rs w19 (some ⟨ge, 0, none⟩) le ∧ Rs w19 (some ⟨gf, 0, none⟩) lf ∧ le = lf ∧ Below w.heap.size w w19) from ⟨L18.out.2.1.below hb19, hO19.rs.1, L18.out.1.eq hU19, L18.out.2.2.2.trans (hb19.mono L18.out.2.2.2.size)⟩); clear hU19 hO19 hb19 hx)
        | (go_at_call 4; refine (under_any L17.out.2.1 HY.out.2 (by omega) p).mono ?_; rintro e w18 ⟨ge, ce, le, rfl, hU18, hO18, hb18⟩; have hle : le.length ≤ k := (by have := isU_len hU18; rw [HY.out.2] at this; exact this); have L18 := (show Hid (IsU Y p le ∧ Rs w18 (some ⟨ge, 0, none⟩) le ∧ Below w17.heap.size w17 w18 ∧ Below w.heap.size w w18) from ⟨hU18, hO18.rs.1, hb18, L17.out.2.2.trans (hb18.mono L17.out.2.2.size)⟩); clear hU18 hO18 hb18)
        | (go_at_call 5; refine (like_any L19.out.1 L19.out.2.1 rfl rfl (by omega)).mono ?_; rw [decide_eq_true L19.out.2.2.1]; rintro e w20 ⟨rfl, hb20⟩; have L20 := (show Hid (Below w.heap.size w w20) from L19.out.2.2.2.trans (hb20.mono L19.out.2.2.2.size)); clear hb20)
        | (go_at_call 8; refine (known_any _).mono ?_; rintro e w21 ⟨rfl, hb21⟩))
      go_ret
      exact ⟨rfl, L20.out.trans (hb21.mono L20.out.size)⟩
end
end Go.Proofs.Ytkljlfhplnoldaa
