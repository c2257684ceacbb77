/-
  fate: a copy of a fate that is handed in.
-/
import Derived.Test.YtbdkdoeiajfkfaaGreatFw26
import Derived.Laws.AppendOwnNone
namespace Go.Proofs.YtbdkdoeiajfkfaaGreat
open Go.RowKit Go.Maps Go.Sort
theorem new_at (w : World) (o : Obj) (b : Nat) (h : w.heap.size = b) : (w.alloc o).heap[b]? = some o := by rw [← h]; exact heap_alloc_new w o
theorem al3 (w : World) (a b c : Obj) : Below w.heap.size w (((w.alloc a).alloc b).alloc c) := btD (btD (alb w a) (alb _ b)) (alb _ c)
theorem sz3 (w : World) (a b c : Obj) : (((w.alloc a).alloc b).alloc c).heap.size = w.heap.size + 3 := by simp
theorem at3 (w : World) (a b c : Obj) : (((w.alloc a).alloc b).alloc c).heap[w.heap.size]? = some a ∧ (((w.alloc a).alloc b).alloc c).heap[w.heap.size + 1]? = some b ∧ (((w.alloc a).alloc b).alloc c).heap[w.heap.size + 2]? = some c := by
  have h1 : (w.alloc a).heap.size = w.heap.size + 1 := by simp
  have h2 : ((w.alloc a).alloc b).heap.size = w.heap.size + 2 := by simp
  refine ⟨?_, ?_, new_at _ c _ h2⟩
  · rw [Below.heap_alloc _ _ _ (by omega), Below.heap_alloc _ _ _ (by omega)]; exact heap_alloc_new w a
  · rw [Below.heap_alloc _ _ _ (by omega)]; exact new_at _ b _ h1
theorem info_bool : (Tryz.prog.info? 4).map (fun i => (i.zero, i.size, i.bytes)) = some (some (.bool false), 1, 1) := by kernel_rfl
theorem info_int : (Tryz.prog.info? 3).map (fun i => (i.zero, i.size, i.bytes)) = some (some (.int .i64 0), 1, 8) := by kernel_rfl
theorem bls_src {w : World} {a : Addr} {xs : List Bool} (h : Bls w (some a) xs) : ∀ j u, (xs.map Value.bool)[j]? = some u → w.cell? (a.add j) = some u := by
  intro j u hj
  have hl : j < xs.length := by
    have := (List.getElem?_eq_some_iff.1 hj).1
    simpa using this
  obtain ⟨b, o, e, hc⟩ := h j hl
  injection e with e
  subst e
  rw [add_plD, hc, ← hj]
  simp [hl]
theorem ils_src {w : World} {a : Addr} {xs : List Int} (h : Ils w (some a) xs) : ∀ j u, (xs.map (Value.int .i64))[j]? = some u → w.cell? (a.add j) = some u := by
  intro j u hj
  have hl : j < xs.length := by
    have := (List.getElem?_eq_some_iff.1 hj).1
    simpa using this
  obtain ⟨b, o, e, hc⟩ := h j hl
  injection e with e
  subst e
  rw [add_plD, hc, ← hj]
  simp [hl]
theorem bls_own {w : World} {base n : Nat} {p : Option Addr} {c : Nat} {xs : List Bool} (h : w.ownsRow base 4 1 (.slice p n c) n (xs.map Value.bool)) : Bls w p xs := by
  intro i hi
  have hl : n = xs.length := by have := h.1; simp at this; omega
  obtain ⟨g, c', cur, e, _, hc⟩ := own_cell h i (by omega)
  injection e with e
  refine ⟨g, 0, e, ?_⟩
  rw [Nat.zero_add, hc]
  simp [hi]
theorem ils_own {w : World} {base n : Nat} {p : Option Addr} {c : Nat} {xs : List Int} (h : w.ownsRow base 3 1 (.slice p n c) n (xs.map (Value.int .i64))) : Ils w p xs ∧ ∀ b o, p = some ⟨b, o, none⟩ → base ≤ b := by
  refine ⟨fun i hi => ?_, fun b o e => ?_⟩
  · have hl : n = xs.length := by have := h.1; simp at this; omega
    obtain ⟨g, c', cur, e, _, hc⟩ := own_cell h i (by omega)
    injection e with e
    refine ⟨g, 0, e, ?_⟩
    rw [Nat.zero_add, hc]
    simp [hi]
  · rcases h.2 with ⟨hv, _⟩ | ⟨g', cap, cur, hv, h1, _⟩
    · injection hv with hv; rw [e] at hv; cases hv
    · injection hv with hv
      rw [e] at hv
      injection hv with hv
      injection hv with hv
      omega
theorem fate_keep {w W w1 : World} {a b c : Obj} (hA : W.heap[w.heap.size]? = some a ∧ W.heap[w.heap.size + 1]? = some b ∧ W.heap[w.heap.size + 2]? = some c) (hs : W.heap.size = w.heap.size + 3) (hg : W.grownBy w1 (Value.slice none 0 0).ownBlock) : w1.heap[w.heap.size]? = some a ∧ w1.heap[w.heap.size + 1]? = some b ∧ w1.heap[w.heap.size + 2]? = some c ∧ Below W.heap.size W w1 := by
  have hk : ∀ k, k < W.heap.size → w1.heap[k]? = W.heap[k]? := fun k hk => hg.block k hk (fun e => by cases e)
  exact ⟨(hk _ (by omega)).trans hA.1, (hk _ (by omega)).trans hA.2.1, (hk _ (by omega)).trans hA.2.2, ⟨hg.os, hg.tape, hg.output, hg.size, hk⟩⟩
theorem one_bool (xs : List Bool) : ∀ u ∈ xs.map Value.bool, u.oneCell' = true := by
  intro u hu
  obtain ⟨b, _, rfl⟩ := List.mem_map.1 hu
  rfl
theorem one_ints (xs : List Int) : ∀ u ∈ xs.map (Value.int .i64), u.oneCell' = true := by
  intro u hu
  obtain ⟨b, _, rfl⟩ := List.mem_map.1 hu
  rfl
theorem fate_up {w w1 : World} {v : Value} {o : Obj} (_hq : w1.heap[w.heap.size + 2]? = some o) (hb : Below w.heap.size w w1) : Below w.heap.size w (w1.setCell ⟨w.heap.size + 2, 0, none⟩ v) := tn_below hb (Tn.setCell (F := (· = w.heap.size + 2)) w1 ⟨w.heap.size + 2, 0, none⟩ rfl v) (fun b e => by have : b = w.heap.size + 2 := e; omega)
/-- A row stays where blocks of another type turn. -/
theorem own_other {w w' : World} {base : Nat} {G : Nat → Prop} {e t : TypeId} {sz n : Nat} {v : Value} {xs : List Value} (h : w.ownsRow base e sz v n xs) (hT : Tn G w w') (hG : ∀ b, G b → ∃ c r, w.heap[b]? = some (.cells c t r)) (hne : e ≠ t) : w'.ownsRow base e sz v n xs := by
  refine ob_same h fun g hg => ?_
  rcases h.2 with ⟨hv, _⟩ | ⟨g', cap, c, hv, h1, hh, _⟩
  · rw [hv] at hg; cases hg
  · rw [hv] at hg
    simp [Value.ownBlock] at hg
    subst hg
    refine hT.block g' (blt hh) (fun h9 => ?_)
    obtain ⟨c', r', h8⟩ := hG _ h9
    rw [hh] at h8
    injection h8 with h8
    injection h8 with _ h8
    exact hne h8
theorem fate_keep2 {w w1 w2 : World} {v1 : Value} {n : Nat} {xs : List Value} (hq2 : w1.heap[w.heap.size + 1]? = some (.cells #[.slice none 0 0, .slice none 0 0] 38 (0, 0))) (hq3 : w1.heap[w.heap.size + 2]? = some (.cells #[.slice none 0 0, .slice none 0 0] 38 (0, 0))) (hb : Below w.heap.size w w1) (hown : w1.ownsRow w.heap.size 4 1 v1 n xs) (hg : (w1.setCell ⟨w.heap.size + 2, 0, none⟩ v1).grownBy w2 (Value.slice none 0 0).ownBlock) : w2.heap[w.heap.size + 1]? = some (.cells #[.slice none 0 0, .slice none 0 0] 38 (0, 0)) ∧ w2.heap[w.heap.size + 2]? = some (.cells #[v1, .slice none 0 0] 38 (0, 0)) ∧ Below w.heap.size w w2 ∧ w2.ownsRow w.heap.size 4 1 v1 n xs := by
  have T := Tn.setCell (F := (· = w.heap.size + 2)) w1 ⟨w.heap.size + 2, 0, none⟩ rfl v1
  have h3 := heap_setCell_same w1 (w.heap.size + 2) 0 _ _ v1 hq3
  have h2 := (T.block (w.heap.size + 1) (blt hq2) (fun e => by have : w.heap.size + 1 = w.heap.size + 2 := e; omega)).trans hq2
  have hu := fate_up (v := v1) hq3 hb
  have ho := own_other (t := 38) hown T (fun b e => by obtain rfl : b = w.heap.size + 2 := e; exact ⟨_, _, hq3⟩) (by decide)
  generalize w1.setCell ⟨w.heap.size + 2, 0, none⟩ v1 = Y at *
  have hk : ∀ k, k < Y.heap.size → w2.heap[k]? = Y.heap[k]? := fun k hk => hg.block k hk (fun e => by cases e)
  have hB : Below Y.heap.size Y w2 := ⟨hg.os, hg.tape, hg.output, hg.size, hk⟩
  exact ⟨(hk _ (blt h2)).trans h2, (hk _ (blt h3)).trans h3, btD hu hB, own_belowD ho hB⟩
theorem fate_keep4 {w w1 : World} {v1 : Value} {n : Nat} {xs : List Value} (hq2 : w1.heap[w.heap.size + 1]? = some (.cells #[.slice none 0 0, .slice none 0 0] 38 (0, 0))) (hq3 : w1.heap[w.heap.size + 2]? = some (.cells #[.slice none 0 0, .slice none 0 0] 38 (0, 0))) (hb : Below w.heap.size w w1) (hown : w1.ownsRow w.heap.size 4 1 v1 n xs) : (w1.setCell ⟨w.heap.size + 2, 0, none⟩ v1).heap[w.heap.size + 1]? = some (.cells #[.slice none 0 0, .slice none 0 0] 38 (0, 0)) ∧ (w1.setCell ⟨w.heap.size + 2, 0, none⟩ v1).heap[w.heap.size + 2]? = some (.cells #[v1, .slice none 0 0] 38 (0, 0)) ∧ Below w.heap.size w (w1.setCell ⟨w.heap.size + 2, 0, none⟩ v1) ∧ (w1.setCell ⟨w.heap.size + 2, 0, none⟩ v1).ownsRow w.heap.size 4 1 v1 n xs ∧ (w1.setCell ⟨w.heap.size + 2, 0, none⟩ v1).ownsRow w.heap.size 3 1 (.slice none 0 0) 0 [] := by
  have T := Tn.setCell (F := (· = w.heap.size + 2)) w1 ⟨w.heap.size + 2, 0, none⟩ rfl v1
  exact ⟨(T.block (w.heap.size + 1) (blt hq2) (fun e => by have : w.heap.size + 1 = w.heap.size + 2 := e; omega)).trans hq2, heap_setCell_same w1 (w.heap.size + 2) 0 _ _ v1 hq3, fate_up (v := v1) hq3 hb, own_other (t := 38) hown T (fun b e => by obtain rfl : b = w.heap.size + 2 := e; exact ⟨_, _, hq3⟩) (by decide), ⟨rfl, .inl ⟨rfl, rfl⟩⟩⟩
theorem fate_fin {w w2 : World} {v1 v2 u0 u1 : Value} {n m : Nat} {xs ys : List Value} (hr2 : w2.heap[w.heap.size + 1]? = some (.cells #[.slice none 0 0, .slice none 0 0] 38 (0, 0))) (hr3 : w2.heap[w.heap.size + 2]? = some (.cells #[u0, u1] 38 (0, 0))) (hb : Below w.heap.size w w2) (ho1 : w2.ownsRow w.heap.size 4 1 v1 n xs) (ho2 : w2.ownsRow w.heap.size 3 1 v2 m ys) : (((w2.setCell ⟨w.heap.size + 2, 1, none⟩ v2).setCell ⟨w.heap.size + 1, 0, none⟩ v1).setCell ⟨w.heap.size + 1, 1, none⟩ v2).heap[w.heap.size + 1]? = some (.cells #[v1, v2] 38 (0, 0)) ∧ (((w2.setCell ⟨w.heap.size + 2, 1, none⟩ v2).setCell ⟨w.heap.size + 1, 0, none⟩ v1).setCell ⟨w.heap.size + 1, 1, none⟩ v2).ownsRow w.heap.size 4 1 v1 n xs ∧ (((w2.setCell ⟨w.heap.size + 2, 1, none⟩ v2).setCell ⟨w.heap.size + 1, 0, none⟩ v1).setCell ⟨w.heap.size + 1, 1, none⟩ v2).ownsRow w.heap.size 3 1 v2 m ys ∧ Below w.heap.size w (((w2.setCell ⟨w.heap.size + 2, 1, none⟩ v2).setCell ⟨w.heap.size + 1, 0, none⟩ v1).setCell ⟨w.heap.size + 1, 1, none⟩ v2) := by
  have T1 := Tn.setCell (F := fun k => k = w.heap.size + 1 ∨ k = w.heap.size + 2) w2 ⟨w.heap.size + 2, 1, none⟩ (.inr rfl) v2
  have T2 := Tn.setCell (F := fun k => k = w.heap.size + 1 ∨ k = w.heap.size + 2) (w2.setCell ⟨w.heap.size + 2, 1, none⟩ v2) ⟨w.heap.size + 1, 0, none⟩ (.inl rfl) v1
  have T3 := Tn.setCell (F := fun k => k = w.heap.size + 1 ∨ k = w.heap.size + 2) ((w2.setCell ⟨w.heap.size + 2, 1, none⟩ v2).setCell ⟨w.heap.size + 1, 0, none⟩ v1) ⟨w.heap.size + 1, 1, none⟩ (.inl rfl) v2
  have T := (T1.trans T2).trans T3
  have hG : ∀ b, (b = w.heap.size + 1 ∨ b = w.heap.size + 2) → ∃ c r, w2.heap[b]? = some (.cells c 38 r) := by
    rintro b (rfl | rfl)
    · exact ⟨_, _, hr2⟩
    · exact ⟨_, _, hr3⟩
  refine ⟨?_, own_other ho1 T hG (by decide), own_other ho2 T hG (by decide), tn_below hb T (fun b e => by omega)⟩
  have h1 : (w2.setCell ⟨w.heap.size + 2, 1, none⟩ v2).heap[w.heap.size + 1]? = some (.cells #[.slice none 0 0, .slice none 0 0] 38 (0, 0)) := (Below.heap_setCell _ _ _ _ (show w.heap.size + 1 ≠ w.heap.size + 2 by omega)).trans hr2
  rw [heap_setCell_same _ (w.heap.size + 1) 1 _ _ _ (heap_setCell_same _ (w.heap.size + 1) 0 _ _ _ h1)]
  rfl
theorem fate_keep3 {w W w2 : World} {a : Obj} (hA : W.heap[w.heap.size]? = some a ∧ W.heap[w.heap.size + 1]? = some (.cells #[.slice none 0 0, .slice none 0 0] 38 (0, 0)) ∧ W.heap[w.heap.size + 2]? = some (.cells #[.slice none 0 0, .slice none 0 0] 38 (0, 0))) (hs : W.heap.size = w.heap.size + 3) (hb : Below w.heap.size w W) (hg : W.grownBy w2 (Value.slice none 0 0).ownBlock) : w2.heap[w.heap.size + 1]? = some (.cells #[.slice none 0 0, .slice none 0 0] 38 (0, 0)) ∧ w2.heap[w.heap.size + 2]? = some (.cells #[.slice none 0 0, .slice none 0 0] 38 (0, 0)) ∧ Below w.heap.size w w2 ∧ w2.ownsRow w.heap.size 4 1 (.slice none 0 0) 0 [] := by
  obtain ⟨_, h2, h3, h4⟩ := fate_keep hA hs hg
  exact ⟨h2, h3, btD hb h4, ⟨rfl, .inl ⟨rfl, rfl⟩⟩⟩
section
attribute [local irreducible] Calls
set_option maxHeartbeats 2000000 in
set_option maxRecDepth 1000000 in
theorem fate_any {w : World} (pd : Option Addr) (nd cd : Nat) (dirs : List Bool) (hdl : dirs.length = nd) (hd : Bls w pd dirs) (hdn : pd = none → nd = 0 ∧ cd = 0) (pc : Option Addr) (nc cc : Nat) (cuts : List Int) (hcl : cuts.length = nc) (hc : Ils w pc cuts) (hcn : pc = none → nc = 0 ∧ cc = 0) (hnd : nd ≤ 140737488351232) (hnc : nc ≤ 17592186043904) : Calls Tryz.prog 18 #[.agg #[.slice pd nd cd, .slice pc nc cc]] w fun e w' => ∃ p1 c1 p2 c2, e = .returned (.agg #[.slice p1 nd c1, .slice p2 nc c2]) ∧ Bls w' p1 dirs ∧ Ils w' p2 cuts ∧ (∀ b o, p2 = some ⟨b, o, none⟩ → w.heap.size ≤ b) ∧ Below w.heap.size w w' := by
  obtain ⟨i0, hi0, hz0, hz1, hz2⟩ := info_parts info_bool
  obtain ⟨j0, hj0, hy0, hy1, hy2⟩ := info_parts info_int
  have HB := (show Hid (_ ∧ _) from ⟨hd, hc⟩)
  have HL := (show Hid (_ ∧ _) from ⟨hdl, hcl⟩)
  have AT := (show Hid _ from at3 w (.cells #[.slice pd nd cd, .slice pc nc cc] 38) (.cells #[.slice none 0 0, .slice none 0 0] 38) (.cells #[.slice none 0 0, .slice none 0 0] 38))
  have AL := (show Hid _ from al3 w (.cells #[.slice pd nd cd, .slice pc nc cc] 38) (.cells #[.slice none 0 0, .slice none 0 0] 38) (.cells #[.slice none 0 0, .slice none 0 0] 38))
  have SZ := (show Hid _ from sz3 w (.cells #[.slice pd nd cd, .slice pc nc cc] 38) (.cells #[.slice none 0 0, .slice none 0 0] 38) (.cells #[.slice none 0 0, .slice none 0 0] 38))
  obtain ⟨W, hW⟩ : ∃ W, W = (((w.alloc (.cells #[.slice pd nd cd, .slice pc nc cc] 38)).alloc (.cells #[.slice none 0 0, .slice none 0 0] 38)).alloc (.cells #[.slice none 0 0, .slice none 0 0] 38)) := ⟨_, rfl⟩
  rw [← hW] at AT AL SZ
  have HW := (show Hid _ from hW)
  clear hd hc hdl hcl hW
  cases pd with
  | none =>
    obtain ⟨rfl, rfl⟩ := hdn rfl
    cases pc with
    | none =>
      obtain ⟨rfl, rfl⟩ := hcn rfl
      clear hdn hcn
      go_enter Tryz.func18, Tryz.ntmps18
      go_wp2
      have hz := AT.out.2.1
      rw [HW.out] at hz
      exact bodyPost_ret (v := .agg #[.slice none 0 0, .slice none 0 0]) (results_cell_row rfl _ _ (w.heap.size + 1) 38 _ (0, 0) _ rfl hz Tryz.underlying38 rfl (by kernel_rfl)) rfl ⟨_, _, _, _, rfl, (by have h9 : dirs = [] := List.length_eq_zero_iff.1 HL.out.1; rw [h9]; exact fun i hi => absurd hi (Nat.not_lt_zero _)), (by have h9 : cuts = [] := List.length_eq_zero_iff.1 HL.out.2; rw [h9]; exact fun i hi => absurd hi (Nat.not_lt_zero _)), (fun b o e => by cases e), HW.out ▸ AL.out⟩
    | some ac =>
      clear hdn hcn
      go_enter Tryz.func18, Tryz.ntmps18
      go_wp2_with (first
        | (at_builtin; rw [← HW.out]; refine wpList_append_own_at _ rfl _ _ 36 rfl w.heap.size 3 j0 (.int .i64 0) 1 8 Tryz.underlying36 hj0 hy0 hy1 hy2 rfl (by decide) (.slice none 0 0) 0 [] rfl ⟨rfl, .inl ⟨rfl, rfl⟩⟩ ac nc cc (cuts.map (Value.int .i64)) rfl (by rw [List.length_map, HL.out.2]; omega) (ils_src (HB.out.2.below AL.out)) (one_ints cuts) (by unfold maxLen; omega) (by omega) (by have := AL.out.size; omega) ?_; intro v2 w2 hown2 hg2 _ _; rw [Nat.zero_add] at hown2; obtain ⟨p2, q2, rfl⟩ := own_len hown2; obtain ⟨hr2, hr3, hb2, hown1⟩ := fate_keep3 AT.out SZ.out AL.out hg2; have k3 := (cell_of_row w2 (w.heap.size + 2) 0 _ _ (0, 0) hr3).trans rfl; have k4 := (cell_of_row w2 (w.heap.size + 2) 1 _ _ (0, 0) hr3).trans rfl; have z4 := frozen_of_row w2 (w.heap.size + 2) 1 _ _ hr3; have m4 := (cell_of_row w2 (w.heap.size + 1) 0 _ _ (0, 0) hr2).trans rfl; have m5 := (cell_of_row w2 (w.heap.size + 1) 1 _ _ (0, 0) hr2).trans rfl; have n4 := frozen_of_row w2 (w.heap.size + 1) 0 _ _ hr2; have n5 := frozen_of_row w2 (w.heap.size + 1) 1 _ _ hr2; have HR := (show Hid (_ ∧ _ ∧ _ ∧ _ ∧ _) from ⟨hr2, hr3, hb2, hown1, hown2⟩); clear hr2 hr3 hb2 hown1 hown2 hg2))
      obtain ⟨hr2, hr3, hb2, ho1, ho2⟩ : _ ∧ _ ∧ _ ∧ _ ∧ _ := HR.out
      obtain ⟨hz, ho1', ho2', hbz⟩ := fate_fin hr2 hr3 hb2 ho1 ho2
      exact bodyPost_ret (v := .agg #[.slice none 0 0, .slice p2 nc q2]) (results_cell_row rfl _ _ (w.heap.size + 1) 38 _ (0, 0) _ rfl hz Tryz.underlying38 rfl (by kernel_rfl)) rfl ⟨_, _, _, ⟨_, rfl⟩, (by have h9 : dirs = [] := List.length_eq_zero_iff.1 HL.out.1; rw [h9]; exact fun i hi => absurd hi (Nat.not_lt_zero _)), (ils_own ho2').1, (ils_own ho2').2, hbz⟩
  | some ad =>
    cases pc with
    | none =>
      obtain ⟨rfl, rfl⟩ := hcn rfl
      clear hdn hcn
      go_enter Tryz.func18, Tryz.ntmps18
      go_wp2_with (first
        | (at_builtin; rw [← HW.out]; refine wpList_append_own_at _ rfl _ _ 35 rfl w.heap.size 4 i0 (.bool false) 1 1 Tryz.underlying35 hi0 hz0 hz1 hz2 rfl (by decide) (.slice none 0 0) 0 [] rfl ⟨rfl, .inl ⟨rfl, rfl⟩⟩ ad nd cd (dirs.map Value.bool) rfl (by rw [List.length_map, HL.out.1]; omega) (bls_src (HB.out.1.below AL.out)) (one_bool dirs) (by unfold maxLen; omega) (by omega) (by have := AL.out.size; omega) ?_; intro v1 w1 hown1 hg1 _ _; rw [Nat.zero_add] at hown1; obtain ⟨p1, q1, rfl⟩ := own_len hown1; obtain ⟨hq1, hq2, hq3, hb1⟩ := fate_keep AT.out SZ.out hg1; have k0 := (cell_of_row w1 (w.heap.size + 2) 0 _ _ (0, 0) hq3).trans rfl; have k1 := (cell_of_row w1 (w.heap.size + 2) 1 _ _ (0, 0) hq3).trans rfl; have z0 := frozen_of_row w1 (w.heap.size + 2) 0 _ _ hq3; have z1 := frozen_of_row w1 (w.heap.size + 2) 1 _ _ hq3; have k2 := (cell_of_row w1 w.heap.size 1 _ _ (0, 0) hq1).trans rfl; have m0 := (cell_of_row w1 (w.heap.size + 1) 0 _ _ (0, 0) hq2).trans rfl; have m1 := (cell_of_row w1 (w.heap.size + 1) 1 _ _ (0, 0) hq2).trans rfl; have n0 := frozen_of_row w1 (w.heap.size + 1) 0 _ _ hq2; have n1 := frozen_of_row w1 (w.heap.size + 1) 1 _ _ hq2; have HQ := (show Hid (_ ∧ _ ∧ _ ∧ _) from ⟨hq2, hq3, btD AL.out hb1, hown1⟩); clear hq1 hq2 hq3 hb1 hown1 hg1))
      obtain ⟨hr2, hr3, hb2, ho1, ho2⟩ : _ ∧ _ ∧ _ ∧ _ ∧ _ := (fate_keep4 HQ.out.1 HQ.out.2.1 HQ.out.2.2.1 HQ.out.2.2.2)
      obtain ⟨hz, ho1', ho2', hbz⟩ := fate_fin hr2 hr3 hb2 ho1 ho2
      exact bodyPost_ret (v := .agg #[.slice p1 nd q1, .slice none 0 0]) (results_cell_row rfl _ _ (w.heap.size + 1) 38 _ (0, 0) _ rfl hz Tryz.underlying38 rfl (by kernel_rfl)) rfl ⟨_, _, _, ⟨_, rfl⟩, bls_own ho1', (by have h9 : cuts = [] := List.length_eq_zero_iff.1 HL.out.2; rw [h9]; exact fun i hi => absurd hi (Nat.not_lt_zero _)), (fun b o e => by cases e), hbz⟩
    | some ac =>
      clear hdn hcn
      go_enter Tryz.func18, Tryz.ntmps18
      go_wp2_with (first
        | (at_builtin; rw [← HW.out]; refine wpList_append_own_at _ rfl _ _ 35 rfl w.heap.size 4 i0 (.bool false) 1 1 Tryz.underlying35 hi0 hz0 hz1 hz2 rfl (by decide) (.slice none 0 0) 0 [] rfl ⟨rfl, .inl ⟨rfl, rfl⟩⟩ ad nd cd (dirs.map Value.bool) rfl (by rw [List.length_map, HL.out.1]; omega) (bls_src (HB.out.1.below AL.out)) (one_bool dirs) (by unfold maxLen; omega) (by omega) (by have := AL.out.size; omega) ?_; intro v1 w1 hown1 hg1 _ _; rw [Nat.zero_add] at hown1; obtain ⟨p1, q1, rfl⟩ := own_len hown1; obtain ⟨hq1, hq2, hq3, hb1⟩ := fate_keep AT.out SZ.out hg1; have k0 := (cell_of_row w1 (w.heap.size + 2) 0 _ _ (0, 0) hq3).trans rfl; have k1 := (cell_of_row w1 (w.heap.size + 2) 1 _ _ (0, 0) hq3).trans rfl; have z0 := frozen_of_row w1 (w.heap.size + 2) 0 _ _ hq3; have z1 := frozen_of_row w1 (w.heap.size + 2) 1 _ _ hq3; have k2 := (cell_of_row w1 w.heap.size 1 _ _ (0, 0) hq1).trans rfl; have m0 := (cell_of_row w1 (w.heap.size + 1) 0 _ _ (0, 0) hq2).trans rfl; have m1 := (cell_of_row w1 (w.heap.size + 1) 1 _ _ (0, 0) hq2).trans rfl; have n0 := frozen_of_row w1 (w.heap.size + 1) 0 _ _ hq2; have n1 := frozen_of_row w1 (w.heap.size + 1) 1 _ _ hq2; have HQ := (show Hid (_ ∧ _ ∧ _ ∧ _) from ⟨hq2, hq3, btD AL.out hb1, hown1⟩); clear hq1 hq2 hq3 hb1 hown1 hg1)
        | (at_builtin; refine wpList_append_own_at _ rfl _ _ 36 rfl w.heap.size 3 j0 (.int .i64 0) 1 8 Tryz.underlying36 hj0 hy0 hy1 hy2 rfl (by decide) (.slice none 0 0) 0 [] rfl ⟨rfl, .inl ⟨rfl, rfl⟩⟩ ac nc cc (cuts.map (Value.int .i64)) rfl (by rw [List.length_map, HL.out.2]; omega) (ils_src (HB.out.2.below (fate_up HQ.out.2.1 HQ.out.2.2.1))) (one_ints cuts) (by unfold maxLen; omega) (by omega) (by have := (fate_up HQ.out.2.1 HQ.out.2.2.1 (v := .slice p1 nd q1)).size; omega) ?_; intro v2 w2 hown2 hg2 _ _; rw [Nat.zero_add] at hown2; obtain ⟨p2, q2, rfl⟩ := own_len hown2; obtain ⟨hr2, hr3, hb2, hown1⟩ := fate_keep2 HQ.out.1 HQ.out.2.1 HQ.out.2.2.1 HQ.out.2.2.2 hg2; have k3 := (cell_of_row w2 (w.heap.size + 2) 0 _ _ (0, 0) hr3).trans rfl; have k4 := (cell_of_row w2 (w.heap.size + 2) 1 _ _ (0, 0) hr3).trans rfl; have z4 := frozen_of_row w2 (w.heap.size + 2) 1 _ _ hr3; have m4 := (cell_of_row w2 (w.heap.size + 1) 0 _ _ (0, 0) hr2).trans rfl; have m5 := (cell_of_row w2 (w.heap.size + 1) 1 _ _ (0, 0) hr2).trans rfl; have n4 := frozen_of_row w2 (w.heap.size + 1) 0 _ _ hr2; have n5 := frozen_of_row w2 (w.heap.size + 1) 1 _ _ hr2; have HR := (show Hid (_ ∧ _ ∧ _ ∧ _ ∧ _) from ⟨hr2, hr3, hb2, hown1, hown2⟩); clear hr2 hr3 hb2 hown1 hown2 hg2))
      obtain ⟨hr2, hr3, hb2, ho1, ho2⟩ : _ ∧ _ ∧ _ ∧ _ ∧ _ := HR.out
      obtain ⟨hz, ho1', ho2', hbz⟩ := fate_fin hr2 hr3 hb2 ho1 ho2
      exact bodyPost_ret (v := .agg #[.slice p1 nd q1, .slice p2 nc q2]) (results_cell_row rfl _ _ (w.heap.size + 1) 38 _ (0, 0) _ rfl hz Tryz.underlying38 rfl (by kernel_rfl)) rfl ⟨_, _, _, ⟨_, rfl⟩, bls_own ho1', (ils_own ho2').1, (ils_own ho2').2, hbz⟩
end
end Go.Proofs.YtbdkdoeiajfkfaaGreat
