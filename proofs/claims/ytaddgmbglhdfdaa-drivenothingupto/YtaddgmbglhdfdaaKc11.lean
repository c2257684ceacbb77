/-
  Layer 11's laws: 'lentFate', 'keptFate'.
-/
import Derived.Test.YtaddgmbglhdfdaaKb11
import Derived.Test.YtaddgmbglhdfdaaDsG
import Derived.Deep.Cut
import Derived.RegionTactic
import Derived.BigRegion
namespace Go.Proofs.Ytaddgmbglhdfdaa
open Go.RowKit Go.Maps
theorem infoB : (Try.prog.info? 4).map (fun i => (i.zero, i.size, i.bytes)) = some (some (.bool false), 1, 1) := by kernel_rfl
theorem infoI : (Try.prog.info? 3).map (fun i => (i.zero, i.size, i.bytes)) = some (some (.int .i64 0), 1, 8) := by kernel_rfl
def bov (b : Bool) : Value := .bool b
def inv6 (z : Int) : Value := .int .i64 z
theorem Bls.sr {w : World} {p : Option Addr} {xs : List Bool} (h : Bls w p xs) : Sr w p (xs.map bov) := by
  cases xs with
  | nil => exact .inl rfl
  | cons x l =>
    obtain ⟨b, o, e, _⟩ := h 0 (by simp)
    refine .inr ⟨b, o, e, fun j hj => ?_⟩
    rw [List.length_map] at hj
    obtain ⟨b', o', e', hc⟩ := h j hj
    rw [e] at e'
    injection e' with e'
    injection e' with e1 e2
    subst e1 e2
    rw [hc]
    simp only [List.getD, List.getElem?_map, List.getElem?_eq_getElem hj]
    rfl
theorem Ils.sr {w : World} {p : Option Addr} {xs : List Int} (h : Ils w p xs) : Sr w p (xs.map inv6) := by
  cases xs with
  | nil => exact .inl rfl
  | cons x l =>
    obtain ⟨b, o, e, _⟩ := h 0 (by simp)
    refine .inr ⟨b, o, e, fun j hj => ?_⟩
    rw [List.length_map] at hj
    obtain ⟨b', o', e', hc⟩ := h j hj
    rw [e] at e'
    injection e' with e'
    injection e' with e1 e2
    subst e1 e2
    rw [hc]
    simp only [List.getD, List.getElem?_map, List.getElem?_eq_getElem hj]
    rfl
theorem bov_one (xs : List Bool) : ∀ u ∈ xs.map bov, u.oneCell' = true := by
  intro u hu
  obtain ⟨x, _, rfl⟩ := List.mem_map.1 hu
  rfl
theorem inv_one (xs : List Int) : ∀ u ∈ xs.map inv6, u.oneCell' = true := by
  intro u hu
  obtain ⟨x, _, rfl⟩ := List.mem_map.1 hu
  rfl
/-- The marks behind a fate's lists. -/
def mkB : List Value := [.bool true, .bool false, .bool true, .bool true]
def mkI : List Value := [.int .i64 5, .int .i64 6, .int .i64 7, .int .i64 8]
theorem mkB_one : ∀ u ∈ mkB, u.oneCell' = true := by
  intro u hu
  simp only [mkB, List.mem_cons, List.not_mem_nil, or_false] at hu
  rcases hu with rfl | rfl | rfl | rfl <;> rfl
theorem mkI_one : ∀ u ∈ mkI, u.oneCell' = true := by
  intro u hu
  simp only [mkI, List.mem_cons, List.not_mem_nil, or_false] at hu
  rcases hu with rfl | rfl | rfl | rfl <;> rfl
theorem ft0 (w : World) : (zeroValue 30).run Try.prog w = .ok (.agg #[.slice none 0 0, .slice none 0 0]) w := by kernel_rfl
theorem size_Ft : (Try.prog.info? 30).map (·.size) = some 2 := by kernel_rfl
def ftC (u v : Value) : Array Value := #[u, v]
theorem sr_new (w : World) (xs : List Value) (te : TypeId) : Sr (w.alloc (.cells xs.toArray te)) (some ⟨w.heap.size, 0, none⟩) xs := by
  refine .inr ⟨w.heap.size, 0, rfl, fun j hj => ?_⟩
  rw [Nat.zero_add, cell_of_row _ _ _ _ _ (0, 0) (heap_alloc_new w _)]
  simp [List.getD, hj]
theorem bs0B (w : World) : (Instr.buildSlice 27 0 #[]).run Try.prog w = .ok (.slice (some ⟨w.heap.size, 0, none⟩) 0 0) (w.alloc (.cells #[] 4)) := by kernel_rfl
theorem bs0I (w : World) : (Instr.buildSlice 28 0 #[]).run Try.prog w = .ok (.slice (some ⟨w.heap.size, 0, none⟩) 0 0) (w.alloc (.cells #[] 3)) := by kernel_rfl
theorem bs4B (w : World) : (Instr.buildSlice 27 4 #[(0, .bool true), (1, .bool false), (2, .bool true), (3, .bool true)]).run Try.prog w = .ok (.slice (some ⟨w.heap.size, 0, none⟩) 4 4) (w.alloc (.cells #[.bool true, .bool false, .bool true, .bool true] 4)) := by kernel_rfl
theorem bs4I (w : World) : (Instr.buildSlice 28 4 #[(0, .int .i64 5), (1, .int .i64 6), (2, .int .i64 7), (3, .int .i64 8)]).run Try.prog w = .ok (.slice (some ⟨w.heap.size, 0, none⟩) 4 4) (w.alloc (.cells #[.int .i64 5, .int .i64 6, .int .i64 7, .int .i64 8] 3)) := by kernel_rfl
/-- A slice literal; the new world by a name. -/
theorem wpList_bsH {w : World} {ops : Array Oper} {rest : List Oper} {o : Oper} {a : Act} {Q : Exit → Act → World → Prop} (hgd : o.guard = none) {t te : TypeId} {len : Nat} {parts : Array (Nat × Operand)} {ps : Array (Nat × Value)} {cs : Array Value} (ho : o.op = .buildSlice t len parts) (hp : (parts.map fun (i, x) => (i, a.eval x)) = ps)
    (hr : (Instr.buildSlice t len ps).run Try.prog w = .ok (.slice (some ⟨w.heap.size, 0, none⟩) len len) (w.alloc (.cells cs te)))
    (h : ∀ w', GB w' w.heap.size te cs → Below w.heap.size w w' → Hid (w'.heap.size = w.heap.size + 1) → wpList Try.prog ops Q rest (a.put o.dst (.slice (some ⟨w.heap.size, 0, none⟩) len len)) w') : wpList Try.prog ops Q (o :: rest) a w := by
  refine wpList_plain hgd fun K hK => ?_
  have h2 := h (w.alloc (.cells cs te)) (GB.new w te cs) ((Below.refl _ _).alloc (Nat.le_refl _) _) (by show _ = _; simp)
  unfold Oper.wp execOp
  simp only [ho, hp, Sem.run_bind, hr, Sem.run_pure, Result.andThen_ok]
  exact hK _ _ h2
theorem GB.own0 {w : World} {g : Nat} {te : TypeId} (h : GB w g te #[]) : w.ownsRow g te 1 (.slice (some ⟨g, 0, none⟩) 0 0) 0 [] :=
  ⟨rfl, .inr ⟨g, 0, #[], rfl, Nat.le_refl _, h, Nat.le_refl _, by decide, rfl, rfl⟩⟩
theorem GB.sr {w : World} {g : Nat} {te : TypeId} {xs : List Value} (h : GB w g te xs.toArray) : Sr w (some ⟨g, 0, none⟩) xs := by
  refine .inr ⟨g, 0, rfl, fun j hj => ?_⟩
  rw [Nat.zero_add, h.cell]
  simp [List.getD, hj]
theorem ft_c0 {w : World} {g : Nat} {t : TypeId} {u v : Value} (h : GB w g t (ftC u v)) : w.cell? ⟨g, 0, none⟩ = some u := h.cell 0
theorem ft_c1 {w : World} {g : Nat} {t : TypeId} {u v : Value} (h : GB w g t (ftC u v)) : w.cell? ⟨g, 1, none⟩ = some v := h.cell 1
theorem own_up {w : World} {a b : Nat} {te : TypeId} {sz n : Nat} {v : Value} {xs : List Value} (h : w.ownsRow b te sz v n xs) (hb : a ≤ b) : w.ownsRow a te sz v n xs := by
  refine ⟨h.1, ?_⟩
  rcases h.2 with h1 | ⟨g, cap, c, hv, hg, hh⟩
  · exact .inl h1
  · exact .inr ⟨g, cap, c, hv, by omega, hh⟩
/-- Rows of another type, or of another block, stay while one grows. -/
theorem own_kept {w w' : World} {base : Nat} {te : TypeId} {sz n : Nat} {v : Value} {xs : List Value} {r : Option Nat} (h : w.ownsRow base te sz v n xs) (hg : w.grownBy w' r) (hne : ∀ g, v.ownBlock = some g → r ≠ some g) : w'.ownsRow base te sz v n xs := by
  refine ob_same h fun g e => ?_
  rcases h.2 with ⟨hv, _⟩ | ⟨g', cap, c, hv, h1, hh, _⟩
  · rw [hv] at e; cases e
  · rw [hv] at e
    simp [Value.ownBlock] at e
    subst e
    exact hg.block g' (blt hh) (fun e9 => hne g' (by rw [hv]; rfl) e9.symm)
theorem own_lt {w : World} {base : Nat} {te : TypeId} {sz n : Nat} {v : Value} {xs : List Value} (h : w.ownsRow base te sz v n xs) {g : Nat} (e : v.ownBlock = some g) : base ≤ g ∧ g < w.heap.size ∧ ∃ cs, w.heap[g]? = some (.cells cs te (0, 0)) := by
  rcases h.2 with ⟨hv, _⟩ | ⟨g', cap, c, hv, h1, hh, _⟩
  · rw [hv] at e; cases e
  · rw [hv] at e
    simp [Value.ownBlock] at e
    subst e
    exact ⟨h1, blt hh, c, hh⟩
theorem GB.frozen {w : World} {g : Nat} {t : TypeId} {cs : Array Value} (h : GB w g t cs) (i : Nat) : w.frozen? ⟨g, i, none⟩ = false := frozen_of_row w g i _ _ h
theorem own_some {w : World} {base : Nat} {te : TypeId} {sz n : Nat} {q : Option Addr} {c : Nat} {xs : List Value} (h : w.ownsRow base te sz (.slice q n c) n xs) (h0 : 0 < n) : ∃ g, q = some ⟨g, 0, none⟩ := by
  rcases h.2 with ⟨hv, h1⟩ | ⟨g, cap', cur, hv, _⟩
  · omega
  · injection hv with e1; exact ⟨g, e1⟩
theorem grown_drew {w w' : World} {r : Option Nat} (h : w.grownBy w' r) : w.grownBy w'.drew r := ⟨h.os, h.tape, h.output, h.size, h.block⟩
theorem gb_drew {w : World} {g : Nat} {t : TypeId} {cs : Array Value} (h : GB w g t cs) : GB w.drew g t cs := h
theorem GB.ne {w : World} {g b : Nat} {t te : TypeId} {cs : Array Value} {base : Nat} {sz n : Nat} {v : Value} {xs : List Value} (H : GB w g t cs) (h : w.ownsRow base te sz v n xs) (e : v.ownBlock = some b) (ht : t ≠ te) : b ≠ g := by
  intro e2
  subst e2
  obtain ⟨_, _, cs', hc⟩ := own_lt h e
  unfold GB at H
  rw [H] at hc
  injection hc with hc
  injection hc with _ h3
  exact ht h3
/-- What stays while a fate is lent: the boxed one, the result's, and all that was. -/
structure LF (w : World) (g1 : Nat) (C C0 : Array Value) (W : World) : Prop where
  p : GB W w.heap.size 30 C
  r : GB W g1 30 C0
  b : Below w.heap.size w W
theorem LF.below {w W W' : World} {g1 : Nat} {C C0 : Array Value} (h : LF w g1 C C0 W) (hb : Below W.heap.size W W') : LF w g1 C C0 W' := ⟨h.p.below hb, h.r.below hb, h.b.trans (hb.mono h.b.size)⟩
theorem LF.row {w W W' : World} {g1 : Nat} {C C0 : Array Value} (h : LF w g1 C C0 W) {B : Nat} {te : TypeId} {sz n : Nat} {v : Value} {xs : List Value} (hO : W.ownsRow B te sz v n xs) (hB : w.heap.size ≤ B) (ht : 30 ≠ te) (hg : W.grownBy W' v.ownBlock) : LF w g1 C C0 W' := by
  have k : ∀ {g : Nat} {cs : Array Value}, GB W g 30 cs → GB W' g 30 cs := fun {g} {cs} H => H.kept hg (fun e => H.ne hO e ht rfl)
  exact ⟨k h.p, k h.r, grown_own h.b (own_up hO hB) hg h.b.size⟩
section
attribute [local irreducible] Calls GB ftC
set_option maxHeartbeats 2000000 in
set_option maxRecDepth 1000000 in
theorem lentFate_any {w : World} {pd pc : Option Addr} {nd cd nc cc : Nat} {dirs : List Bool} {cuts : List Int} (hd : Bls w pd dirs) (hc : Ils w pc cuts) (hdl : dirs.length = nd) (hcl : cuts.length = nc) (hnd : nd ≤ 134217728) (hnc : nc ≤ 134217728) :
    Calls Try.prog 47 #[.agg (ftC (.slice pd nd cd) (.slice pc nc cc))] w fun e w' => ∃ v1 v2, e = .returned (.agg (ftC v1 v2)) ∧ Lnt w' w.heap.size 4 v1 (dirs.map bov) mkB ∧ Lnt w' w.heap.size 3 v2 (cuts.map inv6) mkI ∧ Below w.heap.size w w' := by
  have al : ∀ (W : World) (o : Obj), Below W.heap.size W (W.alloc o) := fun W o => (Below.refl _ _).alloc (Nat.le_refl _) o
  have HD := (show Hid (Sr w pd (dirs.map bov)) from hd.sr)
  have HC := (show Hid (Sr w pc (cuts.map inv6)) from hc.sr)
  have LD := (show Hid ((dirs.map bov).length = nd) from by show _ = _; rw [List.length_map, hdl])
  have LC := (show Hid ((cuts.map inv6).length = nc) from by show _ = _; rw [List.length_map, hcl])
  clear hd hc
  go_enter Try.func47, Try.ntmps47
  go_upto_region 1 with (first
    | (refine wpList_bxB (cs := ftC (.slice pd nd cd) (.slice pc nc cc)) rfl _ rfl rfl ?_; intro w1 hG1 hb1 hs1)
    | (refine wpList_alB (cs := ftC (.slice none 0 0) (.slice none 0 0)) rfl rfl (by unfold ftC; exact ft0) ?_; intro w2 hG2 hb2 hs2))
  have L2 := (show Hid (LF w w1.heap.size (ftC (.slice pd nd cd) (.slice pc nc cc)) (ftC (.slice none 0 0) (.slice none 0 0)) w2) from ⟨hG1.below hb2, hG2, bt hb1 hb2⟩)
  have S2 := (show Hid (w.heap.size ≤ w2.heap.size) from (bt hb1 hb2).size)
  have W1 := (show Hid (w.heap.size ≤ w1.heap.size) from hb1.size)
  clear hG1 hG2 hb1 hb2 hs1 hs2
  go_upto_region 2 with (first
    | (refine wpList_bsH (len := 0) (t := 27) (te := 4) (ps := #[]) (cs := #[]) rfl rfl (by simp) (bs0B w2) ?_; intro w3 hG3 hb3 hs3; have L3 := (show Hid (LF w w1.heap.size (ftC (.slice pd nd cd) (.slice pc nc cc)) (ftC (.slice none 0 0) (.slice none 0 0)) w3) from L2.out.below hb3); have c0 := ft_c0 L3.out.p)
    | (at_builtin; refine wpList_apS rfl (.tmp 5) (.tmp 7) 27 4 rfl Try.underlying27 infoB rfl w2.heap.size _ 0 [] rfl hG3.own0 pd nd cd (dirs.map bov) rfl (HD.out.below L3.out.b) LD.out (bov_one dirs) (by omega) (by decide) hb3.size ?_; intro v4 w4 ho4 hg4 hk4))
  have L4 := (show Hid (LF w w1.heap.size (ftC (.slice pd nd cd) (.slice pc nc cc)) (ftC (.slice none 0 0) (.slice none 0 0)) w4) from L3.out.row hG3.own0 S2.out (by decide) hg4)
  have O4 := (show Hid (w4.ownsRow w.heap.size 4 1 v4 nd (dirs.map bov)) from by rw [Nat.zero_add, List.nil_append] at ho4; exact own_up ho4 S2.out)
  clear ho4 hg4 hk4 hG3 hb3 hs3 L3 c0 L2
  go_upto_region 3 with (at_builtin; refine wpList_apS rfl (.tmp 9) (.tmp 10) 27 4 rfl Try.underlying27 infoB rfl w.heap.size v4 nd (dirs.map bov) rfl (own_below O4.out (al _ _)) (some ⟨w4.heap.size, 0, none⟩) 4 4 mkB rfl (sr_new w4 mkB _) rfl mkB_one (by omega) (by decide) (Nat.le_trans L4.out.b.size (al _ _).size) ?_; intro v6 w6 ho6 hg6 hk6)
  have L6 := (show Hid (LF w w1.heap.size (ftC (.slice pd nd cd) (.slice pc nc cc)) (ftC (.slice none 0 0) (.slice none 0 0)) w6) from (L4.out.below (al _ _)).row (own_below O4.out (al _ _)) (Nat.le_refl _) (by decide) hg6)
  have O6 := (show Hid (w6.ownsRow w.heap.size 4 1 v6 (nd + 4) (dirs.map bov ++ mkB)) from ho6)
  clear ho6 hg6 hk6 L4 O4
  go_upto_region 4 with (first
    | (refine wpList_bsH (len := 0) (t := 28) (te := 3) (ps := #[]) (cs := #[]) rfl rfl (by simp) (bs0I w6) ?_; intro w7 hG7 hb7 hs7; have L7 := (show Hid (LF w w1.heap.size (ftC (.slice pd nd cd) (.slice pc nc cc)) (ftC (.slice none 0 0) (.slice none 0 0)) w7) from L6.out.below hb7); have c1 := ft_c1 L7.out.p)
    | (at_builtin; refine wpList_apS rfl (.tmp 12) (.tmp 14) 28 3 rfl Try.underlying28 infoI rfl w6.heap.size _ 0 [] rfl hG7.own0 pc nc cc (cuts.map inv6) rfl (HC.out.below L7.out.b) LC.out (inv_one cuts) (by omega) (by decide) hb7.size ?_; intro v8 w8 ho8 hg8 hk8))
  have L8 := (show Hid (LF w w1.heap.size (ftC (.slice pd nd cd) (.slice pc nc cc)) (ftC (.slice none 0 0) (.slice none 0 0)) w8) from L7.out.row hG7.own0 L6.out.b.size (by decide) hg8)
  have O8 := (show Hid (w8.ownsRow w.heap.size 3 1 v8 nc (cuts.map inv6)) from by rw [Nat.zero_add, List.nil_append] at ho8; exact own_up ho8 L6.out.b.size)
  have D8 := (show Hid (w8.ownsRow w.heap.size 4 1 v6 (nd + 4) (dirs.map bov ++ mkB)) from own_kept (own_below O6.out hb7) hg8 (fun g e e2 => hG7.ne (own_below O6.out hb7) e (by decide) (by injection e2 with e2; exact e2.symm)))
  clear ho8 hg8 hk8 hG7 hb7 hs7 L7 c1 L6 O6
  go_upto_region 5 with (at_builtin; refine wpList_apS rfl (.tmp 16) (.tmp 17) 28 3 rfl Try.underlying28 infoI rfl w.heap.size v8 nc (cuts.map inv6) rfl (own_below O8.out (al _ _)) (some ⟨w8.heap.size, 0, none⟩) 4 4 mkI rfl (sr_new w8 mkI _) rfl mkI_one (by omega) (by decide) (Nat.le_trans L8.out.b.size (al _ _).size) ?_; intro v9 w9 ho9 hg9 hk9)
  have L9 := (show Hid (LF w w1.heap.size (ftC (.slice pd nd cd) (.slice pc nc cc)) (ftC (.slice none 0 0) (.slice none 0 0)) w9) from (L8.out.below (al _ _)).row (own_below O8.out (al _ _)) (Nat.le_refl _) (by decide) hg9)
  have O9 := (show Hid (w9.ownsRow w.heap.size 3 1 v9 (nc + 4) (cuts.map inv6 ++ mkI)) from ho9)
  have D9 := (show Hid (w9.ownsRow w.heap.size 4 1 v6 (nd + 4) (dirs.map bov ++ mkB)) from own_kept (own_below D8.out (al _ _)) hg9 (fun g e e2 => by
    obtain ⟨_, _, cs, h1⟩ := own_lt (own_below D8.out (al w8 (.cells mkI.toArray 3))) e
    obtain ⟨_, _, cs', h2⟩ := own_lt (own_below O8.out (al w8 (.cells mkI.toArray 3))) e2
    rw [h1] at h2
    injection h2 with h2
    injection h2 with _ h3
    revert h3
    decide))
  clear ho9 hg9 hk9 L8 O8 D8
  have c0 := ft_c0 L9.out.p
  have c1 := ft_c1 L9.out.p
  obtain ⟨q6, cap6, rfl, hcap6⟩ := own_form D9.out
  obtain ⟨q9, cap9, rfl, hcap9⟩ := own_form O9.out
  obtain ⟨g6, rfl⟩ : ∃ g, q6 = some ⟨g, 0, none⟩ := own_some D9.out (by omega)
  obtain ⟨g9, rfl⟩ : ∃ g, q9 = some ⟨g, 0, none⟩ := own_some O9.out (by omega)
  have r0 := ft_c0 L9.out.r
  have r1 := ft_c1 L9.out.r
  have f0 := L9.out.r.frozen 0
  have f1 := L9.out.r.frozen 1
  have hc6 : nd ≤ cap6 := by omega
  have hc9 : nc ≤ cap9 := by omega
  clear hcap6 hcap9
  go_region
  obtain ⟨hF, hg⟩ := two_fin (show w9.heap[w1.heap.size]? = some (.cells #[.slice none 0 0, .slice none 0 0] 30 (0, 0)) from by have := L9.out.r; unfold GB ftC at this; exact this) (.slice (some ⟨g6, 0, none⟩) nd cap6) (.slice (some ⟨g9, 0, none⟩) nc cap9)
  have HF := (show Hid _ from hF)
  have HG := (show Hid _ from hg)
  clear hF hg
  go_wp2
  have hg := grown_drew HG.out
  have hH := (show GB _ w1.heap.size 30 (ftC (.slice (some ⟨g6, 0, none⟩) nd cap6) (.slice (some ⟨g9, 0, none⟩) nc cap9)) from by unfold GB ftC; exact HF.out)
  refine bodyPost_ret (res_B (cs := ftC (.slice (some ⟨g6, 0, none⟩) nd cap6) (.slice (some ⟨g9, 0, none⟩) nc cap9)) rfl _ _ w1.heap.size rfl (gb_drew hH) Try.underlying30 (by unfold ftC; exact size_Ft)) rfl ?_
  have nw1 : w.heap.size ≤ w1.heap.size := W1.out
  refine ⟨_, _, rfl, ⟨g6, cap6, by rw [LD.out], ?_⟩, ⟨g9, cap9, by rw [LC.out], ?_⟩, L9.out.b.grown hg L9.out.b.size (fun j hj => by injection hj with hj; omega)⟩
  · rw [LD.out]
    exact own_kept D9.out hg (fun g e e2 => L9.out.r.ne D9.out e (by decide) (by injection e2 with e2; exact e2.symm))
  · rw [LC.out]
    exact own_kept O9.out hg (fun g e e2 => L9.out.r.ne O9.out e (by decide) (by injection e2 with e2; exact e2.symm))
end
end Go.Proofs.Ytaddgmbglhdfdaa
