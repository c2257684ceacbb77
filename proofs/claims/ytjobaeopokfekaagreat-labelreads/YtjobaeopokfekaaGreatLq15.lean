/-
  A label in memory; 'within', 'shapeMayBe', 'check', 'Encode'.
-/
import Derived.Test.YtjobaeopokfekaaGreatLm15
import Derived.Test.YtjobaeopokfekaaGreatCt1
import Derived.Test.YtjobaeopokfekaaGreatPn
import Derived.Test.YtjobaeopokfekaaGreatZf
import Derived.Lib.SlBytesConst
import Derived.Lib.ConvBytes
namespace Go.Proofs.YtjobaeopokfekaaGreat
open Go.RowKit
/-- A whole number of 64 bits. -/
def I64 (z : Int) : Prop := -9223372036854775808 ≤ z ∧ z ≤ 9223372036854775807
/-- A shape's cells; a label's. -/
def shLC (k m b : Int) : Array Value := #[.int .i64 k, .int .i64 m, .int .i64 b]
def Lbl.cs (h : Lbl) : Array Value := #[.int .u8 (el h.a0), .int .u8 (el h.a1), .int .u8 (el h.a2), .int .u8 (el h.a3), .int .u8 (el h.a4), .int .u8 (el h.a5), .int .u8 (el h.a6), .int .u8 (el h.a7),
  .int .i64 h.k, .int .i64 h.m, .int .i64 h.b, .int .i64 h.ix, .int .i64 h.ep]
structure Lbl.In (h : Lbl) : Prop where
  k : I64 h.k
  m : I64 h.m
  b : I64 h.b
  ix : I64 h.ix
  ep : I64 h.ep
def shLB (k m b : Int) : Bool := decide (1 ≤ m ∧ m ≤ k) && (decide (k ≤ 255 - m) && decide (1 ≤ b ∧ b ≤ 65536))
theorem shLB_iff (k m b : Int) : shLB k m b = true ↔ shL k m b := by unfold shLB shL; simp
/-- A label in memory. -/
def LbAt (w : World) (g : Nat) (h : Lbl) : Prop := w.heap[g]? = some (.cells h.cs 27)
theorem LbAt.lt {w : World} {g : Nat} {h : Lbl} (H : LbAt w g h) : g < w.heap.size := by
  rcases Nat.lt_or_ge g w.heap.size with h1 | h1
  · exact h1
  · unfold LbAt at H; rw [Array.getElem?_eq_none h1] at H; cases H
theorem LbAt.below {w w' : World} {g : Nat} {h : Lbl} (H : LbAt w g h) (hb : Below w.heap.size w w') : LbAt w' g h := by
  have hl := H.lt
  unfold LbAt at H ⊢
  rw [hb.block g hl]; exact H
theorem LbAt.new (w : World) (h : Lbl) : LbAt (w.alloc (.cells h.cs 27)) w.heap.size h := heap_alloc_new w _
theorem LbAt.cells {w : World} {g : Nat} {h : Lbl} (H : LbAt w g h) : w.cell? ⟨g, 8, none⟩ = some (.int .i64 h.k) ∧ w.cell? ⟨g, 9, none⟩ = some (.int .i64 h.m) ∧ w.cell? ⟨g, 10, none⟩ = some (.int .i64 h.b) ∧ w.cell? ⟨g, 11, none⟩ = some (.int .i64 h.ix)
    ∧ w.cell? ⟨g, 12, none⟩ = some (.int .i64 h.ep) := by
  unfold LbAt at H
  have c := fun i => cell_of_row w g i _ _ (0, 0) H
  exact ⟨c 8, c 9, c 10, c 11, c 12⟩
theorem LbAt.store {w : World} {g : Nat} {h : Lbl} (H : LbAt w g h) : Rd w (some ⟨g, 0, none⟩) h.st := by
  unfold LbAt at H
  refine .inr ⟨g, 0, rfl, fun i hi => ?_⟩
  have hi' : i < 8 := hi
  rw [Nat.zero_add, cell_of_row w g i _ _ (0, 0) H]
  unfold Lbl.cs Lbl.st
  match i, hi' with
  | 0, _ => rfl
  | 1, _ => rfl
  | 2, _ => rfl
  | 3, _ => rfl
  | 4, _ => rfl
  | 5, _ => rfl
  | 6, _ => rfl
  | 7, _ => rfl
theorem LbAt.setk {w : World} {g : Nat} {h : Lbl} (H : LbAt w g h) (z : Int) : LbAt (w.setCell ⟨g, 8, none⟩ (.int .i64 z)) g { h with k := z } := by
  unfold LbAt Lbl.cs at *
  exact heap_setCell_same _ g 8 _ _ _ H
theorem LbAt.setm {w : World} {g : Nat} {h : Lbl} (H : LbAt w g h) (z : Int) : LbAt (w.setCell ⟨g, 9, none⟩ (.int .i64 z)) g { h with m := z } := by
  unfold LbAt Lbl.cs at *
  exact heap_setCell_same _ g 9 _ _ _ H
theorem LbAt.setb {w : World} {g : Nat} {h : Lbl} (H : LbAt w g h) (z : Int) : LbAt (w.setCell ⟨g, 10, none⟩ (.int .i64 z)) g { h with b := z } := by
  unfold LbAt Lbl.cs at *
  exact heap_setCell_same _ g 10 _ _ _ H
theorem LbAt.setix {w : World} {g : Nat} {h : Lbl} (H : LbAt w g h) (z : Int) : LbAt (w.setCell ⟨g, 11, none⟩ (.int .i64 z)) g { h with ix := z } := by
  unfold LbAt Lbl.cs at *
  exact heap_setCell_same _ g 11 _ _ _ H
theorem LbAt.setep {w : World} {g : Nat} {h : Lbl} (H : LbAt w g h) (z : Int) : LbAt (w.setCell ⟨g, 12, none⟩ (.int .i64 z)) g { h with ep := z } := by
  unfold LbAt Lbl.cs at *
  exact heap_setCell_same _ g 12 _ _ _ H
theorem LbAt.other {w : World} {g : Nat} {h : Lbl} (H : LbAt w g h) (a : Addr) (u : Value) (hne : g ≠ a.block) : LbAt (w.setCell a u) g h := by
  unfold LbAt at H ⊢
  rw [Below.heap_setCell _ _ _ _ (fun e => hne e)]; exact H
theorem LbAt.kept {w w' : World} {g r : Nat} {h : Lbl} (H : LbAt w g h) (hne : g ≠ r) (hg : w.grownBy w' (some r)) : LbAt w' g h := by
  have hl := H.lt
  unfold LbAt at H ⊢
  rw [hg.block g hl (fun e => hne (by injection e))]; exact H
theorem LbAt.turned {w w' : World} {g r : Nat} {h : Lbl} (H : LbAt w g h) (hne : g ≠ r) (hT : Turned r w w') : LbAt w' g h := by
  unfold LbAt at H ⊢
  rw [hT.1 g hne]; exact H
theorem sizeLb : (Tryz.prog.info? 27).map (·.size) = some 13 := by kernel_rfl
theorem lcs_one (h : Lbl) : (h.cs.all fun x => x.oneCell') = true := by simp [Lbl.cs, Value.oneCell']
theorem zero_lb (w : World) : (zeroValue 27).run Tryz.prog w = .ok (.agg lb0.cs) w := by kernel_rfl
theorem wpList_loadLb {w : World} {ops : Array Oper} {rest : List Oper} {o : Oper} {a : Act} {Q : Exit → Act → World → Prop} {h : Lbl} (hgd : o.guard = none) (x : Operand) (ho : o.op = .load 27 x) (g : Nat) (hx : a.eval x = .pointer (some ⟨g, 0, none⟩)) (H : LbAt w g h)
    (k : wpList Tryz.prog ops Q rest (a.put o.dst (.agg h.cs)) w) : wpList Tryz.prog ops Q (o :: rest) a w :=
  wpList_load_row hgd 27 x ho g hx 27 h.cs (0, 0) _ H Tryz.underlying27 rfl sizeLb k
theorem wpList_alLb {w : World} {ops : Array Oper} {rest : List Oper} {o : Oper} {a : Act} {Q : Exit → Act → World → Prop} (hgd : o.guard = none) (ho : o.op = .alloc 27)
    (h : ∀ w', LbAt w' w.heap.size lb0 → Below w.heap.size w w' → w'.heap.size = w.heap.size + 1 → wpList Tryz.prog ops Q rest (a.put o.dst (.pointer (some ⟨w.heap.size, 0, none⟩))) w') : wpList Tryz.prog ops Q (o :: rest) a w := by
  refine wpList_plain hgd fun K hK => ?_
  have h2 := h (w.alloc (.cells lb0.cs 27)) (LbAt.new w lb0) ((Below.refl _ _).alloc (Nat.le_refl _) _) (by simp)
  unfold Oper.wp execOp
  simp only [ho, Sem.run_bind, Instr.alloc, newVar, newRow, zero_lb, run_newObj_alloc, Sem.run_pure, Result.andThen_ok, Value.cells]
  exact hK _ _ h2
theorem wpList_storeLb {w : World} {ops : Array Oper} {rest : List Oper} {o : Oper} {a : Act} {Q : Exit → Act → World → Prop} {h h0 : Lbl} (hgd : o.guard = none) (x y : Operand) (ho : o.op = .store 27 x y) (hd : o.dst = none) (g : Nat) (hx : a.eval x = .pointer (some ⟨g, 0, none⟩)) (hy : a.eval y = .agg h.cs) (H : LbAt w g h0)
    (k : ∀ w', LbAt w' g h → Turned g w w' → wpList Tryz.prog ops Q rest a w') : wpList Tryz.prog ops Q (o :: rest) a w := by
  refine wpList_store_rowTo hgd 27 x y ho hd g h.cs hx hy 27 h0.cs H sizeLb rfl (lcs_one h) ?_
  refine k _ ?_ ⟨fun j hj => setRow_other w g j _ hj, fun B w0 hb hB => below_setRow hb hB _, by simp⟩
  unfold LbAt at H ⊢
  exact setRow_heap w g _ _ _ _ H
theorem run_loadLb {w : World} {g : Nat} {h : Lbl} (H : LbAt w g h) : (loadVar 27 ⟨g, 0, none⟩).run Tryz.prog w = .ok (.agg h.cs) w := by
  have hl : (loadCells ⟨g, 0, none⟩ h.cs.toList.length).run Tryz.prog w = .ok h.cs.toList.toArray w :=
    run_loadCells_list (P := Tryz.prog) w ⟨g, 0, none⟩ h.cs.toList (fun j v hv => by
      rw [add_pl, Nat.zero_add, cell_of_row _ _ _ _ _ (0, 0) H]
      simpa using hv)
  have hi := sizeLb
  cases hq : Tryz.prog.info? 27 with
  | none => simp [hq] at hi
  | some i =>
    have hs : i.size = h.cs.size := by simpa [hq, Lbl.cs] using hi
    have hagg : (isAgg 27).run Tryz.prog w = .ok true w := by
      unfold isAgg
      rw [Sem.run_bind, run_underlying Tryz.underlying27 w]
      rfl
    simp only [Array.length_toList, Array.toArray_toList] at hl
    simp [loadVar, Sem.run_bind, hagg, sizeOf, typeInfo, hq, hs, hl]
theorem res_lb {fn : Func} {p u : Tmp} (h : fn.results = #[.cell p 27, .tmp u]) (tmps : Array Value) (w : World) (g : Nat) (l : Lbl) (e : Value) (hp : tmps.getD p undef = .pointer (some ⟨g, 0, none⟩)) (hu : tmps.getD u undef = e) (H : LbAt w g l) :
    (results fn tmps).run Tryz.prog w = .ok (.tuple #[.agg l.cs, e]) w := by
  have hl := run_loadLb H
  have hp' : tmps[p]?.getD undef = .pointer (some ⟨g, 0, none⟩) := by simpa using hp
  have hu' : tmps[u]?.getD undef = e := by simpa using hu
  simp [results, h, hp', hu', asAddr, hl]
theorem wpList_apgL {w : World} {ops : Array Oper} {rest : List Oper} {o : Oper} {a : Act} {Q : Exit → Act → World → Prop} (hgd : o.guard = none) (s x : Operand) (ho : o.op = .call { callee := .builtin .append, args := #[s, x], argTypes := #[22, 22] })
    (ad : Addr) (n cap : Nat) (xs : List (BitVec 8)) (hs : a.eval s = .slice (some ad) n cap) (hr0 : Rd w (some ad) xs) (hn0 : xs.length = n) (ay : Addr) (m c : Nat) (ys : List (BitVec 8)) (hx : a.eval x = .slice (some ay) m c) (hr : Rd w (some ay) ys) (hn : ys.length = m) (hroom : cap < n + m) (hm : n + m ≤ 140737488355328)
    (h : ∀ v' w', Ow w' w.heap.size v' (xs ++ ys) → Below w.heap.size w w' → wpList Tryz.prog ops Q rest (a.put o.dst v') w') : wpList Tryz.prog ops Q (o :: rest) a w := by
  obtain ⟨i0, hi, hz0, hz1, hz2⟩ := info_parts info5
  subst hn hn0
  have src : ∀ {ad : Addr} {ys : List (BitVec 8)}, Rd w (some ad) ys → ∀ j u, (vs (fn ys) ys.length)[j]? = some u → w.cell? (ad.add j) = some u := by
    intro ad ys hr
    rcases hr with e | ⟨b, off, e, hc⟩
    · subst e; intro j u hu; simp [vs] at hu
    · cases e
      exact vs_src hc
  have hl : ∀ ys : List (BitVec 8), (vs (fn ys) ys.length).length = ys.length * 1 := fun ys => by rw [vs_len, Nat.mul_one]
  obtain ⟨v', w', hr1, h2, h3⟩ := run_append_arg_grows (P := Tryz.prog) w 22 o.type 5 i0 (.int .u8 0) 1 1 Tryz.underlying22 hi hz0 hz1 hz2 rfl (by decide) ad xs.length cap (vs (fn xs) xs.length) (hl xs) (src hr0) ay ys.length c (vs (fn ys) ys.length) (hl ys) (src hr) (by omega) (by unfold maxLen; omega) (by omega)
  refine wpList_plain hgd fun K hK => ?_
  unfold Oper.wp execOp
  simp only [ho, resolve, invoke, builtin, Sem.run_bind, Sem.run_pure, Result.andThen_ok, List.map_toArray, List.map_cons, List.map_nil, hs, hx, hr1]
  refine hK _ _ (h v' w' ?_ ?_)
  · unfold Ow
    rw [List.length_append, vs_fn_app]; exact h2
  · exact (Below.refl _ _).grown h3 (Nat.le_refl _) (fun _ h => by cases h)
theorem rd_markL (W : World) (fr : Nat × Nat) : Rd (W.alloc (.cells #[.int .u8 67, .int .u8 82, .int .u8 78, .int .u8 1] 5 fr)) (some ⟨W.heap.size, 0, none⟩) mkL := rd_newl W mkL _ fr
section
attribute [local irreducible] Calls el
set_option maxRecDepth 1000000 in
theorem lwithin_any (x a b : Int) (w : World) :
    Calls Tryz.prog 62 #[.int .i64 x, .int .i64 a, .int .i64 b] w fun e w' => e = .returned (.bool (decide (a ≤ x ∧ x ≤ b))) ∧ w' = w := by
  go_enter Tryz.func62, Tryz.ntmps62
  by_cases h1 : a ≤ x
  · by_cases h2 : x ≤ b
    · go_wp2
      go_ret
      exact ⟨by simp [h1, h2], rfl⟩
    · go_wp2
      go_ret
      exact ⟨by simp [h2], rfl⟩
  · have h1' : ¬ (a ≤ x ∧ x ≤ b) := fun h => h1 h.1
    go_wp2
    go_ret
    exact ⟨rfl, rfl⟩
theorem lshape_any (k m b : Int) (hm : I64 m) (w : World) :
    Calls Tryz.prog 61 #[.agg (shLC k m b)] w fun e w' => e = .returned (.bool (shLB k m b)) ∧ Below w.heap.size w w' := by
  unfold shLC shLB
  unfold I64 at hm
  have al : ∀ (W : World) (o : Obj), Below W.heap.size W (W.alloc o) := fun W o => (Below.refl _ _).alloc (Nat.le_refl _) o
  go_enter Tryz.func61, Tryz.ntmps61
  by_cases h1 : 1 ≤ m ∧ m ≤ k
  · have d1 : decide (1 ≤ m ∧ m ≤ k) = true := decide_eq_true h1
    by_cases h2 : k ≤ 255 - m
    · go_wp2_with (go_at_call 62; refine (lwithin_any _ _ _ _).mono ?_; rintro e w1 ⟨rfl, h⟩; obtain rfl := h.symm)
      go_ret
      exact ⟨by simp [h1, h2], al _ _⟩
    · have d2 : decide (k ≤ 255 - m) = false := decide_eq_false h2
      go_wp2_with (go_at_call 62; refine (lwithin_any _ _ _ _).mono ?_; rintro e w1 ⟨rfl, h⟩; obtain rfl := h.symm)
      go_ret
      exact ⟨by simp [d2], al _ _⟩
  · have d1 : decide (1 ≤ m ∧ m ≤ k) = false := decide_eq_false h1
    go_wp2_with (go_at_call 62; refine (lwithin_any _ _ _ _).mono ?_; rintro e w1 ⟨rfl, h⟩; obtain rfl := h.symm)
    go_ret
    exact ⟨by simp [d1], al _ _⟩
theorem lcheck_any (h : Lbl) (hi : h.In) (w : World) :
    Calls Tryz.prog 43 #[.agg h.cs] w fun e w' => e = .returned (.int .i64 h.ck) ∧ Below w.heap.size w w' := by
  have al : ∀ (W : World) (o : Obj), Below W.heap.size W (W.alloc o) := fun W o => (Below.refl _ _).alloc (Nat.le_refl _) o
  have SM := (show Hid _ from fun w => lshape_any h.k h.m h.b hi.m w)
  have WI := (show Hid _ from fun x a b w => lwithin_any x a b w)
  have HA := LbAt.new w h
  unfold Lbl.cs at HA ⊢
  unfold Lbl.ck
  obtain ⟨ik, im, ib, ii, ie⟩ := hi
  unfold I64 at ik im ib ii ie
  unfold shLC at SM
  go_enter Tryz.func43, Tryz.ntmps43
  by_cases h1 : shL h.k h.m h.b
  · have d1 := (shLB_iff _ _ _).2 h1
    have kk : 1 ≤ h.k ∧ h.k ≤ 255 ∧ 1 ≤ h.m ∧ h.m ≤ 255 := by unfold shL at h1; omega
    rw [if_neg (not_not_intro h1)]
    by_cases h4 : 0 ≤ h.ix ∧ h.ix ≤ h.k + h.m - 1
    · have d4 := decide_eq_true h4
      rw [if_neg (not_not_intro h4)]
      by_cases h5 : 0 ≤ h.ep ∧ h.ep ≤ 4294967295
      · have d5 := decide_eq_true h5
        rw [if_neg (not_not_intro h5)]
        clear h1 h4 h5
        go_wp2_with (first | (go_at_call 61; refine (SM.out _).mono ?_; rintro e w1 ⟨rfl, hb1⟩; rw [d1]; have H1 := HA.below hb1; obtain ⟨q8, q9, q10, q11, q12⟩ := H1.cells) | (go_at_call 62; refine (WI.out _ _ _ _).mono ?_; rintro e w2 ⟨rfl, h⟩; obtain rfl := h.symm; first | rw [d4] | rw [d5]))
        go_ret
        exact ⟨rfl, bt (al _ _) hb1⟩
      · have d5 := decide_eq_false h5
        rw [if_pos h5]
        clear h1 h4 h5
        go_wp2_with (first | (go_at_call 61; refine (SM.out _).mono ?_; rintro e w1 ⟨rfl, hb1⟩; rw [d1]; have H1 := HA.below hb1; obtain ⟨q8, q9, q10, q11, q12⟩ := H1.cells) | (go_at_call 62; refine (WI.out _ _ _ _).mono ?_; rintro e w2 ⟨rfl, h⟩; obtain rfl := h.symm; first | rw [d4] | rw [d5]))
        go_ret
        exact ⟨rfl, bt (al _ _) hb1⟩
    · have d4 := decide_eq_false h4
      rw [if_pos h4]
      clear h1 h4
      go_wp2_with (first | (go_at_call 61; refine (SM.out _).mono ?_; rintro e w1 ⟨rfl, hb1⟩; rw [d1]; have H1 := HA.below hb1; obtain ⟨q8, q9, q10, q11, q12⟩ := H1.cells) | (go_at_call 62; refine (WI.out _ _ _ _).mono ?_; rintro e w2 ⟨rfl, h⟩; obtain rfl := h.symm; first | rw [d4] | rw [d5]))
      go_ret
      exact ⟨rfl, bt (al _ _) hb1⟩
  · have d1 : shLB h.k h.m h.b = false := by
      cases e : shLB h.k h.m h.b with
      | false => rfl
      | true => exact absurd ((shLB_iff _ _ _).1 e) h1
    rw [if_pos h1]
    clear h1
    go_wp2_with (first | (go_at_call 61; refine (SM.out _).mono ?_; rintro e w1 ⟨rfl, hb1⟩; rw [d1]; have H1 := HA.below hb1; obtain ⟨q8, q9, q10, q11, q12⟩ := H1.cells) | (go_at_call 62; refine (WI.out _ _ _ _).mono ?_; rintro e w2 ⟨rfl, h⟩; obtain rfl := h.symm; first | rw [d4] | rw [d5]))
    go_ret
    exact ⟨rfl, bt (al _ _) hb1⟩
end
section
attribute [local irreducible] Calls el Lbl.cs cmo rg
set_option maxHeartbeats 1000000 in
set_option maxRecDepth 1000000 in
theorem lput32_sum {w : World} {a : Option Addr} {bs : List (BitVec 8)} (h : Rd w a bs) (n c : Nat) (hn : bs.length = n) (hm : n ≤ 140737488355000) (s : BitVec 32) :
    Calls Tryz.prog 45 #[.slice a n c, .int .u32 (rg s)] w fun e w' => ∃ o', e = .returned o' ∧ Ow w' w.heap.size o' (bs ++ smL s) ∧ Below w.heap.size w w' := by
  unfold rg
  exact put32_any h n c hn hm s.toNat s.isLt
set_option maxHeartbeats 4000000 in
set_option maxRecDepth 1000000 in
theorem lencode_nat (h : Lbl) (hi : h.In) (h0 : h.ck = 0) (K M B X E : Nat) (e1 : h.k = K) (e2 : h.m = M) (e3 : h.b = B) (e5 : h.ix = X) (e6 : h.ep = E) (b1 : K < 256) (b2 : M < 256) (b3 : B < 4294967296) (b5 : X < 256) (b6 : E < 18446744073709551616) (w : World) :
    Calls Tryz.prog 20 #[.agg h.cs] w fun e w' => ∃ v, e = .returned (.tuple #[v, .int .i64 0]) ∧ Ow w' w.heap.size v (mkL ++ h.st ++ lb 1 K ++ lb 1 M ++ lb 4 B ++ lb 1 X ++ lb 8 E ++ smL (cmo 0#32 (mkL ++ h.st ++ lb 1 K ++ lb 1 M ++ lb 4 B ++ lb 1 X ++ lb 8 E))) ∧ Below w.heap.size w w' := by
  have al : ∀ (W : World) (o : Obj), Below W.heap.size W (W.alloc o) := fun W o => (Below.refl _ _).alloc (Nat.le_refl _) o
  have CK := (show Hid _ from fun w => lcheck_any h hi w)
  rw [h0] at CK
  have HA := LbAt.new w h
  have st8 : h.st.length = 8 := rfl
  have ml : mkL.length = 4 := rfl
  have m1 : (K : Int) % 256 = K := by omega
  have m2 : (M : Int) % 256 = M := by omega
  have m3 : (B : Int) % 4294967296 = B := by omega
  have m5 : (X : Int) % 256 = X := by omega
  have m6 : (E : Int) % 18446744073709551616 = E := by omega
  have hbw := al w (.cells h.cs 27)
  go_enter Tryz.func20, Tryz.ntmps20
  go_wp2_with (first
    | (refine wpList_loadLb rfl _ rfl w.heap.size rfl HA ?_)
    | (go_at_call 43; refine (CK.out _).mono ?_; rintro e w1 ⟨rfl, hb1⟩; replace HA := HA.below hb1; replace hbw := bt hbw hb1; have kc := Lib.run_convert_bytes_const (P := Tryz.prog) w1 22 5 #[.int .u8 67, .int .u8 82, .int .u8 78, .int .u8 1] 4 4 Tryz.underlying22 Tryz.underlying5; have rm := rd_markL w1 (4, 5); replace HA := HA.below (al w1 (.cells #[.int .u8 67, .int .u8 82, .int .u8 78, .int .u8 1] 5 (4, 5))); replace hbw := bt hbw (al w1 (.cells #[.int .u8 67, .int .u8 82, .int .u8 78, .int .u8 1] 5 (4, 5))))
    | (at_builtin; refine wpList_apgL rfl (.tmp 12) (.tmp 14) rfl ⟨w1.heap.size, 0, none⟩ 4 4 mkL rfl rm rfl ⟨w.heap.size, 0, none⟩ 8 8 h.st rfl HA.store rfl (by decide) (by decide) ?_; intro v' w2 ho hb; clear rm kc; replace HA := HA.below hb; replace ho := ho.mono hbw.size; replace hbw := bt hbw hb; obtain ⟨p1, c1, rfl, hc1, hr⟩ := ho.rd; obtain ⟨q8, q9, q10, q11, q12⟩ := HA.cells)
    | (go_at_call 44; refine (put8_any hr _ _ rfl (by simp [lb_len, st8, ml]) _ (by assumption)).mono ?_; rintro e w3 ⟨v1, rfl, ho, hb⟩; clear q8 q9 q10 q11 q12; replace HA := HA.below hb; replace ho := ho.mono hbw.size; replace hbw := bt hbw hb; obtain ⟨p1, c1, rfl, hc1, hr⟩ := ho.rd; obtain ⟨q8, q9, q10, q11, q12⟩ := HA.cells)
    | (go_at_call 45; refine (put32_any hr _ _ rfl (by simp [lb_len, st8, ml]) _ (by assumption)).mono ?_; rintro e w3 ⟨v1, rfl, ho, hb⟩; clear q8 q9 q10 q11 q12; replace HA := HA.below hb; replace ho := ho.mono hbw.size; replace hbw := bt hbw hb; obtain ⟨p1, c1, rfl, hc1, hr⟩ := ho.rd; obtain ⟨q8, q9, q10, q11, q12⟩ := HA.cells)
    | (go_at_call 46; refine (put64_any hr _ _ rfl (by simp [lb_len, st8, ml]) _ (by assumption)).mono ?_; rintro e w3 ⟨v1, rfl, ho, hb⟩; clear q8 q9 q10 q11 q12; replace HA := HA.below hb; replace ho := ho.mono hbw.size; replace hbw := bt hbw hb; obtain ⟨p1, c1, rfl, hc1, hr⟩ := ho.rd; obtain ⟨q8, q9, q10, q11, q12⟩ := HA.cells)
    | (go_at_call 47; refine (csum_any hr _ _ rfl (by simp [lb_len, st8, ml])).mono ?_; rintro e w4 ⟨rfl, hb4⟩; replace hr := hr.below hb4; replace hbw := bt hbw hb4)
    | (go_at_call 45; refine (lput32_sum hr _ _ rfl (by simp [lb_len, st8, ml]) _).mono ?_; rintro e w5 ⟨v5, rfl, ho5, hb5⟩; replace ho5 := ho5.mono hbw.size; replace hbw := bt hbw hb5))
  go_ret2
  exact ⟨_, rfl, ho5, hbw⟩
/-- What Encode says. -/
def Lbl.enc (h : Lbl) : List (BitVec 8) := if h.ck = 0 then h.fm else []
set_option maxHeartbeats 4000000 in
set_option maxRecDepth 1000000 in
theorem lencode_any (h : Lbl) (hi : h.In) (w : World) :
    Calls Tryz.prog 20 #[.agg h.cs] w fun e w' => ∃ v, e = .returned (.tuple #[v, .int .i64 h.ck]) ∧ Ow w' w.heap.size v h.enc ∧ Below w.heap.size w w' := by
  by_cases h0 : h.ck = 0
  · have ok := (ck_ok h).1 h0
    have k1 := ok.k1
    have k2 := ok.k2
    have m1 := ok.m1
    have m2 := ok.m2
    have b1 := ok.b1
    have b2 := ok.b2
    have x1 := ok.x1
    have x2 := ok.x2
    have km := ok.km
    have e1 := ok.e1
    have e2 := ok.e2
    have E := lencode_nat h hi h0 h.k.toNat h.m.toNat h.b.toNat h.ix.toNat h.ep.toNat (by omega) (by omega) (by omega) (by omega) (by omega) (by omega) (by omega) (by omega) (by omega) (by omega) w
    unfold Lbl.enc
    rw [if_pos h0, h0]
    exact E
  · have CK := (show Hid _ from fun w => lcheck_any h hi w)
    have HA := LbAt.new w h
    unfold Lbl.enc
    rw [if_neg h0]
    generalize h.ck = z at h0 CK ⊢
    go_enter Tryz.func20, Tryz.ntmps20
    go_wp2_with (first
      | (refine wpList_loadLb rfl _ rfl w.heap.size rfl HA ?_)
      | (go_at_call 43; refine (CK.out _).mono ?_; rintro e w1 ⟨rfl, hb1⟩))
    go_ret2
    exact ⟨_, rfl, Ow.nil _ _, bt ((Below.refl _ _).alloc (Nat.le_refl _) _) hb1⟩
end
end Go.Proofs.YtjobaeopokfekaaGreat
