/-
  Lists of labels; 'among': does a drive show one of them?
-/
import Derived.Test.YtbdkdoeiajfkfaaGreatGw26
import Derived.Test.YtbdkdoeiajfkfaaGreatRl15
import Derived.Laws.AppendOwn
import Derived.Maps.AppendAt
import Derived.BigQuiet
import Derived.Deep.Cut
import Derived.Test.YtbdkdoeiajfkfaaGreatMk15
import Derived.Deep.CutRange
import Derived.Deep.RegionWith
namespace Go.Proofs.YtbdkdoeiajfkfaaGreat
open Go.RowKit Go.Maps Go.Sort
theorem flat_atL {α : Type} (f : α → List Value) (K : Nat) (hf : ∀ x, (f x).length = K) : ∀ (es : List α) (i j : Nat) (d : α), i < es.length → j < K → (es.flatMap f)[i * K + j]? = (f (es.getD i d))[j]?
  | [], i, _, _, h, _ => by simp at h
  | e :: r, 0, j, d, _, hj => by
    rw [List.flatMap_cons, Nat.zero_mul, Nat.zero_add, List.getElem?_append_left (by rw [hf]; exact hj)]
    rfl
  | e :: r, i + 1, j, d, h, hj => by
    rw [List.flatMap_cons, List.getElem?_append_right (by rw [hf, Nat.add_mul]; omega), hf, show (i + 1) * K + j - K = i * K + j by rw [Nat.add_mul, Nat.one_mul]; omega, flat_atL f K hf r i j d (by simpa using h) hj]
    rfl
theorem flat_lenL {α : Type} (f : α → List Value) (K : Nat) (hf : ∀ x, (f x).length = K) : ∀ es : List α, (es.flatMap f).length = es.length * K
  | [] => by simp
  | e :: r => by rw [List.flatMap_cons, List.length_append, hf, flat_lenL f K hf r, List.length_cons, Nat.add_mul, Nat.one_mul, Nat.add_comm]
def fcL (L : List Lbl) : List Value := L.flatMap (fun l => l.cs.toList)
theorem fcL_at (L : List Lbl) (i j : Nat) (hi : i < L.length) (hj : j < 13) : (fcL L)[i * 13 + j]? = ((L.getD i lb0).cs.toList)[j]? := flat_atL (fun l : Lbl => l.cs.toList) 13 (fun _ => rfl) L i j lb0 hi hj
theorem fcL_len (L : List Lbl) : (fcL L).length = L.length * 13 := flat_lenL (fun l : Lbl => l.cs.toList) 13 (fun _ => rfl) L
theorem fcL_one (L : List Lbl) : ∀ u ∈ fcL L, u.oneCell' = true := by
  intro u hu
  unfold fcL at hu
  obtain ⟨f, _, hf⟩ := List.mem_flatMap.1 hu
  have := lcs_one f
  rw [Array.all_eq_true_iff_forall_mem] at this
  exact this u (by simpa using hf)
theorem fcL_app (L M : List Lbl) : fcL (L ++ M) = fcL L ++ fcL M := by unfold fcL; rw [List.flatMap_append]
/-- An own list of labels. -/
def OL (w : World) (base : Nat) (v : Value) (L : List Lbl) : Prop := w.ownsRow base 33 13 v L.length (fcL L)
theorem OL.nil (w : World) (B : Nat) : OL w B (.slice none 0 0) [] := World.ownsRow_nil _ _ _ _
theorem OL.same {w w' : World} {base : Nat} {v : Value} {L : List Lbl} (h : OL w base v L) (hb : ∀ g, v.ownBlock = some g → w'.heap[g]? = w.heap[g]?) : OL w' base v L := ob_same h hb
theorem OL.lt {w : World} {base : Nat} {v : Value} {L : List Lbl} (h : OL w base v L) : ∀ g, v.ownBlock = some g → base ≤ g ∧ g < w.heap.size := fun g e => World.ownsRow.lt h g e
theorem OL.below {w w' : World} {base : Nat} {v : Value} {L : List Lbl} (h : OL w base v L) (hb : Below w.heap.size w w') : OL w' base v L := h.same (fun g e => hb.block g (h.lt g e).2)
/-- A list of labels that is read. -/
def RL (w : World) (p : Option Addr) (L : List Lbl) : Prop := L = [] ∨ ∃ b o, p = some ⟨b, o, none⟩ ∧ ∀ i, i < L.length → ∀ j u, ((L.getD i lb0).cs.toList)[j]? = some u → w.cell? ⟨b, o + i * 13 + j, none⟩ = some u
theorem RL.same {w w' : World} {p : Option Addr} {L : List Lbl} (h : RL w p L) (hk : ∀ a, p = some a → w'.heap[a.block]? = w.heap[a.block]?) : RL w' p L := by
  rcases h with h | ⟨b, o, e, h⟩
  · exact .inl h
  · refine .inr ⟨b, o, e, fun i hi j u hu => ?_⟩
    have := h i hi j u hu
    unfold World.cell? at this ⊢
    rw [hk _ e]
    exact this
theorem LbAt.rl {w : World} {b : Nat} {l : Lbl} (h : LbAt w b l) : RL w (some ⟨b, 0, none⟩) [l] := by
  refine .inr ⟨b, 0, rfl, fun i hi j u hu => ?_⟩
  have h0 : i = 0 := by simpa using hi
  subst h0
  unfold LbAt at h
  have e : 0 + 0 * 13 + j = j := by omega
  rw [e, cell_of_row w b j _ _ (0, 0) h]
  have hu' : (l.cs.toList)[j]? = some u := hu
  simpa using hu'
theorem OL.rl {w : World} {base : Nat} {v : Value} {L : List Lbl} (h : OL w base v L) : ∃ p cap, v = .slice p L.length cap ∧ RL w p L ∧ ∀ a, p = some a → v.ownBlock = some a.block := by
  have h' := h
  rcases h.2 with ⟨hv, h1⟩ | ⟨g, cap, cur, hv, hb, _, hn, _⟩
  · exact ⟨none, 0, by rw [hv, h1], .inl (List.length_eq_zero_iff.1 h1), fun a e => by cases e⟩
  · refine ⟨_, cap, hv, .inr ⟨g, 0, rfl, fun i hi j u hu => ?_⟩, fun a e => by injection e with e; subst e; rw [hv]; rfl⟩
    have hj : j < 13 := by
      rcases Nat.lt_or_ge j 13 with h9 | h9
      · exact h9
      · rw [List.getElem?_eq_none (by exact h9)] at hu; cases hu
    unfold OL at h'
    have := h'.cells (g := g) (by rw [hv]; rfl) (i * 13 + j) u (by rw [fcL_at L i j hi hj]; exact hu)
    rw [add_pl] at this
    simpa only [Nat.zero_add] using this
theorem infoLb : (Tryz.prog.info? 33).map (fun i => (i.zero, i.size, i.bytes)) = some (some (.agg lb0.cs), 13, 48) := by kernel_rfl
/-- append(v, l) where v is an own list. -/
theorem wpList_apL {w : World} {ops : Array Oper} {rest : List Oper} {o : Oper} {a : Act} {Q : Exit → Act → World → Prop} (hgd : o.guard = none) (s x : Operand) (ho : o.op = .call { callee := .builtin .append, args := #[s, x], argTypes := #[28, 28] })
    (base : Nat) (v : Value) (L : List Lbl) (hs : a.eval s = v) (hown : OL w base v L) (b c : Nat) (l : Lbl) (hx : a.eval x = .slice (some ⟨b, 0, none⟩) 1 c) (hr : LbAt w b l)
    (hb : L.length ≤ 1000000000) (hbase : base ≤ w.heap.size)
    (h : ∀ v' w', OL w' base v' (L ++ [l]) → w.grownBy w' v.ownBlock → (v'.ownBlock = v.ownBlock ∨ v'.ownBlock = some w.heap.size) → wpList Tryz.prog ops Q rest (a.put o.dst v') w') : wpList Tryz.prog ops Q (o :: rest) a w := by
  obtain ⟨i0, hi0, hz0, hz1, hz2⟩ := info_parts infoLb
  have hsrc : ∀ j u, (fcL [l])[j]? = some u → w.cell? ((⟨b, 0, none⟩ : Addr).add j) = some u := by
    intro j u hu
    have e : fcL [l] = l.cs.toList := by simp [fcL]
    rw [e] at hu
    unfold LbAt at hr
    rw [add_pl, Nat.zero_add, cell_of_row w b j _ _ (0, 0) hr]
    simpa using hu
  refine wpList_append_own_at _ hgd s x 28 ho base 33 i0 (.agg lb0.cs) 13 48 Tryz.underlying28 hi0 hz0 hz1 hz2 rfl (by decide) v L.length (fcL L) hs hown ⟨b, 0, none⟩ 1 c (fcL [l]) hx (by rw [fcL_len]; rfl) hsrc (fcL_one _) (by unfold maxLen; omega) (by omega) hbase ?_
  intro v' w' h2 h3 _ h5
  refine h v' w' ?_ h3 h5
  unfold OL
  rw [fcL_app, List.length_append]
  exact h2
theorem bsL1 (w : World) (l : Lbl) : (Instr.buildSlice 28 1 #[(0, .agg l.cs)]).run Tryz.prog w = .ok (.slice (some ⟨w.heap.size, 0, none⟩) 1 1) (w.alloc (.cells l.cs 33)) := by kernel_rfl
/-- A list of one label, written out; the new world by a name. -/
theorem wpList_bsL1 {w : World} {ops : Array Oper} {rest : List Oper} {o : Oper} {a : Act} {Q : Exit → Act → World → Prop} (hw : Region.wanted o (yielded ops a.tmps) = true) (x : Operand) (ho : o.op = .buildSlice 28 1 #[(0, x)]) (l : Lbl) (hx : a.eval x = .agg l.cs)
    (h : ∀ w', LbAt w' w.heap.size l → Below w.heap.size w w' → Hid (w'.heap.size = w.heap.size + 1) → wpList Tryz.prog ops Q rest (a.put o.dst (.slice (some ⟨w.heap.size, 0, none⟩) 1 1)) w') : wpList Tryz.prog ops Q (o :: rest) a w := by
  refine wpList_step fun K hK => ?_
  rw [if_pos hw]
  have h2 := h (w.alloc (.cells l.cs 33)) (LbAt.new w l) ((Below.refl _ _).alloc (Nat.le_refl _) _) (by show _ = _; simp)
  unfold Oper.wp execOp
  have hp : ((#[(0, x)] : Array (Nat × Operand)).map fun (i, x) => (i, a.eval x)) = #[(0, .agg l.cs)] := by simp [hx]
  simp only [ho, hp, Sem.run_bind, bsL1 w l, Sem.run_pure, Result.andThen_ok]
  exact hK _ _ h2
theorem RL.at_ {w : World} {p : Option Addr} {L : List Lbl} (h : RL w p L) {t : Nat} (ht : t < L.length) : ∃ b o, p = some ⟨b, o, none⟩ ∧ w.cell? ⟨b, o + t * 13, none⟩ = some (.int .u8 (el (L.getD t lb0).a0)) ∧ w.cell? ⟨b, o + t * 13 + 1, none⟩ = some (.int .u8 (el (L.getD t lb0).a1)) ∧ w.cell? ⟨b, o + t * 13 + 2, none⟩ = some (.int .u8 (el (L.getD t lb0).a2)) ∧ w.cell? ⟨b, o + t * 13 + 3, none⟩ = some (.int .u8 (el (L.getD t lb0).a3)) ∧ w.cell? ⟨b, o + t * 13 + 4, none⟩ = some (.int .u8 (el (L.getD t lb0).a4)) ∧ w.cell? ⟨b, o + t * 13 + 5, none⟩ = some (.int .u8 (el (L.getD t lb0).a5)) ∧ w.cell? ⟨b, o + t * 13 + 6, none⟩ = some (.int .u8 (el (L.getD t lb0).a6)) ∧ w.cell? ⟨b, o + t * 13 + 7, none⟩ = some (.int .u8 (el (L.getD t lb0).a7)) ∧ w.cell? ⟨b, o + t * 13 + 8, none⟩ = some (.int .i64 (L.getD t lb0).k) ∧ w.cell? ⟨b, o + t * 13 + 9, none⟩ = some (.int .i64 (L.getD t lb0).m) ∧ w.cell? ⟨b, o + t * 13 + 10, none⟩ = some (.int .i64 (L.getD t lb0).b) ∧ w.cell? ⟨b, o + t * 13 + 11, none⟩ = some (.int .i64 (L.getD t lb0).ix) ∧ w.cell? ⟨b, o + t * 13 + 12, none⟩ = some (.int .i64 (L.getD t lb0).ep) := by
  rcases h with h | ⟨b, o, e, h⟩
  · subst h; cases ht
  · exact ⟨b, o, e, h t ht 0 _ rfl, h t ht 1 _ rfl, h t ht 2 _ rfl, h t ht 3 _ rfl, h t ht 4 _ rfl, h t ht 5 _ rfl, h t ht 6 _ rfl, h t ht 7 _ rfl, h t ht 8 _ rfl, h t ht 9 _ rfl, h t ht 10 _ rfl, h t ht 11 _ rfl, h t ht 12 _ rfl⟩
theorem LbAt.all {w : World} {g : Nat} {l : Lbl} (h : LbAt w g l) : w.cell? ⟨g, 0, none⟩ = some (.int .u8 (el l.a0)) ∧ w.cell? ⟨g, 1, none⟩ = some (.int .u8 (el l.a1)) ∧ w.cell? ⟨g, 2, none⟩ = some (.int .u8 (el l.a2)) ∧ w.cell? ⟨g, 3, none⟩ = some (.int .u8 (el l.a3)) ∧ w.cell? ⟨g, 4, none⟩ = some (.int .u8 (el l.a4)) ∧ w.cell? ⟨g, 5, none⟩ = some (.int .u8 (el l.a5)) ∧ w.cell? ⟨g, 6, none⟩ = some (.int .u8 (el l.a6)) ∧ w.cell? ⟨g, 7, none⟩ = some (.int .u8 (el l.a7)) ∧ w.cell? ⟨g, 8, none⟩ = some (.int .i64 l.k) ∧ w.cell? ⟨g, 9, none⟩ = some (.int .i64 l.m) ∧ w.cell? ⟨g, 10, none⟩ = some (.int .i64 l.b) ∧ w.cell? ⟨g, 11, none⟩ = some (.int .i64 l.ix) ∧ w.cell? ⟨g, 12, none⟩ = some (.int .i64 l.ep) := by
  unfold LbAt at h
  have c := fun i => cell_of_row w g i _ _ (0, 0) h
  exact ⟨c 0, c 1, c 2, c 3, c 4, c 5, c 6, c 7, c 8, c 9, c 10, c 11, c 12⟩
theorem eql_lits (x l : Lbl) (w : World) : (binOp .eql 33 (.agg #[.int .u8 (el x.a0), .int .u8 (el x.a1), .int .u8 (el x.a2), .int .u8 (el x.a3), .int .u8 (el x.a4), .int .u8 (el x.a5), .int .u8 (el x.a6), .int .u8 (el x.a7), .int .i64 x.k, .int .i64 x.m, .int .i64 x.b, .int .i64 x.ix, .int .i64 x.ep]) (.agg #[.int .u8 (el l.a0), .int .u8 (el l.a1), .int .u8 (el l.a2), .int .u8 (el l.a3), .int .u8 (el l.a4), .int .u8 (el l.a5), .int .u8 (el l.a6), .int .u8 (el l.a7), .int .i64 l.k, .int .i64 l.m, .int .i64 l.b, .int .i64 l.ix, .int .i64 l.ep])).run Tryz.prog w = .ok (.bool (lq x l)) w := eql_lbl x l w
theorem below_drewNL {B : Nat} {a w : World} (h : Below B a w) (n : Nat) : Below B a (w.drewN n) := h.trans ⟨rfl, rfl, rfl, Nat.le_refl _, fun _ _ => rfl⟩
theorem meas_ltL {n t : Nat} (h : t < n) : n - (t + 1) < n - t := by omega
section
attribute [local irreducible] Calls el Lbl.cs cmo rg smL ar8
set_option maxHeartbeats 4000000 in
set_option maxRecDepth 1000000 in
/-- Nothing is read, and nothing may be. -/
theorem among_none {w : World} {wb db : Nat} {g : Gt} {P : DataW Unit} {σ : Ds} {G : Nat → Prop} (h : Wx w wb db g P σ G) (gk : Gok g) (fr : Fr g P) (hm : ∀ i, (σ.body i).data.length ≤ 140737488355328) (v : Value) (b : Bool) (e : σ.lread = (110, lb0)) :
    Calls Tryz.prog 15 #[.pointer (some ⟨wb, 0, none⟩), v, .bool b] w fun e w' => e = .returned (.bool b) ∧ Wkx w G wb db w' (ahd g P false).2 P σ := by
  have LR := (show Hid _ from lread_wx h gk fr hm)
  rw [e] at LR
  dsimp only at LR
  clear e h gk fr hm
  go_enter Tryz.func15, Tryz.ntmps15
  go_wp2_with (first
    | (go_at_call 22; refine LR.out.mono ?_; rintro e w1 ⟨rfl, S1⟩)
    | (refine wpList_alLb rfl rfl ?_; intro wA ZA hbA hsA; clear hsA)
    | (refine wpList_storeLb rfl _ _ rfl rfl w1.heap.size rfl rfl ZA ?_; intro wC ZC hTC; replace hbA := hTC.2.1 _ _ hbA (Nat.le_refl _)))
  go_ret
  exact ⟨rfl, S1.below hbA⟩
set_option maxHeartbeats 4000000 in
set_option maxRecDepth 1000000 in
/-- One of them is read. -/
theorem among_some {w : World} {wb db : Nat} {g : Gt} {P : DataW Unit} {σ : Ds} {G : Nat → Prop} (h : Wx w wb db g P σ G) (gk : Gok g) (fr : Fr g P) (hm : ∀ i, (σ.body i).data.length ≤ 140737488355328) (p : Option Addr) (cap : Nat) (L : List Lbl) (hr : RL w p L) (hp : ∀ a, p = some a → ¬ G a.block ∧ a.block < w.heap.size) (hL : L.length ≤ 1000000000) (b : Bool) (l : Lbl) (hl : l ∈ L) (e : σ.lread = (0, l)) :
    Calls Tryz.prog 15 #[.pointer (some ⟨wb, 0, none⟩), .slice p L.length cap, .bool b] w fun e w' => e = .returned (.bool true) ∧ Wkx w G wb db w' (ahd g P false).2 P σ := by
  have LR := (show Hid _ from lread_wx h gk fr hm)
  rw [e] at LR
  dsimp only at LR
  have HR := (show Hid (∀ (W : World), Tn G w W → RL W p L) from fun W ht => hr.same (fun a ea => ht.block a.block (hp a ea).2 (hp a ea).1))
  have HL := (show Hid (L.length ≤ 1000000000) from hL)
  have HM := (show Hid (l ∈ L) from hl)
  clear e h gk fr hm hr hp hL hl
  obtain ⟨n, hn⟩ : ∃ n, L.length = n := ⟨_, rfl⟩
  have HN := (show Hid (L.length = n) from hn)
  rw [hn]
  clear hn
  go_enter Tryz.func15, Tryz.ntmps15
  go_wp2_with (first
    | (go_at_call 22; refine LR.out.mono ?_; rintro e w1 ⟨rfl, S1⟩)
    | (refine wpList_alLb rfl rfl ?_; intro wA ZA hbA hsA; clear hsA)
    | (refine wpList_storeLb rfl _ _ rfl rfl w1.heap.size rfl rfl ZA ?_; intro wC ZC hTC; replace hbA := hTC.2.1 _ _ hbA (Nat.le_refl _)))
  obtain ⟨ga, hga⟩ : ∃ ga, w1.heap.size = ga := ⟨_, rfl⟩
  rw [hga] at ZC ⊢
  have HZ := (show Hid (LbAt wC ga l) from ZC)
  have HS := (show Hid (Wkx w G wb db wC (ahd g P false).2 P σ) from S1.below hbA)
  clear ZC ZA S1 hbA hTC hga
  go_loopw [9] (fun i wr => ∃ t : Nat, t ≤ n ∧ i = .int .i64 (t : Int) ∧ Hid (∀ j, j < t → L.getD j lb0 ≠ l) ∧ Hid (Below wC.heap.size wC wr)) (fun i _ => n - (intOf i).toNat)
  case atStart => exact ⟨0, Nat.zero_le _, rfl, fun j hj => absurd hj (Nat.not_lt_zero j), Below.refl _ _⟩
  case round =>
    obtain ⟨t, ht, rfl, hz, HB⟩ := hrel
    by_cases hlt : t < n
    · have hi : (t : Int) < (n : Int) := by omega
      have HT := (show Hid (t < n) from hlt)
      have WT := (show Hid (wrap64 ((t : Int) + 1) = ((t + 1 : Nat) : Int)) from by have := HL.out; have := HN.out; have := HT.out; show _ = _; unfold wrap64; omega)
      have HS2 := (show Hid (Wkx w G wb db wr (ahd g P false).2 P σ) from HS.out.below HB.out)
      obtain ⟨b, o, rfl, c0, c1, c2, c3, c4, c5, c6, c7, c8, c9, c10, c11, c12⟩ := (HR.out wr HS2.out.2).at_ (t := t) (by have := HN.out; have := HT.out; omega)
      obtain ⟨z0, z1, z2, z3, z4, z5, z6, z7, z8, z9, z10, z11, z12⟩ := (HZ.out.below HB.out).all
      have hE := eql_lits (L.getD t lb0) l
      obtain ⟨x, hx⟩ : ∃ x, L.getD t lb0 = x := ⟨_, rfl⟩
      rw [hx] at c0 c1 c2 c3 c4 c5 c6 c7 c8 c9 c10 c11 c12 hE
      have HX := (show Hid (L.getD t lb0 = x) from hx)
      clear hx hlt ht
      by_cases hq : x = l
      · rw [(lq_iff x l).2 hq] at hE
        clear hq
        go_wp2_with (fail)
        go_quiet (fail)
        go_wp2_with (fail)
        go_ret
        exact ⟨rfl, HS2.out.below (below_drewNL (Below.refl _ _) _)⟩
      · have hq' : lq x l = false := by
          cases h9 : lq x l with
          | true => exact absurd ((lq_iff x l).1 h9) hq
          | false => rfl
        rw [hq'] at hE
        have HQ := (show Hid (x ≠ l) from hq)
        clear hq hq'
        go_wp2_with (fail)
        go_quiet (fail)
        go_wp2_with (fail)
        go_roundw
        case rel => exact ⟨t + 1, HT.out, by rw [WT.out], fun j hj => by
          rcases Nat.lt_or_ge j t with h9 | h9
          · exact hz.out j h9
          · have e9 : j = t := by omega
            subst e9
            rw [HX.out]; exact HQ.out, below_drewNL HB.out _⟩
        case measure => rw [WT.out]; exact meas_ltL HT.out
    · exfalso
      obtain ⟨j, hj, e⟩ := List.getElem_of_mem HM.out
      have hj' : j < t := by have := HN.out; omega
      exact hz.out j hj' (by simp [hj, e])
end
end Go.Proofs.YtbdkdoeiajfkfaaGreat
/-
  A turn in memory; a wound, a turn and a list of labels beside one another.
-/
namespace Go.Proofs.YtbdkdoeiajfkfaaGreat
open Go.RowKit Go.Maps Go.Sort
theorem run_loadVar_at {P : Program} (w : World) (g o : Nat) (ty : TypeId) (cs : Array Value) (d : TypeDesc) (hc : ∀ j v, cs.toList[j]? = some v → w.cell? ⟨g, o + j, none⟩ = some v)
    (hu : P.underlying ty = some d) (hd : (match d with | .struct _ | .array _ _ => true | _ => false) = true) (hi : (P.info? ty).map (·.size) = some cs.size) :
    (loadVar ty ⟨g, o, none⟩).run P w = .ok (.agg cs) w := by
  have hl : (loadCells ⟨g, o, none⟩ cs.toList.length).run P w = .ok cs.toList.toArray w :=
    run_loadCells_list (P := P) w ⟨g, o, none⟩ cs.toList (fun j v hv => by
      rw [add_pl]
      exact hc j v hv)
  cases hq : P.info? ty with
  | none => simp [hq] at hi
  | some i =>
    have hs : i.size = cs.size := by simpa [hq] using hi
    have hagg : (isAgg ty).run P w = .ok true w := by
      unfold isAgg
      rw [Sem.run_bind, run_underlying hu w]
      cases d <;> simp_all
    simp only [Array.length_toList, Array.toArray_toList] at hl
    simp [loadVar, Sem.run_bind, hagg, sizeOf, typeInfo, hq, hs, hl]
/-- A turn. -/
structure Tu where
  l : Lbl
  pp : Option Addr
  np : Nat
  cp : Nat
  aw : Bool
  fu : Bool
  ca : Int
  ins : Int
  lo : Bool
  pd : Option Addr
  nd : Nat
  cd : Nat
  pc : Option Addr
  nc : Nat
  cc : Nat
def Tu.cs (x : Tu) : Array Value := #[.int .u8 (el x.l.a0), .int .u8 (el x.l.a1), .int .u8 (el x.l.a2), .int .u8 (el x.l.a3), .int .u8 (el x.l.a4), .int .u8 (el x.l.a5), .int .u8 (el x.l.a6), .int .u8 (el x.l.a7),
  .int .i64 x.l.k, .int .i64 x.l.m, .int .i64 x.l.b, .int .i64 x.l.ix, .int .i64 x.l.ep, .slice x.pp x.np x.cp, .bool x.aw, .bool x.fu, .int .i64 x.ca, .int .i64 x.ins, .bool x.lo, .slice x.pd x.nd x.cd, .slice x.pc x.nc x.cc]
def tu0 : Tu := ⟨lb0, none, 0, 0, false, false, 0, 0, false, none, 0, 0, none, 0, 0⟩
/-- A turn among others. -/
def TuAt (w : World) (b o : Nat) (x : Tu) : Prop := ∀ j u, x.cs.toList[j]? = some u → w.cell? ⟨b, o + j, none⟩ = some u
/-- A turn in a block of its own. -/
def XAt (w : World) (g : Nat) (x : Tu) : Prop := w.heap[g]? = some (.cells x.cs 40 (0, 0))
theorem XAt.lt {w : World} {g : Nat} {x : Tu} (H : XAt w g x) : g < w.heap.size := blt H
theorem XAt.below {w w' : World} {g : Nat} {x : Tu} (H : XAt w g x) (hb : Below w.heap.size w w') : XAt w' g x := (hb.block g H.lt).trans H
theorem XAt.tn {w w' : World} {g : Nat} {x : Tu} {G : Nat → Prop} (H : XAt w g x) (ht : Tn G w w') (hG : ¬ G g) : XAt w' g x := (ht.block g H.lt hG).trans H
theorem sizeTu : (Tryz.prog.info? 40).map (·.size) = some 21 := by kernel_rfl
theorem tcs_one (x : Tu) : (x.cs.all fun v => v.oneCell') = true := by simp [Tu.cs, Value.oneCell']
theorem zero_tu (w : World) : (zeroValue 40).run Tryz.prog w = .ok (.agg tu0.cs) w := by kernel_rfl
theorem XAt.label {w : World} {g : Nat} {x : Tu} (H : XAt w g x) : (loadVar 33 ⟨g, 0, none⟩).run Tryz.prog w = .ok (.agg x.l.cs) w := run_loadVar_at w g 0 33 x.l.cs _ (fun j u hj => by
  rw [Nat.zero_add, cell_of_row w g j _ _ (0, 0) H]
  have hl : j < 13 := (List.getElem?_eq_some_iff.1 hj).1
  rw [← hj]
  unfold Tu.cs Lbl.cs
  match j, hl with
  | 0, _ => rfl
  | 1, _ => rfl
  | 2, _ => rfl
  | 3, _ => rfl
  | 4, _ => rfl
  | 5, _ => rfl
  | 6, _ => rfl
  | 7, _ => rfl
  | 8, _ => rfl
  | 9, _ => rfl
  | 10, _ => rfl
  | 11, _ => rfl
  | 12, _ => rfl) Tryz.underlying33 rfl sizeLb
theorem TuAt.run {w : World} {b o : Nat} {x : Tu} (H : TuAt w b o x) : (loadVar 40 ⟨b, o, none⟩).run Tryz.prog w = .ok (.agg x.cs) w := run_loadVar_at w b o 40 x.cs _ H Tryz.underlying40 rfl sizeTu
/-- All but the label. -/
theorem XAt.cell {w : World} {g : Nat} {x : Tu} (H : XAt w g x) : w.cell? ⟨g, 13, none⟩ = some (.slice x.pp x.np x.cp) ∧ w.cell? ⟨g, 14, none⟩ = some (.bool x.aw) ∧ w.cell? ⟨g, 15, none⟩ = some (.bool x.fu) ∧ w.cell? ⟨g, 16, none⟩ = some (.int .i64 x.ca) ∧ w.cell? ⟨g, 17, none⟩ = some (.int .i64 x.ins) ∧ w.cell? ⟨g, 18, none⟩ = some (.bool x.lo) ∧ w.cell? ⟨g, 19, none⟩ = some (.slice x.pd x.nd x.cd) ∧ w.cell? ⟨g, 20, none⟩ = some (.slice x.pc x.nc x.cc) := by
  unfold XAt at H
  have c := fun i => cell_of_row w g i _ _ (0, 0) H
  exact ⟨c 13, c 14, c 15, c 16, c 17, c 18, c 19, c 20⟩
/-- A load of a struct, guarded or not. -/
theorem wpList_ldV {w : World} {ops : Array Oper} {rest : List Oper} {o : Oper} {a : Act} {Q : Exit → Act → World → Prop} (hw : Region.wanted o (yielded ops a.tmps) = true) (t : TypeId) (x : Operand) (ho : o.op = .load t x) (p : Addr) (cs : Array Value) (hx : a.eval x = .pointer (some p)) (hr : (loadVar t p).run Tryz.prog w = .ok (.agg cs) w)
    (k : wpList Tryz.prog ops Q rest (a.put o.dst (.agg cs)) w) : wpList Tryz.prog ops Q (o :: rest) a w := by
  refine wpList_step fun K hK => ?_
  rw [if_pos hw]
  unfold Oper.wp execOp
  simp only [ho, hx, Instr.loadAt, Instr.sureAddr, Sem.run_bind, Sem.run_pure, Result.andThen_ok, hr]
  exact hK _ _ k
theorem wpList_alTu {w : World} {ops : Array Oper} {rest : List Oper} {o : Oper} {a : Act} {Q : Exit → Act → World → Prop} (hgd : o.guard = none) (ho : o.op = .alloc 40)
    (h : ∀ w', XAt w' w.heap.size tu0 → Below w.heap.size w w' → w'.heap.size = w.heap.size + 1 → wpList Tryz.prog ops Q rest (a.put o.dst (.pointer (some ⟨w.heap.size, 0, none⟩))) w') : wpList Tryz.prog ops Q (o :: rest) a w := by
  refine wpList_plain hgd fun K hK => ?_
  have h2 := h (w.alloc (.cells tu0.cs 40)) (heap_alloc_new w _) ((Below.refl _ _).alloc (Nat.le_refl _) _) (by simp)
  unfold Oper.wp execOp
  simp only [ho, Sem.run_bind, Instr.alloc, newVar, newRow, zero_tu, run_newObj_alloc, Sem.run_pure, Result.andThen_ok, Value.cells]
  exact hK _ _ h2
theorem wpList_storeTu {w : World} {ops : Array Oper} {rest : List Oper} {o : Oper} {a : Act} {Q : Exit → Act → World → Prop} {x y : Tu} (hgd : o.guard = none) (p q : Operand) (ho : o.op = .store 40 p q) (hd : o.dst = none) (g : Nat) (hx : a.eval p = .pointer (some ⟨g, 0, none⟩)) (hy : a.eval q = .agg x.cs) (H : XAt w g y)
    (k : ∀ w', XAt w' g x → Turned g w w' → wpList Tryz.prog ops Q rest a w') : wpList Tryz.prog ops Q (o :: rest) a w := by
  refine wpList_store_rowTo hgd 40 p q ho hd g x.cs hx hy 40 y.cs H sizeTu rfl (tcs_one x) ?_
  refine k _ ?_ ⟨fun j hj => setRow_other w g j _ hj, fun B w0 hb hB => below_setRow hb hB _, by simp⟩
  unfold XAt at H ⊢
  exact setRow_heap w g _ _ _ _ H
/-- What a turn leads to may be read. -/
structure TuIn (w : World) (x : Tu) : Prop where
  li : x.l.In
  np : x.np ≤ 10000000000000
  pl : ∃ fs : List Ft, fs.length = x.np ∧ (0 < x.np → ∃ b o, x.pp = some ⟨b, o, none⟩ ∧ FtO w b o fs ∧ b < w.heap.size)
  dn : x.pd = none → x.nd = 0 ∧ x.cd = 0
  dl : x.nd ≤ 140737488351232
  di : ∃ dirs : List Bool, dirs.length = x.nd ∧ Bls w x.pd dirs
  cn : x.pc = none → x.nc = 0 ∧ x.cc = 0
  cl : x.nc ≤ 17592186043904
  cu : ∃ cuts : List Int, cuts.length = x.nc ∧ Ils w x.pc cuts
/-- A wound, a turn, a list of labels, all of the law's own. -/
def Stt (w0 : World) (wb db xb : Nat) (x : Tu) (vm : Value) (L : List Lbl) (w : World) (g : Gt) (P : DataW Unit) (σ : Ds) : Prop :=
  ∃ G, Wx w wb db g P σ G ∧ (∀ b, G b → w0.heap.size ≤ b) ∧ ¬ G xb ∧ XAt w xb x ∧ OL w w0.heap.size vm L ∧ (∀ b, vm.ownBlock = some b → ¬ G b) ∧ Below w0.heap.size w0 w
theorem Stt.below {w0 w w' : World} {wb db xb : Nat} {x : Tu} {vm : Value} {L : List Lbl} {g : Gt} {P : DataW Unit} {σ : Ds} (h : Stt w0 wb db xb x vm L w g P σ) (hb : Below w.heap.size w w') : Stt w0 wb db xb x vm L w' g P σ := by
  obtain ⟨G, h1, h2, h3, h4, h5, h6, h7⟩ := h
  exact ⟨G, h1.below hb, h2, h3, h4.below hb, h5.below hb, h6, h7.trans (hb.mono h7.size)⟩
theorem Stt.at_ {w0 w : World} {wb db xb : Nat} {x : Tu} {vm : Value} {L : List Lbl} {g : Gt} {P : DataW Unit} {σ : Ds} (h : Stt w0 wb db xb x vm L w g P σ) : XAt w xb x := by
  obtain ⟨G, h1, h2, h3, h4, _⟩ := h
  exact h4
theorem Stt.bel {w0 w : World} {wb db xb : Nat} {x : Tu} {vm : Value} {L : List Lbl} {g : Gt} {P : DataW Unit} {σ : Ds} (h : Stt w0 wb db xb x vm L w g P σ) : Below w0.heap.size w0 w := by
  obtain ⟨G, h1, h2, h3, h4, h5, h6, h7⟩ := h
  exact h7
theorem Stt.wnd {w0 w : World} {wb db xb : Nat} {x : Tu} {vm : Value} {L : List Lbl} {g : Gt} {P : DataW Unit} {σ : Ds} (h : Stt w0 wb db xb x vm L w g P σ) : w0.heap.size ≤ wb ∧ w.cell? ⟨wb, 0, none⟩ = some (.pointer (some ⟨db, 0, none⟩)) ∧ ∃ F, DrAt w db σ F := by
  obtain ⟨G, h1, h2, h3, h4, h5, h6, h7⟩ := h
  obtain ⟨pl, hW⟩ := h1.wat
  obtain ⟨F, hF, _⟩ := h1.dr
  exact ⟨h2 wb h1.1, hW.cell.1, F, hF⟩
theorem Stt.call {w0 w : World} {wb db xb : Nat} {x : Tu} {vm : Value} {L : List Lbl} {g g' : Gt} {P P' : DataW Unit} {σ σ' : Ds} {f : Nat} {args : Array Value} {Q : Ending → World → Prop} {W : World} (h0 : Stt w0 wb db xb x vm L W g P σ) (hbW : Below W.heap.size W w)
    (C : ∀ G, Wx w wb db g P σ G → (∀ b, G b → b < W.heap.size) → (∀ b, vm.ownBlock = some b → ¬ G b) → Calls Tryz.prog f args w fun e w' => Q e w' ∧ Wx w' wb db g' P' σ' (Fn G w w') ∧ Tn G w w') : Calls Tryz.prog f args w fun e w' => Q e w' ∧ Stt w0 wb db xb x vm L w' g' P' σ' := by
  obtain ⟨G, k1, h2, h3, k4, k5, h6, k7⟩ := h0
  have h1 := k1.below hbW
  have h4 := k4.below hbW
  have h5 := k5.below hbW
  have h7 := k7.trans (hbW.mono k7.size)
  refine (C G h1 k1.2.1 h6).mono ?_
  rintro e w' ⟨q1, q2, q3⟩
  have hs := q3.size
  refine ⟨q1, Fn G w w', q2, fun b hb => ?_, fun hb => ?_, h4.tn q3 h3, h5.same (fun b e => q3.block b (h5.lt b e).2 (h6 b e)), fun b e hb => ?_, tn_below h7 q3 h2⟩
  · rcases hb with hb | hb
    · exact h2 b hb
    · exact Nat.le_trans h7.size hb.1
  · rcases hb with hb | hb
    · exact h3 hb
    · have := h4.lt; omega
  · rcases hb with hb | hb
    · exact h6 b e hb
    · have := (h5.lt b e).2; omega
theorem lb_ol {w : World} {b base : Nat} {l : Lbl} (h : LbAt w b l) (hb : base ≤ b) : OL w base (.slice (some ⟨b, 0, none⟩) 1 1) [l] :=
  ⟨rfl, .inr ⟨b, 1, l.cs, rfl, hb, h, Nat.le_refl _, by unfold maxLen; omega, rfl, rfl⟩⟩
/-- The list is another one now. -/
theorem Stt.list1 {w0 w w' : World} {wb db xb : Nat} {x : Tu} {vm : Value} {L : List Lbl} {g : Gt} {P : DataW Unit} {σ : Ds} (h : Stt w0 wb db xb x vm L w g P σ) {l : Lbl} (hl : LbAt w' w.heap.size l) (hb : Below w.heap.size w w') : Stt w0 wb db xb x (.slice (some ⟨w.heap.size, 0, none⟩) 1 1) [l] w' g P σ := by
  obtain ⟨G, h1, h2, h3, h4, h5, h6, h7⟩ := h
  refine ⟨G, h1.below hb, h2, h3, h4.below hb, lb_ol hl h7.size, fun b e hG => ?_, h7.trans (hb.mono h7.size)⟩
  have e' : w.heap.size = b := by simpa [Value.ownBlock] using e
  have := h1.2.1 b hG
  omega
theorem Stt.grow {w0 w w' : World} {wb db xb : Nat} {x : Tu} {vm v' : Value} {L M : List Lbl} {g : Gt} {P : DataW Unit} {σ : Ds} (h : Stt w0 wb db xb x vm L w g P σ) (ho : OL w' w0.heap.size v' M) (hg : w.grownBy w' vm.ownBlock) (hv : v'.ownBlock = vm.ownBlock ∨ v'.ownBlock = some w.heap.size) : Stt w0 wb db xb x v' M w' g P σ := by
  obtain ⟨G, h1, h2, h3, h4, h5, h6, h7⟩ := h
  have hk : ∀ b, b < w.heap.size → vm.ownBlock ≠ some b → w'.heap[b]? = w.heap[b]? := fun b hb hn => hg.block b hb (fun e => hn e.symm)
  have hx : vm.ownBlock ≠ some xb := fun e => by
    rcases h5.2 with ⟨hv, _⟩ | ⟨g1, cap, c, hv, _, hh, _⟩
    · rw [hv] at e; cases e
    · rw [hv] at e
      have e' : g1 = xb := by simpa [Value.ownBlock] using e
      subst e'
      have h9 : w.heap[g1]? = _ := h4
      rw [hh] at h9
      injection h9 with h9
      injection h9 with _ h9 _
      revert h9
      decide
  refine ⟨G, h1.same hg.size (fun b hb => hk b (h1.2.1 b hb) (fun e => h6 b e hb)), h2, h3, (hk xb h4.lt hx).trans h4, ho, fun b e hG => ?_, h7.grown hg h7.size (fun k e => (h5.lt k e).1)⟩
  rcases hv with hv | hv
  · exact h6 b (hv ▸ e) hG
  · rw [hv] at e
    injection e with e
    have := h1.2.1 b hG
    omega
end Go.Proofs.YtbdkdoeiajfkfaaGreat
/-
  The law's calls, each with what it leaves.
-/
namespace Go.Proofs.YtbdkdoeiajfkfaaGreat
open Go.RowKit Go.Maps Go.Sort
theorem fto_up {w w' : World} {b o : Nat} {fs : List Ft} (h : FtO w b o fs) (hB : Below w.heap.size w w') : FtO w' b o fs := fun j hj => ⟨cell_belowD (h j hj).1 hB, cell_belowD (h j hj).2 hB⟩
section
attribute [local irreducible] Calls
theorem s_arm {w0 : World} {wb db xb : Nat} {x : Tu} (ti : TuIn w0 x) (hwb : w0.heap.size ≤ wb) : ∃ P1, (x.np = 0 → P1 = .map []) ∧ ∀ (vm : Value) (L : List Lbl) (w : World) (g : Gt) (P : DataW Unit) (σ : Ds), Stt w0 wb db xb x vm L w g P σ → Calls Tryz.prog 7 #[.pointer (some ⟨wb, 0, none⟩), .slice x.pp x.np x.cp] w fun e w' => (∃ v, e = .returned v) ∧ Stt w0 wb db xb x vm L w' { g with calls := 0 } P1 σ := by
  obtain ⟨fs, hfs, hI⟩ := ti.pl
  refine ⟨plD (dnto fs x.np), fun h0 => by rw [h0]; rfl, fun vm L w g P σ h => ?_⟩
  have hB := h.bel
  refine h.call (Below.refl _ _) (fun _ hW _ _ => hW.arm x.pp x.np x.cp fs hfs ti.np (fun h0 => ?_))
  obtain ⟨b, o, e, h1, h2⟩ := hI h0
  exact ⟨b, o, e, fto_up h1 hB, Nat.lt_of_lt_of_le h2 hB.size, fun e9 => by omega⟩
theorem s_arm0 {w0 w : World} {wb db xb : Nat} {x : Tu} {vm : Value} {L : List Lbl} {g : Gt} {P : DataW Unit} {σ : Ds} (h : Stt w0 wb db xb x vm L w g P σ) : Calls Tryz.prog 7 #[.pointer (some ⟨wb, 0, none⟩), .slice none 0 0] w fun e w' => (∃ v, e = .returned v) ∧ Stt w0 wb db xb x vm L w' { g with calls := 0 } (.map []) σ :=
  h.call (Below.refl _ _) (fun _ hW _ _ => hW.arm none 0 0 [] rfl (by omega) (fun h0 => absurd h0 (Nat.lt_irrefl _)))
theorem s_off {w0 w : World} {wb db xb : Nat} {x : Tu} {vm : Value} {L : List Lbl} {g : Gt} {P : DataW Unit} {σ : Ds} (h : Stt w0 wb db xb x vm L w g P σ) (u : Bool) : Calls Tryz.prog 8 #[.pointer (some ⟨wb, 0, none⟩), .bool u] w fun e w' => (∃ v, e = .returned v) ∧ Stt w0 wb db xb x vm L w' { g with offl := u } P σ :=
  h.call (Below.refl _ _) (fun _ hW _ _ => hW.set (fun _ h9 => offline_any h9 u))
theorem s_power {w0 w : World} {wb db xb : Nat} {x : Tu} {vm : Value} {L : List Lbl} {g : Gt} {P : DataW Unit} {σ : Ds} (h : Stt w0 wb db xb x vm L w g P σ) (u : Bool) : Calls Tryz.prog 16 #[.pointer (some ⟨wb, 0, none⟩), .bool u] w fun e w' => (∃ v, e = .returned v) ∧ Stt w0 wb db xb x vm L w' { g with off := !u } P σ :=
  h.call (Below.refl _ _) (fun _ hW _ _ => hW.set (fun _ h9 => power_any h9 u))
theorem s_fuse {w0 w : World} {wb db xb : Nat} {x : Tu} {vm : Value} {L : List Lbl} {g : Gt} {P : DataW Unit} {σ : Ds} (h : Stt w0 wb db xb x vm L w g P σ) (r c i : Int) : Calls Tryz.prog 9 #[.pointer (some ⟨wb, 0, none⟩), .int .i64 r, .int .i64 c, .int .i64 i] w fun e w' => (∃ v, e = .returned v) ∧ Stt w0 wb db xb x vm L w' { g with th := decide (r ≥ 0), ro := r, ca := c, ins := i } P σ :=
  h.call (Below.refl _ _) (fun _ hW _ _ => hW.set (fun _ h9 => fuse_any h9 r c i))
theorem s_rest {w0 w : World} {wb db xb : Nat} {x : Tu} {vm : Value} {L : List Lbl} {g : Gt} {P : DataW Unit} {σ : Ds} (h : Stt w0 wb db xb x vm L w g P σ) (u : Bool) (hr : g.th = true → 0 ≤ g.ro ∧ g.ro ≤ 9223372036854775807) : Calls Tryz.prog 13 #[.pointer (some ⟨wb, 0, none⟩), .bool u] w fun e w' => (∃ v, e = .returned v) ∧ Stt w0 wb db xb x vm L w' (rst g u) P σ :=
  h.call (Below.refl _ _) (fun _ hW _ _ => hW.set (fun _ h9 => rest_any h9 u hr))
theorem s_calls {w0 w : World} {wb db xb : Nat} {x : Tu} {vm : Value} {L : List Lbl} {g : Gt} {P : DataW Unit} {σ : Ds} (h : Stt w0 wb db xb x vm L w g P σ) : Calls Tryz.prog 11 #[.pointer (some ⟨wb, 0, none⟩)] w fun e w' => e = .returned (.int .i64 g.calls) ∧ Stt w0 wb db xb x vm L w' g P σ :=
  h.call (Below.refl _ _) (fun _ hW _ _ => hW.ask (fun _ h9 => calls_any h9))
theorem s_struck {w0 w : World} {wb db xb : Nat} {x : Tu} {vm : Value} {L : List Lbl} {g : Gt} {P : DataW Unit} {σ : Ds} (h : Stt w0 wb db xb x vm L w g P σ) : Calls Tryz.prog 12 #[.pointer (some ⟨wb, 0, none⟩)] w fun e w' => e = .returned (.bool (g.th && decide (g.ro = 0))) ∧ Stt w0 wb db xb x vm L w' g P σ :=
  h.call (Below.refl _ _) (fun _ hW _ _ => hW.ask (fun _ h9 => struck_any h9))
theorem s_write {w0 w : World} {wb db xb k : Nat} {x : Tu} {vm : Value} {L : List Lbl} {g : Gt} {P : DataW Unit} {σ : Ds} (h : Stt w0 wb db xb x vm L w g P σ) (gk : ∀ g', Gs 5 g g' → Gok g') (ok : Okk k σ) (hk : k ≤ 134216000) (l : Lbl) (hi : l.In) : Calls Tryz.prog 10 #[.iface 23 (.pointer (some ⟨wb, 0, none⟩)), .agg l.cs] w fun e w' => e = .returned (.int .i64 (lkw g P σ l).1) ∧ Stt w0 wb db xb x vm L w' (lkw g P σ l).2.1 P (lkw g P σ l).2.2 :=
  h.call (Below.refl _ _) (fun _ hW _ _ => lwrite_wx hW gk ok hk l hi)
theorem s_crash {w0 W w : World} {wb db xb k : Nat} {x : Tu} {vm : Value} {L : List Lbl} {g : Gt} {P : DataW Unit} {σ : Ds} (h : Stt w0 wb db xb x vm L W g P σ) (hb : Below W.heap.size W w) (ok : Okk k σ) (hk : k ≤ 134217728) (pd : Option Addr) (nd cd : Nat) (dirs : List Bool) (hdl : dirs.length = nd) (hd : Bls w pd dirs) (pc : Option Addr) (nc cc : Nat) (cuts : List Int) (hcl : cuts.length = nc) (hc : Ils w pc cuts) (hnd : nd ≤ 140737488355328) (hnc : nc ≤ 140737488355328) (hcF : ∀ b o, pc = some ⟨b, o, none⟩ → W.heap.size ≤ b) : Calls Tryz.prog 17 #[.pointer (some ⟨db, 0, none⟩), .agg #[.slice pd nd cd, .slice pc nc cc]] w fun e w' => e = .returned (.int .i64 0) ∧ Stt w0 wb db xb x vm L w' g P (σ.crash dirs cuts) :=
  h.call hb (fun _ hW hG _ => hW.drive (fun _ h9 hF => crash_any h9 ok hk pd nd cd dirs hdl hd pc nc cc cuts hcl hc hnd hnc (fun b o e hb' => by have := hcF b o e; have := hG b (hF b hb'); omega)))
theorem s_among {w0 W w : World} {wb db xb : Nat} {x : Tu} {vm : Value} {L : List Lbl} {g : Gt} {P : DataW Unit} {σ : Ds} (h : Stt w0 wb db xb x vm L W g P σ) (hb : Below W.heap.size W w) (gk : Gok g) (fr : Fr g P) (hm : ∀ i, (σ.body i).data.length ≤ 31) (p : Option Addr) (cap : Nat) (M : List Lbl) (hr : RL w p M) (hp : ∀ a, p = some a → (vm.ownBlock = some a.block ∨ W.heap.size ≤ a.block) ∧ a.block < w.heap.size) (hL : M.length ≤ 1000000000) (nb : Bool) (la : La [108] (nb = true) (Qm M) σ) : Calls Tryz.prog 15 #[.pointer (some ⟨wb, 0, none⟩), .slice p M.length cap, .bool nb] w fun e w' => e = .returned (.bool true) ∧ Stt w0 wb db xb x vm L w' (ahd g P false).2 P σ :=
  h.call hb (fun _ hW hG hv => by
    have hm' : ∀ i, (σ.body i).data.length ≤ 140737488355328 := fun i => by have := hm i; omega
    rcases la.read with ⟨e, n⟩ | ⟨l, hl, e⟩
    · have h9 := among_none hW gk fr hm' (.slice p M.length cap) nb e
      rw [n] at h9 ⊢
      exact h9
    · exact among_some hW gk fr hm' p cap M hr (fun a ea => ⟨fun hGa => by
        rcases (hp a ea).1 with h9 | h9
        · exact hv _ h9 hGa
        · have := hG _ hGa; omega, (hp a ea).2⟩) hL nb l hl e)
end
/-- The gate ahead of the writing. -/
def gA (g : Gt) (x : Tu) : Gt := ⟨g.off, x.aw, 0, g.rc, x.fu, if x.fu = true then 0 else -1, if x.fu = true then x.ca else 0, if x.fu = true then x.ins else 0⟩
/-- A gate that is open, the power gone or not. -/
structure Gop (u : Bool) (n : Int) (g : Gt) (P : DataW Unit) : Prop where
  of : g.off = u
  ol : g.offl = false
  th : g.th = false
  pl : P = .map []
  c0 : 0 ≤ g.calls
  c1 : g.calls ≤ n
  r0 : 0 ≤ g.rc
  r1 : g.rc ≤ n
theorem Gop.fr {n : Int} {g : Gt} {P : DataW Unit} (h : Gop false n g P) : Fr g P := ⟨h.of, h.ol, h.th, h.pl⟩
theorem Gop.gok {u : Bool} {n : Int} {g : Gt} {P : DataW Unit} (h : Gop u n g P) (hn : n ≤ 100) : Gok g := ⟨h.c0, by have := h.c1; omega, h.r0, by have := h.r1; omega⟩
theorem Gop.ahd {n : Int} {g : Gt} {P : DataW Unit} (h : Gop false n g P) : Gop false (n + 1) (ahd g P false).2 P := by
  have f := (h.fr.ahd false).2
  have s := ahd_gs g P false
  have := h.c0
  have := h.c1
  have := h.r0
  have := h.r1
  have := s.c0
  have := s.c1
  have := s.r0
  have := s.r1
  exact ⟨f.of, f.ol, f.th, f.pl, by omega, by omega, by omega, by omega⟩
theorem Gop.power {u : Bool} {n : Int} {g : Gt} {P : DataW Unit} (h : Gop u n g P) (v : Bool) : Gop (!v) n { g with off := !v } P := ⟨rfl, h.ol, h.th, h.pl, h.c0, h.c1, h.r0, h.r1⟩
theorem Gop.mono {u : Bool} {n m : Int} {g : Gt} {P : DataW Unit} (h : Gop u n g P) (hm : n ≤ m) : Gop u m g P := ⟨h.of, h.ol, h.th, h.pl, h.c0, by have := h.c1; omega, h.r0, by have := h.r1; omega⟩
theorem gA_gok {g : Gt} {P : DataW Unit} {x : Tu} (h : Gop false 3 g P) : ∀ g', Gs 5 (gA g x) g' → Gok g' := fun g' s => by
  have := h.r0
  have := h.r1
  exact s.gok (Int.le_refl 0) (by show (0 : Int) ≤ 1000; omega) h.r0 (by show g.rc ≤ 1000; omega) (by omega)
theorem struck_gA {g g5 : Gt} {x : Tu} (s : Gs 5 (gA g x) g5) : (g5.th && decide (g5.ro = 0)) = x.fu := by
  rw [s.th, s.ro]
  show (x.fu && decide ((if x.fu = true then (0 : Int) else -1) = 0)) = x.fu
  cases x.fu <;> rfl
theorem rest_gA {g g5 : Gt} {x : Tu} (s : Gs 5 (gA g x) g5) : g5.th = true → 0 ≤ g5.ro ∧ g5.ro ≤ 9223372036854775807 := fun h => by
  rw [s.th] at h
  have h' : x.fu = true := h
  rw [s.ro]
  show 0 ≤ (if x.fu = true then (0 : Int) else -1) ∧ _
  rw [if_pos h']
  show (0 : Int) ≤ 0 ∧ (if x.fu = true then (0 : Int) else -1) ≤ _
  rw [if_pos h']
  omega
/-- The gate behind the round's end. -/
theorem open_gA {g g5 : Gt} {P : DataW Unit} {x : Tu} (h : Gop false 3 g P) (s : Gs 5 (gA g x) g5) : Gop x.fu 0 { { rst g5 x.fu with offl := false } with calls := 0 } (.map []) := by
  have hth : g5.th = x.fu := s.th
  have hro : g5.ro = (if x.fu = true then (0 : Int) else -1) := s.ro
  have hof := s.on
  unfold rst
  cases e : x.fu with
  | true =>
    rw [e] at hth hro
    rw [if_pos ⟨hth, hro⟩]
    exact ⟨by simp, rfl, rfl, rfl, Int.le_refl _, Int.le_refl _, Int.le_refl _, Int.le_refl _⟩
  | false =>
    rw [e] at hth hro
    rw [if_neg (fun h => by rw [hth] at h; exact absurd h.1 (by decide)), if_neg (by rw [hth]; decide)]
    refine ⟨?_, rfl, rfl, rfl, Int.le_refl _, Int.le_refl _, Int.le_refl _, Int.le_refl _⟩
    rcases hof with hof | ⟨h1, _⟩
    · have h9 : g5.off = g.off := hof
      show (g5.off || false) = false
      rw [h9, h.of]; rfl
    · have h1' : x.fu = true := h1
      rw [e] at h1'; cases h1'
/-- What comes of a turn's writing. -/
theorem lkw_gs (g : Gt) (P : DataW Unit) (σ : Ds) (l : Lbl) : Gs 5 g (lkw g P σ l).2.1 := by
  unfold lkw
  split
  · exact kwrite_gs g P σ _ _
  · exact (Gs.refl g).mono (by omega)
theorem lkw_ok {k : Nat} {g : Gt} {P : DataW Unit} {σ : Ds} {l : Lbl} (h : Okk k σ) (hk : k ≤ 134210000) : Okk (k + 41) (lkw g P σ l).2.2 := by
  unfold lkw
  split
  · exact (kwrite_ok h (by rw [us_len, l.fm_len]; omega)).mono (by rw [us_len, l.fm_len]; omega)
  · exact h.mono (by omega)
theorem lkw_no {g : Gt} {P : DataW Unit} {σ : Ds} {l : Lbl} (h : l.ck ≠ 0) : lkw g P σ l = (l.ck, (g, σ)) := by unfold lkw; rw [if_neg h]
theorem lkw_yes {n : Prop} {L : List Lbl} {u : Nat} {g : Gt} {P : DataW Unit} {σ : Ds} {l : Lbl} (h : l.ck = 0) (hk : KpD n L u σ) (hw : Wfd σ) : ((lkw g P σ l).1 = 0 ∧ KpD False [l] (u + 62) (lkw g P σ l).2.2) ∨ ((lkw g P σ l).1 ≠ 0 ∧ KpD n (L ++ [l]) (u + 62) (lkw g P σ l).2.2) := by
  have ok := (ck_ok l).1 h
  unfold lkw
  rw [if_pos h]
  rcases kwrite_or g P hw [108] (us l.fm) rfl with ⟨h1, h2⟩ | ⟨h1, h2⟩
  · exact .inl ⟨h1, hk.good hw l ok h2⟩
  · exact .inr ⟨h1, hk.bad hw l ok h2⟩
theorem lkw_free {n : Prop} {L : List Lbl} {u : Nat} {g : Gt} {P : DataW Unit} {σ : Ds} {l : Lbl} (h : l.ck = 0) (hk : KpD n L u σ) (hw : Wfd σ) (ht : Td σ.st) (hu : u ≤ 1000000) (f : Fr g P) : (lkw g P σ l).1 = 0 := by
  unfold lkw
  rw [if_pos h]
  refine kwrite_free f hw [108] _ rfl (by have := hk.sm.size ht; omega) ?_
  have := hk.sm.ub
  rw [us_len, l.fm_len, hk.sm.rm]
  omega
end Go.Proofs.YtbdkdoeiajfkfaaGreat
