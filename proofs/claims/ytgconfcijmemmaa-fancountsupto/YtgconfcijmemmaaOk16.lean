/-
  Rows of the law's own, of elements of any number of cells; what is lent, with a mark behind it; asked.
-/
import Derived.Test.YtgconfcijmemmaaRc16
import Derived.Test.YtgconfcijmemmaaGb20
import Derived.Laws.AppendOwn
import Derived.Laws.Rows
import Derived.WalkLawsBesides
import Derived.Outline
import Derived.Deep.RegionWith
import Derived.Deep.Cut
namespace Go.Proofs.Ytgconfcijmemmaa
open Go.RowKit
theorem info_parts {P : Program} {t : TypeId} {z : Option Value} {k by' : Nat} (h : (P.info? t).map (fun i => (i.zero, i.size, i.bytes)) = some (z, k, by')) : ∃ i, P.info? t = some i ∧ i.zero = z ∧ i.size = k ∧ i.bytes = by' := by
  obtain ⟨i, h1, h2⟩ := Option.map_eq_some_iff.1 h
  injection h2 with h2 h3
  injection h3 with h3 h4
  exact ⟨i, h1, h2, h3, h4⟩
theorem run_append_nix {P : Program} {w : World} (t ty e : TypeId) (i : TypeInfo) (ht : P.underlying t = some (.slice e)) (hi : P.info? e = some i) (p : Option Addr) (n cap c : Nat) (h : n ≤ cap) :
    (Builtin.append_ #[t, t] ty #[.slice p n cap, .slice none 0 c]).run P w = .ok (.slice p n cap) w := by
  cases p <;> simp [Builtin.append_, run_underlying ht, sizeOf, typeInfo, hi, Builtin.lenOf, Builtin.firstCells, h, storeCells]
theorem own_form {w : World} {base : Nat} {te : TypeId} {sz : Nat} {v : Value} {n : Nat} {xs : List Value} (h : w.ownsRow base te sz v n xs) : ∃ p cap, v = .slice p n cap ∧ n ≤ cap := by
  rcases h.2 with ⟨hv, h1⟩ | ⟨g, cap, cur, hv, _, _, hn, _⟩
  · exact ⟨none, 0, by rw [hv, h1], by omega⟩
  · exact ⟨_, cap, hv, hn⟩
theorem own_some {w : World} {base : Nat} {te : TypeId} {sz : Nat} {v : Value} {n : Nat} {xs : List Value} (h : w.ownsRow base te sz v n xs) (h0 : 0 < n) : ∃ g cap, v = .slice (some ⟨g, 0, none⟩) n cap ∧ n ≤ cap ∧ base ≤ g := by
  rcases h.2 with ⟨hv, h1⟩ | ⟨g, cap, cur, hv, hb, _, hn, _⟩
  · omega
  · exact ⟨g, cap, hv, hn, hb⟩
theorem own_below {w w' : World} {base n k : Nat} {t : TypeId} {v : Value} {xs : List Value} (h : w.ownsRow base t k v n xs) (hb : Below w.heap.size w w') : w'.ownsRow base t k v n xs := by
  refine ⟨h.1, ?_⟩
  rcases h.2 with h1 | ⟨g, cap, c, hv, hg, hh, hc⟩
  · exact .inl h1
  · refine .inr ⟨g, cap, c, hv, hg, ?_, hc⟩
    rw [hb.block g (Array.getElem?_eq_some_iff.1 hh).1]; exact hh
theorem own_type {t t' : TypeId} {k k' : Nat} {w w' : World} {B B' n n' : Nat} {u v : Value} {xs ys : List Value} (h : w.ownsRow B t k u n xs) (hv : w.ownsRow B' t' k' v n' ys) (hne : t ≠ t') (hg : w.grownBy w' v.ownBlock) : w'.ownsRow B t k u n xs := by
  refine World.ownsRow.kept h hg ?_
  cases hb : u.ownBlock with
  | none => exact .inl rfl
  | some g =>
    refine .inr (fun e => ?_)
    rcases h.2 with ⟨h1, _⟩ | ⟨g1, c1, cur1, h1, _, hh1, _⟩
    · rw [h1] at hb; cases hb
    · rcases hv.2 with ⟨h2, _⟩ | ⟨g2, c2, cur2, h2, _, hh2, _⟩
      · rw [h2] at e; cases e
      · rw [h1] at hb
        rw [h2] at e
        simp [Value.ownBlock] at hb e
        subst hb
        subst e
        rw [hh1] at hh2
        injection hh2 with hh2
        injection hh2 with _ hh2 _
        exact hne hh2
theorem own_grown {t : TypeId} {k : Nat} {w w' : World} {base n : Nat} {v : Value} {xs : List Value} {B : Nat} {a : World} (ho : w.ownsRow base t k v n xs) (hb : Below B a w) (hB : B ≤ w.heap.size) (hg : w.grownBy w' v.ownBlock) (hbase : B ≤ base) : Below B a w' :=
  hb.grown hg hB (fun k hk => Nat.le_trans hbase (ho.lt k hk).1)
theorem own_mono {t : TypeId} {k : Nat} {w : World} {base base' n : Nat} {v : Value} {xs : List Value} (h : w.ownsRow base t k v n xs) (hb : base' ≤ base) : w.ownsRow base' t k v n xs := by
  refine ⟨h.1, ?_⟩
  rcases h.2 with h1 | ⟨g, cap, c, hv, hg, hh, hc⟩
  · exact .inl h1
  · exact .inr ⟨g, cap, c, hv, Nat.le_trans hb hg, hh, hc⟩
/-- A slice whose cells read so. -/
def Rw (w : World) (p : Option Addr) (m : Nat) (ys : List Value) : Prop := (ys = [] ∧ m = 0) ∨ ∃ b o, p = some ⟨b, o, none⟩ ∧ ∀ j, j < ys.length → w.cell? ⟨b, o + j, none⟩ = ys[j]?
/-- append(v, x..) where v is a row of its own, x any row. -/
theorem wpList_apR {w : World} {ops : Array Oper} {rest : List Oper} {o : Oper} {a : Act} {Q : Exit → Act → World → Prop} (hgd : o.guard = none) (s x : Operand) (t te : TypeId) (ho : o.op = .call { callee := .builtin .append, args := #[s, x], argTypes := #[t, t] })
    (ht : Try.prog.underlying t = some (.slice te)) {z : Value} {k by' : Nat} (hi : (Try.prog.info? te).map (fun i => (i.zero, i.size, i.bytes)) = some (some z, k, by')) (hz : z.cells.size = k) (hk : 0 < k)
    (base : Nat) (v : Value) (n : Nat) (xs : List Value) (hs : a.eval s = v) (hown : w.ownsRow base te k v n xs) (p : Option Addr) (m c : Nat) (ys : List Value) (hx : a.eval x = .slice p m c) (hr : Rw w p m ys) (hm : ys.length = m * k) (h1 : ∀ u ∈ ys, u.oneCell' = true)
    (hl : n + m ≤ 1000000000000) (hb : by' ≤ 64) (hbase : base ≤ w.heap.size)
    (h : ∀ v' w', w'.ownsRow base te k v' (n + m) (xs ++ ys) → w.grownBy w' v.ownBlock → wpList Try.prog ops Q rest (a.put o.dst v') w') : wpList Try.prog ops Q (o :: rest) a w := by
  obtain ⟨i0, hi0, hz0, hz1, hz2⟩ := info_parts hi
  have hby : (n + m) * by' ≤ 140737488355328 := by
    have := Nat.mul_le_mul hl hb
    omega
  cases p with
  | some ad =>
    rcases hr with ⟨hr, hr2⟩ | ⟨b, of, e, hr⟩
    · subst hr
      subst hr2
      refine wpList_append_own _ hgd s x t ho base te i0 z k by' ht hi0 hz0 hz1 hz2 hz hk v n xs hs hown ad 0 c [] hx (by rw [hm]) (fun j u hj => by simp at hj) h1 (by unfold maxLen; omega) hby hbase ?_
      intro v' w' h2 h3 _
      exact h v' w' h2 h3
    · injection e with e
      subst e
      refine wpList_append_own _ hgd s x t ho base te i0 z k by' ht hi0 hz0 hz1 hz2 hz hk v n xs hs hown ⟨b, of, none⟩ m c ys hx hm (fun j u hj => ?_) h1 (by unfold maxLen; omega) hby hbase ?_
      · have hl : j < ys.length := (List.getElem?_eq_some_iff.1 hj).1
        rw [add_pl, hr j hl, ← hj]
      · intro v' w' h2 h3 _
        exact h v' w' h2 h3
  | none =>
    obtain ⟨rfl, rfl⟩ : ys = [] ∧ m = 0 := by
      rcases hr with e | ⟨b, off, e, _⟩
      · exact e
      · cases e
    obtain ⟨q, cap, rfl, hcap⟩ := own_form hown
    refine wpList_plain hgd fun K hK => ?_
    have hrun := run_append_nix (P := Try.prog) (w := w) t o.type te i0 ht hi0 q n cap c hcap
    unfold Oper.wp
    simp [execOp, ho, resolve, invoke, builtin, hs, hx, hrun, Result.andThen]
    exact hK _ _ (h _ w (by rw [List.append_nil]; exact hown) ⟨rfl, rfl, rfl, Nat.le_refl _, fun _ _ _ => rfl⟩)
theorem infoI : (Try.prog.info? 3).map (fun i => (i.zero, i.size, i.bytes)) = some (some (.int .i64 0), 1, 8) := by kernel_rfl
/-- An own list of numbers. -/
def Oz (w : World) (base : Nat) (v : Value) (zs : List Int) : Prop := w.ownsRow base 3 1 v zs.length (zs.map (Value.int .i64))
theorem Oz.below {w w' : World} {base : Nat} {v : Value} {zs : List Int} (h : Oz w base v zs) (hb : Below w.heap.size w w') : Oz w' base v zs := own_below h hb
theorem Oz.mono {w : World} {base base' : Nat} {v : Value} {zs : List Int} (h : Oz w base v zs) (hb : base' ≤ base) : Oz w base' v zs := own_mono h hb
theorem oz_at {w : World} {B g m cap : Nat} {zs : List Int} (h : Oz w B (.slice (some ⟨g, 0, none⟩) m cap) zs) {i : Nat} (hi : i < zs.length) : w.cell? ⟨g, i, none⟩ = some (.int .i64 (zs.getD i 0)) := by
  unfold Oz at h
  have := h.cells (g := g) rfl i (.int .i64 (zs.getD i 0)) (by simp [List.getD, hi])
  rw [add_pl, Nat.zero_add] at this
  exact this
theorem oz_ir {w : World} {B : Nat} {v : Value} {zs : List Int} (h : Oz w B v zs) : ∃ p cap, v = .slice p zs.length cap ∧ zs.length ≤ cap ∧ IrAt w p zs := by
  rcases h.2 with ⟨hv, h1⟩ | ⟨g, cap, cur, hv, hb, _, hn, _⟩
  · have : zs = [] := List.length_eq_zero_iff.1 h1
    subst this
    exact ⟨none, 0, hv, Nat.le_refl _, .inl rfl⟩
  · refine ⟨_, cap, hv, hn, .inr ⟨g, 0, rfl, fun i hi => ?_⟩⟩
    rw [hv] at h
    rw [Nat.zero_add]
    exact oz_at h hi
theorem ir_rw {w : World} {p : Option Addr} {zs : List Int} (h : IrAt w p zs) : Rw w p zs.length (zs.map (Value.int .i64)) := by
  rcases h with rfl | ⟨b, o, e, hc⟩
  · exact .inl ⟨rfl, rfl⟩
  · refine .inr ⟨b, o, e, fun j hj => ?_⟩
    have hj' : j < zs.length := by simpa using hj
    rw [hc j hj']
    simp [ivl, List.getD, hj']
theorem one_i (zs : List Int) : ∀ u ∈ zs.map (Value.int .i64), u.oneCell' = true := by
  intro u hu; obtain ⟨z, _, rfl⟩ := List.mem_map.1 hu; rfl
/-- append(v, x..) of numbers. -/
theorem wpList_apZ {w : World} {ops : Array Oper} {rest : List Oper} {o : Oper} {a : Act} {Q : Exit → Act → World → Prop} (hgd : o.guard = none) (s x : Operand) (ho : o.op = .call { callee := .builtin .append, args := #[s, x], argTypes := #[22, 22] })
    (base : Nat) (v : Value) (xs : List Int) (hs : a.eval s = v) (hown : Oz w base v xs) (ad : Option Addr) (n c : Nat) (ys : List Int) (hx : a.eval x = .slice ad n c) (hr : IrAt w ad ys) (hn : ys.length = n) (hm : xs.length + n ≤ 1000000000000) (hbase : base ≤ w.heap.size)
    (h : ∀ v' w', Oz w' base v' (xs ++ ys) → w.grownBy w' v.ownBlock → wpList Try.prog ops Q rest (a.put o.dst v') w') : wpList Try.prog ops Q (o :: rest) a w := by
  subst hn
  refine wpList_apR hgd s x 22 3 ho Try.underlying22 infoI rfl (by decide) base v xs.length _ hs hown ad ys.length c _ hx (ir_rw hr) (by simp) (one_i ys) hm (by decide) hbase ?_
  intro v' w' h2 h3
  refine h v' w' ?_ h3
  unfold Oz
  simpa using h2
/-- What is lent: numbers, with a mark behind them. -/
structure Ln (w : World) (B g cap : Nat) (zs : List Int) : Prop where
  own : Oz w B (.slice (some ⟨g, 0, none⟩) (zs.length + 1) cap) (zs ++ [77])
theorem Ln.cap {w : World} {B g cap : Nat} {zs : List Int} (h : Ln w B g cap zs) : zs.length + 1 ≤ cap := by
  have := own_form h.own
  obtain ⟨p, c, e, hc⟩ := this
  injection e with _ e1 e2
  simp at hc e1
  omega
theorem Ln.ir {w : World} {B g cap : Nat} {zs : List Int} (h : Ln w B g cap zs) : IrAt w (some ⟨g, 0, none⟩) zs := .inr ⟨g, 0, rfl, fun i hi => by
  rw [Nat.zero_add]
  have := oz_at h.own (i := i) (by simp; omega)
  rw [this]
  simp [ivl, List.getD, hi, List.getElem?_append_left]⟩
theorem Ln.mark {w : World} {B g cap : Nat} {zs : List Int} (h : Ln w B g cap zs) : w.cell? ⟨g, zs.length, none⟩ = some (.int .i64 77) := by
  have := oz_at h.own (i := zs.length) (by simp)
  rw [this]
  simp [List.getD]
theorem Ln.below {w w' : World} {B g cap : Nat} {zs : List Int} (h : Ln w B g cap zs) (hb : Below w.heap.size w w') : Ln w' B g cap zs := ⟨h.own.below hb⟩
theorem oz_nil (w : World) (B : Nat) : Oz w B (.slice none 0 0) [] := World.ownsRow_nil _ _ _ _
theorem oz_new {w : World} {B : Nat} {v : Value} {zs : List Int} (h : Oz w B v zs) {n : Nat} (hn : zs.length = n) : ∃ p cap, v = .slice p n cap ∧ n ≤ cap ∧ IrAt w p zs := by
  subst hn; exact oz_ir h
theorem Oz.grown {w w' w0 : World} {base B : Nat} {v : Value} {zs : List Int} (h : Oz w base v zs) (hb : Below B w0 w) (hB : B ≤ w.heap.size) (hg : w.grownBy w' v.ownBlock) (hbase : B ≤ base) : Below B w0 w' := own_grown h hb hB hg hbase
section
attribute [local irreducible] Calls Oz
set_option maxRecDepth 1000000 in
set_option maxHeartbeats 4000000 in
theorem asked_any {w : World} {B g cap : Nat} {zs : List Int} (h : Ln w B g cap zs) (x : Int) (n : Nat) (hn : zs.length = n) (hm : n ≤ 1000000000) :
    Calls Try.prog 5 #[.slice (some ⟨g, 0, none⟩) n cap, .int .i64 x] w fun e w' => e = .returned (.bool true) ∧ Below w.heap.size w w' := by
  have hcap := h.cap
  rw [hn] at hcap
  have hc1 : (n : Int) + 1 ≤ (cap : Int) := by omega
  have hn1 : wrap64 ((n : Int) + 1) = (n : Int) + 1 := by unfold wrap64; omega
  have HL := (show Hid (Ln w B g cap zs) from h)
  have HN := (show Hid (zs.length = n) from hn)
  clear h hn
  obtain ⟨E, hE⟩ : ∃ E, (mst ieq 0 zs).1 = E := ⟨_, rfl⟩
  obtain ⟨M, hM⟩ : ∃ M, (mst ieq 0 zs).2 = M := ⟨_, rfl⟩
  obtain ⟨T, hT⟩ : ∃ T, zs.countP (ieq x) = T := ⟨_, rfl⟩
  have HV := (show Hid ((mst ieq 0 zs).1 = E ∧ (mst ieq 0 zs).2 = M ∧ zs.countP (ieq x) = T) from ⟨hE, hM, hT⟩)
  clear hE hM hT
  go_enter Try.func5, Try.ntmps5
  go_wp2_with (first
    | (refine wpList_apZ rfl _ _ rfl w.heap.size (.slice none 0 0) [] rfl (oz_nil _ _) _ _ _ zs rfl HL.out.ir HN.out (by simp; omega) (Nat.le_refl _) ?_; intro v1 w1 ho1 hg1; rw [List.nil_append] at ho1; obtain ⟨p1, c1, rfl, hc1', hI1⟩ := oz_new ho1 HN.out; have HB1 := (show Hid (Below w.heap.size w w1) from (oz_nil w w.heap.size).grown (Below.refl _ _) (Nat.le_refl _) hg1 (Nat.le_refl _)); have HI1 := (show Hid (IrAt w1 p1 zs) from hI1); clear ho1 hg1 hI1)
    | (go_at_call 4; refine (rmost_any HI1.out n _ HN.out (by omega)).mono ?_; rw [HV.out.1, HV.out.2.1]; rintro e w2 ⟨rfl, hb2⟩; have HI2 := (show Hid (IrAt w2 p1 zs) from HI1.out.below hb2); have HB2 := (show Hid (Below w.heap.size w w2) from HB1.out.trans (hb2.mono HB1.out.size)); clear hb2)
    | (go_at_call 11; refine (icount_any (HL.out.ir.below HB2.out) n _ x HN.out (by omega)).mono ?_; rw [HV.out.2.2]; rintro e w3 ⟨rfl, h⟩; obtain rfl := h.symm)
    | (go_at_call 9; refine (rcount_any HI2.out n _ x HN.out (by omega)).mono ?_; rw [HV.out.2.2]; rintro e w3 ⟨rfl, h⟩; obtain rfl := h.symm)
    | (go_at_call 12; refine (imost_any (HL.out.ir.below HB2.out) n _ HN.out (by omega)).mono ?_; rw [HV.out.1, HV.out.2.1]; unfold ivl; rintro e w4 ⟨rfl, hb4⟩; have HI4 := (show Hid (IrAt w4 p1 zs) from HI2.out.below hb4); have HB4 := (show Hid (Below w.heap.size w w4) from HB2.out.trans (hb4.mono HB2.out.size)); have g77 := (HL.out.below HB4.out).mark; rw [HN.out] at g77; clear hb4)
    | (go_at_call 13; refine (sameN_any (HL.out.ir.below HB4.out) HI4.out n _ _ HN.out (by omega)).mono ?_; rintro e w5 ⟨rfl, m5, rfl⟩))
  go_ret
  exact ⟨rfl, below_dr HB4.out _⟩
end
end Go.Proofs.Ytgconfcijmemmaa
