/-
  VotesStale.
-/
import Derived.Test.YtefomnlgpldgnaaVq17
import Derived.Test.YtefomnlgpldgnaaVp17
namespace Go.Proofs.Ytefomnlgpldgnaa
open Go.RowKit
/-- An own list of whole numbers. -/
def Oz (w : World) (base : Nat) (v : Value) (zs : List Int) : Prop := w.ownsRow base 3 1 v zs.length (zs.map (Value.int .i64))
/-- A list of whole numbers that is read. -/
def Rz (w : World) (p : Option Addr) (zs : List Int) : Prop := zs = [] ∨ ∃ b o, p = some ⟨b, o, none⟩ ∧ ∀ i, i < zs.length → w.cell? ⟨b, o + i, none⟩ = some (.int .i64 (zs.getD i 0))
theorem Rz.below {w w' : World} {p : Option Addr} {zs : List Int} (h : Rz w p zs) (hb : Below w.heap.size w w') : Rz w' p zs := by
  rcases h with h | ⟨b, o, e, h⟩
  · exact .inl h
  · exact .inr ⟨b, o, e, fun i hi => cell_below (h i hi) hb⟩
theorem Oz.below {w w' : World} {base : Nat} {v : Value} {zs : List Int} (h : Oz w base v zs) (hb : Below w.heap.size w w') : Oz w' base v zs := own_belowV h hb
theorem Oz.empty (w : World) : Oz (w.alloc (.cells #[] 3)) w.heap.size (.slice (some ⟨w.heap.size, 0, none⟩) 0 0) [] :=
  ⟨rfl, .inr ⟨w.heap.size, 0, #[], rfl, Nat.le_refl _, heap_alloc_new w _, Nat.le_refl _, by decide, rfl, rfl⟩⟩
theorem oz_at {w : World} {B g m cap : Nat} {zs : List Int} (h : Oz w B (.slice (some ⟨g, 0, none⟩) m cap) zs) {i : Nat} (hi : i < zs.length) : w.cell? ⟨g, i, none⟩ = some (.int .i64 (zs.getD i 0)) := by
  unfold Oz at h
  have := h.cells (g := g) rfl i (.int .i64 (zs.getD i 0)) (by simp [List.getD, hi])
  rw [add_pl, Nat.zero_add] at this
  exact this
theorem Oz.sm {w : World} {base : Nat} {v : Value} {zs : List Int} (h : Oz w base v zs) (h0 : 0 < zs.length) : ∃ g cap, v = .slice (some ⟨g, 0, none⟩) zs.length cap ∧ zs.length ≤ cap := by
  rcases h.2 with ⟨_, h1⟩ | ⟨g, cap, cur, hv, _, _, hn, _⟩
  · omega
  · exact ⟨g, cap, hv, hn⟩
set_option maxRecDepth 100000 in
theorem wpList_apZ {w : World} {ops : Array Oper} {rest : List Oper} {o : Oper} {a : Act} {Q : Exit → Act → World → Prop} (hgd : o.guard = none) (s x : Operand) (ho : o.op = .call { callee := .builtin .append, args := #[s, x], argTypes := #[25, 25] })
    (base : Nat) (v : Value) (xs : List Int) (hs : a.eval s = v) (hown : Oz w base v xs) (ad : Option Addr) (n c : Nat) (ys : List Int) (hx : a.eval x = .slice ad n c) (hr : Rz w ad ys) (hn : ys.length = n) (hm : xs.length + n ≤ 17592186044416) (hbase : base ≤ w.heap.size)
    (h : ∀ v' w', Oz w' base v' (xs ++ ys) → w.grownBy w' v.ownBlock → wpList Try.prog ops Q rest (a.put o.dst v') w') : wpList Try.prog ops Q (o :: rest) a w := by
  obtain ⟨i0, hi, hz0, hz1, hz2⟩ := info_parts infoI
  subst hn
  cases ad with
  | some ad =>
    have S : ∀ j t, (ys.map (Value.int .i64))[j]? = some t → w.cell? (ad.add j) = some t := by
      intro j t ht
      rcases hr with e | ⟨b, o, e, hc⟩
      · subst e; simp at ht
      · injection e with e
        subst e
        rw [List.getElem?_map] at ht
        cases hj : ys[j]? with
        | none => rw [hj] at ht; cases ht
        | some z =>
          rw [hj] at ht
          simp at ht
          have hjl := (List.getElem?_eq_some_iff.1 hj).1
          have := hc j hjl
          rw [add_pl, this, ← ht]
          simp [List.getD, hj]
    refine wpList_append_own _ hgd _ _ 25 ho base 3 i0 (.int .i64 0) 1 8 Try.underlying25 hi hz0 hz1 hz2 rfl (by decide) v xs.length _ hs hown ad ys.length c (ys.map (Value.int .i64)) hx (by simp) S (by intro t ht; obtain ⟨z, _, rfl⟩ := List.mem_map.1 ht; rfl) (by unfold maxLen; omega) (by omega) hbase ?_
    intro v' w' ho' hg _
    refine h v' w' ?_ hg
    unfold Oz
    simpa using ho'
  | none =>
    have hys : ys = [] := by
      rcases hr with e | ⟨b, off, e, _⟩
      · exact e
      · cases e
    subst hys
    obtain ⟨p, cap, rfl, hcap⟩ : ∃ p cap, v = .slice p xs.length cap ∧ xs.length ≤ cap := by
      rcases hown.2 with ⟨h1, h0⟩ | ⟨g, cap, cur, hv, _, _, hn, _⟩
      · exact ⟨none, 0, by rw [h1, h0], by omega⟩
      · exact ⟨_, cap, hv, hn⟩
    refine wpList_plain hgd fun K hK => ?_
    have hrun := run_append_nix (P := Try.prog) (w := w) 25 o.type 3 i0 Try.underlying25 hi p xs.length cap c hcap
    unfold Oper.wp
    have hx' : a.eval x = .slice none 0 c := hx
    simp [execOp, ho, resolve, invoke, builtin, hs, hx', hrun, Result.andThen]
    exact hK _ _ (h _ w (by rw [List.append_nil]; exact hown) ⟨rfl, rfl, rfl, Nat.le_refl _, fun _ _ _ => rfl⟩)
theorem Oz.grown {w w' w0 : World} {base B : Nat} {v : Value} {zs : List Int} (h : Oz w base v zs) (hb : Below B w0 w) (hB : B ≤ w.heap.size) (hg : w.grownBy w' v.ownBlock) (hbase : B ≤ base) : Below B w0 w' := own_grown h hb hB hg hbase
theorem rz_at {w : World} {p : Option Addr} {zs : List Int} {n : Nat} (h : Rz w p zs) (hn : zs.length = n) (i : Nat) (hi : i < n) : ∃ b o, p = some ⟨b, o, none⟩ ∧ w.cell? ⟨b, o + i, none⟩ = some (.int .i64 (zs.getD i 0)) := by
  rcases h with h | ⟨b, o, e, h⟩
  · subst h; simp at hn; omega
  · exact ⟨b, o, e, h i (by omega)⟩
theorem LSn.snl {w : World} {v : Value} {n : Nat} {ss : Nat → Sn} {bl : Nat → List (List (BitVec 8))} (h : LSn w v n ss bl) : ∃ g cap ss', v = .slice (some ⟨g, 0, none⟩) n cap ∧ SnL w (some ⟨g, 0, none⟩) n ss' ∧ ∀ i, i < n → (ss' i).kd = (ss i).kd ∧ (ss' i).hd = (ss i).hd ∧ (ss' i).bv.oneCell' = true := by
  obtain ⟨g, cap, es, e, hl, hc, hO, hE, hM⟩ := h
  refine ⟨g, cap, fun i => es.getD i sn0, e, .inr ⟨g, 0, rfl, fun i hi => ?_⟩, fun i hi => ?_⟩
  · rw [Nat.zero_add]
    exact os_at hO (by omega)
  · have h1 := hE i hi
    obtain ⟨gb, capb, us, e2, _⟩ := h1.2
    show (es.getD i sn0).kd = _ ∧ (es.getD i sn0).hd = _ ∧ (es.getD i sn0).bv.oneCell' = true
    refine ⟨by rw [h1.1], by rw [h1.1], ?_⟩
    rw [e2]; rfl
theorem LSn.below {w w' : World} {v : Value} {n : Nat} {ss : Nat → Sn} {bl : Nat → List (List (BitVec 8))} (h : LSn w v n ss bl) (hb : Below w.heap.size w w') : LSn w' v n ss bl := by
  obtain ⟨g, cap, es, e, hl, hc, hO, hE, hM⟩ := h
  exact ⟨g, cap, es, e, hl, hc, hO.below hb, fun i hi => (hE i hi).below hb, hM⟩
theorem stl_like {ss ss' : Nat → Sn} {n : Nat} (h : ∀ i, i < n → (ss' i).kd = (ss i).kd ∧ (ss' i).hd = (ss i).hd ∧ (ss' i).bv.oneCell' = true) (kv : Int) (k : Wg) : stl ss' n kv k = stl ss n kv k := by
  have e1 : pwO ss' n k = pwO ss n k := List.filter_congr fun i hi => by
    have := h i (List.mem_range.1 hi)
    unfold othB Sn.wg
    rw [this.1, this.2.1]
  have e2 : pwN ss' n = pwN ss n := List.filter_congr fun i hi => by
    have := h i (List.mem_range.1 hi)
    rw [this.1]
  unfold stl
  rw [e1, e2]
theorem stl_len (ss : Nat → Sn) (n : Nat) (kv : Int) (k : Wg) : (stl ss n kv k).length ≤ n := by rw [← stf_stl]; exact stf_len ss n kv k
theorem wr1 {d : Nat} (h : d ≤ 17592186043904) : IntKind.i64.wrap ((d : Int) + 1) = (d : Int) + 1 := by rw [IntKind.wrap_i64]; omega
theorem wr2 {d : Nat} (h : d ≤ 17592186043904) : IntKind.i64.wrap ((d : Int) + 2) = (d : Int) + 2 := by rw [IntKind.wrap_i64]; omega
theorem toNat2 (d : Nat) : ((d : Int) + 2).toNat = d + 2 := by omega
theorem rz123 (w : World) : Rz (w.alloc (.cells #[.int .i64 71, .int .i64 72, .int .i64 73] 3)) (some ⟨w.heap.size, 0, none⟩) [71, 72, 73] := by
  refine .inr ⟨w.heap.size, 0, rfl, fun i hi => ?_⟩
  have hi' : i < 3 := hi
  rw [Nat.zero_add, cell_of_row _ _ i _ _ (0, 0) (heap_alloc_new w _)]
  match i, hi' with
  | 0, _ => rfl
  | 1, _ => rfl
  | 2, _ => rfl
theorem ex_bdV {o : Oper} {a : Act} {X : World} (kv : Int) (k : Wg) (p : Option Addr) (n c : Nat) (x0 x1 x2 x3 : Operand) (ho : o.op = .build 42 #[(0, x0), (1, x1), (2, x2), (3, x3)]) (hx : #[a.eval x0, a.eval x1, a.eval x2, a.eval x3] = #[Value.int .i64 kv, .agg #[.int .i64 k.1, .int .i64 k.2.1], .int .i64 k.2.2, .slice p n c]) : (execOp a.eval o).run Try.prog X = .ok (.value (.agg (vdC kv k (.slice p n c)))) X := by
  simp at hx
  obtain ⟨h0, h1, h2, h3⟩ := hx
  have e : (Instr.build 42 #[(0, Value.int .i64 kv), (1, .agg #[.int .i64 k.1, .int .i64 k.2.1]), (2, .int .i64 k.2.2), (3, .slice p n c)]).run Try.prog X = .ok (.agg (vdC kv k (.slice p n c))) X := by kernel_rfl
  unfold execOp
  simp only [ho, List.map_toArray, List.map_cons, List.map_nil, h0, h1, h2, h3, Sem.run_bind, e, Sem.run_pure, Result.andThen_ok]
section
attribute [local irreducible] Calls GB On Oz Sn.cs
end
end Go.Proofs.Ytefomnlgpldgnaa
