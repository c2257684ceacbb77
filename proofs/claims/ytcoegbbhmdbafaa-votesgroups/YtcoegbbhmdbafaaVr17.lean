/-
  VotesStale.
-/
import Derived.Test.YtcoegbbhmdbafaaVq17
import Derived.Test.YtcoegbbhmdbafaaVp17
namespace Go.Proofs.Ytcoegbbhmdbafaa
open Go.RowKit
/-- An own list of whole numbers. -/
def Oz (w : World) (base : Nat) (v : Value) (zs : List Int) : Prop := w.ownsRow base 3 1 v zs.length (zs.map (Value.int .i64))
/-- A list of whole numbers that is read. -/
def Rz (w : World) (p : Option Addr) (zs : List Int) : Prop := zs = [] ∨ ∃ b o, p = some ⟨b, o, none⟩ ∧ ∀ i, i < zs.length → w.cell? ⟨b, o + i, none⟩ = some (.int .i64 (zs.getD i 0))
theorem Rz.below {w w' : World} {p : Option Addr} {zs : List Int} (h : Rz w p zs) (hb : Below w.heap.size w w') : Rz w' p zs := by
  rcases h with h | ⟨b, o, e, h⟩
  · exact .inl h
  · exact .inr ⟨b, o, e, fun i hi => cell_below (h i hi) hb⟩
theorem Oz.below {w w' : World} {base : Nat} {v : Value} {zs : List Int} (h : Oz w base v zs) (hb : Below w.heap.size w w') : Oz w' base v zs := own_belowV h hb
theorem Oz.empty (w : World) : Oz (w.alloc (.cells #[] 3)) w.heap.size (.slice (some ⟨w.heap.size, 0, none⟩) 0 0) [] :=
  ⟨rfl, .inr ⟨w.heap.size, 0, #[], rfl, Nat.le_refl _, heap_alloc_new w _, Nat.le_refl _, by decide, rfl, rfl⟩⟩
theorem oz_at {w : World} {B g m cap : Nat} {zs : List Int} (h : Oz w B (.slice (some ⟨g, 0, none⟩) m cap) zs) {i : Nat} (hi : i < zs.length) : w.cell? ⟨g, i, none⟩ = some (.int .i64 (zs.getD i 0)) := by
  unfold Oz at h
  have := h.cells (g := g) rfl i (.int .i64 (zs.getD i 0)) (by simp [List.getD, hi])
  rw [add_pl, Nat.zero_add] at this
  exact this
theorem Oz.sm {w : World} {base : Nat} {v : Value} {zs : List Int} (h : Oz w base v zs) (h0 : 0 < zs.length) : ∃ g cap, v = .slice (some ⟨g, 0, none⟩) zs.length cap ∧ zs.length ≤ cap := by
  rcases h.2 with ⟨_, h1⟩ | ⟨g, cap, cur, hv, _, _, hn, _⟩
  · omega
  · exact ⟨g, cap, hv, hn⟩
set_option maxRecDepth 100000 in
theorem wpList_apZ {w : World} {ops : Array Oper} {rest : List Oper} {o : Oper} {a : Act} {Q : Exit → Act → World → Prop} (hgd : o.guard = none) (s x : Operand) (ho : o.op = .call { callee := .builtin .append, args := #[s, x], argTypes := #[39, 39] })
    (base : Nat) (v : Value) (xs : List Int) (hs : a.eval s = v) (hown : Oz w base v xs) (ad : Option Addr) (n c : Nat) (ys : List Int) (hx : a.eval x = .slice ad n c) (hr : Rz w ad ys) (hn : ys.length = n) (hm : xs.length + n ≤ 17592186044416) (hbase : base ≤ w.heap.size)
    (h : ∀ v' w', Oz w' base v' (xs ++ ys) → w.grownBy w' v.ownBlock → wpList Try.prog ops Q rest (a.put o.dst v') w') : wpList Try.prog ops Q (o :: rest) a w := by
  obtain ⟨i0, hi, hz0, hz1, hz2⟩ := info_parts infoI
  subst hn
  cases ad with
  | some ad =>
    have S : ∀ j t, (ys.map (Value.int .i64))[j]? = some t → w.cell? (ad.add j) = some t := by
      intro j t ht
      rcases hr with e | ⟨b, o, e, hc⟩
      · subst e; simp at ht
      · injection e with e
        subst e
        rw [List.getElem?_map] at ht
        cases hj : ys[j]? with
        | none => rw [hj] at ht; cases ht
        | some z =>
          rw [hj] at ht
          simp at ht
          have hjl := (List.getElem?_eq_some_iff.1 hj).1
          have := hc j hjl
          rw [add_pl, this, ← ht]
          simp [List.getD, hj]
    refine wpList_append_own _ hgd _ _ 39 ho base 3 i0 (.int .i64 0) 1 8 Try.underlying39 hi hz0 hz1 hz2 rfl (by decide) v xs.length _ hs hown ad ys.length c (ys.map (Value.int .i64)) hx (by simp) S (by intro t ht; obtain ⟨z, _, rfl⟩ := List.mem_map.1 ht; rfl) (by unfold maxLen; omega) (by omega) hbase ?_
    intro v' w' ho' hg _
    refine h v' w' ?_ hg
    unfold Oz
    simpa using ho'
  | none =>
    have hys : ys = [] := by
      rcases hr with e | ⟨b, off, e, _⟩
      · exact e
      · cases e
    subst hys
    obtain ⟨p, cap, rfl, hcap⟩ : ∃ p cap, v = .slice p xs.length cap ∧ xs.length ≤ cap := by
      rcases hown.2 with ⟨h1, h0⟩ | ⟨g, cap, cur, hv, _, _, hn, _⟩
      · exact ⟨none, 0, by rw [h1, h0], by omega⟩
      · exact ⟨_, cap, hv, hn⟩
    refine wpList_plain hgd fun K hK => ?_
    have hrun := run_append_nix (P := Try.prog) (w := w) 39 o.type 3 i0 Try.underlying39 hi p xs.length cap c hcap
    unfold Oper.wp
    have hx' : a.eval x = .slice none 0 c := hx
    simp [execOp, ho, resolve, invoke, builtin, hs, hx', hrun, Result.andThen]
    exact hK _ _ (h _ w (by rw [List.append_nil]; exact hown) ⟨rfl, rfl, rfl, Nat.le_refl _, fun _ _ _ => rfl⟩)
theorem Oz.grown {w w' w0 : World} {base B : Nat} {v : Value} {zs : List Int} (h : Oz w base v zs) (hb : Below B w0 w) (hB : B ≤ w.heap.size) (hg : w.grownBy w' v.ownBlock) (hbase : B ≤ base) : Below B w0 w' := own_grown h hb hB hg hbase
theorem rz_at {w : World} {p : Option Addr} {zs : List Int} {n : Nat} (h : Rz w p zs) (hn : zs.length = n) (i : Nat) (hi : i < n) : ∃ b o, p = some ⟨b, o, none⟩ ∧ w.cell? ⟨b, o + i, none⟩ = some (.int .i64 (zs.getD i 0)) := by
  rcases h with h | ⟨b, o, e, h⟩
  · subst h; simp at hn; omega
  · exact ⟨b, o, e, h i (by omega)⟩
theorem LSn.snl {w : World} {v : Value} {n : Nat} {ss : Nat → Sn} {bl : Nat → List (List (BitVec 8))} (h : LSn w v n ss bl) : ∃ g cap ss', v = .slice (some ⟨g, 0, none⟩) n cap ∧ SnL w (some ⟨g, 0, none⟩) n ss' ∧ ∀ i, i < n → (ss' i).kd = (ss i).kd ∧ (ss' i).hd = (ss i).hd ∧ (ss' i).bv.oneCell' = true := by
  obtain ⟨g, cap, es, e, hl, hc, hO, hE, hM⟩ := h
  refine ⟨g, cap, fun i => es.getD i sn0, e, .inr ⟨g, 0, rfl, fun i hi => ?_⟩, fun i hi => ?_⟩
  · rw [Nat.zero_add]
    exact os_at hO (by omega)
  · have h1 := hE i hi
    obtain ⟨gb, capb, us, e2, _⟩ := h1.2
    show (es.getD i sn0).kd = _ ∧ (es.getD i sn0).hd = _ ∧ (es.getD i sn0).bv.oneCell' = true
    refine ⟨by rw [h1.1], by rw [h1.1], ?_⟩
    rw [e2]; rfl
theorem LSn.below {w w' : World} {v : Value} {n : Nat} {ss : Nat → Sn} {bl : Nat → List (List (BitVec 8))} (h : LSn w v n ss bl) (hb : Below w.heap.size w w') : LSn w' v n ss bl := by
  obtain ⟨g, cap, es, e, hl, hc, hO, hE, hM⟩ := h
  exact ⟨g, cap, es, e, hl, hc, hO.below hb, fun i hi => (hE i hi).below hb, hM⟩
theorem stl_like {ss ss' : Nat → Sn} {n : Nat} (h : ∀ i, i < n → (ss' i).kd = (ss i).kd ∧ (ss' i).hd = (ss i).hd ∧ (ss' i).bv.oneCell' = true) (kv : Int) (k : Wg) : stl ss' n kv k = stl ss n kv k := by
  have e1 : pwO ss' n k = pwO ss n k := List.filter_congr fun i hi => by
    have := h i (List.mem_range.1 hi)
    unfold othB Sn.wg
    rw [this.1, this.2.1]
  have e2 : pwN ss' n = pwN ss n := List.filter_congr fun i hi => by
    have := h i (List.mem_range.1 hi)
    rw [this.1]
  unfold stl
  rw [e1, e2]
theorem stl_len (ss : Nat → Sn) (n : Nat) (kv : Int) (k : Wg) : (stl ss n kv k).length ≤ n := by rw [← stf_stl]; exact stf_len ss n kv k
theorem wr1 {d : Nat} (h : d ≤ 17592186043904) : IntKind.i64.wrap ((d : Int) + 1) = (d : Int) + 1 := by rw [IntKind.wrap_i64]; omega
theorem wr2 {d : Nat} (h : d ≤ 17592186043904) : IntKind.i64.wrap ((d : Int) + 2) = (d : Int) + 2 := by rw [IntKind.wrap_i64]; omega
theorem toNat2 (d : Nat) : ((d : Int) + 2).toNat = d + 2 := by omega
theorem rz123 (w : World) : Rz (w.alloc (.cells #[.int .i64 71, .int .i64 72, .int .i64 73] 3)) (some ⟨w.heap.size, 0, none⟩) [71, 72, 73] := by
  refine .inr ⟨w.heap.size, 0, rfl, fun i hi => ?_⟩
  have hi' : i < 3 := hi
  rw [Nat.zero_add, cell_of_row _ _ i _ _ (0, 0) (heap_alloc_new w _)]
  match i, hi' with
  | 0, _ => rfl
  | 1, _ => rfl
  | 2, _ => rfl
theorem ex_bdV {o : Oper} {a : Act} {X : World} (kv : Int) (k : Wg) (p : Option Addr) (n c : Nat) (x0 x1 x2 x3 : Operand) (ho : o.op = .build 41 #[(0, x0), (1, x1), (2, x2), (3, x3)]) (hx : #[a.eval x0, a.eval x1, a.eval x2, a.eval x3] = #[Value.int .i64 kv, .agg #[.int .i64 k.1, .int .i64 k.2.1], .int .i64 k.2.2, .slice p n c]) : (execOp a.eval o).run Try.prog X = .ok (.value (.agg (vdC kv k (.slice p n c)))) X := by
  simp at hx
  obtain ⟨h0, h1, h2, h3⟩ := hx
  have e : (Instr.build 41 #[(0, Value.int .i64 kv), (1, .agg #[.int .i64 k.1, .int .i64 k.2.1]), (2, .int .i64 k.2.2), (3, .slice p n c)]).run Try.prog X = .ok (.agg (vdC kv k (.slice p n c))) X := by kernel_rfl
  unfold execOp
  simp only [ho, List.map_toArray, List.map_cons, List.map_nil, h0, h1, h2, h3, Sem.run_bind, e, Sem.run_pure, Result.andThen_ok]
section
attribute [local irreducible] Calls GB On Oz Sn.cs
set_option maxHeartbeats 16000000 in
set_option maxRecDepth 1000000 in
theorem votesStale_walk {w : World} {p : Option Addr} {n c : Nat} {ss : Nat → Sn} {bl : Nat → List (List (BitVec 8))} (HS : SnL w p n ss) (hn : n ≤ 1172812402926) (hB : Bls w n ss bl) (kv : Int) (k : Wg) (pp : Option Addr) (np cp : Nat) (zs : List Int) (hz : Rz w pp zs) (hzl : zs.length = np) (hnp : np ≤ 17592186043904) :
    Calls Try.prog 5 #[.slice p n c, .agg (vdC kv k (.slice pp np cp))] w fun e w' => e = .returned (.bool true) ∧ Below w.heap.size w w' := by
  have al : ∀ (W : World) (o : Obj), Below W.heap.size W (W.alloc o) := fun W o => (Below.refl _ _).alloc (Nat.le_refl _) o
  have HL := (show Hid (SnL w p n ss) from HS)
  have HN := (show Hid (n ≤ 1172812402926) from hn)
  have HN' := (show Hid (n ≤ 1172812402943) from by show _ ≤ _; omega)
  have HBl := (show Hid (Bls w n ss bl) from hB)
  have HZ := (show Hid (Rz w pp zs) from hz)
  have HZL := (show Hid (zs.length = np) from hzl)
  have HNP := (show Hid (np ≤ 17592186043904) from hnp)
  clear HS hn hB hz hzl hnp
  go_enter Try.func5, Try.ntmps5
  go_wp2_with (first
    | (refine wpList_bxB rfl _ rfl rfl ?_; intro w1 hG1 hb1 hs1)
    | (refine wpList_ldB rfl _ rfl w.heap.size rfl hG1 Try.underlying41 size_Vd ?_)
    | (go_at_call 19; refine (rstale_any (HL.out.below hb1) HN'.out kv k (.slice pp np cp)).mono ?_; rintro e w2 ⟨v2, rfl, hO2, hb2⟩; have HB2 := (show Hid (Below w.heap.size w w2) from bt hb1 hb2); have HR2a := (show Hid (Rn w2 v2 (stl ss n kv k)) from by have h := hO2.rn; rw [stf_stl] at h; exact h); have hG2 := hG1.below hb2)
    | (go_at_call 11; refine (lent_any (HL.out.below HB2.out) HN.out (HBl.out.below HB2.out)).mono ?_; rintro e w3 ⟨v3, rfl, hS3, hb3⟩; have HB3 := (show Hid (Below w.heap.size w w3) from bt HB2.out hb3); have hG3 := hG2.below hb3; have c4 := (hG3.below (al w3 (.cells #[] 3))).cell 4; unfold vdC at c4; simp only [List.getElem?_toArray, List.getElem?_cons_zero, List.getElem?_cons_succ] at c4; have O3 := (show Hid (Oz (w3.alloc (.cells #[] 3)) w3.heap.size (.slice (some ⟨w3.heap.size, 0, none⟩) 0 0) []) from Oz.empty w3); have R3 := (show Hid (Rz (w3.alloc (.cells #[] 3)) pp zs) from (HZ.out.below HB3.out).below (al _ _)); have L3 := (show Hid (([] : List Int).length + np ≤ 17592186044416) from by have := HNP.out; show _ ≤ _; rw [List.length_nil]; omega); have L4 := (show Hid (zs.length + 3 ≤ 17592186044416) from by have := HNP.out; have := HZL.out; show _ ≤ _; omega))
    | (at_builtin; refine wpList_apZ rfl (.tmp 15) (.tmp 17) rfl w3.heap.size _ [] rfl O3.out pp np cp zs rfl R3.out HZL.out L3.out (al _ _).size ?_; intro v4 w4 ho4 hg4; rw [List.nil_append] at ho4; have HB4 := (show Hid (Below w3.heap.size w3 w4) from O3.out.grown (al w3 _) (al w3 _).size hg4 (Nat.le_refl _)); have O4 := (show Hid (Oz (w4.alloc (.cells #[.int .i64 71, .int .i64 72, .int .i64 73] 3)) w3.heap.size v4 zs) from ho4.below (al _ _)); have R4 := (show Hid (Rz (w4.alloc (.cells #[.int .i64 71, .int .i64 72, .int .i64 73] 3)) (some ⟨w4.heap.size, 0, none⟩) [71, 72, 73]) from rz123 w4); have B4 := (show Hid (Below w3.heap.size w3 (w4.alloc (.cells #[.int .i64 71, .int .i64 72, .int .i64 73] 3))) from balloc HB4.out _); clear ho4 hg4)
    | (at_builtin; refine wpList_apZ rfl (.tmp 19) (.tmp 20) rfl w3.heap.size v4 zs rfl O4.out (some ⟨w4.heap.size, 0, none⟩) 3 3 [71, 72, 73] rfl R4.out rfl L4.out B4.out.size ?_; intro v5 w5 ho5 hg5; have HB5 := (show Hid (Below w3.heap.size w3 w5) from O4.out.grown B4.out B4.out.size hg5 (Nat.le_refl _)); have HO5 := (show Hid (Oz w5 w3.heap.size v5 (zs ++ [71, 72, 73])) from ho5); clear ho5 hg5))
  obtain ⟨gA, capA, eA, hcA⟩ := HO5.out.sm (by simp)
  have elA : (zs ++ [71, 72, 73]).length = np + 3 := by rw [List.length_append, HZL.out]; rfl
  rw [elA] at eA hcA
  subst eA
  have bd5 : Below w5.heap.size w5 w5.drew := (Below.refl _ _).drew
  have HBd := (show Hid (Below w.heap.size w w5.drew) from bt (bt HB3.out HB5.out) bd5)
  have hG5 := (hG3.below HB5.out).below bd5
  have k0 := hG5.cell 0
  have k1 := hG5.cell 1
  have k2 := hG5.cell 2
  have k3 := hG5.cell 3
  have k4 := hG5.cell 4
  unfold vdC at k0 k1 k2 k3 k4
  simp only [List.getElem?_toArray, List.getElem?_cons_zero, List.getElem?_cons_succ] at k0 k1 k2 k3 k4
  have HOd := HO5.out.below bd5
  have gz : ∀ j, j < 3 → (zs ++ [71, 72, 73]).getD (np + j) 0 = ([71, 72, 73] : List Int).getD j 0 := fun j hj => by
    rw [← HZL.out, List.getD_eq_getElem?_getD, List.getElem?_append_right (Nat.le_add_right _ _), Nat.add_sub_cancel_left, ← List.getD_eq_getElem?_getD]
  have HA0 := (show Hid (w5.drew.cell? ⟨gA, np, none⟩ = some (.int .i64 71)) from by have h := oz_at HOd (i := np) (by rw [elA]; omega); have g := gz 0 (by decide); rw [Nat.add_zero] at g; rw [g] at h; exact h)
  have HA1 := (show Hid (w5.drew.cell? ⟨gA, np + 1, none⟩ = some (.int .i64 72)) from by have h := oz_at HOd (i := np + 1) (by rw [elA]; omega); rw [gz 1 (by decide)] at h; exact h)
  have HA2 := (show Hid (w5.drew.cell? ⟨gA, np + 2, none⟩ = some (.int .i64 73)) from by have h := oz_at HOd (i := np + 2) (by rw [elA]; omega); rw [gz 2 (by decide)] at h; exact h)
  have HZA := (show Hid (Rz w5.drew (some ⟨gA, 0, none⟩) zs) from .inr ⟨gA, 0, rfl, fun i hi => by
    have h := oz_at HOd (i := i) (by rw [elA]; have := HZL.out; omega)
    rw [Nat.zero_add, h]
    simp [List.getD, List.getElem?_append_left hi]⟩)
  have HLS5 := (show Hid (LSn w5.drew v3 n ss bl) from (hS3.below HB5.out).below bd5)
  have HR2 := (show Hid (Rn w5.drew v2 (stl ss n kv k)) from ((HR2a.out.below hb3).below HB5.out).below bd5)
  have HLs := (show Hid ((stl ss n kv k).length ≤ 17592186044416) from by have := stl_len ss n kv k; have := HN.out; show _ ≤ _; omega)
  obtain ⟨gL, capL, ssL, eL, hSL, hlk⟩ := HLS5.out.snl
  have ST := (show Hid _ from stale_any (c := capL) hSL HN'.out (fun i hi => (hlk i hi).2.2) kv k (.slice (some ⟨gA, 0, none⟩) np capA))
  have HST := (show Hid (stl ssL n kv k = stl ss n kv k) from stl_like hlk kv k)
  have HS3 := (show Hid (LSn w5.drew v3 n ss bl) from HLS5.out)
  subst eL
  have i3 : (np : Int) ≤ (capA : Int) := by omega
  clear hSL hlk gz hcA elA hG5 hG3 hG2 hG1 HOd c4 hS3 hO2 HS3 al
  refine wp_region_held_drew (S := fun X => X.cell? ⟨w.heap.size, 0, none⟩ = some (.int .i64 kv) ∧ X.cell? ⟨w.heap.size, 1, none⟩ = some (.int .i64 k.1) ∧ X.cell? ⟨w.heap.size, 2, none⟩ = some (.int .i64 k.2.1) ∧ X.cell? ⟨w.heap.size, 4, none⟩ = some (.slice pp np cp) ∧ X.cell? ⟨w.heap.size, 3, none⟩ = some (.int .i64 k.2.2)) (by kernel_rfl) ⟨k0, k1, k2, k4, k3⟩ (fun hHeld => ?_)
  refine takeHr (i := 0) (d := some 22) (v := ?v1) rfl rfl (by kernel_rfl) (by kernel_rfl) (by kernel_rfl) (fun _ _ _ h => h) (Or.inl ⟨by rfl, ?hy1⟩) hHeld ?rest1
  case hy1 => intro X hSw; obtain ⟨g0, g1, g2, g3, g4⟩ := hSw; go_simp <;> with_reducible rfl
  try simp only [Act.put, List.setIfInBounds_toArray, List.set_cons_zero, List.set_cons_succ]
  refine takeHr (i := 1) (d := some 23) (v := ?v2) rfl rfl (by kernel_rfl) (by kernel_rfl) (by kernel_rfl) (fun _ _ _ h => h) (Or.inl ⟨by rfl, ?hy2⟩) hHeld ?rest2
  case hy2 => intro X hSw; obtain ⟨g0, g1, g2, g3, g4⟩ := hSw; go_simp <;> with_reducible rfl
  try simp only [Act.put, List.setIfInBounds_toArray, List.set_cons_zero, List.set_cons_succ]
  refine takeHr (i := 2) (d := some 24) (v := ?v3) rfl rfl (by kernel_rfl) (by kernel_rfl) (by kernel_rfl) (fun _ _ _ h => h) (Or.inl ⟨by rfl, ?hy3⟩) hHeld ?rest3
  case hy3 => intro X hSw; obtain ⟨g0, g1, g2, g3, g4⟩ := hSw; go_simp <;> with_reducible rfl
  try simp only [Act.put, List.setIfInBounds_toArray, List.set_cons_zero, List.set_cons_succ]
  refine takeHr (i := 3) (d := some 25) (v := ?v4) rfl rfl (by kernel_rfl) (by kernel_rfl) (by kernel_rfl) (fun _ _ _ h => h) (Or.inl ⟨by rfl, ?hy4⟩) hHeld ?rest4
  case hy4 => intro X hSw; obtain ⟨g0, g1, g2, g3, g4⟩ := hSw; go_simp <;> with_reducible rfl
  try simp only [Act.put, List.setIfInBounds_toArray, List.set_cons_zero, List.set_cons_succ]
  refine takeHr (i := 4) (d := some 26) (v := ?v5) rfl rfl (by kernel_rfl) (by kernel_rfl) (by kernel_rfl) (fun _ _ _ h => h) (Or.inl ⟨by rfl, ?hy5⟩) hHeld ?rest5
  case hy5 => intro X hSw; obtain ⟨g0, g1, g2, g3, g4⟩ := hSw; go_simp <;> with_reducible rfl
  try simp only [Act.put, List.setIfInBounds_toArray, List.set_cons_zero, List.set_cons_succ]
  refine takeHr (i := 5) (d := some 27) (v := ?v6) rfl rfl (by kernel_rfl) (by kernel_rfl) (by kernel_rfl) (fun _ _ _ h => h) (Or.inl ⟨by rfl, ?hy6⟩) hHeld ?rest6
  case hy6 => intro X hSw; obtain ⟨g0, g1, g2, g3, g4⟩ := hSw; go_simp <;> with_reducible rfl
  try simp only [Act.put, List.setIfInBounds_toArray, List.set_cons_zero, List.set_cons_succ]
  refine takeHr (i := 6) (d := some 28) (v := ?v7) rfl rfl (by kernel_rfl) (by kernel_rfl) (by kernel_rfl) (fun _ _ _ h => h) (Or.inl ⟨by rfl, ?hy7⟩) hHeld ?rest7
  case hy7 => intro X hSw; obtain ⟨g0, g1, g2, g3, g4⟩ := hSw; go_simp <;> with_reducible rfl
  try simp only [Act.put, List.setIfInBounds_toArray, List.set_cons_zero, List.set_cons_succ]
  refine takeHr (i := 7) (d := some 29) (v := ?v8) rfl rfl (by kernel_rfl) (by kernel_rfl) (by kernel_rfl) (fun _ _ _ h => h) (Or.inl ⟨by rfl, ?hy8⟩) hHeld ?rest8
  case hy8 => intro X hSw; obtain ⟨g0, g1, g2, g3, g4⟩ := hSw; go_simp <;> with_reducible rfl
  try simp only [Act.put, List.setIfInBounds_toArray, List.set_cons_zero, List.set_cons_succ]
  refine takeHr (i := 8) (d := some 30) (v := ?v9) rfl rfl (by kernel_rfl) (by kernel_rfl) (by kernel_rfl) (fun _ _ _ h => h) (Or.inl ⟨by rfl, ?hy9⟩) hHeld ?rest9
  case hy9 => intro X hSw; obtain ⟨g0, g1, g2, g3, g4⟩ := hSw; go_simp <;> with_reducible rfl
  try simp only [Act.put, List.setIfInBounds_toArray, List.set_cons_zero, List.set_cons_succ]
  refine takeHr (i := 9) (d := some 31) (v := ?v10) rfl rfl (by kernel_rfl) (by kernel_rfl) (by kernel_rfl) (fun _ _ _ h => h) (Or.inl ⟨by rfl, ?hy10⟩) hHeld ?rest10
  case hy10 => intro X hSw; obtain ⟨g0, g1, g2, g3, g4⟩ := hSw; go_simp <;> with_reducible rfl
  try simp only [Act.put, List.setIfInBounds_toArray, List.set_cons_zero, List.set_cons_succ]
  refine takeHr (i := 10) (d := some 32) (v := ?v11) rfl rfl (by kernel_rfl) (by kernel_rfl) (by kernel_rfl) (fun _ _ _ h => h) (Or.inl ⟨by rfl, ?hy11⟩) hHeld ?rest11
  case hy11 => intro X hSw; obtain ⟨g0, g1, g2, g3, g4⟩ := hSw; go_simp <;> with_reducible rfl
  try simp only [Act.put, List.setIfInBounds_toArray, List.set_cons_zero, List.set_cons_succ]
  refine takeHr (i := 11) (d := some 33) (v := .slice (some ⟨gA, 0, none⟩) np capA) rfl rfl (by kernel_rfl) (by kernel_rfl) (by kernel_rfl) (fun _ _ _ h => h) (Or.inl ⟨by rfl, ?hy12⟩) hHeld ?rest12
  case hy12 => intro X hSw; obtain ⟨g0, g1, g2, g3, g4⟩ := hSw; go_simp <;> with_reducible rfl
  try simp only [Act.put, List.setIfInBounds_toArray, List.set_cons_zero, List.set_cons_succ]
  refine takeHr (i := 12) (d := some 34) (v := .agg (vdC kv k (.slice (some ⟨gA, 0, none⟩) np capA))) rfl rfl (by kernel_rfl) (by kernel_rfl) (by kernel_rfl) (fun _ _ _ h => h) (Or.inl ⟨by rfl, ?hy13⟩) hHeld ?rest13
  case hy13 => intro X hSw; exact ex_bdV _ _ _ _ _ _ _ _ _ rfl rfl
  try simp only [Act.put, List.setIfInBounds_toArray, List.set_cons_zero, List.set_cons_succ]
  refine wpAnyH_ready (rs := [13]) (by kernel_rfl) (by simp) ?_
  refine AllReadyH.cons (o := { dst := some 35, op := Op.call { callee := Callee.value (Operand.func 20), args := #[Operand.tmp 22, Operand.tmp 34], argTypes := #[24, 41] }, type := 39, pos := "law.go:133", after := #[{ on := 0, ground := Ground.data }, { on := 12, ground := Ground.data }], guard := none }) rfl (fun Kq hKq => ?_) AllReadyH.nil
  · go_simp
    refine (ST.out).mono ?_
    rintro e w6 ⟨v6, rfl, hO6, hb6⟩
    refine hKq.out _ _ ⟨cell_below hHeld.1 hb6, cell_below hHeld.2.1 hb6, cell_below hHeld.2.2.1 hb6, cell_below hHeld.2.2.2.1 hb6, cell_below hHeld.2.2.2.2 hb6⟩ (fun hHeld => ?_)
    clear hKq Kq
    try simp only [Act.put, List.setIfInBounds_toArray, List.set_cons_zero, List.set_cons_succ]
    refine takeHr (i := 14) (d := some 8) (v := ?v15) rfl rfl (by kernel_rfl) (by kernel_rfl) (by kernel_rfl) (fun _ _ _ h => h) (Or.inl ⟨by rfl, ?hy15⟩) hHeld ?rest15
    case hy15 => intro X hSw; obtain ⟨g0, g1, g2, g3, g4⟩ := hSw; go_simp <;> with_reducible rfl
    try simp only [Act.put, List.setIfInBounds_toArray, List.set_cons_zero, List.set_cons_succ]
    refine wpAnyH_done (by kernel_rfl) ?_ _
    have HO6 := (show Hid (On w6 w5.heap.size v6 (stl ss n kv k)) from by have h := hO6; rw [HST.out] at h; exact h.mono (Nat.le_refl _))
    have HB6 := (show Hid (Below w.heap.size w w6) from bt HBd.out hb6)
    have B6 := (show Hid (Below w5.drew.heap.size w5.drew w6) from hb6)
    clear hO6
    go_wp2_with (fail)
    have bd6 : Below w6.heap.size w6 w6.drew := (Below.refl _ _).drew
    have SI := (show Hid _ from sameInts_any (w := w6.drew) (HO6.out.rn.below bd6) ((HR2.out.below hb6).below bd6) HLs.out)
    have KE := (show Hid (∀ W : World, Below w6.drew.heap.size w6.drew W → _) from fun W hW => kept_any (c := c) (((HLS5.out.below hb6).below bd6).below hW) ((HL.out.below (bt HB6.out bd6)).below hW) HN.out ((HBl.out.below (bt HB6.out bd6)).below hW))
    have SJ := (show Hid (∀ W : World, Below w6.drew.heap.size w6.drew W → _) from fun W hW => sameInts_core (c1 := capA) (c2 := cp) (z := fun i => zs.getD i 0) (by have := HNP.out; omega) (fun i hi => rz_at (((HZA.out.below hb6).below bd6).below hW) HZL.out i hi) (fun i hi => rz_at ((HZ.out.below (bt HB6.out bd6)).below hW) HZL.out i hi))
    have HBf := (show Hid (Below w.heap.size w w6.drew) from bt HB6.out bd6)
    have x0 := cell_below (cell_below HA0.out hb6) bd6
    have x1 := cell_below (cell_below HA1.out hb6) bd6
    have x2 := cell_below (cell_below HA2.out hb6) bd6
    have x3 := cell_below hHeld.2.2.2.1 bd6
    clear hHeld
    have wa := wr1 HNP.out
    have tn2 : ((np : Int) + 2).toNat = np + 2 := toNat2 np
    have y1 : (0 : Int) ≤ (np : Int) + 1 := Int.le_trans (Int.natCast_nonneg _) (Int.le_add_one (Int.le_refl _))
    have y2 : (0 : Int) ≤ (np : Int) + 2 := Int.add_nonneg (Int.natCast_nonneg _) (by decide)
    have j0 : (np : Int) < (np : Int) + 3 := Int.lt_add_of_pos_right _ (by decide)
    have j1 : (np : Int) + 1 < (np : Int) + 3 := Int.add_lt_add_left (by decide) _
    have j2 : (np : Int) + 2 < (np : Int) + 3 := Int.add_lt_add_left (by decide) _
    have wb := wr2 HNP.out
    refine wp_region_held_drew (S := fun X => X.cell? ⟨w.heap.size, 4, none⟩ = some (.slice pp np cp) ∧ X.cell? ⟨gA, np, none⟩ = some (.int .i64 71) ∧ X.cell? ⟨gA, np + 1, none⟩ = some (.int .i64 72) ∧ X.cell? ⟨gA, np + 2, none⟩ = some (.int .i64 73)) (by kernel_rfl) ⟨x3, x0, x1, x2⟩ (fun hHeld => ?_)
    refine takeHr (i := 0) (d := some 39) (v := ?v16) rfl rfl (by kernel_rfl) (by kernel_rfl) (by kernel_rfl) (fun _ _ _ h => h) (Or.inl ⟨by rfl, ?hy16⟩) hHeld ?rest16
    case hy16 => intro X hSw; obtain ⟨g0, g1, g2, g3⟩ := hSw; go_simp <;> with_reducible rfl
    try simp only [Act.put, List.setIfInBounds_toArray, List.set_cons_zero, List.set_cons_succ]
    refine takeHr (i := 1) (d := some 40) (v := ?v17) rfl rfl (by kernel_rfl) (by kernel_rfl) (by kernel_rfl) (fun _ _ _ h => h) (Or.inl ⟨by rfl, ?hy17⟩) hHeld ?rest17
    case hy17 => intro X hSw; obtain ⟨g0, g1, g2, g3⟩ := hSw; go_simp <;> with_reducible rfl
    try simp only [Act.put, List.setIfInBounds_toArray, List.set_cons_zero, List.set_cons_succ]
    refine wpAnyH_ready (rs := [2]) (by kernel_rfl) (by simp) ?_
    refine AllReadyH.cons (o := { dst := some 41, op := Op.call { callee := Callee.value (Operand.func 21), args := #[Operand.tmp 39, Operand.tmp 40], argTypes := #[39, 39] }, type := 4, pos := "law.go:135", after := #[{ on := 0, ground := Ground.data }, { on := 1, ground := Ground.data }], guard := none }) rfl (fun Kq hKq => ?_) AllReadyH.nil
    · go_simp
      refine (SI.out).mono ?_
      rintro e w7 ⟨rfl, hb7⟩
      refine hKq.out _ _ ⟨cell_below hHeld.1 hb7, cell_below hHeld.2.1 hb7, cell_below hHeld.2.2.1 hb7, cell_below hHeld.2.2.2 hb7⟩ (fun hHeld => ?_)
      clear hKq Kq
      try simp only [Act.put, List.setIfInBounds_toArray, List.set_cons_zero, List.set_cons_succ]
      refine takeHr (i := 3) (d := some 42) (v := ?v19) rfl rfl (by kernel_rfl) (by kernel_rfl) (by kernel_rfl) (fun _ _ _ h => h) (Or.inl ⟨by rfl, ?hy19⟩) hHeld ?rest19
      case hy19 => intro X hSw; obtain ⟨g0, g1, g2, g3⟩ := hSw; go_simp <;> with_reducible rfl
      try simp only [Act.put, List.setIfInBounds_toArray, List.set_cons_zero, List.set_cons_succ]
      refine takeHr (i := 4) (d := some 43) (v := ?v20) rfl rfl (by kernel_rfl) (by kernel_rfl) (by kernel_rfl) (fun _ _ _ h => h) (Or.inl ⟨by rfl, ?hy20⟩) hHeld ?rest20
      case hy20 => intro X hSw; obtain ⟨g0, g1, g2, g3⟩ := hSw; go_simp <;> with_reducible rfl
      try simp only [Act.put, List.setIfInBounds_toArray, List.set_cons_zero, List.set_cons_succ]
      refine takeHr (i := 5) (d := some 44) (v := ?v21) rfl rfl (by kernel_rfl) (by kernel_rfl) (by kernel_rfl) (fun _ _ _ h => h) (Or.inl ⟨by rfl, ?hy21⟩) hHeld ?rest21
      case hy21 => intro X hSw; obtain ⟨g0, g1, g2, g3⟩ := hSw; go_simp <;> with_reducible rfl
      try simp only [Act.put, List.setIfInBounds_toArray, List.set_cons_zero, List.set_cons_succ]
      refine wpAnyH_ready (rs := [6]) (by kernel_rfl) (by simp) ?_
      refine AllReadyH.cons (o := { dst := some 45, op := Op.call { callee := Callee.value (Operand.func 15), args := #[Operand.tmp 43, Operand.tmp 44], argTypes := #[24, 24] }, type := 4, pos := "law.go:135", after := #[{ on := 4, ground := Ground.data }, { on := 5, ground := Ground.data }, { on := 3, ground := Ground.chain }, { on := 3, ground := Ground.guard }], guard := some (3, true) }) rfl (fun Kq hKq => ?_) AllReadyH.nil
      · go_simp
        refine (KE.out w7 hb7).mono ?_
        rintro e w8 ⟨rfl, hb8⟩
        refine hKq.out _ _ ⟨cell_below hHeld.1 hb8, cell_below hHeld.2.1 hb8, cell_below hHeld.2.2.1 hb8, cell_below hHeld.2.2.2 hb8⟩ (fun hHeld => ?_)
        clear hKq Kq
        try simp only [Act.put, List.setIfInBounds_toArray, List.set_cons_zero, List.set_cons_succ]
        refine takeHr (i := 7) (d := some 46) (v := ?v23) rfl rfl (by kernel_rfl) (by kernel_rfl) (by kernel_rfl) (fun _ _ _ h => h) (Or.inl ⟨by rfl, ?hy23⟩) hHeld ?rest23
        case hy23 => intro X hSw; obtain ⟨g0, g1, g2, g3⟩ := hSw; go_simp <;> with_reducible rfl
        try simp only [Act.put, List.setIfInBounds_toArray, List.set_cons_zero, List.set_cons_succ]
        refine takeHr (i := 8) (d := some 47) (v := ?v24) rfl rfl (by kernel_rfl) (by kernel_rfl) (by kernel_rfl) (fun _ _ _ h => h) (Or.inl ⟨by rfl, ?hy24⟩) hHeld ?rest24
        case hy24 => intro X hSw; obtain ⟨g0, g1, g2, g3⟩ := hSw; go_simp <;> with_reducible rfl
        try simp only [Act.put, List.setIfInBounds_toArray, List.set_cons_zero, List.set_cons_succ]
        refine takeHr (i := 9) (d := some 48) (v := ?v25) rfl rfl (by kernel_rfl) (by kernel_rfl) (by kernel_rfl) (fun _ _ _ h => h) (Or.inl ⟨by rfl, ?hy25⟩) hHeld ?rest25
        case hy25 => intro X hSw; obtain ⟨g0, g1, g2, g3⟩ := hSw; go_simp <;> with_reducible rfl
        try simp only [Act.put, List.setIfInBounds_toArray, List.set_cons_zero, List.set_cons_succ]
        refine takeHr (i := 10) (d := some 49) (v := ?v26) rfl rfl (by kernel_rfl) (by kernel_rfl) (by kernel_rfl) (fun _ _ _ h => h) (Or.inl ⟨by rfl, ?hy26⟩) hHeld ?rest26
        case hy26 => intro X hSw; obtain ⟨g0, g1, g2, g3⟩ := hSw; go_simp <;> with_reducible rfl
        try simp only [Act.put, List.setIfInBounds_toArray, List.set_cons_zero, List.set_cons_succ]
        refine takeHr (i := 11) (d := some 50) (v := .slice (some ⟨gA, 0, none⟩) np capA) rfl rfl (by kernel_rfl) (by kernel_rfl) (by kernel_rfl) (fun _ _ _ h => h) (Or.inl ⟨by rfl, ?hy27⟩) hHeld ?rest27
        case hy27 => intro X hSw; obtain ⟨g0, g1, g2, g3⟩ := hSw; go_simp <;> with_reducible rfl
        try simp only [Act.put, List.setIfInBounds_toArray, List.set_cons_zero, List.set_cons_succ]
        refine takeHr (i := 12) (d := some 51) (v := ?v28) rfl rfl (by kernel_rfl) (by kernel_rfl) (by kernel_rfl) (fun _ _ _ h => h) (Or.inl ⟨by rfl, ?hy28⟩) hHeld ?rest28
        case hy28 => intro X hSw; obtain ⟨g0, g1, g2, g3⟩ := hSw; go_simp <;> with_reducible rfl
        try simp only [Act.put, List.setIfInBounds_toArray, List.set_cons_zero, List.set_cons_succ]
        refine takeHr (i := 13) (d := some 52) (v := ?v29) rfl rfl (by kernel_rfl) (by kernel_rfl) (by kernel_rfl) (fun _ _ _ h => h) (Or.inl ⟨by rfl, ?hy29⟩) hHeld ?rest29
        case hy29 => intro X hSw; obtain ⟨g0, g1, g2, g3⟩ := hSw; go_simp <;> with_reducible rfl
        try simp only [Act.put, List.setIfInBounds_toArray, List.set_cons_zero, List.set_cons_succ]
        refine wpAnyH_ready (rs := [14]) (by kernel_rfl) (by simp) ?_
        refine AllReadyH.cons (o := { dst := some 53, op := Op.call { callee := Callee.value (Operand.func 21), args := #[Operand.tmp 50, Operand.tmp 52], argTypes := #[39, 39] }, type := 4, pos := "law.go:135", after := #[{ on := 11, ground := Ground.data }, { on := 13, ground := Ground.data }, { on := 8, ground := Ground.chain }, { on := 8, ground := Ground.guard }], guard := some (8, true) }) rfl (fun Kq hKq => ?_) AllReadyH.nil
        · go_simp
          refine (SJ.out w8 (bt hb7 hb8)).mono ?_
          rintro e w9 ⟨rfl, hb9⟩
          refine hKq.out _ _ ⟨cell_below hHeld.1 hb9, cell_below hHeld.2.1 hb9, cell_below hHeld.2.2.1 hb9, cell_below hHeld.2.2.2 hb9⟩ (fun hHeld => ?_)
          clear hKq Kq
          try simp only [Act.put, List.setIfInBounds_toArray, List.set_cons_zero, List.set_cons_succ]
          refine takeHr (i := 15) (d := some 54) (v := ?v31) rfl rfl (by kernel_rfl) (by kernel_rfl) (by kernel_rfl) (fun _ _ _ h => h) (Or.inl ⟨by rfl, ?hy31⟩) hHeld ?rest31
          case hy31 => intro X hSw; obtain ⟨g0, g1, g2, g3⟩ := hSw; go_simp <;> with_reducible rfl
          try simp only [Act.put, List.setIfInBounds_toArray, List.set_cons_zero, List.set_cons_succ]
          refine takeHr (i := 16) (d := some 55) (v := ?v32) rfl rfl (by kernel_rfl) (by kernel_rfl) (by kernel_rfl) (fun _ _ _ h => h) (Or.inl ⟨by rfl, ?hy32⟩) hHeld ?rest32
          case hy32 => intro X hSw; obtain ⟨g0, g1, g2, g3⟩ := hSw; go_simp <;> with_reducible rfl
          try simp only [Act.put, List.setIfInBounds_toArray, List.set_cons_zero, List.set_cons_succ]
          refine takeHr (i := 17) (d := some 56) (v := ?v33) rfl rfl (by kernel_rfl) (by kernel_rfl) (by kernel_rfl) (fun _ _ _ h => h) (Or.inl ⟨by rfl, ?hy33⟩) hHeld ?rest33
          case hy33 => intro X hSw; obtain ⟨g0, g1, g2, g3⟩ := hSw; go_simp <;> with_reducible rfl
          try simp only [Act.put, List.setIfInBounds_toArray, List.set_cons_zero, List.set_cons_succ]
          refine takeHr (i := 18) (d := some 57) (v := ?v34) rfl rfl (by kernel_rfl) (by kernel_rfl) (by kernel_rfl) (fun _ _ _ h => h) (Or.inl ⟨by rfl, ?hy34⟩) hHeld ?rest34
          case hy34 => intro X hSw; obtain ⟨g0, g1, g2, g3⟩ := hSw; go_simp <;> with_reducible rfl
          try simp only [Act.put, List.setIfInBounds_toArray, List.set_cons_zero, List.set_cons_succ]
          refine takeHr (i := 19) (d := some 58) (v := ?v35) rfl rfl (by kernel_rfl) (by kernel_rfl) (by kernel_rfl) (fun _ _ _ h => h) (Or.inl ⟨by rfl, ?hy35⟩) hHeld ?rest35
          case hy35 => intro X hSw; obtain ⟨g0, g1, g2, g3⟩ := hSw; go_simp <;> with_reducible rfl
          try simp only [Act.put, List.setIfInBounds_toArray, List.set_cons_zero, List.set_cons_succ]
          refine takeHr (i := 20) (d := some 59) (v := ?v36) rfl rfl (by kernel_rfl) (by kernel_rfl) (by kernel_rfl) (fun _ _ _ h => h) (Or.inl ⟨by rfl, ?hy36⟩) hHeld ?rest36
          case hy36 => intro X hSw; obtain ⟨g0, g1, g2, g3⟩ := hSw; go_simp <;> with_reducible rfl
          try simp only [Act.put, List.setIfInBounds_toArray, List.set_cons_zero, List.set_cons_succ]
          refine takeHr (i := 21) (d := some 60) (v := ?v37) rfl rfl (by kernel_rfl) (by kernel_rfl) (by kernel_rfl) (fun _ _ _ h => h) (Or.inl ⟨by rfl, ?hy37⟩) hHeld ?rest37
          case hy37 => intro X hSw; obtain ⟨g0, g1, g2, g3⟩ := hSw; go_simp <;> with_reducible rfl
          try simp only [Act.put, List.setIfInBounds_toArray, List.set_cons_zero, List.set_cons_succ]
          refine takeHr (i := 22) (d := some 61) (v := ?v38) rfl rfl (by kernel_rfl) (by kernel_rfl) (by kernel_rfl) (fun _ _ _ h => h) (Or.inl ⟨by rfl, ?hy38⟩) hHeld ?rest38
          case hy38 => intro X hSw; obtain ⟨g0, g1, g2, g3⟩ := hSw; go_simp <;> with_reducible rfl
          try simp only [Act.put, List.setIfInBounds_toArray, List.set_cons_zero, List.set_cons_succ]
          refine takeHr (i := 23) (d := some 62) (v := ?v39) rfl rfl (by kernel_rfl) (by kernel_rfl) (by kernel_rfl) (fun _ _ _ h => h) (Or.inl ⟨by rfl, ?hy39⟩) hHeld ?rest39
          case hy39 => intro X hSw; obtain ⟨g0, g1, g2, g3⟩ := hSw; go_simp <;> with_reducible rfl
          try simp only [Act.put, List.setIfInBounds_toArray, List.set_cons_zero, List.set_cons_succ]
          refine takeHr (i := 24) (d := some 63) (v := ?v40) rfl rfl (by kernel_rfl) (by kernel_rfl) (by kernel_rfl) (fun _ _ _ h => h) (Or.inl ⟨by rfl, ?hy40⟩) hHeld ?rest40
          case hy40 => intro X hSw; obtain ⟨g0, g1, g2, g3⟩ := hSw; go_simp <;> with_reducible rfl
          try simp only [Act.put, List.setIfInBounds_toArray, List.set_cons_zero, List.set_cons_succ]
          refine takeHr (i := 25) (d := some 64) (v := ?v41) rfl rfl (by kernel_rfl) (by kernel_rfl) (by kernel_rfl) (fun _ _ _ h => h) (Or.inl ⟨by rfl, ?hy41⟩) hHeld ?rest41
          case hy41 => intro X hSw; obtain ⟨g0, g1, g2, g3⟩ := hSw; go_simp <;> with_reducible rfl
          try simp only [Act.put, List.setIfInBounds_toArray, List.set_cons_zero, List.set_cons_succ]
          refine takeHr (i := 26) (d := some 65) (v := ?v42) rfl rfl (by kernel_rfl) (by kernel_rfl) (by kernel_rfl) (fun _ _ _ h => h) (Or.inl ⟨by rfl, ?hy42⟩) hHeld ?rest42
          case hy42 => intro X hSw; obtain ⟨g0, g1, g2, g3⟩ := hSw; go_simp <;> with_reducible rfl
          try simp only [Act.put, List.setIfInBounds_toArray, List.set_cons_zero, List.set_cons_succ]
          refine takeHr (i := 27) (d := some 66) (v := ?v43) rfl rfl (by kernel_rfl) (by kernel_rfl) (by kernel_rfl) (fun _ _ _ h => h) (Or.inl ⟨by rfl, ?hy43⟩) hHeld ?rest43
          case hy43 => intro X hSw; obtain ⟨g0, g1, g2, g3⟩ := hSw; go_simp <;> with_reducible rfl
          try simp only [Act.put, List.setIfInBounds_toArray, List.set_cons_zero, List.set_cons_succ]
          refine takeHr (i := 28) (d := some 67) (v := ?v44) rfl rfl (by kernel_rfl) (by kernel_rfl) (by kernel_rfl) (fun _ _ _ h => h) (Or.inl ⟨by rfl, ?hy44⟩) hHeld ?rest44
          case hy44 => intro X hSw; obtain ⟨g0, g1, g2, g3⟩ := hSw; go_simp <;> with_reducible rfl
          try simp only [Act.put, List.setIfInBounds_toArray, List.set_cons_zero, List.set_cons_succ]
          refine takeHr (i := 29) (d := some 68) (v := ?v45) rfl rfl (by kernel_rfl) (by kernel_rfl) (by kernel_rfl) (fun _ _ _ h => h) (Or.inl ⟨by rfl, ?hy45⟩) hHeld ?rest45
          case hy45 => intro X hSw; obtain ⟨g0, g1, g2, g3⟩ := hSw; go_simp <;> with_reducible rfl
          try simp only [Act.put, List.setIfInBounds_toArray, List.set_cons_zero, List.set_cons_succ]
          refine takeHr (i := 30) (d := some 69) (v := ?v46) rfl rfl (by kernel_rfl) (by kernel_rfl) (by kernel_rfl) (fun _ _ _ h => h) (Or.inl ⟨by rfl, ?hy46⟩) hHeld ?rest46
          case hy46 => intro X hSw; obtain ⟨g0, g1, g2, g3⟩ := hSw; go_simp <;> with_reducible rfl
          try simp only [Act.put, List.setIfInBounds_toArray, List.set_cons_zero, List.set_cons_succ]
          refine takeHr (i := 31) (d := some 70) (v := ?v47) rfl rfl (by kernel_rfl) (by kernel_rfl) (by kernel_rfl) (fun _ _ _ h => h) (Or.inl ⟨by rfl, ?hy47⟩) hHeld ?rest47
          case hy47 => intro X hSw; obtain ⟨g0, g1, g2, g3⟩ := hSw; go_simp <;> with_reducible rfl
          try simp only [Act.put, List.setIfInBounds_toArray, List.set_cons_zero, List.set_cons_succ]
          refine takeHr (i := 32) (d := some 71) (v := ?v48) rfl rfl (by kernel_rfl) (by kernel_rfl) (by kernel_rfl) (fun _ _ _ h => h) (Or.inl ⟨by rfl, ?hy48⟩) hHeld ?rest48
          case hy48 => intro X hSw; obtain ⟨g0, g1, g2, g3⟩ := hSw; go_simp <;> with_reducible rfl
          try simp only [Act.put, List.setIfInBounds_toArray, List.set_cons_zero, List.set_cons_succ]
          refine takeHr (i := 33) (d := some 72) (v := ?v49) rfl rfl (by kernel_rfl) (by kernel_rfl) (by kernel_rfl) (fun _ _ _ h => h) (Or.inl ⟨by rfl, ?hy49⟩) hHeld ?rest49
          case hy49 => intro X hSw; obtain ⟨g0, g1, g2, g3⟩ := hSw; go_simp <;> with_reducible rfl
          try simp only [Act.put, List.setIfInBounds_toArray, List.set_cons_zero, List.set_cons_succ]
          refine takeHr (i := 34) (d := some 73) (v := ?v50) rfl rfl (by kernel_rfl) (by kernel_rfl) (by kernel_rfl) (fun _ _ _ h => h) (Or.inl ⟨by rfl, ?hy50⟩) hHeld ?rest50
          case hy50 => intro X hSw; obtain ⟨g0, g1, g2, g3⟩ := hSw; go_simp <;> with_reducible rfl
          try simp only [Act.put, List.setIfInBounds_toArray, List.set_cons_zero, List.set_cons_succ]
          refine takeHr (i := 35) (d := some 74) (v := ?v51) rfl rfl (by kernel_rfl) (by kernel_rfl) (by kernel_rfl) (fun _ _ _ h => h) (Or.inl ⟨by rfl, ?hy51⟩) hHeld ?rest51
          case hy51 => intro X hSw; obtain ⟨g0, g1, g2, g3⟩ := hSw; go_simp <;> with_reducible rfl
          try simp only [Act.put, List.setIfInBounds_toArray, List.set_cons_zero, List.set_cons_succ]
          refine takeHr (i := 36) (d := some 75) (v := ?v52) rfl rfl (by kernel_rfl) (by kernel_rfl) (by kernel_rfl) (fun _ _ _ h => h) (Or.inl ⟨by rfl, ?hy52⟩) hHeld ?rest52
          case hy52 => intro X hSw; obtain ⟨g0, g1, g2, g3⟩ := hSw; go_simp <;> with_reducible rfl
          try simp only [Act.put, List.setIfInBounds_toArray, List.set_cons_zero, List.set_cons_succ]
          refine takeHr (i := 37) (d := some 76) (v := ?v53) rfl rfl (by kernel_rfl) (by kernel_rfl) (by kernel_rfl) (fun _ _ _ h => h) (Or.inl ⟨by rfl, ?hy53⟩) hHeld ?rest53
          case hy53 => intro X hSw; obtain ⟨g0, g1, g2, g3⟩ := hSw; go_simp <;> with_reducible rfl
          try simp only [Act.put, List.setIfInBounds_toArray, List.set_cons_zero, List.set_cons_succ]
          refine takeHr (i := 38) (d := some 77) (v := ?v54) rfl rfl (by kernel_rfl) (by kernel_rfl) (by kernel_rfl) (fun _ _ _ h => h) (Or.inl ⟨by rfl, ?hy54⟩) hHeld ?rest54
          case hy54 => intro X hSw; obtain ⟨g0, g1, g2, g3⟩ := hSw; go_simp <;> with_reducible rfl
          try simp only [Act.put, List.setIfInBounds_toArray, List.set_cons_zero, List.set_cons_succ]
          refine takeHr (i := 39) (d := some 4) (v := ?v55) rfl rfl (by kernel_rfl) (by kernel_rfl) (by kernel_rfl) (fun _ _ _ h => h) (Or.inl ⟨by rfl, ?hy55⟩) hHeld ?rest55
          case hy55 => intro X hSw; obtain ⟨g0, g1, g2, g3⟩ := hSw; go_simp <;> with_reducible rfl
          try simp only [Act.put, List.setIfInBounds_toArray, List.set_cons_zero, List.set_cons_succ]
          refine wpAnyH_done (by kernel_rfl) ?_ _
          go_wp2_with (fail)
          go_ret
          exact ⟨by simp, bt HBf.out (bt (bt hb7 hb8) hb9)⟩
end
end Go.Proofs.Ytcoegbbhmdbafaa
