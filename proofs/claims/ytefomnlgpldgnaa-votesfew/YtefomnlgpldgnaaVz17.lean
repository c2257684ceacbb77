/-
  The document's own functions of layer 17: Shown, Filled.
-/
import Derived.Test.YtefomnlgpldgnaaVy17
namespace Go.Proofs.Ytefomnlgpldgnaa
open Go.RowKit
/-- A place that shows a writing; one that shows nothing. -/
def snW (k : Wg) : Sn := { sn0 with kd := 2, hd := { sn0.hd with ep := k.1, ct := k.2.1, sz := k.2.2 } }
def snN : Sn := { sn0 with kd := 1 }
theorem run_storeVar_atV {P : Program} (w : World) (g o : Nat) (t ty : TypeId) (old cells : Array Value) (v : Value) (hv : v.cells = cells) (hg : w.heap[g]? = some (.cells old t (0, 0))) (hi : (P.info? ty).map (·.size) = some cells.size)
    (ho : o + cells.size ≤ old.size) (h1 : cells.all (·.oneCell') = true) :
    (storeVar ty ⟨g, o, none⟩ v).run P w = .ok () (w.setRow g (old.toList.take o ++ cells.toList ++ old.toList.drop (o + cells.size)).toArray) := by
  have := run_storeCells_at (P := P) g o t cells.toList 0 old w hg (by simp; omega) (fun v hv => (Array.all_eq_true_iff_forall_mem.1 h1) v (by simpa using hv))
  cases hq : P.info? ty with
  | none => simp [hq] at hi
  | some i =>
    have hs : cells.size = i.size := by simp [hq] at hi; omega
    simp [storeVar, sizeOf, typeInfo, hq, hv, hs, this]
/-- A part of a struct is written. -/
theorem wpList_stP {w : World} {ops : Array Oper} {rest : List Oper} {o : Oper} {a : Act} {Q : Exit → Act → World → Prop} {t ty : TypeId} {cs : Array Value} (cs' : Array Value) (hgd : o.guard = none) (x y : Operand) (ho : o.op = .store ty x y) (hd : o.dst = none) (g of : Nat) (hx : a.eval x = .pointer (some ⟨g, of, none⟩)) (v : Value) (hy : a.eval y = v) (cells : Array Value) (hc : v.cells = cells) (H : GB w g t cs) (hs : (Try.prog.info? ty).map (·.size) = some cells.size) (hb : of + cells.size ≤ cs.size) (h1 : cells.all (·.oneCell') = true) (he : (cs.toList.take of ++ cells.toList ++ cs.toList.drop (of + cells.size)).toArray = cs')
    (k : ∀ w', GB w' g t cs' → w.grownBy w' (some g) → Hid (w'.heap.size = w.heap.size) → wpList Try.prog ops Q rest a w') : wpList Try.prog ops Q (o :: rest) a w := by
  refine wpList_plain hgd fun K hK => ?_
  have hr := run_storeVar_atV (P := Try.prog) w g of t ty cs cells v hc H hs hb h1
  rw [he] at hr
  have h2 := k (w.setRow g cs') (by unfold GB at H ⊢; exact setRow_heap w g _ _ _ _ H) ⟨rfl, rfl, rfl, by simp, fun k _ hk => setRow_other w g k _ (fun e => hk (by rw [e]))⟩ (by show _ = _; simp)
  unfold Oper.wp execOp
  simp only [ho, hx, hy, Instr.storeAt, Instr.sureAddr, Sem.run_bind, Sem.run_pure, Result.andThen_ok, hr]
  have e : a.put o.dst undef = a := by rw [hd]; rfl
  have h3 := hK _ _ h2
  rw [← e] at h3
  exact h3
theorem size_Gn : (Try.prog.info? 31).map (·.size) = some 2 := by kernel_rfl
theorem size_I : (Try.prog.info? 3).map (·.size) = some 1 := by kernel_rfl
theorem one1 (z : Int) : (#[Value.int .i64 z].all (·.oneCell')) = true := by simp [show ∀ k z, (Value.int k z).oneCell' = true from fun _ _ => rfl]
theorem one2 (z y : Int) : (#[Value.int .i64 z, Value.int .i64 y].all (·.oneCell')) = true := by simp [show ∀ k z, (Value.int k z).oneCell' = true from fun _ _ => rfl]
def snA : Sn := { sn0 with kd := 2 }
def snB (k : Wg) : Sn := { sn0 with kd := 2, hd := { sn0.hd with ep := k.1, ct := k.2.1 } }
section
attribute [local irreducible] Calls GB Sn.cs
set_option maxHeartbeats 16000000 in
set_option maxRecDepth 1000000 in
theorem rshown_any (k : Wg) (w : World) :
    Calls Try.prog 16 #[.agg #[.int .i64 k.1, .int .i64 k.2.1], .int .i64 k.2.2] w fun e w' => e = .returned (.agg (snW k).cs) ∧ Below w.heap.size w w' := by
  have E1 := (show Hid ((sn0.cs.toList.take 0 ++ #[Value.int .i64 2].toList ++ sn0.cs.toList.drop (0 + #[Value.int .i64 2].size)).toArray = snA.cs) from by show _ = _; unfold Sn.cs; rfl)
  have E2 := (show Hid ((snA.cs.toList.take 15 ++ #[Value.int .i64 k.1, .int .i64 k.2.1].toList ++ snA.cs.toList.drop (15 + #[Value.int .i64 k.1, .int .i64 k.2.1].size)).toArray = (snB k).cs) from by show _ = _; unfold Sn.cs; rfl)
  have E3 := (show Hid (((snB k).cs.toList.take 13 ++ #[Value.int .i64 k.2.2].toList ++ (snB k).cs.toList.drop (13 + #[Value.int .i64 k.2.2].size)).toArray = (snW k).cs) from by show _ = _; unfold Sn.cs; rfl)
  have Z1 := (show Hid (0 + #[Value.int .i64 2].size ≤ sn0.cs.size) from by show _ ≤ _; unfold Sn.cs; decide)
  have Z2 := (show Hid (15 + #[Value.int .i64 k.1, .int .i64 k.2.1].size ≤ snA.cs.size) from by show 17 ≤ _; unfold Sn.cs; show 17 ≤ 19; decide)
  have Z3 := (show Hid (13 + #[Value.int .i64 k.2.2].size ≤ (snB k).cs.size) from by show 14 ≤ _; unfold Sn.cs; show 14 ≤ 19; decide)
  go_enter Try.func16, Try.ntmps16
  go_wp2_with (first
    | (refine wpList_bxB rfl _ rfl rfl ?_; intro w1 hG1 hb1 hs1; have HS1 := (show Hid (w.heap.size < w1.heap.size) from by have := hs1.out; show _ < _; omega))
    | (refine wpList_stP snA.cs rfl _ _ rfl rfl w2.heap.size 0 rfl (.int .i64 2) rfl #[.int .i64 2] rfl hG3 size_I Z1.out (one1 _) E1.out ?_; intro w4 hG4 hg4 hs4; have hGs := ((hG1.below hb2).below hb3).kept hg4 (fun e => by injection e with e; have := HS1.out; have := hb2.size; omega); clear hG3)
    | (refine wpList_ldB rfl _ rfl w.heap.size rfl hGs Try.underlying31 size_Gn ?_)
    | (refine wpList_stP (snB k).cs rfl _ _ rfl rfl w2.heap.size 15 rfl (.agg #[.int .i64 k.1, .int .i64 k.2.1]) rfl #[.int .i64 k.1, .int .i64 k.2.1] rfl hG4 size_Gn Z2.out (one2 _ _) E2.out ?_; intro w5 hG5 hg5 hs5; clear hG4)
    | (refine wpList_stP (snW k).cs rfl _ _ rfl rfl w2.heap.size 13 rfl (.int .i64 k.2.2) rfl #[.int .i64 k.2.2] rfl hG5 size_I Z3.out (one1 _) E3.out ?_; intro w6 hG6 hg6 hs6; clear hG5; have hN2 : (some w2.heap.size : Option Nat) ≠ some w1.heap.size := (fun e => by injection e with e; have := hs2.out; omega); have hGr := ((hGo.kept hg4 hN2).kept hg5 hN2).kept hg6 hN2; clear hN2)
    | (refine wpList_ldB rfl _ rfl w2.heap.size rfl hG6 Try.underlying39 (size_SnS _) ?_)
    | (refine wpList_stB (cs := (snW k).cs) rfl _ _ rfl rfl w1.heap.size rfl rfl hGr (size_SnS _) (snC_same _ _) (snC_one _ rfl) ?_; intro w7 hG7 hg7 hs7)
    | (refine wpList_alB rfl rfl zero_Sn ?_; first | (intro w3 hG3 hb3 hs3; have hGo := hG2.below hb3) | (intro w2 hG2 hb2 hs2)))
  refine bodyPost_ret (res_B rfl _ _ w1.heap.size rfl hG7 Try.underlying39 (size_SnS _)) rfl ?_
  have B3 := bt (bt hb1 hb2) hb3
  have l2 : w.heap.size ≤ w2.heap.size := Nat.le_trans hb1.size hb2.size
  have B4 := grown_below B3 hg4 B3.size l2
  have B5 := grown_below B4 hg5 B4.size l2
  have B6 := grown_below B5 hg6 B5.size l2
  exact ⟨rfl, grown_below B6 hg7 B6.size hb1.size⟩
end
/-- Each hidden place shows this instead. -/
def fl (ss : Nat → Sn) (s : Sn) (i : Nat) : Sn := if hdn (shs ss) i = true then s else ss i
/-- A list that is filled so. -/
def Fd (w : World) (v : Value) (n : Nat) (ss : Nat → Sn) (s : Sn) : Prop := ∃ p' c' ss', v = .slice p' n c' ∧ SnL w p' n ss' ∧ ∀ i, i < n → ss' i = fl ss s i
theorem fl_add {ss : Nat → Sn} {s : Sn} {es : List Sn} {t : Nat} (h : es.length = t ∧ ∀ i, i < t → es.getD i sn0 = fl ss s i) {e : Sn} (he : fl ss s t = e) : (es ++ [e]).length = t + 1 ∧ ∀ i, i < t + 1 → (es ++ [e]).getD i sn0 = fl ss s i := by
  refine ⟨by rw [List.length_append, h.1]; rfl, fun i hi => ?_⟩
  by_cases hlt : i < t
  · rw [← h.2 i hlt]
    simp [List.getD, List.getElem?_append_left (show i < es.length by omega)]
  · have e1 : i = es.length := by omega
    rw [e1, ← he, h.1]
    simp [List.getD, ← h.1]
theorem os_snl {w : World} {B : Nat} {v : Value} {es : List Sn} (h : Os w B v es) : ∃ p cap, v = .slice p es.length cap ∧ SnL w p es.length (fun i => es.getD i sn0) := by
  have h' := h
  unfold Os at h'
  rcases h'.2 with ⟨e, e0⟩ | ⟨g, cap, cur, hv, _⟩
  · exact ⟨none, 0, by rw [e, e0], .inl e0⟩
  · subst hv
    exact ⟨_, cap, rfl, .inr ⟨g, 0, rfl, fun i hi => by rw [Nat.zero_add]; exact os_at h hi⟩⟩
section
attribute [local irreducible] Calls GB Sn.cs Os
end
end Go.Proofs.Ytefomnlgpldgnaa
