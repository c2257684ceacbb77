/-
  Layer 17's laws: 'shown', 'awake'.
-/
import Derived.Test.YtefomnlgpldgnaaCd17
import Derived.Test.YtefomnlgpldgnaaMv17
namespace Go.Proofs.Ytefomnlgpldgnaa
open Go.RowKit
section
attribute [local irreducible] Calls GB Sn.cs
set_option maxHeartbeats 16000000 in
set_option maxRecDepth 1000000 in
theorem shown_any (c s : Int) (w : World) :
    Calls Try.prog 17 #[.int .i64 c, .int .i64 s] w fun e w' => e = .returned (.agg (snW (1, c, s)).cs) ∧ Below w.heap.size w w' := by
  go_enter Try.func17, Try.ntmps17
  go_wp2_with (first
    | (refine wpList_alB rfl rfl zero_Sn ?_; intro w1 hG1 hb1 hs1)
    | (go_at_call 16; refine (rshown_any (1, c, s) _).mono ?_; rintro e w2 ⟨rfl, hb2⟩; have hG2 := hG1.below hb2)
    | (refine wpList_stB (cs := (snW (1, c, s)).cs) rfl _ _ rfl rfl w.heap.size rfl rfl hG2 (size_SnS _) (snC_same _ _) (snC_one _ rfl) ?_; intro w3 hG3 hg3 hs3))
  refine bodyPost_ret (res_B rfl _ _ w.heap.size rfl hG3 Try.underlying39 (size_SnS _)) rfl ?_
  have B2 := bt hb1 hb2
  exact ⟨rfl, grown_below B2 hg3 B2.size (Nat.le_refl _)⟩
end
/-- Three places. -/
def l3 (a b c : Sn) : Nat → Sn := fun i => [a, b, c].getD i sn0
theorem fill57 (a b c : Sn) : Instr.fill (fun i => some (i * 19, 19)) ((Array.range (3 * 19)).map ((Value.agg sn0.cs).cells[· % (Value.agg sn0.cs).cells.size]!)) [(0, .agg a.cs), (1, .agg b.cs), (2, .agg c.cs)] = some (a.cs ++ b.cs ++ c.cs) := by kernel_rfl
theorem snl3 {w : World} {g : Nat} {a b c : Sn} (H : GB w g 39 (a.cs ++ b.cs ++ c.cs)) : SnL w (some ⟨g, 0, none⟩) 3 (l3 a b c) := by
  refine .inr ⟨g, 0, rfl, fun i hi j u hj => ?_⟩
  rw [H.cell]
  have hz : ∀ s : Sn, s.cs.size = 19 := fun _ => rfl
  have hj19 : j < 19 := by
    rcases Nat.lt_or_ge j 19 with h | h
    · exact h
    · rw [List.getElem?_eq_none (by exact h)] at hj; cases hj
  match i, hi with
  | 0, _ =>
    rw [Array.getElem?_append_left (by rw [Array.size_append, hz, hz]; omega), Array.getElem?_append_left (by rw [hz]; omega), Nat.zero_mul, Nat.zero_add]
    simpa [l3] using hj
  | 1, _ =>
    rw [Array.getElem?_append_left (by rw [Array.size_append, hz, hz]; omega), Array.getElem?_append_right (by rw [hz]; omega), hz, show 0 + 1 * 19 + j - 19 = j by omega]
    simpa [l3] using hj
  | 2, _ =>
    rw [Array.getElem?_append_right (by rw [Array.size_append, hz, hz]; omega), Array.size_append, hz, hz, show 0 + 2 * 19 + j - (19 + 19) = j by omega]
    simpa [l3] using hj
theorem wpList_bs3 {w : World} {ops : Array Oper} {rest : List Oper} {o : Oper} {a : Act} {Q : Exit → Act → World → Prop} (hgd : o.guard = none) (x y z : Operand) (ho : o.op = .buildSlice 24 3 #[(0, x), (1, y), (2, z)]) (e f g : Sn) (hx : a.eval x = .agg e.cs) (hy : a.eval y = .agg f.cs) (hz : a.eval z = .agg g.cs)
    (h : ∀ w', SnL w' (some ⟨w.heap.size, 0, none⟩) 3 (l3 e f g) → Below w.heap.size w w' → Hid (w'.heap.size = w.heap.size + 1) → wpList Try.prog ops Q rest (a.put o.dst (.slice (some ⟨w.heap.size, 0, none⟩) 3 3)) w') : wpList Try.prog ops Q (o :: rest) a w := by
  obtain ⟨i0, hi, hz0, hz1, hz2⟩ := info_parts infoS
  refine wpList_buildSlice hgd 24 39 3 #[(0, x), (1, y), (2, z)] ho (e.cs ++ f.cs ++ g.cs) i0 (.agg sn0.cs) Try.underlying24 hi hz0 (by rw [hz1]; decide) (by rw [hz1]; decide) ?_ (h _ (snl3 (GB.new w _ _)) ((Below.refl _ _).alloc (Nat.le_refl _) _) (by show _ = _; simp))
  rw [hz1]
  simp only [List.map_toArray, List.map_cons, List.map_nil, hx, hy, hz]
  exact fill57 e f g
theorem zero_Sp (w : World) : (zeroValue 23).run Try.prog w = .ok (.agg (shC 0 0 0)) w := by kernel_rfl
theorem shC_one (k m b : Int) : ((shC k m b).all fun x => x.oneCell') = true := by simp [shC, Value.oneCell']
def snD (k : Int) : Sn := { sn0 with kd := k }
def ssA : Nat → Sn := l3 (snW (1, 9, 5)) (snW (1, 3, 5)) (snW (1, 3, 5))
def ssN : Nat → Sn := l3 (snD 1) (snD 1) (snD 1)
def ssD : Nat → Sn := l3 (snD 4) (snD 1) (snD 3)
theorem jA : jdg 2 1 1 (shs ssA) 3 = ⟨1, (1, 3, 5), [1, 2]⟩ := rfl
theorem jN : jdg 2 1 1 (shs ssN) 3 = ⟨2, (0, 0, 0), []⟩ := rfl
theorem jD : jdg 2 1 1 (shs ssD) 3 = ⟨3, (0, 0, 0), []⟩ := rfl
theorem gA : grps (shs ssA) 3 = [((1, 9, 5), [0]), ((1, 3, 5), [1, 2])] := rfl
theorem hA17 : hid (shs ssA) 3 = 0 := rfl
theorem pA : pss 2 0 [((1, 9, 5), [0]), ((1, 3, 5), [1, 2])] = ([((1, 3, 5), [1, 2])], false) := rfl
theorem sA : stl ssA 3 1 (1, 3, 5) = [0] := rfl
theorem inW3 {a b c : Sn} (ha : InW a.wg) (hb : InW b.wg) (hc : InW c.wg) : ∀ i, i < 3 → InW (l3 a b c i).wg := fun i hi => by
  match i, hi with
  | 0, _ => exact ha
  | 1, _ => exact hb
  | 2, _ => exact hc
theorem in64s (z : Int) (h : 0 ≤ z) (h' : z ≤ 9) : In64 z := by unfold In64; omega
theorem inWs (c : Int) (h : 0 ≤ c) (h' : c ≤ 9) : InW (snW (1, c, 5)).wg := ⟨in64s 1 (by decide) (by decide), in64s c h h', in64s 5 (by decide) (by decide)⟩
theorem inWd (k : Int) : InW (snD k).wg := ⟨in64s 0 (by decide) (by decide), in64s 0 (by decide) (by decide), in64s 0 (by decide) (by decide)⟩
theorem inA : ∀ i, i < 3 → InW (ssA i).wg := inW3 (inWs 9 (by decide) (by decide)) (inWs 3 (by decide) (by decide)) (inWs 3 (by decide) (by decide))
theorem inN : ∀ i, i < 3 → InW (ssN i).wg := inW3 (inWd _) (inWd _) (inWd _)
theorem inD : ∀ i, i < 3 → InW (ssD i).wg := inW3 (inWd _) (inWd _) (inWd _)
theorem one3 {a b c : Sn} (ha : a.bv.oneCell' = true) (hb : b.bv.oneCell' = true) (hc : c.bv.oneCell' = true) : ∀ i, i < 3 → (l3 a b c i).bv.oneCell' = true := fun i hi => by
  match i, hi with
  | 0, _ => exact ha
  | 1, _ => exact hb
  | 2, _ => exact hc
theorem judA {W : World} {p : Option Addr} (H : SnL W p 3 ssA) : Calls Try.prog 10 #[.agg (shC 2 1 1), .slice p 3 3] W fun e w' => ∃ pv, e = .returned (.agg (vdC 1 (1, 3, 5) pv)) ∧ On w' W.heap.size pv [1, 2] ∧ Below W.heap.size W w' := by
  have h := judge_any 2 1 1 (by unfold In64; omega) (c := 3) H (by omega) inA (one3 rfl rfl rfl)
  rw [jA] at h
  exact h
theorem judN {W : World} {p : Option Addr} (H : SnL W p 3 ssN) : Calls Try.prog 10 #[.agg (shC 2 1 1), .slice p 3 3] W fun e w' => ∃ pv, e = .returned (.agg (vdC 2 (0, 0, 0) pv)) ∧ On w' W.heap.size pv [] ∧ Below W.heap.size W w' := by
  have h := judge_any 2 1 1 (by unfold In64; omega) (c := 3) H (by omega) inN (one3 rfl rfl rfl)
  rw [jN] at h
  exact h
theorem judD {W : World} {p : Option Addr} (H : SnL W p 3 ssD) : Calls Try.prog 10 #[.agg (shC 2 1 1), .slice p 3 3] W fun e w' => ∃ pv, e = .returned (.agg (vdC 3 (0, 0, 0) pv)) ∧ On w' W.heap.size pv [] ∧ Below W.heap.size W w' := by
  have h := judge_any 2 1 1 (by unfold In64; omega) (c := 3) H (by omega) inD (one3 rfl rfl rfl)
  rw [jD] at h
  exact h
theorem grpA {W : World} {p : Option Addr} (H : SnL W p 3 ssA) : Calls Try.prog 13 #[.slice p 3 3] W fun e w' => ∃ g cap, e = .returned (.slice (some ⟨g, 0, none⟩) 2 cap) ∧ w'.cell? ⟨g, 1, none⟩ = some (.int .i64 9) ∧ Below W.heap.size W w' := by
  refine (groups_any (c := 3) H (by omega) inA).mono ?_
  rintro e w' ⟨g, cap, l, vs, rfl, hI, hV, hb⟩
  obtain rfl := hI.eq (isG_grps _ _)
  exact ⟨g, cap, rfl, hV.row 0 (by decide) 1 _ rfl, hb⟩
theorem posA {W : World} {p : Option Addr} (H : SnL W p 3 ssA) : Calls Try.prog 11 #[.agg (shC 2 1 1), .slice p 3 3] W fun e w' => ∃ q c, e = .returned (.tuple #[.slice q 1 c, .bool false]) ∧ Below W.heap.size W w' := by
  refine (possible_any 2 1 1 (by unfold In64; omega) (c := 3) H (by omega) inA (one3 rfl rfl rfl)).mono ?_
  rintro e w' ⟨v, he, hR, hb⟩
  rw [gA, hA17, pA] at he hR
  obtain ⟨q, c, _, _, rfl, _⟩ := hR
  exact ⟨q, c, he, hb⟩
theorem staA {W : World} {p : Option Addr} (H : SnL W p 3 ssA) (pv : Value) : Calls Try.prog 14 #[.slice p 3 3, .agg (vdC 1 (1, 3, 5) pv)] W fun e w' => ∃ v, e = .returned v ∧ On w' W.heap.size v [0] ∧ Below W.heap.size W w' := by
  have h := stale_any (c := 3) H (by omega) (one3 rfl rfl rfl) 1 (1, 3, 5) pv
  rw [sA] at h
  exact h
theorem snD_cs (k : Int) : (Value.agg #[.int .i64 k, .int .u8 0, .int .u8 0, .int .u8 0, .int .u8 0, .int .u8 0, .int .u8 0, .int .u8 0, .int .u8 0, .int .i64 0, .int .i64 0, .int .i64 0, .string ⟨#[]⟩, .int .i64 0, .int .i64 0, .int .i64 0, .int .i64 0, .slice none 0 0, .int .i64 0]) = .agg (snD k).cs := rfl
theorem shC_211 : (Value.agg #[.int .i64 2, .int .i64 1, .int .i64 1]) = .agg (shC 2 1 1) := rfl
theorem shC_same (k m b k' m' b' : Int) : (shC k m b).size = (shC k' m' b').size := rfl
theorem on_one {w : World} {B : Nat} {v : Value} {L : List Nat} (h : On w B v L) : v.oneCell' = true := by
  obtain ⟨p, c, e⟩ := own_shape h
  rw [e]; rfl
theorem rn12 (w : World) : Rn (w.alloc (.cells #[.int .i64 1, .int .i64 2] 3)) (.slice (some ⟨w.heap.size, 0, none⟩) 2 2) [1, 2] :=
  ⟨_, 2, rfl, Nat.le_refl _, .inr ⟨w.heap.size, 0, rfl, fun i hi => by
    rw [cell_of_row _ w.heap.size (0 + i) _ _ (0, 0) (heap_alloc_new w _)]
    match i, hi with
    | 0, _ => rfl
    | 1, _ => rfl⟩⟩
theorem rn0 (w : World) : Rn (w.alloc (.cells #[.int .i64 0] 3)) (.slice (some ⟨w.heap.size, 0, none⟩) 1 1) [0] :=
  ⟨_, 1, rfl, Nat.le_refl _, .inr ⟨w.heap.size, 0, rfl, fun i hi => by
    rw [cell_of_row _ w.heap.size (0 + i) _ _ (0, 0) (heap_alloc_new w _)]
    match i, hi with
    | 0, _ => rfl⟩⟩
section
attribute [local irreducible] Calls GB Sn.cs shC On SnL vdC
set_option maxHeartbeats 16000000 in
set_option maxRecDepth 1000000 in
theorem awake_any (w : World) :
    Calls Try.prog 6 #[] w fun e w' => e = .returned (.bool true) ∧ Below w.heap.size w w' := by
  have al : ∀ (W : World) (o : Obj), Below W.heap.size W (W.alloc o) := fun W o => (Below.refl _ _).alloc (Nat.le_refl _) o
  go_enter Try.func6, Try.ntmps6
  go_wp2_with (first
    | (go_at_call 18; have hu := hb21; clear hu; refine (sameInts_any (L := [0]) ((HO20.out.rn.below hb21').below (al _ _)) (rn0 _) (by decide)).mono ?_; rintro e w22 ⟨rfl, hb22⟩)
    | (go_at_call 18; refine (sameInts_any (L := [1, 2]) ((HO7.out.rn.below (bt (bt HP9.out HB13.out) (bt HB17.out X.out))).below (al _ _)) (rn12 _) (by decide)).mono ?_; rintro e w21 ⟨rfl, hb21⟩; have hb21' := bt (al _ _) hb21; clear cV0 cV1 cV2 cV3 cV4 cN cD cG; have X := (show Hid (Below w17.heap.size w17 w21) from bt X.out hb21'); have Y := (show Hid (Below w18.heap.size w18 w21) from bt Y.out hb21'); have cN := ((HV13.out.below HB17.out).below X.out).cell 0; have cD := (HV17.out.below X.out).cell 0; have cG := cell_below HC18.out Y.out; unfold vdC at cN cD; simp only [List.getElem?_toArray, List.getElem?_cons_zero] at cN cD)
    | (go_at_call 14; refine (staA (HSA.out.below (bt HB9.out (bt HB13.out (bt HB17.out (bt hb18 hb19))))) pv7).mono ?_; rintro e w20 ⟨v20, rfl, hO20, hb20⟩; have HO20 := (show Hid (On w20 w19.heap.size v20 [0]) from hO20); have hV20 := hGV19.below hb20; have cV0 := hV20.cell 0; have cV1 := hV20.cell 1; have cV2 := hV20.cell 2; have cV3 := hV20.cell 3; have cV4 := hV20.cell 4; unfold vdC at cV0 cV1 cV2 cV3 cV4; simp only [List.getElem?_toArray, List.getElem?_cons_zero, List.getElem?_cons_succ] at cV0 cV1 cV2 cV3 cV4; have X := (show Hid (Below w17.heap.size w17 w20) from bt hb18 (bt hb19 hb20)); have Y := (show Hid (Below w18.heap.size w18 w20) from bt hb19 hb20); have cN := ((HV13.out.below HB17.out).below X.out).cell 0; have cD := (HV17.out.below X.out).cell 0; have cG := cell_below HC18.out Y.out; unfold vdC at cN cD; simp only [List.getElem?_toArray, List.getElem?_cons_zero] at cN cD; clear hO20 hV20 hGV19)
    | (refine wpList_ldB rfl _ rfl w7.heap.size rfl hGV19 Try.underlying42 (size_Vd' _ _ _) ?_)
    | (go_at_call 11; refine (posA (HSA.out.below (bt HB9.out (bt HB13.out (bt HB17.out hb18))))).mono ?_; rintro e w19 ⟨q19, c19, rfl, hb19⟩; have hGV19 := ((HV9.out.below (bt HB13.out HB17.out)).below hb18).below hb19; clear hGS18)
    | (refine wpList_ldB rfl _ rfl w.heap.size rfl hGS18 Try.underlying23 (size_Sp' _ _ _) ?_)
    | (go_at_call 13; refine (grpA (HSA.out.below (bt HB9.out (bt HB13.out HB17.out)))).mono ?_; rintro e w18 ⟨g18, cap18, rfl, hc18, hb18⟩; have hGS18 := hGS17.below hb18; have HC18 := (show Hid (w18.cell? ⟨g18, 1, none⟩ = some (.int .i64 9)) from hc18); clear hc18 hGS17)
    | (refine wpList_stB (cs := vdC 3 (0, 0, 0) pv15) rfl _ _ rfl rfl w15.heap.size rfl rfl hG16 (size_Vd' _ _ _) (vdC_same _ _ _ _ _ _) (vdC_one _ _ _ H115.out) ?_; intro w17 hV17 hg17 hs17; have HB17 := (show Hid (Below w13.heap.size w13 w17) from bt (bt hb14 hb15) (grown_below hb16 hg17 hb16.size (Nat.le_refl _))); have HP17 := (show Hid (Below w15.heap.size w15 w17) from grown_below hb16 hg17 hb16.size (Nat.le_refl _)); have HV17 := (show Hid (GB w17 w15.heap.size 42 (vdC 3 (0, 0, 0) pv15)) from hV17); have hGS17 := hGS13.below HB17.out; clear hs17 hg17 hG16 hb16 hb15 hV17 hGS13)
    | (refine wpList_alB rfl rfl vd0 ?_; intro w16 hG16 hb16 hs16; have hu := hb15; clear hu hs16)
    | (go_at_call 10; have hu := hb14; clear hu; refine (judD hS14).mono ?_; rintro e w15 ⟨pv15, rfl, hO15, hb15⟩; have HO15 := (show Hid (On w15 w14.heap.size pv15 []) from hO15); have H115 := (show Hid (pv15.oneCell' = true) from on_one hO15); clear hO15)
    | (refine wpList_bs3 rfl _ _ _ rfl (snD 4) (snD 1) (snD 3) (snD_cs _) (snD_cs _) (snD_cs _) ?_; intro w14 hS14 hb14 hs14; have hu := hGS13; clear hu hs14)
    | (refine wpList_ldB rfl _ rfl w.heap.size rfl hGS13 Try.underlying23 (size_Sp' _ _ _) ?_)
    | (refine wpList_stB (cs := vdC 2 (0, 0, 0) pv11) rfl _ _ rfl rfl w11.heap.size rfl rfl hG12 (size_Vd' _ _ _) (vdC_same _ _ _ _ _ _) (vdC_one _ _ _ H111.out) ?_; intro w13 hV13 hg13 hs13; have HB13 := (show Hid (Below w9.heap.size w9 w13) from bt (bt hb10 hb11) (grown_below hb12 hg13 hb12.size (Nat.le_refl _))); have HP13 := (show Hid (Below w11.heap.size w11 w13) from grown_below hb12 hg13 hb12.size (Nat.le_refl _)); have HV13 := (show Hid (GB w13 w11.heap.size 42 (vdC 2 (0, 0, 0) pv11)) from hV13); have hGS13 := hGS9.below HB13.out; clear hs13 hg13 hG12 hb12 hb11 hV13 hGS9)
    | (refine wpList_alB rfl rfl vd0 ?_; intro w12 hG12 hb12 hs12; have hu := hb11; clear hu hs12)
    | (go_at_call 10; have hu := hb10; clear hu; refine (judN hS10).mono ?_; rintro e w11 ⟨pv11, rfl, hO11, hb11⟩; have HO11 := (show Hid (On w11 w10.heap.size pv11 []) from hO11); have H111 := (show Hid (pv11.oneCell' = true) from on_one hO11); clear hO11)
    | (refine wpList_bs3 rfl _ _ _ rfl (snD 1) (snD 1) (snD 1) (snD_cs _) (snD_cs _) (snD_cs _) ?_; intro w10 hS10 hb10 hs10; have hu := hGS9; clear hu hs10)
    | (refine wpList_ldB rfl _ rfl w.heap.size rfl hGS9 Try.underlying23 (size_Sp' _ _ _) ?_)
    | (refine wpList_stB (cs := vdC 1 (1, 3, 5) pv7) rfl _ _ rfl rfl w7.heap.size rfl rfl hG8 (size_Vd' _ _ _) (vdC_same _ _ _ _ _ _) (vdC_one _ _ _ H17.out) ?_; intro w9 hV9 hg9 hs9; have HB9 := (show Hid (Below w6.heap.size w6 w9) from bt hb7 (grown_below hb8 hg9 hb8.size (Nat.le_refl _))); have HP9 := (show Hid (Below w7.heap.size w7 w9) from grown_below hb8 hg9 hb8.size (Nat.le_refl _)); have HV9 := (show Hid (GB w9 w7.heap.size 42 (vdC 1 (1, 3, 5) pv7)) from hV9); have hGS9 := hGS6.below HB9.out; clear hs9 hg9 hG8 hb8 hb7 hV9 hGS6)
    | (refine wpList_alB rfl rfl vd0 ?_; intro w8 hG8 hb8 hs8; have hu := hb7; clear hu hs8)
    | (go_at_call 10; have hu := HB6; clear hu; refine (judA HSA.out).mono ?_; rintro e w7 ⟨pv7, rfl, hO7, hb7⟩; have HO7 := (show Hid (On w7 w6.heap.size pv7 [1, 2]) from hO7); have H17 := (show Hid (pv7.oneCell' = true) from on_one hO7); clear hO7)
    | (refine wpList_ldB rfl _ rfl w.heap.size rfl hGS6 Try.underlying23 (size_Sp' _ _ _) ?_)
    | (refine wpList_bs3 rfl _ _ _ rfl (snW (1, 9, 5)) (snW (1, 3, 5)) (snW (1, 3, 5)) rfl rfl rfl ?_; intro w6 hSA hb6 hs6; have HSA := (show Hid (SnL w6 (some ⟨w5.heap.size, 0, none⟩) 3 ssA) from hSA); have HB6 := (show Hid (Below w2.heap.size w2 w6) from bt (bt hb3 hb4) (bt hb5 hb6)); have hGS6 := hGS.below HB6.out; clear hSA hb3 hb4 hb5 hb6 hs6 hGS)
    | (go_at_call 17; have hu := hb4; clear hu; refine (shown_any 3 5 _).mono ?_; rintro e w5 ⟨rfl, hb5⟩)
    | (go_at_call 17; have hu := hb3; clear hu; refine (shown_any 3 5 _).mono ?_; rintro e w4 ⟨rfl, hb4⟩)
    | (go_at_call 17; have hu := HB2; clear hu; refine (shown_any 9 5 _).mono ?_; rintro e w3 ⟨rfl, hb3⟩)
    | (refine wpList_stB (cs := shC 2 1 1) rfl _ _ rfl rfl w.heap.size rfl shC_211 hG1 (size_Sp' _ _ _) (shC_same _ _ _ _ _ _) (shC_one _ _ _) ?_; intro w2 hGS hg2 hs2; have HB2 := (show Hid (Below w.heap.size w w2) from grown_below hb1 hg2 hb1.size (Nat.le_refl _)); clear hG1 hg2 hb1 hs1 hs2)
    | (refine wpList_alB rfl rfl zero_Sp ?_; intro w1 hG1 hb1 hs1))
  go_ret
  exact ⟨rfl, bt (bt HB2.out HB6.out) (bt (bt HB9.out HB13.out) (bt HB17.out (bt X.out (bt (al _ _) hb22))))⟩
end
end Go.Proofs.Ytefomnlgpldgnaa
