/-
  Layer 17's laws: 'copied'; a place of an own list is written.
-/
import Derived.Test.YtefomnlgpldgnaaVl17
import Derived.Test.YtefomnlgpldgnaaVz17
namespace Go.Proofs.Ytefomnlgpldgnaa
open Go.RowKit
/-- Places as they were, but for their blocks. -/
def CEs (es : List Sn) (ss : Nat → Sn) (t : Nat) : Prop := es.length = t ∧ ∀ i, i < t → (es.getD i sn0).kd = (ss i).kd ∧ (es.getD i sn0).hd = (ss i).hd ∧ (es.getD i sn0).bv.oneCell' = true
theorem CEs.add {es : List Sn} {ss : Nat → Sn} {t : Nat} {e : Sn} (h : CEs es ss t) (h1 : e.kd = (ss t).kd) (h2 : e.hd = (ss t).hd) (h3 : e.bv.oneCell' = true) : CEs (es ++ [e]) ss (t + 1) := by
  refine ⟨by simp [h.1], fun k hk => ?_⟩
  by_cases hlt : k < t
  · have := h.2 k hlt
    simpa [List.getD, List.getElem?_append_left (show k < es.length by rw [h.1]; exact hlt)] using this
  · have e1 : k = t := by omega
    subst e1
    have e2 : (es ++ [e]).getD k sn0 = e := by rw [← h.1]; simp [List.getD]
    rw [e2]; exact ⟨h1, h2, h3⟩
theorem own_shape {t : TypeId} {w : World} {B k n : Nat} {v : Value} {xs : List Value} (h : w.ownsRow B t k v n xs) : ∃ p c, v = .slice p n c := by
  rcases h.2 with ⟨e, e0⟩ | ⟨g, cap, cur, hv, _⟩
  · exact ⟨none, 0, by rw [e, e0]⟩
  · exact ⟨_, cap, hv⟩
theorem Ow.shape17 {w : World} {B : Nat} {v : Value} {xs : List (BitVec 8)} (h : Ow w B v xs) : ∃ p c, v = .slice p xs.length c := own_shape h
theorem Or.shape {w : World} {B : Nat} {v : Value} {us : List Value} (h : Or w B v us) : ∃ p c, v = .slice p us.length c := own_shape h
/-- A copy of places. -/
def Cpd (w : World) (B : Nat) (v : Value) (n : Nat) (ss : Nat → Sn) : Prop := ∃ es, Os w B v es ∧ CEs es ss n
section
attribute [local irreducible] Calls Sn.cs GB Os Or CEs el
set_option maxHeartbeats 16000000 in
set_option maxRecDepth 1000000 in
theorem copied_any {w : World} {p : Option Addr} {n c : Nat} {ss : Nat → Sn} {bl : Nat → List (List (BitVec 8))} (HS : SnL w p n ss) (hn : n ≤ 1172812402926) (hB : Bls w n ss bl) :
    Calls Try.prog 15 #[.slice p n c] w fun e w' => ∃ v, e = .returned v ∧ Cpd w' w.heap.size v n ss ∧ Below w.heap.size w w' := by
  have al : ∀ (W : World) (o : Obj), Below W.heap.size W (W.alloc o) := fun W o => (Below.refl _ _).alloc (Nat.le_refl _) o
  have HL := (show Hid (SnL w p n ss) from HS)
  have HN := (show Hid (n ≤ 1172812402926) from hn)
  have HBl := (show Hid (Bls w n ss bl) from hB)
  clear HS hn hB
  go_enter Try.func15, Try.ntmps15
  go_wp2_with (fail)
  go_loopw [3, 4] (fun v i wr => ∃ (t : Nat) (es : List Sn), t ≤ n ∧ i = .int .i64 (t : Int) ∧ Hid (Os wr w.heap.size v es) ∧ Hid (CEs es ss t) ∧ Hid (Below w.heap.size w wr)) (fun _ i _ => n - (intOf i).toNat)
  case atStart => exact ⟨0, [], Nat.zero_le _, rfl, by show Os _ _ _ _; unfold Os; exact World.ownsRow_nil _ _ _ _, by show CEs _ _ _; unfold CEs; exact ⟨rfl, fun i hi => absurd hi (Nat.not_lt_zero i)⟩, Below.refl _ _⟩
  case round =>
    obtain ⟨t, es, ht, rfl, hO, hE, hB⟩ := hrel
    by_cases hlt : t < n
    · have hi : (t : Int) < (n : Int) := by omega
      obtain ⟨b, o, rfl, hAt⟩ := (HL.out.below hB.out).at hlt
      obtain ⟨q, cq, hbv, hqc, hq1, hq2, hR⟩ := (HBl.out.below hB.out) t hlt
      have WT := (show Hid (wrap64 ((t : Int) + 1) = ((t + 1 : Nat) : Int)) from by have := HN.out; show _ = _; unfold wrap64; omega)
      have HT := (show Hid (t < n) from hlt)
      have hrun := hAt.run
      have HES := (show Hid (es.length + 1 ≤ 1172812402961) from by
        have h9 := hE.out
        unfold CEs at h9
        have := h9.1; have := HN.out
        show _ ≤ _
        omega)
      have H1 := (show Hid ((ss t).bv.oneCell' = true) from by show _ = true; rw [hbv]; rfl)
      obtain ⟨W0, hW0⟩ : ∃ W0, W0 = wr := ⟨_, rfl⟩
      subst hW0
      clear hlt ht
      go_wp2_with (first
        | (refine wpList_ldAt rfl _ _ rfl b (o + t * 19) rfl _ hrun ?_)
        | (refine wpList_alB rfl rfl zero_Sn ?_; intro w1 hG1 hb1 hs1)
        | (refine wpList_stB (cs := (ss t).cs) rfl _ _ rfl rfl W0.heap.size rfl rfl hG1 (size_SnS _) (snC_same _ _) (snC_one _ H1.out) ?_; intro w2 hG2 hg2 hs2; have HB2 := (show Hid (Below W0.heap.size W0 w2) from grown_below hb1 hg2 hb1.size (Nat.le_refl _))))
      go_loopw [6, 7] (fun v i wr => ∃ (k : Nat) (us : List Value), k ≤ (bl t).length ∧ i = .int .i64 (k : Int) ∧ Hid (Or wr w2.heap.size v us) ∧ Hid (us.length = k) ∧ Hid (Below w2.heap.size w2 wr)) (fun _ i _ => (bl t).length - (intOf i).toNat)
      case atStart => exact ⟨0, [], Nat.zero_le _, rfl, by show Or _ _ _ _; unfold Or; exact World.ownsRow_nil _ _ _ _, rfl, Below.refl _ _⟩
      case round =>
        obtain ⟨k, us, hk, rfl, hOr, hLR, hBk⟩ := hrel
        have hc17 := (SnAt.ofB (hG2.below hBk.out)).cells.bv
        rw [Nat.zero_add, hbv] at hc17
        by_cases hlk : k < (bl t).length
        · have hik : (k : Int) < ((bl t).length : Int) := by omega
          obtain ⟨b2, o2, q2, c2, rfl, hrow, hrc, hrd⟩ := Rws.row ((hR.below HB2.out).below hBk.out) k hlk
          have WK := (show Hid (wrap64 ((k : Int) + 1) = ((k + 1 : Nat) : Int)) from by have := hq1; show _ = _; unfold wrap64; omega)
          have HKt := (show Hid (k < (bl t).length) from hlk)
          have hxl := hq2 k
          have hul := (show Hid (us.length + 1 ≤ 5864062014805) from by
            have := hLR.out
            show _ ≤ _
            omega)
          obtain ⟨x, hx⟩ : ∃ x, x = (bl t).getD k [] := ⟨_, rfl⟩
          rw [← hx] at hrow hrc hrd hxl
          obtain ⟨W1, hW1⟩ : ∃ W1, W1 = wr := ⟨_, rfl⟩
          subst hW1
          have O3 := (show Hid (Ow (W1.alloc (.cells #[] 5)) W1.heap.size (.slice (some ⟨W1.heap.size, 0, none⟩) 0 0) []) from Ow.empty17 W1)
          have c17 := cell_below hc17 (al W1 (.cells #[] 5))
          have cr := cell_below hrow (al W1 (.cells #[] 5))
          have R3 := (show Hid (Rd (W1.alloc (.cells #[] 5)) q2 x) from hrd.below (al _ _))
          have L3 := (show Hid (([] : List (BitVec 8)).length + x.length ≤ 140737488355328) from by show _ ≤ _; rw [List.length_nil]; omega)
          obtain ⟨d, hd⟩ : ∃ d, x.length = d := ⟨_, rfl⟩
          rw [hd] at cr L3
          have HD := (show Hid (x.length = d) from hd)
          clear hrow hrd hlk hk hxl hrc hx hd
          go_wp2_with (first
            | (at_builtin; refine wpList_apa rfl (.tmp 27) (.tmp 33) rfl W1.heap.size _ [] rfl O3.out q2 d c2 x rfl R3.out HD.out L3.out (al _ _).size ?_; intro v4 w4 ho4 hg4 hk4; have HB4 := (show Hid (Below W1.heap.size W1 w4) from O3.out.below_append (al W1 _) (al W1 _).size hg4 (Nat.le_refl _)); clear hk4 hg4; obtain ⟨p4, c4, e4⟩ := ho4.shape17; subst e4; clear ho4; generalize ([] ++ x : List (BitVec 8)).length = n4; have HB6 := (show Hid (Below W1.heap.size W1 (w4.alloc (.cells #[.slice p4 n4 c4] 72))) from balloc HB4.out _); have HO6 := (show Hid (Or (w4.alloc (.cells #[.slice p4 n4 c4] 72)) w2.heap.size u6 us) from hOr.out.below HB6.out); have rc := cell_of_row (w4.alloc (.cells #[.slice p4 n4 c4] 72)) w4.heap.size 0 _ _ (0, 0) (heap_alloc_new w4 _))
            | (at_builtin; refine wpList_apR rfl (.tmp 26) (.tmp 35) rfl w2.heap.size u6 us rfl HO6.out ⟨w4.heap.size, 0, none⟩ 1 (.slice p4 n4 c4) rfl rfl rc hul.out (Nat.le_trans hBk.out.size HB6.out.size) ?_; intro v7 w7 ho7 hg7))
          go_roundw
          case rel =>
            exact ⟨k + 1, _, HKt.out, by go_num, ho7, (by show _ = _; rw [List.length_append, hLR.out]; rfl), HO6.out.grown (bt hBk.out HB6.out) (Nat.le_trans hBk.out.size HB6.out.size) hg7 (Nat.le_refl _)⟩
          case measure => exact meas_v17 HKt.out
        · have hkk : k = (bl t).length := by omega
          obtain ⟨L, hL⟩ : ∃ L, L = (bl t).length := ⟨_, rfl⟩
          rw [← hL] at hc17 hq1
          obtain ⟨W1, hW1⟩ : ∃ W1, W1 = wr := ⟨_, rfl⟩
          subst hW1
          obtain rfl : k = L := by omega
          have hnn : ¬ ((k : Int) < (k : Int)) := by omega
          obtain ⟨p6, c6, e6⟩ := hOr.out.shape
          subst e6
          generalize us.length = n6 at *
          have hG7 := hG2.below hBk.out
          have f7 := gb_frozen hG7 17
          have HG8 := (show Hid (GB (W1.setCell ⟨W0.heap.size, 17, none⟩ (.slice p6 n6 c6)) W0.heap.size 39 ({ ss t with bv := .slice p6 n6 c6 } : Sn).cs) from gb_setBv hG7 _)
          have HBX := (show Hid (Below W0.heap.size W0 (W1.setCell ⟨W0.heap.size, 17, none⟩ (.slice p6 n6 c6))) from grown_below (bt HB2.out hBk.out) (grown_setCell W1 ⟨W0.heap.size, 17, none⟩ _) (Nat.le_trans HB2.out.size hBk.out.size) (Nat.le_refl _))
          clear hkk hL hG7 hOr hLR
          go_wp2_with (first
            | (refine wpList_ldB rfl _ rfl W0.heap.size rfl HG8.out Try.underlying39 (size_SnS _) ?_)
            | (refine wpList_bsS rfl _ rfl ({ ss t with bv := .slice p6 n6 c6 } : Sn) rfl ?_; intro w9 hG9 hb9 hs9; have HB9 := (show Hid (Below W0.heap.size W0 w9) from bt HBX.out hb9); have HO9 := (show Hid (Os w9 w.heap.size u3 es) from hO.out.below HB9.out))
            | (at_builtin; refine wpList_apS rfl (.tmp 40) (.tmp 42) rfl w.heap.size u3 es ({ ss t with bv := .slice p6 n6 c6 } : Sn) rfl rfl HO9.out _ 1 rfl hG9 HES.out (Nat.le_trans hB.out.size HB9.out.size) ?_; intro v10 w10 ho10 hg10))
          go_roundw
          case rel =>
            exact ⟨t + 1, _, HT.out, by rw [WT.out], ho10, hE.out.add rfl rfl rfl, HO9.out.grown (bt hB.out HB9.out) (Nat.le_trans hB.out.size HB9.out.size) hg10 (Nat.le_refl _)⟩
          case measure => rw [WT.out]; exact meas_v17 HT.out
    · obtain rfl : t = n := by omega
      have hnn : ¬ ((t : Int) < (t : Int)) := by omega
      go_wp2_with (fail)
      go_ret
      exact ⟨_, rfl, ⟨es, hO.out, hE.out⟩, hB.out⟩
end
/-- A place of an own list is written. -/
theorem flat_set {es : List Sn} {i : Nat} (hi : i < es.length) (e : Sn) : (es.set i e).flatMap (fun s => s.cs.toList) = (es.flatMap fun s => s.cs.toList).take (i * 19) ++ e.cs.toList ++ (es.flatMap fun s => s.cs.toList).drop (i * 19 + 19) := by
  have hl : ∀ l : List Sn, (l.flatMap fun s => s.cs.toList).length = l.length * 19 := by
    intro l
    induction l with
    | nil => rfl
    | cons a r ih => rw [List.flatMap_cons, List.length_append, ih, List.length_cons, show a.cs.toList.length = 19 from rfl]; omega
  have h1 : es = es.take i ++ es[i] :: es.drop (i + 1) := by rw [List.getElem_cons_drop, List.take_append_drop]
  have hf : es.flatMap (fun s => s.cs.toList) = (es.take i).flatMap (fun s => s.cs.toList) ++ (es[i].cs.toList ++ (es.drop (i + 1)).flatMap fun s => s.cs.toList) := by
    conv => lhs; rw [h1]
    rw [List.flatMap_append, List.flatMap_cons]
  have ht : ((es.take i).flatMap fun s => s.cs.toList).length = i * 19 := by rw [hl, List.length_take]; congr 1; omega
  rw [List.set_eq_take_append_cons_drop, if_pos hi, List.flatMap_append, List.flatMap_cons, hf]
  have hq : es[i].cs.toList.length = 19 := rfl
  generalize (es.take i).flatMap (fun s => s.cs.toList) = A at *
  generalize (es.drop (i + 1)).flatMap (fun s => s.cs.toList) = D at *
  generalize es[i].cs.toList = q at *
  rw [← ht, List.take_left, ← hq, ← List.append_assoc A q D, ← List.length_append, List.drop_left]
  simp
theorem os_set {w : World} {B g cap : Nat} {es : List Sn} (h : Os w B (.slice (some ⟨g, 0, none⟩) es.length cap) es) {i : Nat} (hi : i < es.length) {e : Sn} (he : e.bv.oneCell' = true) :
    ∃ W', (storeVar 39 ⟨g, i * 19, none⟩ (.agg e.cs)).run Try.prog w = .ok () W' ∧ Os W' B (.slice (some ⟨g, 0, none⟩) (es.set i e).length cap) (es.set i e) ∧ w.grownBy W' (some g) ∧ W'.heap.size = w.heap.size := by
  unfold Os at h
  rcases h.2 with ⟨e1, _⟩ | ⟨g', cap', cur, hv, hB, hh, hn, hm, hs, ht⟩
  · cases e1
  · injection hv with e1 _ e2
    injection e1 with e1
    injection e1 with e1
    subst e1 e2
    have hr := run_storeVar_atV (P := Try.prog) w g (i * 19) 39 39 cur e.cs (.agg e.cs) rfl hh size_Sn (by rw [hs, Sn.cs_size]; omega) (snC_one e he)
    refine ⟨_, hr, ?_, ⟨rfl, rfl, rfl, by simp, fun k _ hk => setRow_other w g k _ (fun e => hk (by rw [e]))⟩, by simp⟩
    unfold Os
    refine ⟨?_, .inr ⟨g, cap, _, rfl, hB, setRow_heap w g _ _ _ _ hh, by rw [List.length_set]; exact hn, hm, ?_, ?_⟩⟩
    · rw [flat_set hi, List.length_append, List.length_append, List.length_take, List.length_drop, h.1, List.length_set, show e.cs.toList.length = 19 from rfl]; omega
    · have hsz : cur.toList.length = cap * 19 := by simpa using hs
      rw [Sn.cs_size]
      simp only [List.size_toArray, List.length_append, List.length_take, List.length_drop, hsz, show e.cs.toList.length = 19 from rfl]
      omega
    · have hsz : cur.toList.length = cap * 19 := by simpa using hs
      rw [flat_set hi, ← ht, List.length_set, Sn.cs_size]
      rw [List.take_take, Nat.min_eq_left (by omega), List.append_assoc, List.append_assoc, List.take_append, List.take_append, List.length_take, hsz, show e.cs.toList.length = 19 from rfl]
      rw [List.take_of_length_le (l := cur.toList.take (i * 19)) (by rw [List.length_take]; omega), List.take_of_length_le (l := e.cs.toList) (by rw [show e.cs.toList.length = 19 from rfl]; omega)]
      congr 2
      rw [List.drop_take]
      congr 1
      omega
theorem wpList_stS {w : World} {ops : Array Oper} {rest : List Oper} {o : Oper} {a : Act} {Q : Exit → Act → World → Prop} (hgd : o.guard = none) (x y : Operand) (ho : o.op = .store 39 x y) (hd : o.dst = none) (B g cap i : Nat) (es : List Sn) (e : Sn) (he : e.bv.oneCell' = true) (hx : a.eval x = .pointer (some ⟨g, i * 19, none⟩)) (hy : a.eval y = .agg e.cs) (hi : i < es.length) (H : Os w B (.slice (some ⟨g, 0, none⟩) es.length cap) es)
    (k : ∀ w', Os w' B (.slice (some ⟨g, 0, none⟩) (es.set i e).length cap) (es.set i e) → w.grownBy w' (some g) → Hid (w'.heap.size = w.heap.size) → wpList Try.prog ops Q rest a w') : wpList Try.prog ops Q (o :: rest) a w := by
  refine wpList_plain hgd fun K hK => ?_
  obtain ⟨W', hr, h1, h2, h3⟩ := os_set H hi he
  have h4 := k W' h1 h2 h3
  unfold Oper.wp execOp
  simp only [ho, hx, hy, Instr.storeAt, Instr.sureAddr, Sem.run_bind, Sem.run_pure, Result.andThen_ok, hr]
  have e : a.put o.dst undef = a := by rw [hd]; rfl
  have h5 := hK _ _ h4
  rw [← e] at h5
  exact h5
end Go.Proofs.Ytefomnlgpldgnaa
