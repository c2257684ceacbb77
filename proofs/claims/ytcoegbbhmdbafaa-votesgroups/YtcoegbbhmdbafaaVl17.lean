/-
  Layer 17's laws: 'lent', the walk.
-/
import Derived.Test.YtcoegbbhmdbafaaVk17
namespace Go.Proofs.Ytcoegbbhmdbafaa
open Go.RowKit
theorem Ow.empty17 (w : World) : Ow (w.alloc (.cells #[] 5)) w.heap.size (.slice (some ⟨w.heap.size, 0, none⟩) 0 0) [] := by
  have h := Ow.made w 0 (by omega)
  simpa using h
theorem Ow.some17 {w : World} {base : Nat} {v : Value} {xs : List (BitVec 8)} (h : Ow w base v xs) (h0 : 0 < xs.length) : ∃ g cap, v = .slice (some ⟨g, 0, none⟩) xs.length cap ∧ xs.length ≤ cap := by
  rcases h.2 with ⟨_, h1⟩ | ⟨g, cap, cur, hv, _, _, hn, _⟩
  · omega
  · exact ⟨g, cap, hv, hn⟩
theorem Or.some {w : World} {base : Nat} {v : Value} {us : List Value} (h : Or w base v us) (h0 : 0 < us.length) : ∃ g cap, v = .slice (some ⟨g, 0, none⟩) us.length cap ∧ us.length ≤ cap := by
  rcases h.2 with ⟨_, h1⟩ | ⟨g, cap, cur, hv, _, _, hn, _⟩
  · omega
  · exact ⟨g, cap, hv, hn⟩
theorem Os.some {w : World} {base : Nat} {v : Value} {es : List Sn} (h : Os w base v es) (h0 : 0 < es.length) : ∃ g cap, v = .slice (some ⟨g, 0, none⟩) es.length cap ∧ es.length ≤ cap := by
  rcases h.2 with ⟨_, h1⟩ | ⟨g, cap, cur, hv, _, _, hn, _⟩
  · omega
  · exact ⟨g, cap, hv, hn⟩
theorem or_mono {w : World} {B B' k n : Nat} {t : TypeId} {v : Value} {xs : List Value} (h : w.ownsRow B t k v n xs) (hb : B' ≤ B) : w.ownsRow B' t k v n xs := by
  refine ⟨h.1, ?_⟩
  rcases h.2 with h1 | ⟨g, cap, c, hv, hg, hh, hc⟩
  · exact .inl h1
  · exact .inr ⟨g, cap, c, hv, Nat.le_trans hb hg, hh, hc⟩
theorem own_grown {t : TypeId} {w w' w0 : World} {base B k n : Nat} {v : Value} {xs : List Value} (h : w.ownsRow base t k v n xs) (hb : Below B w0 w) (hB : B ≤ w.heap.size) (hg : w.grownBy w' v.ownBlock) (hbase : B ≤ base) : Below B w0 w' := hb.grown hg hB (fun j hj => Nat.le_trans hbase (h.lt j hj).1)
theorem Or.grown {w w' w0 : World} {base B : Nat} {v : Value} {us : List Value} (h : Or w base v us) (hb : Below B w0 w) (hB : B ≤ w.heap.size) (hg : w.grownBy w' v.ownBlock) (hbase : B ≤ base) : Below B w0 w' := own_grown h hb hB hg hbase
theorem Os.grown {w w' w0 : World} {base B : Nat} {v : Value} {es : List Sn} (h : Os w base v es) (hb : Below B w0 w) (hB : B ≤ w.heap.size) (hg : w.grownBy w' v.ownBlock) (hbase : B ≤ base) : Below B w0 w' := own_grown h hb hB hg hbase
theorem gb_setBv {w : World} {g : Nat} {s : Sn} (H : GB w g 58 s.cs) (v : Value) : GB (w.setCell ⟨g, 17, none⟩ v) g 58 ({ s with bv := v } : Sn).cs := by
  unfold GB Sn.cs at *
  exact heap_setCell_same _ g 17 _ _ _ H
theorem gb_frozen {w : World} {g : Nat} {t : TypeId} {cs : Array Value} (H : GB w g t cs) (i : Nat) : w.frozen? ⟨g, i, none⟩ = false := frozen_of_row w g i _ _ H
theorem grown_setCell (w : World) (a : Addr) (v : Value) : w.grownBy (w.setCell a v) (some a.block) := ⟨rfl, rfl, rfl, by simp, fun k _ hk => Below.heap_setCell _ _ _ _ (fun e => hk (by rw [e]))⟩
theorem own_set {t t' : TypeId} {w : World} {B k n g i : Nat} {u v : Value} {xs : List Value} {cs : Array Value} (h : w.ownsRow B t k u n xs) (H : GB w g t' cs) (hne : t ≠ t') : (w.setCell ⟨g, i, none⟩ v).ownsRow B t k u n xs := by
  refine World.ownsRow.kept h (grown_setCell w ⟨g, i, none⟩ v) ?_
  rcases h.2 with ⟨h1, _⟩ | ⟨g1, c1, cur1, h1, _, hh1, _⟩
  · rw [h1]; exact .inl rfl
  · refine .inr (fun e => ?_)
    rw [h1] at e
    simp [Value.ownBlock] at e
    subst e
    unfold GB at H
    rw [hh1] at H
    injection H with H
    injection H with _ H
    exact hne H
theorem lrow_set {w : World} {g i : Nat} {u v : Value} {x : List (BitVec 8)} {cs : Array Value} (h : LRow w u x) (H : GB w g 58 cs) : LRow (w.setCell ⟨g, i, none⟩ v) u x := by
  obtain ⟨g1, cap, e, hc, hO⟩ := h
  exact ⟨g1, cap, e, hc, own_set hO H (by decide)⟩
/-- A finished list of lent rows. -/
theorem lbl_mk {w : World} {B g cap k gs i : Nat} {us : List Value} {m v : Value} {bl : List (List (BitVec 8))} {cs : Array Value} (hO : Or w B (.slice (some ⟨g, 0, none⟩) (k + 1) cap) (us ++ [m])) (hl : us.length = k) (hk : k = bl.length) (hc : k + 1 ≤ cap) (hR : ∀ j, j < k → LRow w (us.getD j (.slice none 0 0)) (bl.getD j [])) (hM : Ow w 0 m [84#8]) (H : GB w gs 58 cs) : LBl (w.setCell ⟨gs, i, none⟩ v) (.slice (some ⟨g, 0, none⟩) k cap) bl := by
  subst hk
  refine ⟨g, cap, us ++ [m], rfl, by simp [hl], hc, own_set (or_mono hO (Nat.zero_le _)) H (by decide), fun j hj => ?_, ?_⟩
  · have := lrow_set (i := i) (v := v) (hR j hj) H
    simpa [List.getD, List.getElem?_append_left (show j < us.length by omega)] using this
  · have e : (us ++ [m]).getD bl.length (.slice none 0 0) = m := by rw [← hl]; simp [List.getD]
    rw [e]
    exact own_set hM H (by decide)
theorem Or.row {w : World} {base : Nat} {v : Value} {us : List Value} (h : Or w base v us) : w.ownsRow base 71 1 v us.length us := h
theorem snK_cs (k : Nat) : (Value.agg #[.int .i64 ((100 : Int) + (k : Int)), .int .u8 0, .int .u8 0, .int .u8 0, .int .u8 0, .int .u8 0, .int .u8 0, .int .u8 0, .int .u8 0, .int .i64 0, .int .i64 0, .int .i64 0, .string ⟨#[]⟩, .int .i64 0, .int .i64 0, .int .i64 0, .int .i64 0, .slice none 0 0, .int .i64 0]) = .agg (snK k).cs := rfl
/-- Rows that are lent so far. -/
def LRs (w : World) (us : List Value) (bl : List (List (BitVec 8))) (t : Nat) : Prop := us.length = t ∧ ∀ k, k < t → LRow w (us.getD k (.slice none 0 0)) (bl.getD k [])
theorem LRs.below {w w' : World} {us : List Value} {bl : List (List (BitVec 8))} {t : Nat} (h : LRs w us bl t) (hb : Below w.heap.size w w') : LRs w' us bl t := ⟨h.1, fun k hk => (h.2 k hk).below hb⟩
theorem LRs.young {w w' : World} {us us' : List Value} {bl : List (List (BitVec 8))} {t B : Nat} {v : Value} (h : LRs w us bl t) (hv : Or w B v us') (hg : w.grownBy w' v.ownBlock) : LRs w' us bl t := ⟨h.1, fun k hk => (h.2 k hk).young hv (by decide) hg⟩
theorem LRs.add {w : World} {us : List Value} {bl : List (List (BitVec 8))} {t : Nat} {u : Value} (h : LRs w us bl t) (hu : LRow w u (bl.getD t [])) : LRs w (us ++ [u]) bl (t + 1) := by
  refine ⟨by simp [h.1], fun k hk => ?_⟩
  by_cases hlt : k < t
  · have := h.2 k hlt
    simpa [List.getD, List.getElem?_append_left (show k < us.length by rw [h.1]; exact hlt)] using this
  · have e : k = t := by omega
    subst e
    have e2 : (us ++ [u]).getD k (.slice none 0 0) = u := by rw [← h.1]; simp [List.getD]
    rw [e2]; exact hu
theorem rd3 (w : World) : Rd (w.alloc (.cells #[.int .u8 81, .int .u8 82, .int .u8 83] 5)) (some ⟨w.heap.size, 0, none⟩) mk3 := rd_newl w mk3 _ (0, 0)
theorem LRow.mk {w : World} {B g cap : Nat} {x : List (BitVec 8)} (h : Ow w B (.slice (some ⟨g, 0, none⟩) (x.length + 3) cap) (x ++ mk3)) (hc : x.length + 3 ≤ cap) : LRow w (.slice (some ⟨g, 0, none⟩) x.length cap) x := ⟨g, cap, rfl, hc, h.mono (Nat.zero_le _)⟩
theorem Ow.of84 (w : World) : Ow (w.alloc (.cells #[.int .u8 84] 5)) 0 (.slice (some ⟨w.heap.size, 0, none⟩) 1 1) [84#8] :=
  ⟨rfl, .inr ⟨w.heap.size, 1, _, rfl, Nat.zero_le _, heap_alloc_new w _, Nat.le_refl _, by decide, rfl, rfl⟩⟩
/-- Places that are lent so far. -/
def LEs (w : World) (es : List Sn) (ss : Nat → Sn) (bl : Nat → List (List (BitVec 8))) (t : Nat) : Prop := es.length = t ∧ ∀ i, i < t → LEn w (es.getD i sn0) (ss i) (bl i)
theorem LEs.below {w w' : World} {es : List Sn} {ss : Nat → Sn} {bl : Nat → List (List (BitVec 8))} {t : Nat} (h : LEs w es ss bl t) (hb : Below w.heap.size w w') : LEs w' es ss bl t := ⟨h.1, fun k hk => (h.2 k hk).below hb⟩
theorem LEs.young {w w' : World} {es es' : List Sn} {ss : Nat → Sn} {bl : Nat → List (List (BitVec 8))} {t B : Nat} {v : Value} (h : LEs w es ss bl t) (hv : Os w B v es') (hg : w.grownBy w' v.ownBlock) : LEs w' es ss bl t := ⟨h.1, fun k hk => (h.2 k hk).young hv hg⟩
theorem LEs.add {w : World} {es : List Sn} {ss : Nat → Sn} {bl : Nat → List (List (BitVec 8))} {t : Nat} {e : Sn} (h : LEs w es ss bl t) (hu : LEn w e (ss t) (bl t)) : LEs w (es ++ [e]) ss bl (t + 1) := by
  refine ⟨by simp [h.1], fun k hk => ?_⟩
  by_cases hlt : k < t
  · have := h.2 k hlt
    simpa [List.getD, List.getElem?_append_left (show k < es.length by rw [h.1]; exact hlt)] using this
  · have e1 : k = t := by omega
    subst e1
    have e2 : (es ++ [e]).getD k sn0 = e := by rw [← h.1]; simp [List.getD]
    rw [e2]; exact hu
/-- .. with marks behind. -/
def LMs (w : World) (es : List Sn) (ss : Nat → Sn) (bl : Nat → List (List (BitVec 8))) (n k : Nat) : Prop := es.length = n + k ∧ (∀ i, i < n → LEn w (es.getD i sn0) (ss i) (bl i)) ∧ ∀ j, j < k → es.getD (n + j) sn0 = snK j
theorem LMs.add {w w' : World} {es es' : List Sn} {ss : Nat → Sn} {bl : Nat → List (List (BitVec 8))} {n k B : Nat} {v : Value} (h : LMs w es ss bl n k) (hv : Os w B v es') (hg : w.grownBy w' v.ownBlock) : LMs w' (es ++ [snK k]) ss bl n (k + 1) := by
  obtain ⟨h1, h2, h3⟩ := h
  refine ⟨by simp [h1]; omega, fun i hi => ?_, fun j hj => ?_⟩
  · have := (h2 i hi).young hv hg
    simpa [List.getD, List.getElem?_append_left (show i < es.length by omega)] using this
  · by_cases hlt : j < k
    · have := h3 j hlt
      simpa [List.getD, List.getElem?_append_left (show n + j < es.length by omega)] using this
    · have e : j = k := by omega
      subst e
      rw [← h1]; simp [List.getD]
theorem LMs.below {w w' : World} {es : List Sn} {ss : Nat → Sn} {bl : Nat → List (List (BitVec 8))} {n k : Nat} (h : LMs w es ss bl n k) (hb : Below w.heap.size w w') : LMs w' es ss bl n k := ⟨h.1, fun i hi => (h.2.1 i hi).below hb, h.2.2⟩
section
attribute [local irreducible] Calls Sn.cs GB Os Or LRs LEs LMs LRow el
set_option maxHeartbeats 16000000 in
set_option maxRecDepth 1000000 in
theorem lent_any {w : World} {p : Option Addr} {n c : Nat} {ss : Nat → Sn} {bl : Nat → List (List (BitVec 8))} (HS : SnL w p n ss) (hn : n ≤ 1172812402926) (hB : Bls w n ss bl) :
    Calls Try.prog 11 #[.slice p n c] w fun e w' => ∃ v, e = .returned v ∧ LSn w' v n ss bl ∧ Below w.heap.size w w' := by
  have al : ∀ (W : World) (o : Obj), Below W.heap.size W (W.alloc o) := fun W o => (Below.refl _ _).alloc (Nat.le_refl _) o
  have HL := (show Hid (SnL w p n ss) from HS)
  have HN := (show Hid (n ≤ 1172812402926) from hn)
  have HBl := (show Hid (Bls w n ss bl) from hB)
  clear HS hn hB
  go_enter Try.func11, Try.ntmps11
  go_wp2_with (fail)
  go_loopw [3, 4] (fun v i wr => ∃ (t : Nat) (es : List Sn), t ≤ n ∧ i = .int .i64 (t : Int) ∧ Hid (Os wr w.heap.size v es) ∧ Hid (LEs wr es ss bl t) ∧ Hid (Below w.heap.size w wr)) (fun _ i _ => n - (intOf i).toNat)
  case atStart => exact ⟨0, [], Nat.zero_le _, rfl, by show Os _ _ _ _; unfold Os; exact World.ownsRow_nil _ _ _ _, by show LEs _ _ _ _ _; unfold LEs; exact ⟨rfl, fun i hi => by omega⟩, Below.refl _ _⟩
  case round =>
    obtain ⟨t, es, ht, rfl, hO, hE, hB⟩ := hrel
    by_cases hlt : t < n
    · have hi : (t : Int) < (n : Int) := by omega
      obtain ⟨b, o, rfl, hAt⟩ := (HL.out.below hB.out).at hlt
      obtain ⟨q, cq, hbv, hqc, hq1, hq2, hR⟩ := (HBl.out.below hB.out) t hlt
      have WT := (show Hid (wrap64 ((t : Int) + 1) = ((t + 1 : Nat) : Int)) from by have := HN.out; show _ = _; unfold wrap64; omega)
      have HT := (show Hid (t < n) from hlt)
      have hrun := hAt.run
      have HES := (show Hid (es.length + 1 ≤ 1172812402961) from by
        have h9 := hE.out
        unfold LEs at h9
        have := h9.1; have := HN.out
        show _ ≤ _
        omega)
      have H1 := (show Hid ((ss t).bv.oneCell' = true) from by show _ = true; rw [hbv]; rfl)
      obtain ⟨W0, hW0⟩ : ∃ W0, W0 = wr := ⟨_, rfl⟩
      subst hW0
      clear hlt ht
      go_wp2_with (first
        | (refine wpList_ldAt rfl _ _ rfl b (o + t * 19) rfl _ hrun ?_)
        | (refine wpList_alB rfl rfl zero_Sn ?_; intro w1 hG1 hb1 hs1)
        | (refine wpList_stB (cs := (ss t).cs) rfl _ _ rfl rfl W0.heap.size rfl rfl hG1 (size_SnS _) (snC_same _ _) (snC_one _ H1.out) ?_; intro w2 hG2 hg2 hs2; have HB2 := (show Hid (Below W0.heap.size W0 w2) from grown_below hb1 hg2 hb1.size (Nat.le_refl _))))
      go_loopw [6, 7] (fun v i wr => ∃ (k : Nat) (us : List Value), k ≤ (bl t).length ∧ i = .int .i64 (k : Int) ∧ Hid (Or wr w2.heap.size v us) ∧ Hid (LRs wr us (bl t) k) ∧ Hid (Below w2.heap.size w2 wr)) (fun _ i _ => (bl t).length - (intOf i).toNat)
      case atStart => exact ⟨0, [], Nat.zero_le _, rfl, by show Or _ _ _ _; unfold Or; exact World.ownsRow_nil _ _ _ _, by show LRs _ _ _ _; unfold LRs; exact ⟨rfl, fun i hi => by omega⟩, Below.refl _ _⟩
      case round =>
        obtain ⟨k, us, hk, rfl, hOr, hLR, hBk⟩ := hrel
        have hc17 := (SnAt.ofB (hG2.below hBk.out)).cells.bv
        rw [Nat.zero_add, hbv] at hc17
        by_cases hlk : k < (bl t).length
        · have hik : (k : Int) < ((bl t).length : Int) := by omega
          obtain ⟨b2, o2, q2, c2, rfl, hrow, hrc, hrd⟩ := Rws.row ((hR.below HB2.out).below hBk.out) k hlk
          have WK := (show Hid (wrap64 ((k : Int) + 1) = ((k + 1 : Nat) : Int)) from by have := hq1; show _ = _; unfold wrap64; omega)
          have HKt := (show Hid (k < (bl t).length) from hlk)
          have hxl := hq2 k
          have hul := (show Hid (us.length + 1 ≤ 5864062014805) from by
            have h9 := hLR.out
            unfold LRs at h9
            have := h9.1
            show _ ≤ _
            omega)
          obtain ⟨x, hx⟩ : ∃ x, x = (bl t).getD k [] := ⟨_, rfl⟩
          rw [← hx] at hrow hrc hrd hxl
          have HX := (show Hid (x = (bl t).getD k []) from hx)
          obtain ⟨W1, hW1⟩ : ∃ W1, W1 = wr := ⟨_, rfl⟩
          subst hW1
          have O3 := (show Hid (Ow (W1.alloc (.cells #[] 5)) W1.heap.size (.slice (some ⟨W1.heap.size, 0, none⟩) 0 0) []) from Ow.empty17 W1)
          have c17 := cell_below hc17 (al W1 (.cells #[] 5))
          have cr := cell_below hrow (al W1 (.cells #[] 5))
          have R3 := (show Hid (Rd (W1.alloc (.cells #[] 5)) q2 x) from hrd.below (al _ _))
          have L3 := (show Hid (([] : List (BitVec 8)).length + x.length ≤ 140737488355328) from by show _ ≤ _; rw [List.length_nil]; omega)
          have L4 := (show Hid (x.length + 3 ≤ 140737488355328) from by show _ ≤ _; omega)
          obtain ⟨d, hd⟩ : ∃ d, x.length = d := ⟨_, rfl⟩
          rw [hd] at cr L3 L4
          have HD := (show Hid (x.length = d) from hd)
          clear hrow hrd hlk hk hxl hrc hx hd
          go_wp2_with (first
            | (at_builtin; refine wpList_apa rfl (.tmp 28) (.tmp 34) rfl W1.heap.size _ [] rfl O3.out q2 d c2 x rfl R3.out HD.out L3.out (al _ _).size ?_; intro v4 w4 ho4 hg4 hk4; rw [List.nil_append] at ho4; have HB4 := (show Hid (Below W1.heap.size W1 w4) from O3.out.below_append (al W1 _) (al W1 _).size hg4 (Nat.le_refl _)); have O4 := (show Hid (Ow (w4.alloc (.cells #[.int .u8 81, .int .u8 82, .int .u8 83] 5)) W1.heap.size v4 x) from ho4.below (al _ _)); have R4 := (show Hid (Rd (w4.alloc (.cells #[.int .u8 81, .int .u8 82, .int .u8 83] 5)) (some ⟨w4.heap.size, 0, none⟩) mk3) from rd3 w4); have B4 := (show Hid (Below W1.heap.size W1 (w4.alloc (.cells #[.int .u8 81, .int .u8 82, .int .u8 83] 5))) from bt HB4.out (al _ _)); clear hk4 ho4 hg4)
            | (at_builtin; refine wpList_apa rfl (.tmp 36) (.tmp 37) rfl W1.heap.size v4 x rfl O4.out (some ⟨w4.heap.size, 0, none⟩) 3 3 mk3 rfl R4.out rfl (by rw [HD.out]; exact L4.out) B4.out.size ?_; intro v5 w5 ho5 hg5 hk5; have HB5 := (show Hid (Below W1.heap.size W1 w5) from O4.out.below_append B4.out B4.out.size hg5 (Nat.le_refl _)); have HO5 := (show Hid (Ow w5 W1.heap.size v5 (x ++ mk3)) from ho5); clear hk5 ho5 hg5; obtain ⟨g5, cap5, e5, hc5⟩ := HO5.out.some17 (by simp [mk3]); have el5 : (x ++ mk3).length = d + 3 := (by rw [List.length_append, HD.out]; rfl); rw [el5] at e5 hc5; subst e5; have s3 : wrap64 (d : Int) = (d : Int) := (by have := L4.out; unfold wrap64; omega); have s4 : (d : Int) ≤ (cap5 : Int) := (by omega); have HC5 := (show Hid (d + 3 ≤ cap5) from hc5); have HB6 := (show Hid (Below W1.heap.size W1 (w5.alloc (.cells #[.slice (some ⟨g5, 0, none⟩) d cap5] 71))) from balloc HB5.out _); have HO6 := (show Hid (Or (w5.alloc (.cells #[.slice (some ⟨g5, 0, none⟩) d cap5] 71)) w2.heap.size u6 us) from hOr.out.below HB6.out); have rc := cell_of_row (w5.alloc (.cells #[.slice (some ⟨g5, 0, none⟩) d cap5] 71)) w5.heap.size 0 _ _ (0, 0) (heap_alloc_new w5 _); clear hc5 el5)
            | (at_builtin; refine wpList_apR rfl (.tmp 39) (.tmp 45) rfl w2.heap.size u6 us rfl HO6.out ⟨w5.heap.size, 0, none⟩ 1 (.slice (some ⟨g5, 0, none⟩) d cap5) rfl rfl rc hul.out (Nat.le_trans hBk.out.size HB6.out.size) ?_; intro v7 w7 ho7 hg7))
          go_roundw
          case rel =>
            have hLr : LRow (w5.alloc (.cells #[.slice (some ⟨g5, 0, none⟩) d cap5] 71)) (.slice (some ⟨g5, 0, none⟩) d cap5) ((bl t).getD k []) := by
              rw [← HX.out, ← HD.out]
              exact LRow.mk (by rw [HD.out]; exact HO5.out.below (al _ _)) (by rw [HD.out]; exact HC5.out)
            exact ⟨k + 1, _, HKt.out, by go_num, ho7, ((hLR.out.below HB6.out).add hLr).young HO6.out hg7, HO6.out.grown (bt hBk.out HB6.out) (Nat.le_trans hBk.out.size HB6.out.size) hg7 (Nat.le_refl _)⟩
          case measure => exact meas_v17 HKt.out
        · have hkk : k = (bl t).length := by omega
          have HKK := (show Hid (k = (bl t).length) from hkk)
          obtain ⟨L, hL⟩ : ∃ L, L = (bl t).length := ⟨_, rfl⟩
          rw [← hL] at hc17 hq1
          have HLL := (show Hid (L = (bl t).length) from hL)
          obtain ⟨W1, hW1⟩ : ∃ W1, W1 = wr := ⟨_, rfl⟩
          subst hW1
          obtain rfl : k = L := by omega
          have hnn : ¬ ((k : Int) < (k : Int)) := by omega
          have hul := (show Hid (us.length = k ∧ us.length + 1 ≤ 5864062014805) from by
            have h9 := hLR.out
            unfold LRs at h9
            have := h9.1
            exact ⟨this, by omega⟩)
          have OM := (show Hid (Ow (W1.alloc (.cells #[.int .u8 84] 5)) 0 (.slice (some ⟨W1.heap.size, 0, none⟩) 1 1) [84#8]) from Ow.of84 W1)
          have B3 := (show Hid (Below W1.heap.size W1 ((W1.alloc (.cells #[.int .u8 84] 5)).alloc (.cells #[.slice (some ⟨W1.heap.size, 0, none⟩) 1 1] 71))) from bt (al _ _) (al _ _))
          have HO3 := (show Hid (Or ((W1.alloc (.cells #[.int .u8 84] 5)).alloc (.cells #[.slice (some ⟨W1.heap.size, 0, none⟩) 1 1] 71)) w2.heap.size u6 us) from hOr.out.below B3.out)
          have rc := cell_of_row ((W1.alloc (.cells #[.int .u8 84] 5)).alloc (.cells #[.slice (some ⟨W1.heap.size, 0, none⟩) 1 1] 71)) (W1.heap.size + 1) 0 _ _ (0, 0) (by have h9 := heap_alloc_new (W1.alloc (.cells #[.int .u8 84] 5)) (.cells #[.slice (some ⟨W1.heap.size, 0, none⟩) 1 1] 71); simpa using h9)
          clear hkk hL
          go_wp2_with (first
            | (at_builtin; refine wpList_apR rfl (.tmp 47) (.tmp 49) rfl w2.heap.size u6 us rfl HO3.out ⟨W1.heap.size + 1, 0, none⟩ 1 (.slice (some ⟨W1.heap.size, 0, none⟩) 1 1) rfl rfl rc hul.out.2 (Nat.le_trans hBk.out.size B3.out.size) ?_; intro v7 w7 ho7 hg7; obtain ⟨g7, cap7, e7, hc7⟩ := ho7.some (by simp); have el7 : (us ++ [Value.slice (some ⟨W1.heap.size, 0, none⟩) 1 1]).length = k + 1 := (by rw [List.length_append, hul.out.1]; rfl); rw [el7] at e7 hc7; subst e7; have s7 : wrap64 (k : Int) = (k : Int) := (by have := hq1; unfold wrap64; omega); have t7 : (k : Int) ≤ (cap7 : Int) := (by omega); have HB7 := (show Hid (Below w2.heap.size w2 w7) from HO3.out.grown (bt hBk.out B3.out) (Nat.le_trans hBk.out.size B3.out.size) hg7 (Nat.le_refl _)); have hG7 := hG2.below HB7.out; have c7 := (SnAt.ofB hG7).cells.bv; rw [Nat.zero_add] at c7; have f7 := gb_frozen hG7 17; have HG8 := (show Hid (GB (w7.setCell ⟨W0.heap.size, 17, none⟩ (.slice (some ⟨g7, 0, none⟩) k cap7)) W0.heap.size 58 ({ ss t with bv := .slice (some ⟨g7, 0, none⟩) k cap7 } : Sn).cs) from gb_setBv hG7 _))
            | (refine wpList_ldB rfl _ rfl W0.heap.size rfl HG8.out Try.underlying58 (size_SnS _) ?_; have HBX := (show Hid (Below W0.heap.size W0 (w7.setCell ⟨W0.heap.size, 17, none⟩ (.slice (some ⟨g7, 0, none⟩) k cap7))) from grown_below (bt HB2.out HB7.out) (grown_setCell w7 ⟨W0.heap.size, 17, none⟩ _) (Nat.le_trans HB2.out.size HB7.out.size) (Nat.le_refl _)); have HEX := (show Hid (LEn (w7.setCell ⟨W0.heap.size, 17, none⟩ (.slice (some ⟨g7, 0, none⟩) k cap7)) ({ ss t with bv := .slice (some ⟨g7, 0, none⟩) k cap7 } : Sn) (ss t) (bl t)) from ⟨rfl, lbl_mk ho7 hul.out.1 HLL.out hc7 (by have h9 := (hLR.out.below B3.out).young HO3.out hg7; unfold LRs at h9; exact h9.2) (own_type (OM.out.below (al _ _)) (Or.row HO3.out) (by decide) hg7) hG7⟩))
            | (refine wpList_bsS rfl _ rfl ({ ss t with bv := .slice (some ⟨g7, 0, none⟩) k cap7 } : Sn) rfl ?_; intro w9 hG9 hb9 hs9; have HB9 := (show Hid (Below W0.heap.size W0 w9) from bt HBX.out hb9); have HO9 := (show Hid (Os w9 w.heap.size u3 es) from hO.out.below HB9.out))
            | (at_builtin; refine wpList_apS rfl (.tmp 58) (.tmp 60) rfl w.heap.size u3 es ({ ss t with bv := .slice (some ⟨g7, 0, none⟩) k cap7 } : Sn) rfl rfl HO9.out _ 1 rfl hG9 HES.out (Nat.le_trans hB.out.size HB9.out.size) ?_; intro v10 w10 ho10 hg10))
          go_roundw
          case rel =>
            exact ⟨t + 1, _, HT.out, by rw [WT.out], ho10, ((hE.out.below HB9.out).add (HEX.out.below hb9)).young HO9.out hg10, HO9.out.grown (bt hB.out HB9.out) (Nat.le_trans hB.out.size HB9.out.size) hg10 (Nat.le_refl _)⟩
          case measure => rw [WT.out]; exact meas_v17 HT.out
    · obtain rfl : t = n := by omega
      have hM0 : LMs wr es ss bl t 0 := by
        have h9 := hE.out
        unfold LEs at h9
        unfold LMs
        exact ⟨h9.1, h9.2, fun j hj => by omega⟩
      have HM0 := (show Hid (LMs wr es ss bl t 0) from hM0)
      clear hM0 hE
      go_wp2_with (fail)
      go_loopw [3, 9] (fun v i wr => ∃ (k : Nat) (es : List Sn), k ≤ 20 ∧ i = .int .i64 (k : Int) ∧ Hid (Os wr w.heap.size v es) ∧ Hid (LMs wr es ss bl t k) ∧ Hid (Below w.heap.size w wr)) (fun _ i _ => 20 - (intOf i).toNat)
      case atStart => exact ⟨0, es, Nat.zero_le _, rfl, hO, HM0, hB⟩
      case round =>
        clear hO HM0 hB
        obtain ⟨k, es, hk, rfl, hO, hM, hB⟩ := hrel
        obtain ⟨W0, hW0⟩ : ∃ W0, W0 = wr := ⟨_, rfl⟩
        subst hW0
        have hul := (show Hid (es.length = t + k ∧ es.length + 1 ≤ 1172812402961) from by
          have h9 := hM.out
          unfold LMs at h9
          have h1 := h9.1
          have := HN.out
          exact ⟨by omega, by omega⟩)
        by_cases hlt : k < 20
        · have hi : (k : Int) < 20 := by omega
          have HK := (show Hid (k < 20) from hlt)
          go_wp2_with (first
            | (refine wpList_bsS rfl _ rfl (snK k) (snK_cs k) ?_; intro w9 hG9 hb9 hs9; have HO9 := (show Hid (Os w9 w.heap.size u3 es) from hO.out.below hb9))
            | (at_builtin; refine wpList_apS rfl (.tmp 66) (.tmp 70) rfl w.heap.size u3 es (snK k) rfl rfl HO9.out _ 1 rfl hG9 hul.out.2 (Nat.le_trans hB.out.size hb9.size) ?_; intro v10 w10 ho10 hg10))
          go_roundw
          case rel =>
            exact ⟨k + 1, _, HK.out, by go_num, ho10, (hM.out.below hb9).add HO9.out hg10, HO9.out.grown (bt hB.out hb9) (Nat.le_trans hB.out.size hb9.size) hg10 (Nat.le_refl _)⟩
          case measure => have := HK.out; simp [intOf]; omega
        · obtain rfl : k = 20 := by omega
          obtain ⟨g, cap, e, hc⟩ := hO.out.some (by have := hul.out.1; omega)
          subst e
          rw [hul.out.1] at hc hO ⊢
          have hcn : (t : Int) ≤ (cap : Int) := by omega
          have HC := (show Hid (t + 20 ≤ cap) from hc)
          clear hc
          go_wp2_with (fail)
          go_ret
          have hM' := hM.out
          unfold LMs at hM'
          refine ⟨_, rfl, ⟨g, cap, es, rfl, hul.out.1, HC.out, ?_, hM'.2.1, hM'.2.2⟩, hB.out⟩
          have h9 := hO.out
          unfold Os at h9 ⊢
          exact or_mono h9 (Nat.zero_le _)
end
end Go.Proofs.Ytcoegbbhmdbafaa
