/-
  Layer 17's laws: 'lent', the walk.
-/
import Derived.Test.YtefomnlgpldgnaaVk17
namespace Go.Proofs.Ytefomnlgpldgnaa
open Go.RowKit
theorem Ow.empty17 (w : World) : Ow (w.alloc (.cells #[] 5)) w.heap.size (.slice (some ⟨w.heap.size, 0, none⟩) 0 0) [] := by
  have h := Ow.made w 0 (by omega)
  simpa using h
theorem Ow.some17 {w : World} {base : Nat} {v : Value} {xs : List (BitVec 8)} (h : Ow w base v xs) (h0 : 0 < xs.length) : ∃ g cap, v = .slice (some ⟨g, 0, none⟩) xs.length cap ∧ xs.length ≤ cap := by
  rcases h.2 with ⟨_, h1⟩ | ⟨g, cap, cur, hv, _, _, hn, _⟩
  · omega
  · exact ⟨g, cap, hv, hn⟩
theorem Or.some {w : World} {base : Nat} {v : Value} {us : List Value} (h : Or w base v us) (h0 : 0 < us.length) : ∃ g cap, v = .slice (some ⟨g, 0, none⟩) us.length cap ∧ us.length ≤ cap := by
  rcases h.2 with ⟨_, h1⟩ | ⟨g, cap, cur, hv, _, _, hn, _⟩
  · omega
  · exact ⟨g, cap, hv, hn⟩
theorem Os.some {w : World} {base : Nat} {v : Value} {es : List Sn} (h : Os w base v es) (h0 : 0 < es.length) : ∃ g cap, v = .slice (some ⟨g, 0, none⟩) es.length cap ∧ es.length ≤ cap := by
  rcases h.2 with ⟨_, h1⟩ | ⟨g, cap, cur, hv, _, _, hn, _⟩
  · omega
  · exact ⟨g, cap, hv, hn⟩
theorem or_mono {w : World} {B B' k n : Nat} {t : TypeId} {v : Value} {xs : List Value} (h : w.ownsRow B t k v n xs) (hb : B' ≤ B) : w.ownsRow B' t k v n xs := by
  refine ⟨h.1, ?_⟩
  rcases h.2 with h1 | ⟨g, cap, c, hv, hg, hh, hc⟩
  · exact .inl h1
  · exact .inr ⟨g, cap, c, hv, Nat.le_trans hb hg, hh, hc⟩
theorem own_grown {t : TypeId} {w w' w0 : World} {base B k n : Nat} {v : Value} {xs : List Value} (h : w.ownsRow base t k v n xs) (hb : Below B w0 w) (hB : B ≤ w.heap.size) (hg : w.grownBy w' v.ownBlock) (hbase : B ≤ base) : Below B w0 w' := hb.grown hg hB (fun j hj => Nat.le_trans hbase (h.lt j hj).1)
theorem Or.grown {w w' w0 : World} {base B : Nat} {v : Value} {us : List Value} (h : Or w base v us) (hb : Below B w0 w) (hB : B ≤ w.heap.size) (hg : w.grownBy w' v.ownBlock) (hbase : B ≤ base) : Below B w0 w' := own_grown h hb hB hg hbase
theorem Os.grown {w w' w0 : World} {base B : Nat} {v : Value} {es : List Sn} (h : Os w base v es) (hb : Below B w0 w) (hB : B ≤ w.heap.size) (hg : w.grownBy w' v.ownBlock) (hbase : B ≤ base) : Below B w0 w' := own_grown h hb hB hg hbase
theorem gb_setBv {w : World} {g : Nat} {s : Sn} (H : GB w g 39 s.cs) (v : Value) : GB (w.setCell ⟨g, 17, none⟩ v) g 39 ({ s with bv := v } : Sn).cs := by
  unfold GB Sn.cs at *
  exact heap_setCell_same _ g 17 _ _ _ H
theorem gb_frozen {w : World} {g : Nat} {t : TypeId} {cs : Array Value} (H : GB w g t cs) (i : Nat) : w.frozen? ⟨g, i, none⟩ = false := frozen_of_row w g i _ _ H
theorem grown_setCell (w : World) (a : Addr) (v : Value) : w.grownBy (w.setCell a v) (some a.block) := ⟨rfl, rfl, rfl, by simp, fun k _ hk => Below.heap_setCell _ _ _ _ (fun e => hk (by rw [e]))⟩
theorem own_set {t t' : TypeId} {w : World} {B k n g i : Nat} {u v : Value} {xs : List Value} {cs : Array Value} (h : w.ownsRow B t k u n xs) (H : GB w g t' cs) (hne : t ≠ t') : (w.setCell ⟨g, i, none⟩ v).ownsRow B t k u n xs := by
  refine World.ownsRow.kept h (grown_setCell w ⟨g, i, none⟩ v) ?_
  rcases h.2 with ⟨h1, _⟩ | ⟨g1, c1, cur1, h1, _, hh1, _⟩
  · rw [h1]; exact .inl rfl
  · refine .inr (fun e => ?_)
    rw [h1] at e
    simp [Value.ownBlock] at e
    subst e
    unfold GB at H
    rw [hh1] at H
    injection H with H
    injection H with _ H
    exact hne H
theorem lrow_set {w : World} {g i : Nat} {u v : Value} {x : List (BitVec 8)} {cs : Array Value} (h : LRow w u x) (H : GB w g 39 cs) : LRow (w.setCell ⟨g, i, none⟩ v) u x := by
  obtain ⟨g1, cap, e, hc, hO⟩ := h
  exact ⟨g1, cap, e, hc, own_set hO H (by decide)⟩
/-- A finished list of lent rows. -/
theorem lbl_mk {w : World} {B g cap k gs i : Nat} {us : List Value} {m v : Value} {bl : List (List (BitVec 8))} {cs : Array Value} (hO : Or w B (.slice (some ⟨g, 0, none⟩) (k + 1) cap) (us ++ [m])) (hl : us.length = k) (hk : k = bl.length) (hc : k + 1 ≤ cap) (hR : ∀ j, j < k → LRow w (us.getD j (.slice none 0 0)) (bl.getD j [])) (hM : Ow w 0 m [84#8]) (H : GB w gs 39 cs) : LBl (w.setCell ⟨gs, i, none⟩ v) (.slice (some ⟨g, 0, none⟩) k cap) bl := by
  subst hk
  refine ⟨g, cap, us ++ [m], rfl, by simp [hl], hc, own_set (or_mono hO (Nat.zero_le _)) H (by decide), fun j hj => ?_, ?_⟩
  · have := lrow_set (i := i) (v := v) (hR j hj) H
    simpa [List.getD, List.getElem?_append_left (show j < us.length by omega)] using this
  · have e : (us ++ [m]).getD bl.length (.slice none 0 0) = m := by rw [← hl]; simp [List.getD]
    rw [e]
    exact own_set hM H (by decide)
theorem Or.row {w : World} {base : Nat} {v : Value} {us : List Value} (h : Or w base v us) : w.ownsRow base 72 1 v us.length us := h
theorem snK_cs (k : Nat) : (Value.agg #[.int .i64 ((100 : Int) + (k : Int)), .int .u8 0, .int .u8 0, .int .u8 0, .int .u8 0, .int .u8 0, .int .u8 0, .int .u8 0, .int .u8 0, .int .i64 0, .int .i64 0, .int .i64 0, .string ⟨#[]⟩, .int .i64 0, .int .i64 0, .int .i64 0, .int .i64 0, .slice none 0 0, .int .i64 0]) = .agg (snK k).cs := rfl
/-- Rows that are lent so far. -/
def LRs (w : World) (us : List Value) (bl : List (List (BitVec 8))) (t : Nat) : Prop := us.length = t ∧ ∀ k, k < t → LRow w (us.getD k (.slice none 0 0)) (bl.getD k [])
theorem LRs.below {w w' : World} {us : List Value} {bl : List (List (BitVec 8))} {t : Nat} (h : LRs w us bl t) (hb : Below w.heap.size w w') : LRs w' us bl t := ⟨h.1, fun k hk => (h.2 k hk).below hb⟩
theorem LRs.young {w w' : World} {us us' : List Value} {bl : List (List (BitVec 8))} {t B : Nat} {v : Value} (h : LRs w us bl t) (hv : Or w B v us') (hg : w.grownBy w' v.ownBlock) : LRs w' us bl t := ⟨h.1, fun k hk => (h.2 k hk).young hv (by decide) hg⟩
theorem LRs.add {w : World} {us : List Value} {bl : List (List (BitVec 8))} {t : Nat} {u : Value} (h : LRs w us bl t) (hu : LRow w u (bl.getD t [])) : LRs w (us ++ [u]) bl (t + 1) := by
  refine ⟨by simp [h.1], fun k hk => ?_⟩
  by_cases hlt : k < t
  · have := h.2 k hlt
    simpa [List.getD, List.getElem?_append_left (show k < us.length by rw [h.1]; exact hlt)] using this
  · have e : k = t := by omega
    subst e
    have e2 : (us ++ [u]).getD k (.slice none 0 0) = u := by rw [← h.1]; simp [List.getD]
    rw [e2]; exact hu
theorem rd3 (w : World) : Rd (w.alloc (.cells #[.int .u8 81, .int .u8 82, .int .u8 83] 5)) (some ⟨w.heap.size, 0, none⟩) mk3 := rd_newl w mk3 _ (0, 0)
theorem LRow.mk {w : World} {B g cap : Nat} {x : List (BitVec 8)} (h : Ow w B (.slice (some ⟨g, 0, none⟩) (x.length + 3) cap) (x ++ mk3)) (hc : x.length + 3 ≤ cap) : LRow w (.slice (some ⟨g, 0, none⟩) x.length cap) x := ⟨g, cap, rfl, hc, h.mono (Nat.zero_le _)⟩
theorem Ow.of84 (w : World) : Ow (w.alloc (.cells #[.int .u8 84] 5)) 0 (.slice (some ⟨w.heap.size, 0, none⟩) 1 1) [84#8] :=
  ⟨rfl, .inr ⟨w.heap.size, 1, _, rfl, Nat.zero_le _, heap_alloc_new w _, Nat.le_refl _, by decide, rfl, rfl⟩⟩
/-- Places that are lent so far. -/
def LEs (w : World) (es : List Sn) (ss : Nat → Sn) (bl : Nat → List (List (BitVec 8))) (t : Nat) : Prop := es.length = t ∧ ∀ i, i < t → LEn w (es.getD i sn0) (ss i) (bl i)
theorem LEs.below {w w' : World} {es : List Sn} {ss : Nat → Sn} {bl : Nat → List (List (BitVec 8))} {t : Nat} (h : LEs w es ss bl t) (hb : Below w.heap.size w w') : LEs w' es ss bl t := ⟨h.1, fun k hk => (h.2 k hk).below hb⟩
theorem LEs.young {w w' : World} {es es' : List Sn} {ss : Nat → Sn} {bl : Nat → List (List (BitVec 8))} {t B : Nat} {v : Value} (h : LEs w es ss bl t) (hv : Os w B v es') (hg : w.grownBy w' v.ownBlock) : LEs w' es ss bl t := ⟨h.1, fun k hk => (h.2 k hk).young hv hg⟩
theorem LEs.add {w : World} {es : List Sn} {ss : Nat → Sn} {bl : Nat → List (List (BitVec 8))} {t : Nat} {e : Sn} (h : LEs w es ss bl t) (hu : LEn w e (ss t) (bl t)) : LEs w (es ++ [e]) ss bl (t + 1) := by
  refine ⟨by simp [h.1], fun k hk => ?_⟩
  by_cases hlt : k < t
  · have := h.2 k hlt
    simpa [List.getD, List.getElem?_append_left (show k < es.length by rw [h.1]; exact hlt)] using this
  · have e1 : k = t := by omega
    subst e1
    have e2 : (es ++ [e]).getD k sn0 = e := by rw [← h.1]; simp [List.getD]
    rw [e2]; exact hu
/-- .. with marks behind. -/
def LMs (w : World) (es : List Sn) (ss : Nat → Sn) (bl : Nat → List (List (BitVec 8))) (n k : Nat) : Prop := es.length = n + k ∧ (∀ i, i < n → LEn w (es.getD i sn0) (ss i) (bl i)) ∧ ∀ j, j < k → es.getD (n + j) sn0 = snK j
theorem LMs.add {w w' : World} {es es' : List Sn} {ss : Nat → Sn} {bl : Nat → List (List (BitVec 8))} {n k B : Nat} {v : Value} (h : LMs w es ss bl n k) (hv : Os w B v es') (hg : w.grownBy w' v.ownBlock) : LMs w' (es ++ [snK k]) ss bl n (k + 1) := by
  obtain ⟨h1, h2, h3⟩ := h
  refine ⟨by simp [h1]; omega, fun i hi => ?_, fun j hj => ?_⟩
  · have := (h2 i hi).young hv hg
    simpa [List.getD, List.getElem?_append_left (show i < es.length by omega)] using this
  · by_cases hlt : j < k
    · have := h3 j hlt
      simpa [List.getD, List.getElem?_append_left (show n + j < es.length by omega)] using this
    · have e : j = k := by omega
      subst e
      rw [← h1]; simp [List.getD]
theorem LMs.below {w w' : World} {es : List Sn} {ss : Nat → Sn} {bl : Nat → List (List (BitVec 8))} {n k : Nat} (h : LMs w es ss bl n k) (hb : Below w.heap.size w w') : LMs w' es ss bl n k := ⟨h.1, fun i hi => (h.2.1 i hi).below hb, h.2.2⟩
section
attribute [local irreducible] Calls Sn.cs GB Os Or LRs LEs LMs LRow el
end
end Go.Proofs.Ytefomnlgpldgnaa
