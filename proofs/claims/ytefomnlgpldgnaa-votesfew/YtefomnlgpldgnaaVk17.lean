/-
  Layer 17's laws: 'lent'.
-/
import Derived.Test.YtefomnlgpldgnaaVj17
import Derived.Test.YtefomnlgpldgnaaKs
import Derived.Test.YtefomnlgpldgnaaKz
namespace Go.Proofs.Ytefomnlgpldgnaa
open Go.RowKit
/-- A list of rows that reads so. -/
def Rws (w : World) (p : Option Addr) (bl : List (List (BitVec 8))) : Prop :=
  bl = [] ∨ ∃ b o, p = some ⟨b, o, none⟩ ∧ ∀ i, i < bl.length → ∃ q c, w.cell? ⟨b, o + i, none⟩ = some (.slice q (bl.getD i []).length c) ∧ (bl.getD i []).length ≤ c ∧ Rd w q (bl.getD i [])
theorem Rws.below {w w' : World} {p : Option Addr} {bl : List (List (BitVec 8))} (h : Rws w p bl) (hb : Below w.heap.size w w') : Rws w' p bl := by
  rcases h with h | ⟨b, o, e, hc⟩
  · exact .inl h
  · refine .inr ⟨b, o, e, fun i hi => ?_⟩
    obtain ⟨q, c, h1, h2, h3⟩ := hc i hi
    exact ⟨q, c, cell_below h1 hb, h2, h3.below hb⟩
theorem Rws.row {w : World} {p : Option Addr} {bl : List (List (BitVec 8))} (h : Rws w p bl) (i : Nat) (hi : i < bl.length) : ∃ b o q c, p = some ⟨b, o, none⟩ ∧ w.cell? ⟨b, o + i, none⟩ = some (.slice q (bl.getD i []).length c) ∧ (bl.getD i []).length ≤ c ∧ Rd w q (bl.getD i []) := by
  rcases h with h | ⟨b, o, e, hc⟩
  · subst h; simp at hi
  · obtain ⟨q, c, h1, h2, h3⟩ := hc i hi
    exact ⟨b, o, q, c, e, h1, h2, h3⟩
/-- An own list of rows. -/
def Or (w : World) (base : Nat) (v : Value) (us : List Value) : Prop := w.ownsRow base 72 1 v us.length us
theorem infoR : (Try.prog.info? 72).map (fun i => (i.zero, i.size, i.bytes)) = some (some (.slice none 0 0), 1, 24) := by kernel_rfl
theorem Or.nil (w : World) (base : Nat) : Or w base (.slice none 0 0) [] := World.ownsRow_nil _ _ _ _
theorem Or.below {w w' : World} {base : Nat} {v : Value} {us : List Value} (h : Or w base v us) (hb : Below w.heap.size w w') : Or w' base v us := own_belowV h hb
/-- append(v, x) of one row. -/
theorem wpList_apR {w : World} {ops : Array Oper} {rest : List Oper} {o : Oper} {a : Act} {Q : Exit → Act → World → Prop} (hgd : o.guard = none) (s x : Operand) (ho : o.op = .call { callee := .builtin .append, args := #[s, x], argTypes := #[34, 34] })
    (base : Nat) (v : Value) (us : List Value) (hs : a.eval s = v) (hown : Or w base v us) (ad : Addr) (c : Nat) (u : Value) (hu : u.oneCell' = true) (hx : a.eval x = .slice (some ad) 1 c) (hr : w.cell? ad = some u) (hm : us.length + 1 ≤ 5864062014805) (hbase : base ≤ w.heap.size)
    (h : ∀ v' w', Or w' base v' (us ++ [u]) → w.grownBy w' v.ownBlock → wpList Try.prog ops Q rest (a.put o.dst v') w') : wpList Try.prog ops Q (o :: rest) a w := by
  obtain ⟨i0, hi, hz0, hz1, hz2⟩ := info_parts infoR
  have S : ∀ j t, ([u] : List Value)[j]? = some t → w.cell? (ad.add j) = some t := by
    intro j t ht
    match j with
    | 0 =>
      simp at ht
      rw [show ad.add 0 = ad by unfold Addr.add; split <;> simp_all, hr, ht]
    | j + 1 => simp at ht
  refine wpList_append_own _ hgd _ _ 34 ho base 72 i0 (.slice none 0 0) 1 24 Try.underlying34 hi hz0 hz1 hz2 rfl (by decide) v us.length _ hs hown ad 1 c [u] hx rfl S (by intro t ht; simp at ht; subst ht; exact hu) (by unfold maxLen; omega) (by omega) hbase ?_
  intro v' w' ho' hg _
  refine h v' w' ?_ hg
  unfold Or
  simpa using ho'
/-- Rows of unlike types lie apart. -/
theorem own_type {t t' : TypeId} {k k' : Nat} {w w' : World} {B B' n n' : Nat} {u v : Value} {xs ys : List Value} (h : w.ownsRow B t k u n xs) (hv : w.ownsRow B' t' k' v n' ys) (hne : t ≠ t') (hg : w.grownBy w' v.ownBlock) : w'.ownsRow B t k u n xs := by
  refine World.ownsRow.kept h hg ?_
  cases hb : u.ownBlock with
  | none => exact .inl rfl
  | some g =>
    refine .inr (fun e => ?_)
    rcases h.2 with ⟨h1, _⟩ | ⟨g1, c1, cur1, h1, _, hh1, _⟩
    · rw [h1] at hb; cases hb
    · rcases hv.2 with ⟨h2, _⟩ | ⟨g2, c2, cur2, h2, _, hh2, _⟩
      · rw [h2] at e; cases e
      · rw [h1] at hb
        rw [h2] at e
        simp [Value.ownBlock] at hb e
        subst hb
        subst e
        rw [hh1] at hh2
        injection hh2 with hh2
        injection hh2 with _ hh2
        exact hne hh2
def mk3 : List (BitVec 8) := [81#8, 82#8, 83#8]
/-- Bytes that are lent: a row of its own, with marks behind. -/
def LRow (w : World) (u : Value) (x : List (BitVec 8)) : Prop := ∃ g cap, u = .slice (some ⟨g, 0, none⟩) x.length cap ∧ x.length + 3 ≤ cap ∧ Ow w 0 (.slice (some ⟨g, 0, none⟩) (x.length + 3) cap) (x ++ mk3)
theorem LRow.below {w w' : World} {u : Value} {x : List (BitVec 8)} (h : LRow w u x) (hb : Below w.heap.size w w') : LRow w' u x := by
  obtain ⟨g, cap, e, hc, hO⟩ := h
  exact ⟨g, cap, e, hc, hO.below hb⟩
theorem LRow.young {w w' : World} {u v : Value} {x : List (BitVec 8)} {t : TypeId} {k B n : Nat} {ys : List Value} (h : LRow w u x) (hv : w.ownsRow B t k v n ys) (hne : t ≠ 5) (hg : w.grownBy w' v.ownBlock) : LRow w' u x := by
  obtain ⟨g, cap, e, hc, hO⟩ := h
  exact ⟨g, cap, e, hc, own_type hO hv (fun e => hne e.symm) hg⟩
/-- Lists of rows that are lent. -/
def LBl (w : World) (v : Value) (bl : List (List (BitVec 8))) : Prop := ∃ g cap us, v = .slice (some ⟨g, 0, none⟩) bl.length cap ∧ us.length = bl.length + 1 ∧ bl.length + 1 ≤ cap ∧ Or w 0 (.slice (some ⟨g, 0, none⟩) (bl.length + 1) cap) us ∧ (∀ k, k < bl.length → LRow w (us.getD k (.slice none 0 0)) (bl.getD k [])) ∧ Ow w 0 (us.getD bl.length (.slice none 0 0)) [84#8]
theorem LBl.below {w w' : World} {v : Value} {bl : List (List (BitVec 8))} (h : LBl w v bl) (hb : Below w.heap.size w w') : LBl w' v bl := by
  obtain ⟨g, cap, us, e, hl, hc, hO, hR, hM⟩ := h
  exact ⟨g, cap, us, e, hl, hc, hO.below hb, fun k hk => (hR k hk).below hb, hM.below hb⟩
theorem LBl.young {w w' : World} {v v2 : Value} {bl : List (List (BitVec 8))} {t : TypeId} {k B n : Nat} {ys : List Value} (h : LBl w v bl) (hv : w.ownsRow B t k v2 n ys) (hne : t ≠ 5) (hne' : t ≠ 72) (hg : w.grownBy w' v2.ownBlock) : LBl w' v bl := by
  obtain ⟨g, cap, us, e, hl, hc, hO, hR, hM⟩ := h
  exact ⟨g, cap, us, e, hl, hc, own_type hO hv (fun e => hne' e.symm) hg, fun k hk => (hR k hk).young hv hne hg, own_type hM hv (fun e => hne e.symm) hg⟩
/-- An own list of places. -/
def Os (w : World) (base : Nat) (v : Value) (es : List Sn) : Prop := w.ownsRow base 39 19 v es.length (es.flatMap fun s => s.cs.toList)
theorem infoS : (Try.prog.info? 39).map (fun i => (i.zero, i.size, i.bytes)) = some (some (.agg sn0.cs), 19, 120) := by kernel_rfl
theorem Os.below {w w' : World} {base : Nat} {v : Value} {es : List Sn} (h : Os w base v es) (hb : Below w.heap.size w w') : Os w' base v es := own_belowV h hb
theorem wpList_apS {w : World} {ops : Array Oper} {rest : List Oper} {o : Oper} {a : Act} {Q : Exit → Act → World → Prop} (hgd : o.guard = none) (s x : Operand) (ho : o.op = .call { callee := .builtin .append, args := #[s, x], argTypes := #[24, 24] })
    (base : Nat) (v : Value) (es : List Sn) (e : Sn) (he : e.bv.oneCell' = true) (hs : a.eval s = v) (hown : Os w base v es) (g c : Nat) (hx : a.eval x = .slice (some ⟨g, 0, none⟩) 1 c) (hr : GB w g 39 e.cs) (hm : es.length + 1 ≤ 1172812402961) (hbase : base ≤ w.heap.size)
    (h : ∀ v' w', Os w' base v' (es ++ [e]) → w.grownBy w' v.ownBlock → wpList Try.prog ops Q rest (a.put o.dst v') w') : wpList Try.prog ops Q (o :: rest) a w := by
  obtain ⟨i0, hi, hz0, hz1, hz2⟩ := info_parts infoS
  have S : ∀ j t, e.cs.toList[j]? = some t → w.cell? (Addr.add ⟨g, 0, none⟩ j) = some t := by
    intro j t ht
    rw [add_pl, Nat.zero_add, hr.cell]
    simpa using ht
  refine wpList_append_own _ hgd _ _ 24 ho base 39 i0 (.agg sn0.cs) 19 120 Try.underlying24 hi hz0 hz1 hz2 rfl (by decide) v es.length _ hs hown ⟨g, 0, none⟩ 1 c e.cs.toList hx rfl S (by
    intro t ht
    have := snC_one e he
    rw [Array.all_eq_true_iff_forall_mem] at this
    exact this t (Array.mem_toList_iff.1 ht)) (by unfold maxLen; omega) (by omega) hbase ?_
  intro v' w' ho' hg _
  refine h v' w' ?_ hg
  unfold Os
  simpa using ho'
theorem fill19 (e : Sn) : Instr.fill (fun i => some (i * 19, 19)) ((Array.range (1 * 19)).map ((Value.agg sn0.cs).cells[· % (Value.agg sn0.cs).cells.size]!)) [(0, .agg e.cs)] = some e.cs := by kernel_rfl
theorem wpList_bsS {w : World} {ops : Array Oper} {rest : List Oper} {o : Oper} {a : Act} {Q : Exit → Act → World → Prop} (hgd : o.guard = none) (x : Operand) (ho : o.op = .buildSlice 24 1 #[(0, x)]) (e : Sn) (hx : a.eval x = .agg e.cs)
    (h : ∀ w', GB w' w.heap.size 39 e.cs → Below w.heap.size w w' → Hid (w'.heap.size = w.heap.size + 1) → wpList Try.prog ops Q rest (a.put o.dst (.slice (some ⟨w.heap.size, 0, none⟩) 1 1)) w') : wpList Try.prog ops Q (o :: rest) a w := by
  obtain ⟨i0, hi, hz0, hz1, hz2⟩ := info_parts infoS
  refine wpList_buildSlice hgd 24 39 1 #[(0, x)] ho e.cs i0 (.agg sn0.cs) Try.underlying24 hi hz0 (by rw [hz1]; decide) (by rw [hz1]; decide) ?_ (h _ (GB.new w _ _) ((Below.refl _ _).alloc (Nat.le_refl _) _) (by show _ = _; simp))
  rw [hz1]
  simp only [List.map_toArray, List.map_cons, List.map_nil, hx]
  exact fill19 e
/-- A place whose blocks are lent. -/
def LEn (w : World) (e s : Sn) (bl : List (List (BitVec 8))) : Prop := e = { s with bv := e.bv } ∧ LBl w e.bv bl
theorem LEn.below {w w' : World} {e s : Sn} {bl : List (List (BitVec 8))} (h : LEn w e s bl) (hb : Below w.heap.size w w') : LEn w' e s bl := ⟨h.1, h.2.below hb⟩
theorem LEn.young {w w' : World} {e s : Sn} {bl : List (List (BitVec 8))} {v : Value} {es : List Sn} {B : Nat} (h : LEn w e s bl) (hv : Os w B v es) (hg : w.grownBy w' v.ownBlock) : LEn w' e s bl := ⟨h.1, h.2.young hv (by decide) (by decide) hg⟩
def snK (k : Nat) : Sn := { sn0 with kd := 100 + (k : Int) }
/-- Places that are lent. -/
def LSn (w : World) (v : Value) (n : Nat) (ss : Nat → Sn) (bl : Nat → List (List (BitVec 8))) : Prop := ∃ g cap es, v = .slice (some ⟨g, 0, none⟩) n cap ∧ es.length = n + 20 ∧ n + 20 ≤ cap ∧ Os w 0 (.slice (some ⟨g, 0, none⟩) (n + 20) cap) es ∧ (∀ i, i < n → LEn w (es.getD i sn0) (ss i) (bl i)) ∧ ∀ k, k < 20 → es.getD (n + k) sn0 = snK k
/-- The blocks of the places, as they are handed in. -/
def Bls (w : World) (n : Nat) (ss : Nat → Sn) (bl : Nat → List (List (BitVec 8))) : Prop := ∀ i, i < n → ∃ p c, (ss i).bv = .slice p (bl i).length c ∧ (bl i).length ≤ c ∧ (bl i).length ≤ 5864062014634 ∧ (∀ t, ((bl i).getD t []).length ≤ 140737488351232) ∧ Rws w p (bl i)
theorem Bls.below {w w' : World} {n : Nat} {ss : Nat → Sn} {bl : Nat → List (List (BitVec 8))} (h : Bls w n ss bl) (hb : Below w.heap.size w w') : Bls w' n ss bl := fun i hi => by
  obtain ⟨p, c, h1, h2, h3, h4, h5⟩ := h i hi
  exact ⟨p, c, h1, h2, h3, h4, h5.below hb⟩
end Go.Proofs.Ytefomnlgpldgnaa
