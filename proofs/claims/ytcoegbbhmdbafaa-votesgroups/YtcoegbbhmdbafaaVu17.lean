/-
  The document's groups: how far the list is; the list in memory.
-/
import Derived.Test.YtcoegbbhmdbafaaVt17
import Derived.Test.YtcoegbbhmdbafaaVj17
import Derived.Test.YtcoegbbhmdbafaaVn17
namespace Go.Proofs.Ytcoegbbhmdbafaa
open Go.RowKit
/-- The newest groups, so far. -/
structure Pf (s : Shs) (n : Nat) (l : List Grp) : Prop where
  ord : l.Pairwise fun a b => older b.1 a.1 = true
  mem : ∀ p ∈ l, (∃ i, i < n ∧ sh s p.1 i = true) ∧ p.2 = plc s n p.1
  cmp : ∀ k, (∃ i, i < n ∧ sh s k i = true) → (∃ p ∈ l, p.1 = k) ∨ ∀ p ∈ l, older k p.1 = true
theorem Pf.nil (s : Shs) (n : Nat) : Pf s n [] := ⟨List.Pairwise.nil, fun _ h => absurd h List.not_mem_nil, fun _ _ => .inr fun _ h => absurd h List.not_mem_nil⟩
/-- Comes this place into question? -/
def Cnd (s : Shs) (l : List Grp) (i : Nat) : Prop := (s i).1 = 2 ∧ ∀ p ∈ l, older (s i).2 p.1 = true
structure Bst (s : Shs) (l : List Grp) (t j : Nat) : Prop where
  lt : j < t
  cnd : Cnd s l j
  max : ∀ i, i < t → Cnd s l i → older (s j).2 (s i).2 = false
theorem Pf.full {s : Shs} {n : Nat} {l : List Grp} (h : Pf s n l) (hN : ∀ i, i < n → ¬ Cnd s l i) : IsG s n l := by
  refine ⟨h.ord, fun k => ⟨fun hk => ?_, ?_⟩, fun p hp => (h.mem p hp).2⟩
  · rcases h.cmp k hk with h1 | h1
    · exact h1
    · obtain ⟨i, hi, hs⟩ := hk
      obtain ⟨h2, h3⟩ := (sh_iff s k i).1 hs
      exact absurd ⟨h2, by rw [h3]; exact h1⟩ (hN i hi)
  · rintro ⟨p, hp, rfl⟩
    exact (h.mem p hp).1
theorem Pf.step {s : Shs} {n : Nat} {l : List Grp} (h : Pf s n l) {j : Nat} (hb : Bst s l n j) : Pf s n (l ++ [((s j).2, plc s n (s j).2)]) := by
  have hj : sh s (s j).2 j = true := (sh_iff _ _ _).2 ⟨hb.cnd.1, rfl⟩
  refine ⟨List.pairwise_append.2 ⟨h.ord, List.pairwise_singleton _ _, fun a ha b hb' => ?_⟩, fun p hp => ?_, fun k hk => ?_⟩
  · rw [List.mem_singleton] at hb'
    subst hb'
    exact hb.cnd.2 a ha
  · rcases List.mem_append.1 hp with hp | hp
    · exact h.mem p hp
    · rw [List.mem_singleton] at hp
      subst hp
      exact ⟨⟨j, hb.lt, hj⟩, rfl⟩
  · rcases h.cmp k hk with ⟨p, hp, e⟩ | h1
    · exact .inl ⟨p, List.mem_append_left _ hp, e⟩
    · by_cases e : k = (s j).2
      · exact .inl ⟨_, List.mem_append_right _ (List.mem_singleton.2 rfl), e.symm⟩
      · right
        intro p hp
        rcases List.mem_append.1 hp with hp | hp
        · exact h1 p hp
        · rw [List.mem_singleton] at hp
          subst hp
          obtain ⟨i, hi, hs⟩ := hk
          obtain ⟨h2, h3⟩ := (sh_iff s k i).1 hs
          have h4 := hb.max i hi ⟨h2, by rw [h3]; exact h1⟩
          rw [h3] at h4
          rcases older_total e with h5 | h5
          · exact h5
          · rw [h5] at h4; cases h4
theorem Pf.len {s : Shs} {n : Nat} {l : List Grp} (h : Pf s n l) : l.length ≤ n := by
  have key : ∀ r : List Grp, (r.Pairwise fun a b => older b.1 a.1 = true) → (∀ p ∈ r, ∃ i, i < n ∧ sh s p.1 i = true) → ∀ p q, r = p :: q → r.length ≤ mo s n p.1 + 1 := by
    intro r
    induction r with
    | nil => intro _ _ p q e; cases e
    | cons a t ih =>
      intro ho hx p q e
      injection e with e1 e2
      subst e1 e2
      cases t with
      | nil => simp
      | cons b t' =>
        have h1 := ih (List.pairwise_cons.1 ho).2 (fun p hp => hx p (List.mem_cons_of_mem _ hp)) b t' rfl
        obtain ⟨i, hi, hs⟩ := hx b (by simp)
        have := mo_lt ((List.pairwise_cons.1 ho).1 b (by simp)) hi hs
        simp only [List.length_cons] at h1 ⊢
        omega
  cases l with
  | nil => exact Nat.zero_le _
  | cons p q =>
    obtain ⟨i, hi, hs⟩ := (h.mem p (by simp)).1
    have := key _ h.ord (fun p hp => (h.mem p hp).1) p q rfl
    have := mo_lt_n hi hs
    omega
/-- The last one decides. -/
theorem Pf.last {s : Shs} {n : Nat} {l : List Grp} (h : Pf s n l) {r : Nat} (hr : l.length = r + 1) (k : Wg) : (∀ p ∈ l, older k p.1 = true) ↔ older k (l.getD r ((0, 0, 0), [])).1 = true := by
  have hm : l.getD r ((0, 0, 0), []) ∈ l := by
    rw [List.getD_eq_getElem?_getD, List.getElem?_eq_getElem (by omega)]
    exact List.getElem_mem _
  refine ⟨fun h1 => h1 _ hm, fun h1 p hp => ?_⟩
  obtain ⟨i, hi, e⟩ := List.getElem_of_mem hp
  by_cases hir : i = r
  · subst hir
    rw [← e]
    rw [List.getD_eq_getElem?_getD, List.getElem?_eq_getElem hi] at h1
    exact h1
  · have h2 := List.pairwise_iff_getElem.1 h.ord i r hi (by omega) (by omega)
    rw [e] at h2
    rw [List.getD_eq_getElem?_getD, List.getElem?_eq_getElem (by omega)] at h1
    exact older_trans h1 h2
/-- An own list of the document's groups. -/
def Ox (w : World) (base : Nat) (v : Value) (es : List (Wg × Sl3)) : Prop := w.ownsRow base 68 4 v es.length (es.flatMap grE)
theorem infoX : (Try.prog.info? 68).map (fun i => (i.zero, i.size, i.bytes)) = some (some (.agg #[.int .i64 0, .int .i64 0, .int .i64 0, .slice none 0 0]), 4, 48) := by kernel_rfl
theorem Ox.nil (w : World) (base : Nat) : Ox w base (.slice none 0 0) [] := World.ownsRow_nil _ _ _ _
theorem Ox.below {w w' : World} {base : Nat} {v : Value} {es : List (Wg × Sl3)} (h : Ox w base v es) (hb : Below w.heap.size w w') : Ox w' base v es := own_belowV h hb
theorem Ox.sm {w : World} {base : Nat} {v : Value} {es : List (Wg × Sl3)} (h : Ox w base v es) : ∃ p cap, v = .slice p es.length cap ∧ es.length ≤ cap ∧ (es = [] ∨ ∃ g, p = some ⟨g, 0, none⟩ ∧ ∀ i, i < es.length → ∀ j u, (grE (es.getD i ((0, 0, 0), (0, 0, 0))))[j]? = some u → w.cell? ⟨g, i * 4 + j, none⟩ = some u) := by
  have h' := h
  unfold Ox at h'
  rcases h'.2 with ⟨e, e0⟩ | ⟨g, cap, cur, hv, hg, hh, hc, _, _, _⟩
  · exact ⟨none, 0, by rw [e, e0], by omega, .inl (List.length_eq_zero_iff.1 e0)⟩
  · refine ⟨_, cap, hv, hc, .inr ⟨g, rfl, fun i hi j u hu => ?_⟩⟩
    have hj : j < 4 := by
      rcases Nat.lt_or_ge j 4 with h | h
      · exact h
      · rw [List.getElem?_eq_none (by exact h)] at hu; cases hu
    have h3 := h'.cells (g := g) (by rw [hv]; rfl) (i * 4 + j) _ (flat_get es (i * 4 + j) (by omega))
    rw [add_pl, Nat.zero_add] at h3
    rw [h3]
    have e1 : (i * 4 + j) / 4 = i := by omega
    have e2 : (i * 4 + j) % 4 = j := by omega
    rw [e1, e2, ← hu]
    have e3 : es[i]! = es.getD i ((0, 0, 0), (0, 0, 0)) := by simp [List.getD, hi]
    rw [e3, List.getElem!_eq_getElem?_getD, hu]
    rfl
theorem step_apX {ops : Array Oper} {o : Oper} {a : Act} {w : World} {K : Act → World → Prop} {Q : Exit → Act → World → Prop} {E : Prop} (hgd : o.guard = none) (s x : Operand) (ho : o.op = .call { callee := .builtin .append, args := #[s, x], argTypes := #[25, 25] })
    (base : Nat) (v : Value) (es : List (Wg × Sl3)) (e : Wg × Sl3) (hs : a.eval s = v) (hown : Ox w base v es) (g c : Nat) (hx : a.eval x = .slice (some ⟨g, 0, none⟩) 1 c) (hr : GB w g 68 (grE e).toArray) (hm : es.length + 1 ≤ 2932031007402) (hbase : base ≤ w.heap.size)
    (h : ∀ v' w', Ox w' base v' (es ++ [e]) → w.grownBy w' v.ownBlock → K (a.put o.dst v') w') : if Region.wanted o (yielded ops a.tmps) = true then Oper.wp Try.prog o a w K Q else E := by
  have hw : Region.wanted o (yielded ops a.tmps) = true := by simp [Region.wanted, hgd]
  rw [if_pos hw]
  obtain ⟨i0, hi, hz0, hz1, hz2⟩ := info_parts infoX
  have S : ∀ j t, (grE e)[j]? = some t → w.cell? (Addr.add ⟨g, 0, none⟩ j) = some t := by
    intro j t ht
    rw [add_pl, Nat.zero_add, hr.cell]
    simpa using ht
  obtain ⟨v', w', hrun, h2, h3, _⟩ := run_append_own (P := Try.prog) w base 25 o.type 68 i0 (.agg #[.int .i64 0, .int .i64 0, .int .i64 0, .slice none 0 0]) 4 48 Try.underlying25 hi hz0 hz1 hz2 rfl (by decide) v es.length _ hown ⟨g, 0, none⟩ 1 c (grE e) rfl S (by intro t ht; simp [grE] at ht; rcases ht with rfl | rfl | rfl | rfl <;> rfl) (by unfold maxLen; omega) (by omega) hbase
  unfold Oper.wp execOp
  simp only [ho, resolve, invoke, builtin, Sem.run_bind, Sem.run_pure, Result.andThen_ok, List.map_toArray, List.map_cons, List.map_nil, hs, hx, hrun]
  refine h v' w' ?_ h3
  unfold Ox
  simpa using h2
/-- Each group with a list of its own. -/
def Ax (w : World) (B : Nat) (es : List (Wg × Sl3)) (L : List Grp) : Prop := es.length = L.length ∧ ∀ i, i < L.length → (es.getD i ((0, 0, 0), (0, 0, 0))).1 = (L.getD i ((0, 0, 0), [])).1 ∧ On w B (slv (es.getD i ((0, 0, 0), (0, 0, 0))).2) (L.getD i ((0, 0, 0), [])).2
theorem Ax.nil (w : World) (B : Nat) : Ax w B [] [] := ⟨rfl, fun i hi => absurd hi (Nat.not_lt_zero i)⟩
theorem Ax.below {w w' : World} {B : Nat} {es : List (Wg × Sl3)} {L : List Grp} (h : Ax w B es L) (hb : Below w.heap.size w w') : Ax w' B es L := ⟨h.1, fun i hi => ⟨(h.2 i hi).1, (h.2 i hi).2.below hb⟩⟩
theorem Ax.add {w : World} {B : Nat} {es : List (Wg × Sl3)} {L : List Grp} (h : Ax w B es L) {e : Wg × Sl3} {p : Grp} (h1 : e.1 = p.1) (h2 : On w B (slv e.2) p.2) : Ax w B (es ++ [e]) (L ++ [p]) := by
  refine ⟨by simp [h.1], fun i hi => ?_⟩
  rw [List.length_append, List.length_singleton] at hi
  by_cases hlt : i < L.length
  · have := h.2 i hlt
    simpa [List.getD, List.getElem?_append_left hlt, List.getElem?_append_left (show i < es.length by rw [h.1]; exact hlt)] using this
  · have e1 : i = L.length := by omega
    subst e1
    have e2 : (es ++ [e]).getD L.length ((0, 0, 0), (0, 0, 0)) = e := by rw [← h.1]; simp [List.getD]
    have e3 : (L ++ [p]).getD L.length ((0, 0, 0), []) = p := by simp [List.getD]
    rw [e2, e3]; exact ⟨h1, h2⟩
theorem Ax.young {w w' : World} {B B' : Nat} {v : Value} {es es' : List (Wg × Sl3)} {L : List Grp} (h : Ax w B es L) (hv : Ox w B' v es') (hg : w.grownBy w' v.ownBlock) : Ax w' B es L :=
  ⟨h.1, fun i hi => ⟨(h.2 i hi).1, own_type (t := 3) (t' := 68) (h.2 i hi).2 hv (by decide) hg⟩⟩
theorem on_slv {w : World} {B : Nat} {v : Value} {L : List Nat} (h : On w B v L) (h0 : L ≠ []) : ∃ b, v = slv b := by
  rcases h.2 with ⟨_, h1⟩ | ⟨g, cap, cur, hv, _⟩
  · exact absurd (List.length_eq_zero_iff.1 h1) h0
  · exact ⟨(g, L.length, cap), hv⟩
theorem rgl_ox {w : World} {B B' : Nat} {v : Value} {es : List (Wg × Sl3)} {L : List Grp} (h : Ox w B v es) (hA : Ax w B' es L) : Rgl w v L := by
  obtain ⟨p, cap, e, hc, hr⟩ := h.sm
  have hl := hA.1
  refine ⟨p, cap, w.heap.size, es, by rw [e, hl], by omega, ⟨hl, fun i hi => ⟨(hA.2 i hi).1, ((hA.2 i hi).2.blk (slv_blk _)).2, (hA.2 i hi).2.rn⟩⟩, ?_⟩
  rcases hr with h1 | ⟨g, e1, h1⟩
  · subst h1
    exact .inl (List.length_eq_zero_iff.1 (by rw [← hl]; rfl))
  · exact .inr ⟨g, 0, e1, fun i hi j u hu => by rw [Nat.zero_add]; exact h1 i (by omega) j u hu⟩
theorem SnAt.hrunAt {w : World} {g o : Nat} {s : Sn} (H : SnAt w g o s) : (loadVar 52 ⟨g, o + 1, none⟩).run Try.prog w = .ok (.agg s.hd.cs) w := by
  refine run_loadVar_at w g (o + 1) 52 s.hd.cs _ (fun j u hj => ?_) Try.underlying52 rfl (size_Hd _)
  have hl : j < 16 := by
    rcases Nat.lt_or_ge j 16 with h | h
    · exact h
    · rw [List.getElem?_eq_none (by exact h)] at hj; cases hj
  have h := H (j + 1) u (by
    rw [← hj]
    unfold Sn.cs Hd.cs
    match j, hl with
    | 0, _ => rfl
    | 1, _ => rfl
    | 2, _ => rfl
    | 3, _ => rfl
    | 4, _ => rfl
    | 5, _ => rfl
    | 6, _ => rfl
    | 7, _ => rfl
    | 8, _ => rfl
    | 9, _ => rfl
    | 10, _ => rfl
    | 11, _ => rfl
    | 12, _ => rfl
    | 13, _ => rfl
    | 14, _ => rfl
    | 15, _ => rfl)
  rw [show o + (j + 1) = o + 1 + j by omega] at h
  exact h
theorem zero_Hd (w : World) : (zeroValue 52).run Try.prog w = .ok (.agg sn0.hd.cs) w := by kernel_rfl
theorem hdC_one (h : Hd) : (h.cs.all fun x => x.oneCell') = true := by
  simp [Hd.cs, show ∀ k z, (Value.int k z).oneCell' = true from fun _ _ => rfl, show ∀ b, (Value.string b).oneCell' = true from fun _ => rfl]
theorem hdC_same (h h' : Hd) : h.cs.size = h'.cs.size := rfl
theorem gb_hd {w : World} {g : Nat} {h : Hd} (H : GB w g 52 h.cs) : w.cell? ⟨g, 12, none⟩ = some (.int .i64 h.sz) ∧ w.cell? ⟨g, 14, none⟩ = some (.int .i64 h.ep) ∧ w.cell? ⟨g, 15, none⟩ = some (.int .i64 h.ct) := ⟨H.cell 12, H.cell 14, H.cell 15⟩
end Go.Proofs.Ytcoegbbhmdbafaa
