/-
  Layer 17's laws: 'kept'.
-/
import Derived.Test.YtefomnlgpldgnaaVn17
namespace Go.Proofs.Ytefomnlgpldgnaa
open Go.RowKit
theorem flat_at {α : Type} (f : α → List Value) (K : Nat) (hf : ∀ x, (f x).length = K) : ∀ (es : List α) (i j : Nat) (d : α), i < es.length → j < K → (es.flatMap f)[i * K + j]? = (f (es.getD i d))[j]?
  | [], i, _, _, h, _ => by simp at h
  | e :: r, 0, j, d, _, hj => by
    rw [List.flatMap_cons, Nat.zero_mul, Nat.zero_add, List.getElem?_append_left (by rw [hf]; exact hj)]
    rfl
  | e :: r, i + 1, j, d, h, hj => by
    rw [List.flatMap_cons, List.getElem?_append_right (by rw [hf, Nat.add_mul]; omega), hf, show (i + 1) * K + j - K = i * K + j by rw [Nat.add_mul, Nat.one_mul]; omega, flat_at f K hf r i j d (by simpa using h) hj]
    rfl
theorem os_at {w : World} {B g m cap : Nat} {es : List Sn} (h : Os w B (.slice (some ⟨g, 0, none⟩) m cap) es) {i : Nat} (hi : i < es.length) : SnAt w g (i * 19) (es.getD i sn0) := by
  intro j u hu
  have hj : j < 19 := by
    rcases Nat.lt_or_ge j 19 with h | h
    · exact h
    · rw [List.getElem?_eq_none (by exact h)] at hu; cases hu
  have h' := h
  unfold Os at h'
  have e := flat_at (fun s : Sn => s.cs.toList) 19 (fun _ => rfl) es i j sn0 hi hj
  have := h'.cells (g := g) rfl (i * 19 + j) u (by rw [e]; exact hu)
  rw [add_pl, Nat.zero_add] at this
  exact this
theorem ex_ldR {o : Oper} {a : Act} {X : World} {t : TypeId} {x : Operand} {p : Addr} {cs : Array Value} (ho : o.op = .load t x) (hx : a.eval x = .pointer (some p)) (hr : (loadVar t p).run Try.prog X = .ok (.agg cs) X) : (execOp a.eval o).run Try.prog X = .ok (.value (.agg cs)) X := by
  unfold execOp
  simp only [ho, hx, Instr.loadAt, Instr.sureAddr, Sem.run_bind, Sem.run_pure, Result.andThen_ok, hr]
/-- What is read of lent blocks. -/
structure LBa (w : World) (g : Nat) (bl : List (List (BitVec 8))) : Prop where
  row : ∀ k, k < bl.length → ∃ gr cr, w.cell? ⟨g, k, none⟩ = some (.slice (some ⟨gr, 0, none⟩) (bl.getD k []).length cr) ∧ (bl.getD k []).length + 3 ≤ cr ∧ Rd w (some ⟨gr, 0, none⟩) (bl.getD k [] ++ mk3)
  mrk : ∃ gx cx, w.cell? ⟨g, bl.length, none⟩ = some (.slice (some ⟨gx, 0, none⟩) 1 cx) ∧ w.cell? ⟨gx, 0, none⟩ = some (.int .u8 84)
theorem LBa.below {w w' : World} {g : Nat} {bl : List (List (BitVec 8))} (h : LBa w g bl) (hb : Below w.heap.size w w') : LBa w' g bl := by
  refine ⟨fun k hk => ?_, ?_⟩
  · obtain ⟨gr, cr, h1, h2, h3⟩ := h.row k hk
    exact ⟨gr, cr, cell_below h1 hb, h2, h3.below hb⟩
  · obtain ⟨gx, cx, h1, h2⟩ := h.mrk
    exact ⟨gx, cx, cell_below h1 hb, cell_below h2 hb⟩
theorem or_at {w : World} {B g m cap : Nat} {us : List Value} (h : Or w B (.slice (some ⟨g, 0, none⟩) m cap) us) {i : Nat} (hi : i < us.length) : w.cell? ⟨g, i, none⟩ = some (us.getD i (.slice none 0 0)) := by
  unfold Or at h
  have := h.cells (g := g) rfl i (us.getD i (.slice none 0 0)) (by simp [List.getD, hi])
  rw [add_pl, Nat.zero_add] at this
  exact this
theorem Ow.rdAt {w : World} {B g n c : Nat} {xs : List (BitVec 8)} (h : Ow w B (.slice (some ⟨g, 0, none⟩) n c) xs) : Rd w (some ⟨g, 0, none⟩) xs := by
  obtain ⟨p, c', e, _, hr⟩ := h.rd
  injection e with e
  rw [e]; exact hr
theorem LBl.open {w : World} {v : Value} {bl : List (List (BitVec 8))} (h : LBl w v bl) : ∃ g cap, v = .slice (some ⟨g, 0, none⟩) bl.length cap ∧ bl.length + 1 ≤ cap ∧ LBa w g bl := by
  obtain ⟨g, cap, us, e, hl, hc, hO, hR, hM⟩ := h
  refine ⟨g, cap, e, hc, fun k hk => ?_, ?_⟩
  · obtain ⟨gr, cr, e2, hcr, hO2⟩ := hR k hk
    refine ⟨gr, cr, ?_, hcr, hO2.rdAt⟩
    rw [or_at hO (by omega), e2]
  · obtain ⟨gx, cx, e2, _⟩ := hM.some17 (by decide)
    rw [e2] at hM
    refine ⟨gx, cx, ?_, ?_⟩
    · rw [or_at hO (by omega), e2]; rfl
    · rcases hM.rdAt with h0 | ⟨b, o, e3, hc3⟩
      · cases h0
      · injection e3 with e3
        injection e3 with e4 e5
        subst e4 e5
        exact hc3 0 (by decide)
theorem LBa.rws {w : World} {g : Nat} {bl : List (List (BitVec 8))} (h : LBa w g bl) : Rws w (some ⟨g, 0, none⟩) bl := by
  refine .inr ⟨g, 0, rfl, fun i hi => ?_⟩
  obtain ⟨gr, cr, h1, h2, h3⟩ := h.row i hi
  refine ⟨_, cr, by rw [Nat.zero_add]; exact h1, by omega, ?_⟩
  generalize bl.getD i [] = x at *
  rcases h3 with h0 | ⟨b, o, e, hc⟩
  · have := congrArg List.length h0
    simp [mk3] at this
  · refine .inr ⟨b, o, e, fun j hj => ?_⟩
    have := hc j (by rw [List.length_append]; omega)
    rw [this]
    simp [List.getD, List.getElem?_append_left hj]
theorem mk3_at {w : World} {gr : Nat} {x : List (BitVec 8)} (h : Rd w (some ⟨gr, 0, none⟩) (x ++ mk3)) : w.cell? ⟨gr, x.length, none⟩ = some (.int .u8 81) ∧ w.cell? ⟨gr, x.length + 1, none⟩ = some (.int .u8 82) ∧ w.cell? ⟨gr, x.length + 2, none⟩ = some (.int .u8 83) := by
  rcases h with h0 | ⟨b, o, e, hc⟩
  · have := congrArg List.length h0
    simp [mk3] at this
  · injection e with e
    injection e with e1 e2
    subst e1 e2
    have h0 := hc x.length (by simp [mk3])
    have h1 := hc (x.length + 1) (by simp [mk3])
    have h2 := hc (x.length + 2) (by simp [mk3])
    simp only [Nat.zero_add] at h0 h1 h2
    refine ⟨h0.trans ?_, h1.trans ?_, h2.trans ?_⟩
    · simp [List.getD, mk3, el]
    · simp [List.getD, mk3, el]
    · simp [List.getD, mk3, el]
theorem wr_add {d : Nat} (j : Nat) (h : d ≤ 140737488351232) (hj : j ≤ 3) : wrap64 ((d : Int) + (j : Int)) = (d : Int) + (j : Int) := by unfold wrap64; omega
theorem le_add3 {d c : Nat} (h : d + 3 ≤ c) : (d : Int) + 3 ≤ (c : Int) := by omega
theorem le_add1 {d c : Nat} (h : d + 1 ≤ c) : (d : Int) + 1 ≤ (c : Int) := by omega
theorem add20 {n c : Nat} (h : n + 20 ≤ c) : (n : Int) + 20 ≤ (c : Int) := by omega
theorem wr20 {n : Nat} (h : n ≤ 1172812402926) : wrap64 ((n : Int) + 20) = (n : Int) + 20 := by unfold wrap64; omega
theorem wrnk {n k N : Nat} (h : n ≤ 1172812402926) (hk : k < 20) (e : n + k = N) : wrap64 ((n : Int) + (k : Int)) = (N : Int) := by unfold wrap64; omega
theorem ltnk {n k N : Nat} (hk : k < 20) (e : n + k = N) : (N : Int) < (n : Int) + 20 := by omega
section
attribute [local irreducible] Calls Sn.cs GB Os Hd.cs el
end
end Go.Proofs.Ytefomnlgpldgnaa
