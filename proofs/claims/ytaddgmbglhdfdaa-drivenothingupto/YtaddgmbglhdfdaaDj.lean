/-
  Append, Sync, Read.
-/
import Derived.Test.YtaddgmbglhdfdaaDi
namespace Go.Proofs.Ytaddgmbglhdfdaa
open Go.RowKit Go.Maps
/-- A row of bytes that is read. -/
def Rx (w : World) (a : Option Addr) (d : Tx) : Prop := d = [] ∨ ∃ b off, a = some ⟨b, off, none⟩ ∧ ∀ i, i < d.length → w.cell? ⟨b, off + i, none⟩ = some (u8v (d.getD i 0))
theorem Rx.below {w w' : World} {a : Option Addr} {d : Tx} (h : Rx w a d) (hb : Below w.heap.size w w') : Rx w' a d := by
  rcases h with h | ⟨b, off, ha, hc⟩
  · exact .inl h
  · exact .inr ⟨b, off, ha, fun i hi => cell_below (hc i hi) hb⟩
/-- One body has turned. -/
theorem Rest.setBody {w w' : World} {F G : Nat → Prop} {σ : Ds} {m : List Nat} {rv : Nat → Value} {st sf : Option Nat} {pv : Value} (h : Rest w F σ m rv st sf pv) (hFw : ∀ b, F b → b < w.heap.size) (hG : ∀ b, F b → G b) (i : Nat) (hi : i < σ.bs.length) (b : Bd) (v' : Value)
    (hk : ∀ bl o, F bl → w.heap[bl]? = some o → bl ≠ m.getD i 0 → some bl ≠ (rv i).ownBlock → (∀ c r, o ≠ .cells c 89 r) → w'.heap[bl]? = w.heap[bl]?)
    (hb : w'.heap[m.getD i 0]? = some (.cells #[v', .int .i64 (b.safe : Int)] 100 (0, 0))) (hrow : Ob w' 0 v' b.data) (hv : v'.ownBlock = (rv i).ownBlock ∨ ∀ g, v'.ownBlock = some g → w.heap.size ≤ g ∧ G g) (u' : Int) :
    Rest w' G { (σ.setBody i b) with used := u' } m (fun j => if j = i then v' else rv j) st sf pv := by
  have B := h.bod i hi
  have notRow : ∀ (bl : Nat) o, w.heap[bl]? = some o → (∀ c r, o ≠ .cells c 5 r) → some bl ≠ (rv i).ownBlock := by
    intro bl o ho hne e
    rcases B.row.2 with ⟨hv0, _⟩ | ⟨g, cap, c, hv0, _, hh, _⟩
    · rw [hv0] at e; cases e
    · rw [hv0] at e
      simp [Value.ownBlock] at e
      subst e
      rw [ho] at hh
      injection hh with hh
      exact hne _ _ hh
  have notBody : ∀ (bl : Nat) o, w.heap[bl]? = some o → (∀ c r, o ≠ .cells c 100 r) → bl ≠ m.getD i 0 := by
    intro bl o ho hne e
    subst e
    rw [B.blk] at ho
    injection ho with ho
    exact hne _ _ ho.symm
  have keep : ∀ (bl : Nat) c t r, F bl → w.heap[bl]? = some (Obj.cells c t r) → t ≠ 5 → t ≠ 100 → t ≠ 89 → w'.heap[bl]? = some (Obj.cells c t r) := by
    intro bl c t r hF ho n1 n2 n3
    rw [hk bl _ hF ho (notBody bl _ ho (fun c r e => by injection e with _ e2; exact n2 e2)) (notRow bl _ ho (fun c r e => by injection e with _ e2; exact n1 e2)) (fun c r e => by injection e with _ e2; exact n3 e2)]
    exact ho
  have keepM : ∀ (s : Nat) (D : Dir), F s → MpAt w m s D → MpAt w' m s D := by
    intro s D hF h1
    obtain ⟨es, ck, ho⟩ := map_blk h1
    refine om_same h1 (hk s _ hF ho (notBody s _ ho (fun c r e => by cases e)) (notRow s _ ho (fun c r e => by cases e)) (fun c r e => by cases e))
  refine ⟨?_, by rw [h.len]; simp [Ds.setBody], h.nodup, fun j hj => ?_, ?_, ?_, fun g hg => hG g (h.pvF g hg)⟩
  · rcases h.dirs with h1 | ⟨s, f, e1, e2, hne, f1, f2, m1, m2⟩
    · exact .inl h1
    · exact .inr ⟨s, f, e1, e2, hne, hG _ f1, hG _ f2, keepM s _ f1 m1, keepM f _ f2 m2⟩
  · have hj' : j < σ.bs.length := by simpa [Ds.setBody] using hj
    by_cases e : j = i
    · subst e
      have e2 : Ds.body { (σ.setBody j b) with used := u' } j = b := by simp [Ds.body, Ds.setBody, hj']
      simp only [e2, if_true]
      refine ⟨hb, hrow, hG _ B.inF, fun g hg => ?_⟩
      rcases hv with h1 | h1
      · exact hG _ (B.rowF g (h1 ▸ hg))
      · exact (h1 g hg).2
    · have e2 : Ds.body { (σ.setBody i b) with used := u' } j = σ.body j := by
        simp only [Ds.body, Ds.setBody, List.getD, List.getElem?_set]
        rw [if_neg (fun e3 => e e3.symm)]
      simp only [e2, if_neg e]
      have Bj := h.bod j hj'
      have hij : m.getD j 0 ≠ m.getD i 0 := by
        intro e3
        have a1 : j < m.length := by rw [h.len]; exact hj'
        have a2 : i < m.length := by rw [h.len]; exact hi
        have e4 : m[j] = m[i] := by simpa [a1, a2] using e3
        exact e ((List.getElem_inj h.nodup).1 e4)
      refine ⟨?_, ob_same Bj.row (fun g hg => ?_), hG _ Bj.inF, fun g hg => hG g (Bj.rowF g hg)⟩
      · rw [hk _ _ Bj.inF Bj.blk hij (notRow _ _ Bj.blk (fun c r e => by injection e with _ e2; revert e2; decide)) (fun c r e => by injection e with _ e2; revert e2; decide)]
        exact Bj.blk
      · rcases Bj.row.2 with ⟨hv0, _⟩ | ⟨g', cap, c, hv0, _, hh, _⟩
        · rw [hv0] at hg; cases hg
        · have eg : g' = g := by rw [hv0] at hg; simpa [Value.ownBlock] using hg
          subst eg
          refine hk g' _ (Bj.rowF g' hg) hh (notBody g' _ hh (fun c r e => by injection e with _ e2; revert e2; decide)) (fun e3 => h.sep j i g' hj' hi e hg e3.symm) (fun c r e => by injection e with _ e2; revert e2; decide)
  · intro j k g hj hk' hne e1 e2
    have hj' : j < σ.bs.length := by simpa [Ds.setBody] using hj
    have hk'' : k < σ.bs.length := by simpa [Ds.setBody] using hk'
    by_cases a : j = i
    · rw [if_pos a] at e1
      have hki : k ≠ i := fun e => hne (a.trans e.symm)
      rw [if_neg hki] at e2
      rcases hv with h1 | h1
      · exact h.sep i k g hi hk'' (fun e => hki e.symm) (h1 ▸ e1) e2
      · have := (h1 g e1).1
        have := hFw g ((h.bod k hk'').rowF g e2)
        omega
    · rw [if_neg a] at e1
      by_cases a2 : k = i
      · rw [if_pos a2] at e2
        rcases hv with h1 | h1
        · exact h.sep j i g hj' hi a e1 (h1 ▸ e2)
        · have := (h1 g e2).1
          have := hFw g ((h.bod j hj').rowF g e1)
          omega
      · rw [if_neg a2] at e2
        exact h.sep j k g hj' hk'' hne e1 e2
  · obtain ⟨cv, p1, p2, p3⟩ := h.pnd
    refine ⟨cv, ⟨p1.1, ?_⟩, p2, fun j hj => ?_⟩
    · rcases p1.2 with h4 | ⟨g, cap, c, hv0, hg, hh, hc⟩
      · exact .inl h4
      · exact .inr ⟨g, cap, c, hv0, hg, keep _ _ _ _ (h.pvF g (by rw [hv0]; rfl)) hh (by decide) (by decide) (by decide), hc⟩
    · obtain ⟨⟨g, cap, e1, hF, hg⟩, i1, i2⟩ := p3 j hj
      exact ⟨⟨g, cap, e1, hG _ hF, keep _ _ _ _ hF hg (by decide) (by decide) (by decide)⟩, i1, i2⟩
end Go.Proofs.Ytaddgmbglhdfdaa
