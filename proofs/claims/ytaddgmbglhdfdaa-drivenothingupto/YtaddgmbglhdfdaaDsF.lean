/-
  A loss of power: one name's turn.
-/
import Derived.Test.YtaddgmbglhdfdaaDsE
import Derived.Test.YtaddgmbglhdfdaaMc
import Derived.Shelf.SlMaps.Clone
namespace Go.Proofs.Ytaddgmbglhdfdaa
open Go.RowKit Go.Maps Go.Sort
/-- A new body with bytes. -/
theorem Rest.addBody2 {w : World} {F : Nat → Prop} {σ : Ds} {m : List Nat} {rv : Nat → Value} {st sf : Option Nat} {pv : Value} {N : Nat} (h : Rest w F σ m rv st sf pv) (hN : ∀ b, F b → b < N) (hNw : N ≤ w.heap.size) (v : Value) (x : Bd) (hrow : Ob w N v x.data) :
    Rest (w.alloc (.cells #[v, .int .i64 (x.safe : Int)] 100)) (fun b => F b ∨ (N ≤ b ∧ b ≤ w.heap.size)) { σ with bs := σ.bs ++ [x] } (m ++ [w.heap.size]) (fun i => if i < σ.bs.length then rv i else v) st sf pv := by
  have h1 := (h.alloc (.cells #[v, .int .i64 (x.safe : Int)] 100)).more (G := fun b => F b ∨ (N ≤ b ∧ b ≤ w.heap.size)) (fun b hb => .inl hb)
  have hvg : ∀ g, v.ownBlock = some g → N ≤ g ∧ g < w.heap.size := fun g hg => by
    rcases hrow.2 with ⟨hv, _⟩ | ⟨g', cap, c, hv, h2, hh, _⟩
    · rw [hv] at hg; cases hg
    · rw [hv] at hg
      simp [Value.ownBlock] at hg
      subst hg
      exact ⟨h2, blt hh⟩
  refine ⟨?_, by simp [h1.len], ?_, fun i hi => ?_, ?_, ?_, h1.pvF⟩
  · rcases h1.dirs with h2 | ⟨s, f, e1, e2, hne, f1, f2, m1, m2⟩
    · exact .inl h2
    · exact .inr ⟨s, f, e1, e2, hne, f1, f2, om_more m1 _, om_more m2 _⟩
  · rw [List.nodup_append]
    refine ⟨h1.nodup, by simp, fun a ha b hb e => ?_⟩
    obtain ⟨i, hi, rfl⟩ := List.getElem_of_mem ha
    have hb' : b = w.heap.size := by simpa using hb
    have hi' : i < σ.bs.length := by rw [← h.len]; exact hi
    have := hN _ (h.bod i hi').inF
    have e3 : m.getD i 0 = m[i] := by simp [hi]
    omega
  · by_cases hlt : i < σ.bs.length
    · have hb := h1.bod i hlt
      have e1 : (m ++ [w.heap.size]).getD i 0 = m.getD i 0 := getD_app _ _ _ (by rw [h.len]; exact hlt)
      have e2 : Ds.body { σ with bs := σ.bs ++ [x] } i = σ.body i := by unfold Ds.body; exact getD_app _ _ _ hlt
      simp only [e1, e2, if_pos hlt]
      exact hb
    · have hi' : i = σ.bs.length := by simp at hi; omega
      subst hi'
      have e1 : (m ++ [w.heap.size]).getD σ.bs.length 0 = w.heap.size := by rw [← h.len]; simp
      have e2 : Ds.body { σ with bs := σ.bs ++ [x] } σ.bs.length = x := by simp [Ds.body]
      simp only [e1, e2, if_neg hlt]
      refine ⟨heap_alloc_new w _, ob_up (own_below hrow (alb w _)) (Nat.zero_le _), .inr ⟨hNw, Nat.le_refl _⟩, fun g hg => ?_⟩
      have := hvg g hg
      exact .inr ⟨this.1, by omega⟩
  · intro i j g hi hj hne e1 e2
    by_cases h3 : i < σ.bs.length
    · rw [if_pos h3] at e1
      by_cases h4 : j < σ.bs.length
      · rw [if_pos h4] at e2
        exact h.sep i j g h3 h4 hne e1 e2
      · rw [if_neg h4] at e2
        have g1 := (hvg g e2).1
        have g2 := hN g ((h.bod i h3).rowF g e1)
        omega
    · rw [if_neg h3] at e1
      by_cases h4 : j < σ.bs.length
      · rw [if_pos h4] at e2
        have g1 := (hvg g e1).1
        have g2 := hN g ((h.bod j h4).rowF g e2)
        omega
      · simp at hi hj; omega
  · obtain ⟨cv, p1, p2, p3⟩ := h1.pnd
    refine ⟨cv, p1, p2, fun j hj => ?_⟩
    obtain ⟨⟨g, cap, e1, hF, hg⟩, i1, i2⟩ := p3 j hj
    refine ⟨⟨g, cap, e1, hF, ?_⟩, fun l hl i e => ?_, i2⟩
    · rw [ldc_more i1]; exact hg
    · have := i1 l hl i e
      simp; omega
/-- A name is made to lead elsewhere in what is safe. -/
theorem Rest.putSf {w w' : World} {F : Nat → Prop} {σ : Ds} {m : List Nat} {rv : Nat → Value} {st : Option Nat} {f n : Nat} {pv : Value} {D : Dir} (h : Rest w F σ m rv st (some f) pv) (hown : w'.ownsMap Try.prog 9 (ptR m) f n D) (hg : w.grownBy w' (some f)) : Rest w' F { σ with sf := D } m rv st (some f) pv := by
  obtain ⟨s, f', e1, e2, hne, f1, f2, m1, m2⟩ : ∃ s f', st = some s ∧ some f = some f' ∧ s ≠ f' ∧ F s ∧ F f' ∧ MpAt w m s σ.st ∧ MpAt w m f' σ.sf := by
    rcases h.dirs with ⟨_, e, _⟩ | h9
    · cases e
    · exact h9
  injection e2 with e2
  subst e2
  obtain ⟨es, ck, hob, _⟩ := m2
  have hcell : ∀ {b : Nat} {c : Array Value} {t : TypeId} {r : Nat × Nat}, w.heap[b]? = some (.cells c t r) → w'.heap[b]? = w.heap[b]? := by
    intro b c t r hb
    refine hg.block b (blt hb) (fun e => ?_)
    injection e with e
    subst e
    rw [hob] at hb
    cases hb
  have hrow : ∀ {e : TypeId} {sz n : Nat} {v : Value} {xs : List Value}, w.ownsRow 0 e sz v n xs → w'.ownsRow 0 e sz v n xs := by
    intro e sz n v xs h1
    refine ob_same h1 fun g hg => ?_
    rcases h1.2 with ⟨hv, _⟩ | ⟨g', cap, c, hv, _, hh, _⟩
    · rw [hv] at hg; cases hg
    · rw [hv] at hg
      simp [Value.ownBlock] at hg
      subst hg
      exact hcell hh
  refine ⟨.inr ⟨s, f, e1, rfl, hne, f1, f2, om_same m1 (hg.block s ?_ (fun e => by injection e with e; exact hne e)), om_tight hown⟩, h.len, h.nodup, fun i hi => ?_, h.sep, ?_, h.pvF⟩
  · obtain ⟨es', ck', ho', _⟩ := m1
    exact blt ho'
  · have B := h.bod i hi
    exact ⟨(hcell B.blk).trans B.blk, hrow B.row, B.inF, B.rowF⟩
  · obtain ⟨cv, p1, p2, p3⟩ := h.pnd
    refine ⟨cv, hrow p1, p2, fun j hj => ?_⟩
    obtain ⟨⟨g, cap, e3, hF, hgb⟩, i1, i2⟩ := p3 j hj
    exact ⟨⟨g, cap, e3, hF, (hcell hgb).trans hgb⟩, i1, i2⟩
/-- One name's turn in a loss of power. -/
def crs1 (σ : Ds) (x : Tx) (cut : Int) : Ds := { σ with sf := σ.sf.put (.string x) (ip σ.bs.length), bs := σ.bs ++ [⟨lft (σ.body ((lk σ.sf x).getD 0)) cut, (lft (σ.body ((lk σ.sf x).getD 0)) cut).length⟩], used := σ.used + (lft (σ.body ((lk σ.sf x).getD 0)) cut).length }
theorem crs1_end {wr w4 w6 : World} {db f i n : Nat} {F : Nat → Prop} {σ : Ds} {m : List Nat} {rv : Nat → Value} {st : Option Nat} {pv : Value} (S : StAt wr db σ.room σ.used st (some f) pv) (R : Rest wr F σ m rv st (some f) pv) (hFd : F db) (hFw : ∀ b, F b → b < wr.heap.size) (x : Tx) (cut : Int) (hlk : lk σ.sf x = some i) (p : Option Addr) (ln c : Nat) (hb4 : Below wr.heap.size wr w4) (hO : Ob w4 wr.heap.size (.slice p ln c) (lft (σ.body i) cut)) (hln : ln = (lft (σ.body i) cut).length)
    (hown : w6.ownsMap Try.prog 9 (ptR (m ++ [w4.heap.size])) f n (σ.sf.put (.string x) (ip σ.bs.length))) (hg : (w4.alloc (.cells #[.slice p ln c, .int .i64 (ln : Int)] 100)).drew.grownBy w6 (some f)) :
    DrAt (w6.setCell ⟨db, 1, none⟩ (.int .i64 (σ.used + (ln : Int)))) db (crs1 σ x cut) (Fn F wr (w6.setCell ⟨db, 1, none⟩ (.int .i64 (σ.used + (ln : Int))))) ∧ Tn F wr (w6.setCell ⟨db, 1, none⟩ (.int .i64 (σ.used + (ln : Int)))) ∧ w6.cell? ⟨db, 1, none⟩ = some (.int .i64 σ.used) ∧ w6.frozen? ⟨db, 1, none⟩ = false := by
  have hfF : F f := by
    rcases R.dirs with ⟨_, e, _⟩ | ⟨s, f', _, e, _, _, f2, _⟩
    · cases e
    · injection e with e; subst e; exact f2
  have hN : ∀ b, F b → b < wr.heap.size := hFw
  have R4 := (R.below hb4).addBody2 hN hb4.size (.slice p ln c) ⟨lft (σ.body i) cut, ln⟩ hO
  have hg' : (w4.alloc (.cells #[.slice p ln c, .int .i64 (ln : Int)] 100)).grownBy w6 (some f) := ⟨hg.os, hg.tape, hg.output, hg.size, hg.block⟩
  have R6 := R4.putSf hown hg'
  have b5 := bt hb4 (alb w4 (.cells #[.slice p ln c, .int .i64 (ln : Int)] 100))
  have S5 := S.below b5
  have S6 : StAt w6 db σ.room σ.used st (some f) pv := by
    refine (hg'.block db (blt S5) (fun e => ?_)).trans S5
    injection e with e
    subst e
    rcases R.dirs with ⟨_, e, _⟩ | ⟨s, f', _, e, _, _, _, _, hM⟩
    · cases e
    · injection e with e
      subst e
      obtain ⟨es, ck, ho, _⟩ := hM
      have h9 : wr.heap[db]? = _ := S
      rw [ho] at h9
      cases h9
  have T6 : Tn F wr w6 := ⟨hg'.os.trans b5.os, hg'.tape.trans b5.tape, hg'.output.trans b5.output, Nat.le_trans b5.size hg'.size, fun k hk hn => (hg'.block k (Nat.lt_of_lt_of_le hk b5.size) (fun e => by injection e with e; subst e; exact hn hfF)).trans (b5.block k hk)⟩
  have hs6 : w4.heap.size < w6.heap.size := by have := hg'.size; simp at this; omega
  have e0 : (lk σ.sf x).getD 0 = i := by rw [hlk]; rfl
  have eu : (crs1 σ x cut).used = σ.used + (ln : Int) := by unfold crs1; rw [e0, hln]
  refine ⟨⟨.inl hFd, ?_, m ++ [w4.heap.size], (fun j => if j < σ.bs.length then rv j else .slice p ln c), st, some f, pv, by rw [eu]; exact S6.set1 _, ?_⟩, T6.trans (Tn.setCell (F := F) w6 ⟨db, 1, none⟩ hFd _), S6.cell.2.1, S6.frozen 1⟩
  · rintro b (h | h)
    · have := hFw b h
      have := T6.size
      simp [World.setCell]
      omega
    · exact h.2
  · have R7 := (R6.setSt S6 1 (.int .i64 (σ.used + (ln : Int)))).more (G := Fn F wr (w6.setCell ⟨db, 1, none⟩ (.int .i64 (σ.used + (ln : Int))))) (by
      rintro b (h | h)
      · exact .inl h
      · refine .inr ⟨h.1, ?_⟩
        simp [World.setCell]
        omega)
    unfold crs1
    rw [e0, ← hln]
    exact R7.used _
end Go.Proofs.Ytaddgmbglhdfdaa
