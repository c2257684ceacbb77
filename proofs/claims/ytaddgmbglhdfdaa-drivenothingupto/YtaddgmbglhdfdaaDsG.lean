/-
  Crash of a drive.
-/
import Derived.Test.YtaddgmbglhdfdaaDsF
namespace Go.Proofs.Ytaddgmbglhdfdaa
open Go.RowKit Go.Maps Go.Sort
/-- What is safe behind the first k changes that are kept. -/
def crf (σ : Ds) (dirs : List Bool) (k : Nat) : Dir := (List.range k).foldl (fun D i => if dirs.getD i false = true then fol D (σ.pend.getD i []) else D) σ.sf
theorem crf_succ (σ : Ds) (dirs : List Bool) (k : Nat) : crf σ dirs (k + 1) = if dirs.getD k false = true then fol (crf σ dirs k) (σ.pend.getD k []) else crf σ dirs k := by
  unfold crf
  rw [List.range_succ, List.foldl_append]
  rfl
def cr1 (σ : Ds) (dirs : List Bool) : Ds := { σ with sf := crf σ dirs σ.pend.length, pend := [], used := 0 }
/-- Behind the first k names' turns. -/
def crn (τ : Ds) (cuts : List Int) (k : Nat) : Ds := (List.range k).foldl (fun ρ j => crs1 ρ ((nms τ.sf).getD j []) (cuts.getD j 0)) τ
theorem crn_succ (τ : Ds) (cuts : List Int) (k : Nat) : crn τ cuts (k + 1) = crs1 (crn τ cuts k) ((nms τ.sf).getD k []) (cuts.getD k 0) := by
  unfold crn
  rw [List.range_succ, List.foldl_append]
  rfl
/-- A loss of power. -/
def Ds.crash (σ : Ds) (dirs : List Bool) (cuts : List Int) : Ds := { crn (cr1 σ dirs) cuts (nms (cr1 σ dirs).sf).length with st := (crn (cr1 σ dirs) cuts (nms (cr1 σ dirs).sf).length).sf }
/-- Words of a fate in memory. -/
def Bls (w : World) (p : Option Addr) (xs : List Bool) : Prop := ∀ i, i < xs.length → ∃ b o, p = some ⟨b, o, none⟩ ∧ w.cell? ⟨b, o + i, none⟩ = some (.bool (xs.getD i false))
def Ils (w : World) (p : Option Addr) (xs : List Int) : Prop := ∀ i, i < xs.length → ∃ b o, p = some ⟨b, o, none⟩ ∧ w.cell? ⟨b, o + i, none⟩ = some (.int .i64 (xs.getD i 0))
/-- The first loop of Crash. -/
structure CrA (σ : Ds) (dirs : List Bool) (m : List Nat) (sf : Option Nat) (w : World) (k : Nat) (wr : World) : Prop where
  tn : Tn (fun b => sf = some b) w wr
  mp : ∀ f, sf = some f → MpAt wr m f (crf σ dirs k)
theorem CrA.start {w : World} {F : Nat → Prop} {σ : Ds} {m : List Nat} {rv : Nat → Value} {st sf : Option Nat} {pv : Value} (R : Rest w F σ m rv st sf pv) (dirs : List Bool) : CrA σ dirs m sf w 0 w := by
  have := SyR.start R
  exact ⟨this.tn, this.mp⟩
theorem CrA.cells {w wr : World} {F : Nat → Prop} {σ : Ds} {dirs : List Bool} {m : List Nat} {rv : Nat → Value} {st sf : Option Nat} {pv : Value} {k : Nat} (h : CrA σ dirs m sf w k wr) (R : Rest w F σ m rv st sf pv) {b : Nat} {c : Array Value} {t : TypeId} {r : Nat × Nat} (hb : w.heap[b]? = some (.cells c t r)) : wr.heap[b]? = w.heap[b]? := by
  refine h.tn.block b (blt hb) (fun e => ?_)
  rcases R.dirs with ⟨_, e2, _⟩ | ⟨s, f, _, e2, _, _, _, _, hM⟩
  · rw [e] at e2; cases e2
  · rw [e] at e2
    injection e2 with e2
    subst e2
    obtain ⟨es, ck, ho, _⟩ := hM
    rw [ho] at hb
    cases hb
theorem crf_small {w : World} {F : Nat → Prop} {σ : Ds} {m : List Nat} {rv : Nat → Value} {st sf : Option Nat} {pv : Value} (ok : Okp σ) (R : Rest w F σ m rv st sf pv) (dirs : List Bool) : ∀ k, k ≤ σ.pend.length → Tidy (crf σ dirs k) ∧ Maps.size (crf σ dirs k) ≤ Maps.size σ.sf + 2 * k
  | 0, _ => by
    refine ⟨?_, Nat.le_refl _⟩
    rcases R.dirs with ⟨_, _, _, e, _⟩ | ⟨s, f, _, _, _, _, _, _, hM⟩
    · show Tidy σ.sf; rw [e]; exact tidy_empty
    · exact hM.tidy lawS
  | k + 1, h => by
    obtain ⟨h1, h2⟩ := crf_small ok R dirs k (by omega)
    rw [crf_succ]
    split
    · obtain ⟨h3, h4⟩ := fol_tidy h1 (σ.pend.getD k [])
      have : (σ.pend.getD k []).length ≤ 2 := ok.pl _ (by simp [show k < σ.pend.length by omega])
      exact ⟨h3, by omega⟩
    · exact ⟨h1, by omega⟩
theorem cra_end {w wr : World} {db : Nat} {F : Nat → Prop} {σ : Ds} {dirs : List Bool} {m : List Nat} {rv : Nat → Value} {st sf : Option Nat} {pv : Value} (S : StAt w db σ.room σ.used st sf pv) (R : Rest w F σ m rv st sf pv) (hFd : F db) (hFw : ∀ b, F b → b < w.heap.size) (h : CrA σ dirs m sf w σ.pend.length wr) :
    DrAt ((wr.setCell ⟨db, 4, none⟩ (.slice none 0 0)).setCell ⟨db, 1, none⟩ (.int .i64 0)) db (cr1 σ dirs) F ∧ Tn F w ((wr.setCell ⟨db, 4, none⟩ (.slice none 0 0)).setCell ⟨db, 1, none⟩ (.int .i64 0)) := by
  have hfF : ∀ f, sf = some f → F f := fun f e => by
    rcases R.dirs with ⟨_, e2, _⟩ | ⟨s, f', _, e2, _, _, f2, _⟩
    · rw [e] at e2; cases e2
    · rw [e] at e2; injection e2 with e2; subst e2; exact f2
  have T0 : Tn F w wr := h.tn.more (fun b e => hfF b e)
  have S2 : StAt wr db σ.room σ.used st sf pv := (h.cells R S).trans S
  have hk : ∀ bl, bl ≠ db → ((wr.setCell ⟨db, 4, none⟩ (.slice none 0 0)).setCell ⟨db, 1, none⟩ (.int .i64 0)).heap[bl]? = wr.heap[bl]? := fun bl h => (Below.heap_setCell _ _ _ _ h).trans (Below.heap_setCell _ _ _ _ h)
  have hdb := heap_setCell_same _ db 1 _ _ (.int .i64 0) (heap_setCell_same wr db 4 _ _ (.slice none 0 0) S2)
  have T := (T0.trans (Tn.setCell (F := F) wr ⟨db, 4, none⟩ hFd (.slice none 0 0))).trans (Tn.setCell (F := F) _ ⟨db, 1, none⟩ hFd (.int .i64 0))
  generalize ((wr.setCell ⟨db, 4, none⟩ (.slice none 0 0)).setCell ⟨db, 1, none⟩ (.int .i64 0)) = w' at *
  have hcell : ∀ {b : Nat} {c : Array Value} {t : TypeId} {r : Nat × Nat}, w.heap[b]? = some (.cells c t r) → t ≠ 89 → w'.heap[b]? = w.heap[b]? := by
    intro b c t r hb ht
    refine (hk b (fun e => ?_)).trans (h.cells R hb)
    have h9 : w.heap[db]? = _ := S
    rw [← e, hb] at h9
    injection h9 with h9
    revert h9
    exact cells_ne ht
  have hrow : ∀ {e : TypeId} {sz n : Nat} {v : Value} {xs : List Value}, w.ownsRow 0 e sz v n xs → e ≠ 89 → w'.ownsRow 0 e sz v n xs := by
    intro e sz n v xs h1 hne
    refine ob_same h1 fun g hg => ?_
    rcases h1.2 with ⟨hv, _⟩ | ⟨g', cap, c, hv, _, hh, _⟩
    · rw [hv] at hg; cases hg
    · rw [hv] at hg
      simp [Value.ownBlock] at hg
      subst hg
      exact hcell hh hne
  have hmap : ∀ {b : Nat} {D : Dir}, MpAt wr m b D → MpAt w' m b D := by
    intro b D h1
    refine om_same h1 (hk b (fun e => ?_))
    obtain ⟨es, ck, ho, _⟩ := h1
    have h9 : wr.heap[db]? = _ := S2
    rw [← e, ho] at h9
    cases h9
  refine ⟨⟨hFd, fun b h => Nat.lt_of_lt_of_le (hFw b h) T.size, m, rv, st, sf, .slice none 0 0, hdb, ?_⟩, T⟩
  refine ⟨?_, R.len, R.nodup, fun i hi => ?_, R.sep, ⟨[], ⟨rfl, .inl ⟨rfl, rfl⟩⟩, rfl, fun j hj => absurd hj (Nat.not_lt_zero _)⟩, fun g hg => by cases hg⟩
  · rcases R.dirs with ⟨e1, e2, e3, e4, e5⟩ | ⟨s, f, e1, e2, hne, f1, f2, h1, h2⟩
    · left
      refine ⟨e1, e2, e3, ?_, rfl⟩
      show crf σ dirs σ.pend.length = _
      rw [e5]
      exact e4
    · right
      refine ⟨s, f, e1, e2, hne, f1, f2, hmap (om_same h1 (h.tn.block s ?_ ?_)), hmap (h.mp f e2)⟩
      · obtain ⟨es, ck, ho, _⟩ := h1
        exact blt ho
      · rw [e2]
        intro e
        injection e with e
        exact hne e.symm
  · have B := R.bod i hi
    exact ⟨(hcell B.blk (by decide)).trans B.blk, hrow B.row (by decide), B.inF, B.rowF⟩
/-- What holds of the drive in the second loop. -/
structure CI (K j Z : Nat) (σ : Ds) : Prop where
  nn : NN σ.sf
  ti : Tidy σ.sf
  bo : ∀ i, (σ.body i).safe ≤ (σ.body i).data.length ∧ (σ.body i).data.length ≤ K
  u0 : 0 ≤ σ.used
  u1 : σ.used ≤ ((j * K : Nat) : Int)
  sz : Maps.size σ.sf ≤ Z
theorem lft_le (x : Bd) (cut : Int) : (lft x cut).length ≤ x.data.length := by unfold lft; rw [List.length_take]; omega
theorem body_snoc (σ : Ds) (x : Bd) (D : Dir) (u : Int) (i : Nat) : Ds.body { σ with sf := D, bs := σ.bs ++ [x], used := u } i = if i < σ.bs.length then σ.body i else if i = σ.bs.length then x else ⟨[], 0⟩ := by
  unfold Ds.body
  simp only [List.getD]
  split
  · rename_i h; rw [List.getElem?_append_left h]
  · rename_i h
    split
    · rename_i h2; subst h2; simp
    · rename_i h2
      rw [List.getElem?_eq_none (by simp; omega)]
      rfl
theorem CI.step {K j Z : Nat} {σ : Ds} (h : CI K j Z σ) {x : Tx} (hx : has σ.sf (.string x) = true) (cut : Int) : CI K (j + 1) Z (crs1 σ x cut) := by
  have hl := lft_le (σ.body ((lk σ.sf x).getD 0)) cut
  have hb := (h.bo ((lk σ.sf x).getD 0)).2
  have h0 := h.u0
  have h1 := h.u1
  refine ⟨?_, h.ti.put (by simp [WideAt.IsKeyLit]) _, fun i => ?_, ?_, ?_, ?_⟩
  · have := fol1_nn h.ti h.nn (x, some σ.bs.length)
    exact this
  · unfold crs1
    rw [body_snoc]
    split
    · exact h.bo i
    · split
      · exact ⟨Nat.le_refl _, Nat.le_trans hl hb⟩
      · exact ⟨Nat.le_refl _, Nat.zero_le _⟩
  · show 0 ≤ σ.used + ((lft (σ.body ((lk σ.sf x).getD 0)) cut).length : Int); omega
  · show σ.used + ((lft (σ.body ((lk σ.sf x).getD 0)) cut).length : Int) ≤ _
    have e : (((j + 1) * K : Nat) : Int) = ((j * K : Nat) : Int) + (K : Int) := by rw [Nat.add_mul, Nat.one_mul]; omega
    rw [e]
    omega
  · show Maps.size (σ.sf.put _ _) ≤ Z
    rw [size_put h.ti, if_pos hx]
    exact h.sz
theorem has_crs {σ : Ds} (ht : Tidy σ.sf) {x y : Tx} (cut : Int) (h : has σ.sf (.string y) = true) : has (crs1 σ x cut).sf (.string y) = true := by
  show has (σ.sf.put (.string x) _) (.string y) = true
  by_cases e : y = x
  · subst e
    rw [has_put_same ht.isMap (by simp [WideAt.IsKeyLit])]
  · rw [has_put_other (fun e2 => e (by injection e2))]
    exact h
end Go.Proofs.Ytaddgmbglhdfdaa
