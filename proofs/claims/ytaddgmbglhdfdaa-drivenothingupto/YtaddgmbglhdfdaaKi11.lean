/-
  A drive that is being loaded, in memory.
-/
import Derived.Test.YtaddgmbglhdfdaaKh11
import Derived.Deep.RegionHeld3
namespace Go.Proofs.Ytaddgmbglhdfdaa
open Go.RowKit Go.Maps Go.Sort
/-- A body that came to be somewhere in new memory. -/
theorem Rest.addBody3 {w Y : World} {F : Nat → Prop} {σ : Ds} {m : List Nat} {rv : Nat → Value} {st sf : Option Nat} {pv : Value} (h : Rest w F σ m rv st sf pv) (hFw : ∀ b, F b → b < w.heap.size) (hb : Below w.heap.size w Y) (v : Value) (x : Bd) (gb : Nat) (hrow : Ob Y w.heap.size v x.data) (hgb : w.heap.size ≤ gb) (hblk : Y.heap[gb]? = some (.cells #[v, .int .i64 (x.safe : Int)] 100 (0, 0))) :
    Rest Y (fun b => F b ∨ (w.heap.size ≤ b ∧ b < Y.heap.size)) { σ with bs := σ.bs ++ [x] } (m ++ [gb]) (fun i => if i < σ.bs.length then rv i else v) st sf pv := by
  have h1 := (h.below hb).more (G := fun b => F b ∨ (w.heap.size ≤ b ∧ b < Y.heap.size)) (fun b hb => .inl hb)
  have hvg : ∀ g, v.ownBlock = some g → w.heap.size ≤ g ∧ g < Y.heap.size := fun g hg => by
    obtain ⟨h2, h3, _⟩ := own_lt hrow hg
    exact ⟨h2, h3⟩
  refine ⟨?_, by simp [h1.len], ?_, fun i hi => ?_, ?_, ?_, h1.pvF⟩
  · rcases h1.dirs with h2 | ⟨s, f, e1, e2, hne, f1, f2, m1, m2⟩
    · exact .inl h2
    · exact .inr ⟨s, f, e1, e2, hne, f1, f2, om_more m1 _, om_more m2 _⟩
  · rw [List.nodup_append]
    refine ⟨h1.nodup, by simp, fun a ha b hb e => ?_⟩
    obtain ⟨i, hi, rfl⟩ := List.getElem_of_mem ha
    have hb' : b = gb := by simpa using hb
    have hi' : i < σ.bs.length := by rw [← h.len]; exact hi
    have := hFw _ (h.bod i hi').inF
    have e3 : m.getD i 0 = m[i] := by simp [hi]
    omega
  · by_cases hlt : i < σ.bs.length
    · have hb := h1.bod i hlt
      have e1 : (m ++ [gb]).getD i 0 = m.getD i 0 := getD_app _ _ _ (by rw [h.len]; exact hlt)
      have e2 : Ds.body { σ with bs := σ.bs ++ [x] } i = σ.body i := by unfold Ds.body; exact getD_app _ _ _ hlt
      simp only [e1, e2, if_pos hlt]
      exact hb
    · have hi' : i = σ.bs.length := by simp at hi; omega
      subst hi'
      have e1 : (m ++ [gb]).getD σ.bs.length 0 = gb := by rw [← h.len]; simp
      have e2 : Ds.body { σ with bs := σ.bs ++ [x] } σ.bs.length = x := by simp [Ds.body]
      simp only [e1, e2, if_neg hlt]
      refine ⟨hblk, ob_up hrow (Nat.zero_le _), .inr ⟨hgb, blt hblk⟩, fun g hg => .inr (hvg g hg)⟩
  · intro i j g hi hj hne e1 e2
    by_cases h3 : i < σ.bs.length
    · rw [if_pos h3] at e1
      by_cases h4 : j < σ.bs.length
      · rw [if_pos h4] at e2
        exact h.sep i j g h3 h4 hne e1 e2
      · rw [if_neg h4] at e2
        have g1 := (hvg g e2).1
        have g2 := hFw g ((h.bod i h3).rowF g e1)
        omega
    · rw [if_neg h3] at e1
      by_cases h4 : j < σ.bs.length
      · rw [if_pos h4] at e2
        have g1 := (hvg g e1).1
        have g2 := hFw g ((h.bod j h4).rowF g e2)
        omega
      · simp at hi hj; omega
  · obtain ⟨cv, p1, p2, p3⟩ := h1.pnd
    refine ⟨cv, p1, p2, fun j hj => ?_⟩
    obtain ⟨⟨g, cap, e1, hF, hg⟩, i1, i2⟩ := p3 j hj
    refine ⟨⟨g, cap, e1, hF, ?_⟩, fun l hl i e => ?_, i2⟩
    · rw [ldc_more i1]; exact hg
    · have := i1 l hl i e
      simp; omega
/-- All but the names. -/
def bareD (σ : Ds) : Ds := { σ with st := .map [], sf := .map [], pend := [] }
/-- A drive that is being loaded: all its memory is from B on; s is what stands. -/
structure LdM (B db s : Nat) (σ : Ds) (wr : World) : Prop where
  ex : ∃ m rv, StAt wr db σ.room σ.used (some s) none (.slice none 0 0) ∧ Rest wr (fun b => B ≤ b ∧ b < wr.heap.size ∧ b ≠ s) (bareD σ) m rv none none (.slice none 0 0) ∧ MpAt wr m s σ.st
  hs : B ≤ s ∧ s < wr.heap.size
  hd : B ≤ db
theorem LdM.below {B db s : Nat} {σ : Ds} {wr w' : World} (h : LdM B db s σ wr) (hb : Below wr.heap.size wr w') : LdM B db s σ w' := by
  obtain ⟨⟨m, rv, h1, h2, h3⟩, h4, h5⟩ := h
  have hz := hb.size
  refine ⟨⟨m, rv, h1.below hb, (h2.below hb).more (fun b h => ⟨h.1, by omega, h.2.2⟩), om_upto h3 hb⟩, ⟨h4.1, by omega⟩, h5⟩
theorem LdM.cells {B db s : Nat} {σ : Ds} {wr : World} (h : LdM B db s σ wr) : wr.cell? ⟨db, 1, none⟩ = some (.int .i64 σ.used) ∧ wr.cell? ⟨db, 2, none⟩ = some (.map (some s)) ∧ wr.frozen? ⟨db, 1, none⟩ = false ∧ wr.frozen? ⟨db, 3, none⟩ = false ∧ (∃ v, wr.cell? ⟨db, 3, none⟩ = some v) ∧ db < wr.heap.size := by
  obtain ⟨⟨m, rv, h1, h2, h3⟩, h4, h5⟩ := h
  exact ⟨h1.cell.2.1, h1.cell.2.2.1, h1.frozen 1, h1.frozen 3, ⟨_, h1.cell.2.2.2.1⟩, blt h1⟩
theorem LdM.look {B db s : Nat} {σ : Ds} {wr : World} (h : LdM B db s σ wr) {x : Tx} (hx : x.length ≤ maxLen) : ∃ p, (Instr.lookup 86 (.map (some s)) (encStr x) false).run Try.prog wr = .ok (.pointer p) wr ∧ (p = none ↔ lk σ.st x = none) := by
  obtain ⟨⟨m, rv, h1, h2, h3⟩, h4, h5⟩ := h
  obtain ⟨e1, e2⟩ := look_dir h3 hx
  refine ⟨pta m (lk σ.st x), e1, ?_⟩
  cases lk σ.st x <;> simp [pta]
theorem sd_ne {w : World} {db room s : Nat} {used : Int} {st sf : Option Nat} {pv : Value} {m : List Nat} {D : Dir} (S : StAt w db room used st sf pv) (M : MpAt w m s D) : s ≠ db := fun e => by
  obtain ⟨es, ck, ho, _⟩ := M
  unfold StAt at S
  rw [← e, ho] at S
  cases S
/-- The map is written: a name more. -/
theorem LdM.put {B db s : Nat} {σ : Ds} {W Y : World} (h : LdM B db s σ W) (_hB : B ≤ W.heap.size) (hb : Below W.heap.size W Y) (f : Tx × Tx) (p : Option Addr) (c gb : Nat) (hrow : Ob Y W.heap.size (.slice p f.2.length c) f.2) (hgb : W.heap.size ≤ gb) (hblk : Y.heap[gb]? = some (.cells #[.slice p f.2.length c, .int .i64 (f.2.length : Int)] 100 (0, 0))) (hx : f.1.length ≤ maxLen) (hs : Maps.size σ.st < maxLen) :
    ∃ w6, (Instr.mapUpdate 86 (.map (some s)) (encStr f.1) (.pointer (some ⟨gb, 0, none⟩))).run Try.prog Y = .ok () w6 ∧ Below B W w6 ∧ LdM B db s { (ld1 σ f) with used := σ.used } w6 ∧ Y.grownBy w6 (some s) ∧ s ≠ db ∧ s < W.heap.size := by
  obtain ⟨⟨m, rv, h1, h2, h3⟩, h4, h5⟩ := h
  have hz := hb.size
  have R3 := h2.addBody3 (fun b h => h.2.1) hb (.slice p f.2.length c) ⟨f.2, f.2.length⟩ gb hrow hgb hblk
  have hlen : m.length = σ.bs.length := h2.len
  have hM5 : Y.ownsMap Try.prog 9 (ptR (m ++ [gb])) s (Maps.size σ.st) σ.st := om_more (om_upto h3 hb) [gb]
  have hv := ptR_some R3.nodup (i := m.length) (by simp)
  rw [show ptv (m ++ [gb]) (some m.length) = .pointer (some ⟨gb, 0, none⟩) by simp [ptv, pta], hlen] at hv
  obtain ⟨w6, e1, e2, e3⟩ := hM5.update lawS Try.underlying86 hs (key_enc hx) hv
  have hz6 := e3.size
  have hsd := sd_ne h1 h3
  refine ⟨w6, e1, ?_, ⟨⟨m ++ [gb], (fun i => if i < (bareD σ).bs.length then rv i else .slice p f.2.length c), ?_, ?_, om_tight e2⟩, ⟨h4.1, by omega⟩, h5⟩, e3, hsd, h4.2⟩
  · refine ⟨e3.os.trans hb.os, e3.tape.trans hb.tape, e3.output.trans hb.output, by omega, fun k hk => ?_⟩
    rw [e3.block k (by omega) (fun e => by injection e with e; omega), hb.block k (by omega)]
  · have S' := h1.below hb
    unfold StAt at S' ⊢
    rw [e3.block db (blt S') (fun e => by injection e with e; exact hsd e.symm)]
    exact S'
  · refine (R3.same (w' := w6) (fun b o hF ho _ => e3.block b (blt ho) (fun e => ?_))).more (fun b h => ?_)
    · injection e with e
      subst e
      rcases hF with hF | hF
      · exact hF.2.2 rfl
      · omega
    · rcases h with h | h
      · exact ⟨h.1, by omega, h.2.2⟩
      · exact ⟨by omega, by omega, by omega⟩
/-- What is used is written. -/
theorem LdM.use {B db s : Nat} {σ : Ds} {W : World} (h : LdM B db s σ W) (u : Int) : LdM B db s { σ with used := u } (W.setCell ⟨db, 1, none⟩ (.int .i64 u)) := by
  obtain ⟨⟨m, rv, h1, h2, h3⟩, h4, h5⟩ := h
  have hsd := sd_ne h1 h3
  refine ⟨⟨m, rv, h1.set1 u, ?_, om_same h3 (Below.heap_setCell _ _ _ _ hsd)⟩, ⟨h4.1, by simp [World.setCell]; exact h4.2⟩, h5⟩
  have hz : (W.setCell ⟨db, 1, none⟩ (.int .i64 u)).heap.size = W.heap.size := by simp [World.setCell]
  rw [hz]
  exact (h2.setSt h1 1 (.int .i64 u)).used u
/-- All is loaded: what is safe is what stands. -/
theorem LdM.done {B db s f : Nat} {σ : Ds} {W Y : World} (h : LdM B db s σ W) (hp : σ.pend = []) (hb : Below W.heap.size W Y) (hf : f = W.heap.size) (hM : ∃ m rv, StAt W db σ.room σ.used (some s) none (.slice none 0 0) ∧ Rest W (fun b => B ≤ b ∧ b < W.heap.size ∧ b ≠ s) (bareD σ) m rv none none (.slice none 0 0) ∧ MpAt W m s σ.st ∧ MpAt Y m f σ.st) : DrAt (Y.setCell ⟨db, 3, none⟩ (.map (some f))) db { σ with sf := σ.st } (fun b => B ≤ b ∧ b < (Y.setCell ⟨db, 3, none⟩ (.map (some f))).heap.size) := by
  obtain ⟨_, h4, h5⟩ := h
  obtain ⟨m, rv, h1, h2, h3, M8⟩ := hM
  have hz := hb.size
  have hsd := sd_ne h1 h3
  have S8 := h1.below hb
  have hdb : db < W.heap.size := blt h1
  have hfs : f < Y.heap.size := by
    obtain ⟨es, ck, ho, _⟩ := M8
    exact blt ho
  have hsz : (Y.setCell ⟨db, 3, none⟩ (.map (some f))).heap.size = Y.heap.size := by simp [World.setCell]
  rw [hsz]
  have S' : StAt (Y.setCell ⟨db, 3, none⟩ (.map (some f))) db σ.room σ.used (some s) (some f) (.slice none 0 0) := by
    unfold StAt at S8 ⊢
    rw [heap_setCell_same Y db 3 _ _ _ S8]
    rfl
  have R' := ((h2.below hb).setSt S8 3 (.map (some f))).more (G := fun b => B ≤ b ∧ b < Y.heap.size) (fun b h => ⟨h.1, by omega⟩)
  refine ⟨⟨h5, by omega⟩, fun b h => by rw [hsz]; exact h.2, m, rv, some s, some f, .slice none 0 0, S', ?_⟩
  refine ⟨.inr ⟨s, f, rfl, rfl, by omega, ⟨h4.1, by omega⟩, ⟨by omega, hfs⟩, om_same (om_upto h3 hb) (Below.heap_setCell _ _ _ _ hsd), om_same M8 (Below.heap_setCell _ _ _ _ (fun e => by have e' : f = db := e; omega))⟩, R'.len, R'.nodup, R'.bod, R'.sep, ?_, R'.pvF⟩
  obtain ⟨cv, p1, p2, p3⟩ := R'.pnd
  show ∃ cv : List Value, World.ownsRow _ 0 _ 1 _ σ.pend.length cv ∧ cv.length = σ.pend.length ∧ _
  rw [hp]
  exact ⟨cv, p1, p2, p3⟩
theorem cell_grown {w w' : World} {b o s : Nat} {v : Value} (h : w.cell? ⟨b, o, none⟩ = some v) (hg : w.grownBy w' (some s)) (hne : b ≠ s) : w'.cell? ⟨b, o, none⟩ = some v := by
  have hl := block_lt_of_cell h
  have e := hg.block b hl (fun e => by injection e with e; exact hne e)
  rw [← h]
  unfold World.cell?
  simp only [e]
theorem takeHr {P : Program} {ops : Array Oper} {Q : Exit → Act → World → Prop} {md : Region.Mode} {S : World → Prop} {i : Nat} {oi : Oper} {d : Option Tmp} {v : Value} {fuel : Nat} {listed : Array Bool} {a : Act} {w : World} (hi : ops[i]? = some oi) (hd : oi.dst = d)
    (hs : Region.noSelect ops = true) (hf : Region.free md ops listed i = true) (hr : (Region.ready md ops listed).contains i = true)
    (hQ : ∀ c a w, Q (.panic c) (a.put oi.dst v) w → Q (.panic c) a w) (hy : YieldsIf P ops S oi v a) (hS : S w)
    (h : wpAnyH P md ops Q S fuel (listed.setIfInBounds i true) (a.put d v) w) : wpAnyH P md ops Q S (fuel + 1) listed a w := by
  subst hd; exact wpAnyH_take hi hs hf hr hQ hy hS h
end Go.Proofs.Ytaddgmbglhdfdaa
