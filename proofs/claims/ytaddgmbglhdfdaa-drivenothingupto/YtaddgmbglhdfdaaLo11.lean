/-
  Layer 11's laws: a trace in memory.
-/
import Derived.Test.YtaddgmbglhdfdaaLl11
import Derived.Deep.RegionLaw
namespace Go.Proofs.Ytaddgmbglhdfdaa
open Go.RowKit Go.Maps Go.Sort
/-- A row of one-cell elements. -/
structure Rwt where
  te : TypeId
  v : Value
  n : Nat
  xs : List Value
def upd (R : Nat → Rwt) (k : Nat) (r : Rwt) : Nat → Rwt := fun i => if i = k then r else R i
theorem upd_same (R : Nat → Rwt) (k : Nat) (r : Rwt) : upd R k r k = r := if_pos rfl
theorem upd_other (R : Nat → Rwt) {k i : Nat} (r : Rwt) (h : i ≠ k) : upd R k r i = R i := if_neg h
/-- Rows that lie apart. -/
structure RwA (w : World) (N : Nat) (R : Nat → Rwt) : Prop where
  o : ∀ i, i < N → w.ownsRow 0 (R i).te 1 (R i).v (R i).n (R i).xs
  s : ∀ i j, i < N → j < N → i ≠ j → ∀ g, (R i).v.ownBlock = some g → (R j).v.ownBlock ≠ some g
theorem RwA.lt {w : World} {N : Nat} {R : Nat → Rwt} (h : RwA w N R) {i : Nat} (hi : i < N) {g : Nat} (e : (R i).v.ownBlock = some g) : g < w.heap.size := (own_lt (h.o i hi) e).2.1
theorem RwA.grow {w w' : World} {N : Nat} {R : Nat → Rwt} (h : RwA w N R) {k : Nat} (hk : k < N) (hg : w.grownBy w' (R k).v.ownBlock) (r : Rwt) (ho : w'.ownsRow 0 r.te 1 r.v r.n r.xs) (hb : r.v.ownBlock = (R k).v.ownBlock ∨ r.v.ownBlock = some w.heap.size) : RwA w' N (upd R k r) := by
  have key : ∀ j, j < N → j ≠ k → ∀ g, (R j).v.ownBlock = some g → r.v.ownBlock ≠ some g := fun j hj hne g e1 e2 => by
    rcases hb with hb | hb
    · rw [hb] at e2
      exact h.s j k hj hk hne g e1 e2
    · rw [hb] at e2
      injection e2 with e2
      have := h.lt hj e1
      omega
  refine ⟨fun i hi => ?_, fun i j hi hj hne g e1 e2 => ?_⟩
  · by_cases e : i = k
    · subst e; rw [upd_same]; exact ho
    · rw [upd_other R r e]
      exact own_kept (h.o i hi) hg (fun g e1 e2 => h.s i k hi hk e g e1 e2)
  · by_cases ei : i = k
    · subst ei
      rw [upd_same] at e1
      rw [upd_other R r (fun e => hne e.symm)] at e2
      exact key j hj (fun e => hne e.symm) g e2 e1
    · rw [upd_other R r ei] at e1
      by_cases ej : j = k
      · subst ej
        rw [upd_same] at e2
        exact key i hi ei g e1 e2
      · rw [upd_other R r ej] at e2
        exact h.s i j hi hj hne g e1 e2
theorem RwA.keep {w w' : World} {N : Nat} {R : Nat → Rwt} (h : RwA w N R) (hk : ∀ i, i < N → ∀ g, (R i).v.ownBlock = some g → w'.heap[g]? = w.heap[g]?) : RwA w' N R := ⟨fun i hi => ob_same (h.o i hi) (hk i hi), h.s⟩
theorem RwA.below {w w' : World} {N : Nat} {R : Nat → Rwt} (h : RwA w N R) (hB : Below w.heap.size w w') : RwA w' N R := h.keep (fun _ hi g e => hB.block g (h.lt hi e))
theorem RwA.add {w w' : World} {N : Nat} {R : Nat → Rwt} (h : RwA w N R) (hB : Below w.heap.size w w') (r : Rwt) (ho : w'.ownsRow 0 r.te 1 r.v r.n r.xs) (hv : ∀ g, r.v.ownBlock = some g → w.heap.size ≤ g) : RwA w' (N + 1) (upd R N r) := by
  have h' := h.below hB
  refine ⟨fun i hi => ?_, fun i j hi hj hne g e1 e2 => ?_⟩
  · by_cases e : i = N
    · subst e; rw [upd_same]; exact ho
    · rw [upd_other R r e]; exact h'.o i (by omega)
  · by_cases ei : i = N
    · subst ei
      rw [upd_same] at e1
      rw [upd_other R r (fun e => hne e.symm)] at e2
      have := hv g e1
      have := h.lt (show j < i by omega) e2
      omega
    · rw [upd_other R r ei] at e1
      by_cases ej : j = N
      · subst ej
        rw [upd_same] at e2
        have := hv g e2
        have := h.lt (show i < j by omega) e1
        omega
      · rw [upd_other R r ej] at e2
        exact h.s i j (by omega) (by omega) hne g e1 e2
/-- A cell of a row is written. -/
theorem RwA.set {w : World} {N : Nat} {R : Nat → Rwt} (h : RwA w N R) {k : Nat} (hk : k < N) {g c : Nat} (hv : (R k).v = .slice (some ⟨g, 0, none⟩) (R k).n c) (j : Nat) (u : Value) : RwA (w.setCell ⟨g, j, none⟩ u) N (upd R k ⟨(R k).te, (R k).v, (R k).n, (R k).xs.set j u⟩) := by
  have h1 := h.o k hk
  rw [hv] at h1
  obtain ⟨h2, h3⟩ := World.ownsRow.stored h1 j u
  refine h.grow hk ?_ ⟨(R k).te, (R k).v, (R k).n, (R k).xs.set j u⟩ (by rw [← hv] at h2; exact h2) (.inl rfl)
  rw [hv]
  exact h3
/-- What a trace's cells are. -/
def trC (R : Nat → Rwt) : Array Value := #[(R 0).v, (R 1).v, (R 2).v, (R 3).v, (R 4).v]
/-- A trace of the blocks H of w0, and new ones; all else of w0 is as it was. -/
structure Tq (w0 : World) (H : Nat → Prop) (tb N : Nat) (R : Nat → Rwt) (w : World) : Prop where
  rw' : RwA w N R
  gb : GB w tb 120 (trC R)
  hg : ∀ i, i < N → ∀ g, (R i).v.ownBlock = some g → H g ∨ w0.heap.size ≤ g
  tn : Tn H w0 w
  hb : H tb
  hl : ∀ b, H b → b < w0.heap.size
  n5 : 5 ≤ N
  ty : ∀ i, i < N → (R i).te ≠ 120
theorem Tq.below {w0 w w' : World} {H : Nat → Prop} {tb N : Nat} {R : Nat → Rwt} (h : Tq w0 H tb N R w) (hB : Below w.heap.size w w') : Tq w0 H tb N R w' := ⟨h.rw'.below hB, h.gb.below hB, h.hg, h.tn.trans (Tn.of_below hB), h.hb, h.hl, h.n5, h.ty⟩
theorem Tq.drew {w0 w : World} {H : Nat → Prop} {tb N : Nat} {R : Nat → Rwt} (h : Tq w0 H tb N R w) : Tq w0 H tb N R w.drew := h.below (Below.refl _ w).drew
theorem Tq.ne {w0 w : World} {H : Nat → Prop} {tb N : Nat} {R : Nat → Rwt} (h : Tq w0 H tb N R w) {i : Nat} (hi : i < N) {g : Nat} (e : (R i).v.ownBlock = some g) : g ≠ tb := h.gb.ne (h.rw'.o i hi) e (fun e9 => h.ty i hi e9.symm)
theorem Tq.nt {w0 w : World} {H : Nat → Prop} {tb N : Nat} {R : Nat → Rwt} (h : Tq w0 H tb N R w) {k : Nat} (hk : k < N) {w' : World} (hg : w.grownBy w' (R k).v.ownBlock) : Tn H w0 w' := by
  have hz := h.tn.size
  refine ⟨hg.os.trans h.tn.os, hg.tape.trans h.tn.tape, hg.output.trans h.tn.output, Nat.le_trans hz hg.size, fun b hb hn => ?_⟩
  refine (hg.block b (by omega) (fun e => ?_)).trans (h.tn.block b hb hn)
  rcases h.hg k hk b e.symm with h9 | h9
  · exact hn h9
  · omega
/-- A row has grown. -/
theorem Tq.grow {w0 w w' : World} {H : Nat → Prop} {tb N : Nat} {R : Nat → Rwt} (h : Tq w0 H tb N R w) {k : Nat} (hk : k < N) (hg : w.grownBy w' (R k).v.ownBlock) (r : Rwt) (ho : w'.ownsRow 0 r.te 1 r.v r.n r.xs) (hb : r.v.ownBlock = (R k).v.ownBlock ∨ r.v.ownBlock = some w.heap.size) : RwA w' N (upd R k r) ∧ GB w' tb 120 (trC R) ∧ (∀ i, i < N → ∀ g, (upd R k r i).v.ownBlock = some g → H g ∨ w0.heap.size ≤ g) ∧ Tn H w0 w' := by
  refine ⟨h.rw'.grow hk hg r ho hb, h.gb.kept hg (fun e => h.ne hk e rfl), fun i hi g e => ?_, h.nt hk hg⟩
  by_cases ei : i = k
  · subst ei
    rw [upd_same] at e
    rcases hb with hb | hb
    · rw [hb] at e; exact h.hg i hk g e
    · rw [hb] at e
      injection e with e
      have := h.tn.size
      exact .inr (by omega)
  · rw [upd_other R r ei] at e
    exact h.hg i hi g e
theorem trC_set (R : Nat → Rwt) (k : Nat) (hk : k < 5) (r : Rwt) : (trC R).setIfInBounds k r.v = trC (upd R k r) := by
  match k, hk with
  | 0, _ => simp [trC, upd]
  | 1, _ => simp [trC, upd]
  | 2, _ => simp [trC, upd]
  | 3, _ => simp [trC, upd]
  | 4, _ => simp [trC, upd]
theorem trC_other (R : Nat → Rwt) (k : Nat) (hk : 5 ≤ k) (r : Rwt) : trC (upd R k r) = trC R := by
  unfold trC
  rw [upd_other R r (by omega), upd_other R r (by omega), upd_other R r (by omega), upd_other R r (by omega), upd_other R r (by omega)]
/-- One of the five rows has grown and is stored. -/
theorem Tq.app {w0 w w' : World} {H : Nat → Prop} {tb N : Nat} {R : Nat → Rwt} (h : Tq w0 H tb N R w) {k : Nat} (hk : k < 5) (hg : w.grownBy w' (R k).v.ownBlock) (r : Rwt) (ho : w'.ownsRow 0 r.te 1 r.v r.n r.xs) (hb : r.v.ownBlock = (R k).v.ownBlock ∨ r.v.ownBlock = some w.heap.size) (ht : r.te = (R k).te) : GB w' tb 120 (trC R) ∧ Tq w0 H tb N (upd R k r) (w'.setCell ⟨tb, k, none⟩ r.v) := by
  have hkN : k < N := by have := h.n5; omega
  obtain ⟨h1, h2, h3, h4⟩ := h.grow hkN hg r ho hb
  have hty : ∀ i, i < N → (upd R k r i).te ≠ 120 := fun i hi => by
    by_cases e : i = k
    · subst e; rw [upd_same, ht]; exact h.ty i hi
    · rw [upd_other R r e]; exact h.ty i hi
  refine ⟨h2, h1.keep (fun i hi g e => Below.heap_setCell _ _ _ _ (fun e9 => ?_)), ?_, h3, h4.trans (Tn.setCell w' ⟨tb, k, none⟩ h.hb _), h.hb, h.hl, h.n5, hty⟩
  · exact h2.ne (h1.o i hi) e (fun e8 => hty i hi e8.symm) e9
  · have h9 := heap_setCell_same w' tb k _ _ r.v h2
    rw [trC_set R k hk r] at h9
    exact h9
/-- A cell of a row is written. -/
theorem Tq.set {w0 w : World} {H : Nat → Prop} {tb N : Nat} {R : Nat → Rwt} (h : Tq w0 H tb N R w) {k : Nat} (hk : k < N) {g c : Nat} (hv : (R k).v = .slice (some ⟨g, 0, none⟩) (R k).n c) (j : Nat) (u : Value) : Tq w0 H tb N (upd R k ⟨(R k).te, (R k).v, (R k).n, (R k).xs.set j u⟩) (w.setCell ⟨g, j, none⟩ u) := by
  have h1 := h.rw'.o k hk
  rw [hv] at h1
  obtain ⟨h2, h3⟩ := World.ownsRow.stored h1 j u
  have h3' : w.grownBy (w.setCell ⟨g, j, none⟩ u) (R k).v.ownBlock := by rw [hv]; exact h3
  obtain ⟨k1, k2, k3, k4⟩ := h.grow hk h3' ⟨(R k).te, (R k).v, (R k).n, (R k).xs.set j u⟩ (by rw [← hv] at h2; exact h2) (.inl rfl)
  have e9 : ∀ i, (upd R k ⟨(R k).te, (R k).v, (R k).n, (R k).xs.set j u⟩ i).v = (R i).v ∧ (upd R k ⟨(R k).te, (R k).v, (R k).n, (R k).xs.set j u⟩ i).te = (R i).te := fun i => by
    by_cases e : i = k
    · subst e; rw [upd_same]; exact ⟨rfl, rfl⟩
    · rw [upd_other R _ e]; exact ⟨rfl, rfl⟩
  refine ⟨k1, ?_, k3, k4, h.hb, h.hl, h.n5, fun i hi => by rw [(e9 i).2]; exact h.ty i hi⟩
  have : trC (upd R k ⟨(R k).te, (R k).v, (R k).n, (R k).xs.set j u⟩) = trC R := by
    unfold trC
    rw [(e9 0).1, (e9 1).1, (e9 2).1, (e9 3).1, (e9 4).1]
  rw [this]
  exact k2
/-- A new row. -/
theorem Tq.more {w0 w w' : World} {H : Nat → Prop} {tb N : Nat} {R : Nat → Rwt} (h : Tq w0 H tb N R w) (hB : Below w.heap.size w w') (r : Rwt) (ho : w'.ownsRow 0 r.te 1 r.v r.n r.xs) (hv : ∀ g, r.v.ownBlock = some g → w.heap.size ≤ g) (ht : r.te ≠ 120) : Tq w0 H tb (N + 1) (upd R N r) w' := by
  have h' := h.below hB
  have hz := h.tn.size
  refine ⟨h.rw'.add hB r ho hv, by rw [trC_other R N h.n5 r]; exact h'.gb, fun i hi g e => ?_, h'.tn, h.hb, h.hl, by have := h.n5; omega, fun i hi => ?_⟩
  · by_cases ei : i = N
    · subst ei
      rw [upd_same] at e
      exact .inr (Nat.le_trans hz (hv g e))
    · rw [upd_other R r ei] at e
      exact h.hg i (by omega) g e
  · by_cases ei : i = N
    · subst ei; rw [upd_same]; exact ht
    · rw [upd_other R r ei]; exact h.ty i (by omega)
/-- A row of those behind the five has another place, that is new or its own. -/
theorem Tq.row {w0 w w' : World} {H : Nat → Prop} {tb N : Nat} {R : Nat → Rwt} (h : Tq w0 H tb N R w) {k : Nat} (hk : k < N) (hk5 : 5 ≤ k) (hg : w.grownBy w' (R k).v.ownBlock) (r : Rwt) (ho : w'.ownsRow 0 r.te 1 r.v r.n r.xs) (hb : r.v.ownBlock = (R k).v.ownBlock ∨ r.v.ownBlock = some w.heap.size) (ht : r.te ≠ 120) : Tq w0 H tb N (upd R k r) w' := by
  obtain ⟨h1, h2, h3, h4⟩ := h.grow hk hg r ho hb
  refine ⟨h1, by rw [trC_other R k hk5 r]; exact h2, h3, h4, h.hb, h.hl, h.n5, fun i hi => ?_⟩
  by_cases e : i = k
  · subst e; rw [upd_same]; exact ht
  · rw [upd_other R r e]; exact h.ty i hi
def lvv : Option Nat → Value
  | none => .int .i64 (-1)
  | some b => .int .i64 (b : Int)
def nvv (b : Nat) : Value := .int .i64 (b : Int)
def RowIs (r : Rwt) (te : TypeId) (n : Nat) (xs : List Value) : Prop := r.te = te ∧ r.n = n ∧ r.xs = xs
/-- The rows of a trace. -/
structure TrR (t : Tr) (R : Nat → Rwt) : Prop where
  r0 : RowIs (R 0) 9 t.nm.length (t.nm.map encStr)
  r1 : RowIs (R 1) 3 t.nm.length (t.ld.map lvv)
  r2 : RowIs (R 2) 28 t.nm.length ((List.range t.nm.length).map fun i => (R (5 + i)).v)
  r3 : RowIs (R 3) 9 t.da.length (t.da.map encStr)
  r4 : RowIs (R 4) 3 t.da.length (t.sa.map nvv)
  r5 : ∀ i, i < t.nm.length → RowIs (R (5 + i)) 3 (t.lds.getD i []).length ((t.lds.getD i []).map nvv)
/-- A trace in memory. -/
structure TrAt (w0 : World) (H : Nat → Prop) (tb : Nat) (t : Tr) (w : World) : Prop where
  wf : t.Wf
  ex : ∃ R, Tq w0 H tb (5 + t.nm.length) R w ∧ TrR t R
theorem TrAt.below {w0 w w' : World} {H : Nat → Prop} {tb : Nat} {t : Tr} (h : TrAt w0 H tb t w) (hB : Below w.heap.size w w') : TrAt w0 H tb t w' := by
  obtain ⟨R, h1, h2⟩ := h.ex
  exact ⟨h.wf, R, h1.below hB, h2⟩
theorem Tq.own {w0 w : World} {H : Nat → Prop} {tb N : Nat} {R : Nat → Rwt} (h : Tq w0 H tb N R w) {k : Nat} (hk : k < N) {te : TypeId} {n : Nat} {xs : List Value} (hr : RowIs (R k) te n xs) : w.ownsRow 0 te 1 (R k).v n xs := by
  have h1 := h.rw'.o k hk
  rw [hr.1, hr.2.1, hr.2.2] at h1
  exact h1
theorem Tq.cells {w0 w : World} {H : Nat → Prop} {tb N : Nat} {R : Nat → Rwt} (h : Tq w0 H tb N R w) : w.cell? ⟨tb, 0, none⟩ = some (R 0).v ∧ w.cell? ⟨tb, 1, none⟩ = some (R 1).v ∧ w.cell? ⟨tb, 2, none⟩ = some (R 2).v ∧ w.cell? ⟨tb, 3, none⟩ = some (R 3).v ∧ w.cell? ⟨tb, 4, none⟩ = some (R 4).v := ⟨h.gb.cell 0, h.gb.cell 1, h.gb.cell 2, h.gb.cell 3, h.gb.cell 4⟩
end Go.Proofs.Ytaddgmbglhdfdaa
/-
  Layer 11's laws: 'place' and 'body' of a trace.
-/
namespace Go.Proofs.Ytaddgmbglhdfdaa
open Go.RowKit Go.Maps Go.Sort
theorem infoSt : (Try.prog.info? 9).map (fun i => (i.zero, i.size, i.bytes)) = some (some (.string ⟨#[]⟩), 1, 16) := by kernel_rfl
theorem infoIs : (Try.prog.info? 28).map (fun i => (i.zero, i.size, i.bytes)) = some (some (.slice none 0 0), 1, 24) := by kernel_rfl
theorem one_str (x : Tx) : ∀ u ∈ [encStr x], u.oneCell' = true := by intro u hu; simp at hu; subst hu; rfl
theorem one_int (z : Int) : ∀ u ∈ [Value.int .i64 z], u.oneCell' = true := by intro u hu; simp at hu; subst hu; rfl
theorem one_nil : ∀ u ∈ [Value.slice none 0 0], u.oneCell' = true := by intro u hu; simp at hu; subst hu; rfl
/-- The rows behind a name more. -/
theorem TrR.add {t : Tr} {R R' : Nat → Rwt} (h : TrR t R) (hw : t.Wf) (x : Tx) (h0 : RowIs (R' 0) 9 (t.nm.length + 1) (t.nm.map encStr ++ [encStr x])) (h1 : RowIs (R' 1) 3 (t.nm.length + 1) (t.ld.map lvv ++ [lvv none])) (h2 : RowIs (R' 2) 28 (t.nm.length + 1) ((List.range t.nm.length).map (fun i => (R (5 + i)).v) ++ [.slice none 0 0])) (h3 : R' 3 = R 3) (h4 : R' 4 = R 4) (h5 : ∀ i, i < t.nm.length → R' (5 + i) = R (5 + i)) (h6 : R' (5 + t.nm.length) = ⟨3, .slice none 0 0, 0, []⟩) : TrR (t.add x) R' := by
  have hl : (t.add x).nm.length = t.nm.length + 1 := by simp [Tr.add]
  refine ⟨?_, ?_, ?_, ?_, ?_, fun i hi => ?_⟩
  · rw [hl]; show RowIs _ _ _ ((t.nm ++ [x]).map encStr); rw [List.map_append]; exact h0
  · rw [hl]; show RowIs _ _ _ ((t.ld ++ [none]).map lvv); rw [List.map_append]; exact h1
  · rw [hl, List.range_succ, List.map_append]
    have e1 : (List.range t.nm.length).map (fun i => (R' (5 + i)).v) = (List.range t.nm.length).map (fun i => (R (5 + i)).v) := List.map_congr_left (fun i hi => by rw [h5 i (by simpa using hi)])
    rw [e1, List.map_singleton, h6]
    exact h2
  · rw [h3]; exact h.r3
  · rw [h4]; exact h.r4
  · rw [hl] at hi
    show RowIs _ _ ((t.lds ++ [[]]).getD i []).length (((t.lds ++ [[]]).getD i []).map nvv)
    by_cases e : i = t.nm.length
    · subst e
      rw [h6]
      have : (t.lds ++ [[]]).getD t.nm.length [] = [] := by rw [List.getD, get_app, if_neg (by rw [hw.l2]; omega), if_pos hw.l2.symm]; rfl
      rw [this]
      exact ⟨rfl, rfl, rfl⟩
    · have hlt : i < t.nm.length := by omega
      rw [h5 i hlt]
      have : (t.lds ++ [[]]).getD i [] = t.lds.getD i [] := by rw [List.getD, get_app, if_pos (by rw [hw.l2]; exact hlt), List.getD]
      rw [this]
      exact h.r5 i hlt
section
attribute [local irreducible] Calls GB
set_option maxHeartbeats 2000000 in
set_option maxRecDepth 1000000 in
theorem place_any {w0 w : World} {H : Nat → Prop} {tb : Nat} {t : Tr} (h : TrAt w0 H tb t w) (x : Tx) (hn : t.nm.length ≤ 100000000) : Calls Try.prog 62 #[.pointer (some ⟨tb, 0, none⟩), encStr x] w fun e w' => ∃ i : Nat, e = .returned (.int .i64 (i : Int)) ∧ (t.at' x).nm[i]? = some x ∧ TrAt w0 H tb (t.at' x) w' ∧ (x ∈ t.nm → w' = w) := by
  obtain ⟨R, hq, hr⟩ := h.ex
  obtain ⟨n, hnn⟩ : ∃ n, n = t.nm.length := ⟨_, rfl⟩
  rw [← hnn] at hn
  have HH := (show Hid (TrAt w0 H tb t w ∧ Tq w0 H tb (5 + n) R w ∧ TrR t R ∧ n = t.nm.length) from ⟨h, by rw [hnn]; exact hq, hr, hnn⟩)
  have O0 := (show Hid (w.ownsRow 0 9 1 (R 0).v n (t.nm.map encStr)) from HH.out.2.1.own (by omega) (by rw [hnn]; exact hr.r0))
  obtain ⟨p0, c0, e0, hc0⟩ := own_form O0.out
  have k0 := hq.cells.1
  rw [e0] at k0
  have E0 := (show Hid ((R 0).v = .slice p0 n c0) from e0)
  clear h hq hr hnn e0
  go_enter Try.func62, Try.ntmps62
  go_wp2
  go_loopw [5] (fun i wr => ∃ k : Nat, k ≤ n ∧ i = .int .i64 (k : Int) ∧ Hid (wr = w ∧ ∀ j : Nat, j < k → t.nm[j]? ≠ some x)) (fun i _ => n - (intOf i).toNat)
  case atStart => exact ⟨0, Nat.zero_le _, rfl, ⟨rfl, fun j hj => absurd hj (Nat.not_lt_zero _)⟩⟩
  case round =>
    obtain ⟨k, hk, rfl, hB⟩ := hrel
    obtain ⟨h9, hne⟩ := hB.out
    subst h9
    by_cases hlt : k < n
    · have hi : (k : Int) < (n : Int) := by omega
      obtain ⟨g, cg, cur, e1, _, e3⟩ := own_cell O0.out k hlt
      rw [E0.out] at e1
      injection e1 with e1 _ e2
      subst e1 e2
      have hkl : k < t.nm.length := by have := HH.out.2.2.2; omega
      have e3' : wr.cell? ⟨g, k, none⟩ = some (encStr (t.nm.getD k [])) := by rw [e3]; simp [List.getD, hkl]
      have hget : t.nm[k]? = some (t.nm.getD k []) := by rw [List.getD, List.getElem?_eq_getElem hkl]; rfl
      have HG := (show Hid (t.nm[k]? = some (t.nm.getD k [])) from hget)
      generalize t.nm.getD k [] = y at e3' HG
      have HNE := (show Hid (∀ j : Nat, j < k → t.nm[j]? ≠ some x) from hne)
      clear hget e3 hne hkl hB
      by_cases hy : y = x
      · have hyx : (y == x) = true := by simpa using hy
        have HY := (show Hid (y = x) from hy)
        clear hy
        go_wp2
        go_ret
        have hx : t.nm[k]? = some x := by rw [← HY.out]; exact HG.out
        have hm : x ∈ t.nm := List.mem_of_getElem? hx
        rw [Tr.at_in hm]
        exact ⟨k, rfl, hx, HH.out.1, fun _ => rfl⟩
      · have hyx : (y == x) = false := by simpa using hy
        have HY := (show Hid (∀ j : Nat, j < k + 1 → t.nm[j]? ≠ some x) from fun j hj e => by
          by_cases e9 : j = k
          · subst e9; rw [HG.out] at e; injection e with e; exact hy e
          · exact HNE.out j (by omega) e)
        clear hy
        go_wp2
        go_roundw
        case rel => exact ⟨k + 1, by omega, by go_num, ⟨trivial, HY.out⟩⟩
        case measure => simp [intOf]; omega
    · obtain rfl : k = n := by omega
      have hi : ¬ (k : Int) < (k : Int) := by omega
      have NI := (show Hid (x ∉ t.nm) from fun hm => by
        obtain ⟨j, hj, e⟩ := List.getElem_of_mem hm
        exact hne j (by have := HH.out.2.2.2; omega) (by rw [List.getElem?_eq_getElem hj, e]))
      clear hne hB
      have TA := (show Hid (Tq w0 H tb (5 + k) R (wr.alloc (.cells #[encStr x] 9))) from HH.out.2.1.below (alb _ _))
      have OA := (show Hid ((wr.alloc (.cells #[encStr x] 9)).ownsRow 0 9 1 (.slice p0 k c0) k (t.nm.map encStr)) from by rw [← E0.out]; exact own_below O0.out (alb _ _))
      have q0 := TA.out.cells.1
      rw [E0.out] at q0
      go_upto_region 7 with (at_builtin; refine wpList_apS rfl (.tmp 29) (.tmp 31) 47 9 rfl Try.underlying47 infoSt rfl 0 (.slice p0 k c0) k (t.nm.map encStr) rfl OA.out (some ⟨wr.heap.size, 0, none⟩) 1 1 [encStr x] rfl (sr_new wr [encStr x] _) rfl (one_str x) (by omega) (by decide) (Nat.zero_le _) ?_; intro v1 w1 ho1 hg1 hk1; have AP := (show Hid _ from TA.out.app (k := 0) (by decide) (by rw [E0.out]; exact hg1) ⟨9, v1, k + 1, t.nm.map encStr ++ [encStr x]⟩ ho1 (by rw [E0.out]; exact hk1) HH.out.2.2.1.r0.1.symm); have d0 := AP.out.1.cell 0; have f0 := AP.out.1.frozen 0; obtain ⟨p1, c1, e1, _⟩ := own_form ho1; subst e1)
      have T1 := (show Hid (Tq w0 H tb (5 + k) (upd R 0 ⟨9, .slice p1 (k + 1) c1, k + 1, t.nm.map encStr ++ [encStr x]⟩) (w1.setCell ⟨tb, 0, none⟩ (.slice p1 (k + 1) c1))) from AP.out.2)
      generalize w1.setCell ⟨tb, 0, none⟩ (.slice p1 (k + 1) c1) = w2 at T1 ⊢
      obtain ⟨R1, hR1⟩ : ∃ R1, R1 = upd R 0 ⟨9, .slice p1 (k + 1) c1, k + 1, t.nm.map encStr ++ [encStr x]⟩ := ⟨_, rfl⟩
      rw [← hR1] at T1
      have HR1 := (show Hid (RowIs (R1 0) 9 (k + 1) (t.nm.map encStr ++ [encStr x]) ∧ ∀ i, i ≠ 0 → R1 i = R i) from ⟨by rw [hR1, upd_same]; exact ⟨rfl, rfl, rfl⟩, fun i hi => by rw [hR1, upd_other R _ hi]⟩)
      clear hR1 AP d0 f0 q0 k0 TA OA ho1 hg1 hk1
      have O1 := (show Hid (w2.ownsRow 0 3 1 (R1 1).v k (t.ld.map lvv)) from T1.out.own (by omega) (by rw [HR1.out.2 1 (by decide)]; have := HH.out.2.2.1.r1; rw [← HH.out.2.2.2] at this; exact this))
      obtain ⟨p2, c2, e2, _⟩ := own_form O1.out
      have E2 := (show Hid ((R1 1).v = .slice p2 k c2) from e2)
      have k1 := T1.out.cells.2.1
      rw [e2] at k1
      have TB := (show Hid (Tq w0 H tb (5 + k) R1 (w2.alloc (.cells #[.int .i64 (-1)] 3))) from T1.out.below (alb _ _))
      have OB := (show Hid ((w2.alloc (.cells #[.int .i64 (-1)] 3)).ownsRow 0 3 1 (.slice p2 k c2) k (t.ld.map lvv)) from by rw [← E2.out]; exact own_below O1.out (alb _ _))
      have q1 := TB.out.cells.2.1
      rw [e2] at q1
      clear e2
      go_upto_region 8 with (at_builtin; refine wpList_apS rfl (.tmp 39) (.tmp 40) 28 3 rfl Try.underlying28 infoI rfl 0 (.slice p2 k c2) k (t.ld.map lvv) rfl OB.out (some ⟨w2.heap.size, 0, none⟩) 1 1 [.int .i64 (-1)] rfl (sr_new w2 [.int .i64 (-1)] _) rfl (one_int _) (by omega) (by decide) (Nat.zero_le _) ?_; intro v1 w3 ho1 hg1 hk1; have AP := (show Hid _ from TB.out.app (k := 1) (by decide) (by rw [E2.out]; exact hg1) ⟨3, v1, k + 1, t.ld.map lvv ++ [.int .i64 (-1)]⟩ ho1 (by rw [E2.out]; exact hk1) (by rw [HR1.out.2 1 (by decide)]; exact HH.out.2.2.1.r1.1.symm)); have d0 := AP.out.1.cell 1; have f0 := AP.out.1.frozen 1; obtain ⟨p3, c3, e1, _⟩ := own_form ho1; subst e1)
      have T2 := (show Hid (Tq w0 H tb (5 + k) (upd R1 1 ⟨3, .slice p3 (k + 1) c3, k + 1, t.ld.map lvv ++ [.int .i64 (-1)]⟩) (w3.setCell ⟨tb, 1, none⟩ (.slice p3 (k + 1) c3))) from AP.out.2)
      generalize w3.setCell ⟨tb, 1, none⟩ (.slice p3 (k + 1) c3) = w4 at T2 ⊢
      obtain ⟨R2, hR2⟩ : ∃ R2, R2 = upd R1 1 ⟨3, .slice p3 (k + 1) c3, k + 1, t.ld.map lvv ++ [.int .i64 (-1)]⟩ := ⟨_, rfl⟩
      rw [← hR2] at T2
      have HR2 := (show Hid (RowIs (R2 0) 9 (k + 1) (t.nm.map encStr ++ [encStr x]) ∧ RowIs (R2 1) 3 (k + 1) (t.ld.map lvv ++ [lvv none]) ∧ ∀ i, 2 ≤ i → R2 i = R i) from ⟨by rw [hR2, upd_other R1 _ (by decide)]; exact HR1.out.1, by rw [hR2, upd_same]; exact ⟨rfl, rfl, rfl⟩, fun i hi => by rw [hR2, upd_other R1 _ (by omega)]; exact HR1.out.2 i (by omega)⟩)
      clear hR2 AP d0 f0 q1 k1 TB OB ho1 hg1 hk1 T1 O1 HR1
      have O2 := (show Hid (w4.ownsRow 0 28 1 (R2 2).v k ((List.range k).map fun i => (R (5 + i)).v)) from T2.out.own (by omega) (by rw [HR2.out.2.2 2 (by decide)]; have := HH.out.2.2.1.r2; rw [← HH.out.2.2.2] at this; exact this))
      obtain ⟨p4, c4, e4, _⟩ := own_form O2.out
      have E4 := (show Hid ((R2 2).v = .slice p4 k c4) from e4)
      have k2 := T2.out.cells.2.2.1
      rw [e4] at k2
      have TB := (show Hid (Tq w0 H tb (5 + k) R2 (w4.alloc (.cells #[.slice none 0 0] 28))) from T2.out.below (alb _ _))
      have OB := (show Hid ((w4.alloc (.cells #[.slice none 0 0] 28)).ownsRow 0 28 1 (.slice p4 k c4) k ((List.range k).map fun i => (R (5 + i)).v)) from by rw [← E4.out]; exact own_below O2.out (alb _ _))
      have q2 := TB.out.cells.2.2.1
      rw [e4] at q2
      clear e4
      go_upto_region 9 with (at_builtin; refine wpList_apS rfl (.tmp 48) (.tmp 49) 118 28 rfl Try.underlying118 infoIs rfl 0 (.slice p4 k c4) k ((List.range k).map fun i => (R (5 + i)).v) rfl OB.out (some ⟨w4.heap.size, 0, none⟩) 1 1 [.slice none 0 0] rfl (sr_new w4 [.slice none 0 0] _) rfl one_nil (by omega) (by decide) (Nat.zero_le _) ?_; intro v1 w5 ho1 hg1 hk1; have AP := (show Hid _ from TB.out.app (k := 2) (by decide) (by rw [E4.out]; exact hg1) ⟨28, v1, k + 1, (List.range k).map (fun i => (R (5 + i)).v) ++ [.slice none 0 0]⟩ ho1 (by rw [E4.out]; exact hk1) (by rw [HR2.out.2.2 2 (by decide)]; exact HH.out.2.2.1.r2.1.symm)); have d0 := AP.out.1.cell 2; have f0 := AP.out.1.frozen 2; obtain ⟨p5, c5, e1, _⟩ := own_form ho1; subst e1)
      have T3 := (show Hid (Tq w0 H tb (5 + k) (upd R2 2 ⟨28, .slice p5 (k + 1) c5, k + 1, (List.range k).map (fun i => (R (5 + i)).v) ++ [.slice none 0 0]⟩) (w5.setCell ⟨tb, 2, none⟩ (.slice p5 (k + 1) c5))) from AP.out.2)
      generalize w5.setCell ⟨tb, 2, none⟩ (.slice p5 (k + 1) c5) = w6 at T3 ⊢
      obtain ⟨R3, hR3⟩ : ∃ R3, R3 = upd R2 2 ⟨28, .slice p5 (k + 1) c5, k + 1, (List.range k).map (fun i => (R (5 + i)).v) ++ [.slice none 0 0]⟩ := ⟨_, rfl⟩
      rw [← hR3] at T3
      have HR3 := (show Hid (RowIs (R3 0) 9 (k + 1) (t.nm.map encStr ++ [encStr x]) ∧ RowIs (R3 1) 3 (k + 1) (t.ld.map lvv ++ [lvv none]) ∧ RowIs (R3 2) 28 (k + 1) ((List.range k).map (fun i => (R (5 + i)).v) ++ [.slice none 0 0]) ∧ ∀ i, 3 ≤ i → R3 i = R i) from ⟨by rw [hR3, upd_other R2 _ (by decide)]; exact HR2.out.1, by rw [hR3, upd_other R2 _ (by decide)]; exact HR2.out.2.1, by rw [hR3, upd_same]; exact ⟨rfl, rfl, rfl⟩, fun i hi => by rw [hR3, upd_other R2 _ (by omega)]; exact HR2.out.2.2 i (by omega)⟩)
      clear hR3 AP d0 f0 q2 k2 TB OB ho1 hg1 hk1 T2 O2 HR2
      have O3 := (show Hid (w6.ownsRow 0 9 1 (R3 0).v (k + 1) (t.nm.map encStr ++ [encStr x])) from T3.out.own (by omega) HR3.out.1)
      obtain ⟨p6, c6, e6, _⟩ := own_form O3.out
      have k3 := T3.out.cells.1
      rw [e6] at k3
      clear e6
      go_wp2_with fail
      go_ret
      have hkn := HH.out.2.2.2
      refine ⟨k, by simp, ?_, ?_, fun hm => absurd hm NI.out⟩
      · rw [Tr.at_new NI.out]
        show (t.nm ++ [x])[k]? = _
        rw [get_app, if_neg (by omega), if_pos hkn]
      · rw [Tr.at_new NI.out]
        refine ⟨HH.out.1.wf.add NI.out, upd R3 (5 + k) ⟨3, .slice none 0 0, 0, []⟩, ?_, ?_⟩
        · have hl : 5 + (t.add x).nm.length = 5 + k + 1 := by simp [Tr.add]; omega
          rw [hl]
          exact T3.out.more (Below.refl _ _) ⟨3, .slice none 0 0, 0, []⟩ ⟨rfl, .inl ⟨rfl, rfl⟩⟩ (fun g e => by cases e) (by decide)
        · refine HH.out.2.2.1.add HH.out.1.wf x ?_ ?_ ?_ ?_ ?_ (fun i hi => ?_) ?_
          · rw [upd_other R3 _ (by omega), ← hkn]; exact HR3.out.1
          · rw [upd_other R3 _ (by omega), ← hkn]; exact HR3.out.2.1
          · rw [upd_other R3 _ (by omega), ← hkn]; exact HR3.out.2.2.1
          · rw [upd_other R3 _ (by omega)]; exact HR3.out.2.2.2 3 (by omega)
          · rw [upd_other R3 _ (by omega)]; exact HR3.out.2.2.2 4 (by omega)
          · rw [upd_other R3 _ (by omega)]; exact HR3.out.2.2.2 _ (by omega)
          · rw [← hkn, upd_same]
end
end Go.Proofs.Ytaddgmbglhdfdaa
/-
  Layer 11's laws: 'body' and 'lead' of a trace.
-/
namespace Go.Proofs.Ytaddgmbglhdfdaa
open Go.RowKit Go.Maps Go.Sort
/-- append(v, y) as a step of a region that draws its order. -/
theorem step_apT {w : World} {ops : Array Oper} {o : Oper} {a : Act} {K : Act → World → Prop} {Q : Exit → Act → World → Prop} {E : Prop} (hgd : o.guard = none) (s x : Operand) (t te : TypeId) (ho : o.op = .call { callee := .builtin .append, args := #[s, x], argTypes := #[t, t] })
    (ht : Try.prog.underlying t = some (.slice te)) {z : Value} {by' : Nat} (hi : (Try.prog.info? te).map (fun i => (i.zero, i.size, i.bytes)) = some (some z, 1, by')) (hz : z.cells.size = 1)
    (v : Value) (n : Nat) (xs : List Value) (hs : a.eval s = v) (hown : w.ownsRow 0 te 1 v n xs) (b c : Nat) (y : Value) (hx : a.eval x = .slice (some ⟨b, 0, none⟩) 1 c) (hr : w.cell? ⟨b, 0, none⟩ = some y) (h1 : y.oneCell' = true)
    (hl : n + 1 ≤ 1000000000000) (hb : by' ≤ 64)
    (h : ∀ v' w', w'.ownsRow 0 te 1 v' (n + 1) (xs ++ [y]) → w.grownBy w' v.ownBlock → (v'.ownBlock = v.ownBlock ∨ v'.ownBlock = some w.heap.size) → K (a.put o.dst v') w') : if Region.wanted o (yielded ops a.tmps) = true then Oper.wp Try.prog o a w K Q else E := by
  have hw : Region.wanted o (yielded ops a.tmps) = true := by simp [Region.wanted, hgd]
  rw [if_pos hw]
  obtain ⟨i0, hi0, hz0, hz1, hz2⟩ := info_parts hi
  have hby : (n + 1) * by' ≤ 140737488355328 := by
    have := Nat.mul_le_mul hl hb
    omega
  obtain ⟨v', w', hr', h2, h3, _, h5⟩ := run_append_own_at (P := Try.prog) w 0 t o.type te i0 z 1 by' ht hi0 hz0 hz1 hz2 hz (by decide) v n xs hown ⟨b, 0, none⟩ 1 c [y] rfl (fun j u hj => by
    match j, hj with
    | 0, hj => simp at hj; subst hj; exact hr
    | j + 1, hj => simp at hj) (by intro u hu; simp at hu; subst hu; exact h1) (by unfold maxLen; omega) hby (Nat.zero_le _)
  unfold Oper.wp execOp
  simp only [ho, resolve, invoke, builtin, Sem.run_bind, Sem.run_pure, Result.andThen_ok, List.map_toArray, List.map_cons, List.map_nil, hs, hx, hr']
  exact h v' w' h2 h3 h5
/-- A cell of a row may be written. -/
theorem Tq.wr {w0 w : World} {H : Nat → Prop} {tb N : Nat} {R : Nat → Rwt} (h : Tq w0 H tb N R w) {k : Nat} (hk : k < N) {g n c : Nat} (hv : (R k).v = .slice (some ⟨g, 0, none⟩) n c) {i : Nat} (hi : i < n) (hn : (R k).n = n) : (∃ u, w.cell? ⟨g, i, none⟩ = some u) ∧ w.frozen? ⟨g, i, none⟩ = false := by
  obtain ⟨g', c', cur, e1, e2, e3⟩ := own_cell (h.rw'.o k hk) i (by omega)
  rw [hv] at e1
  injection e1 with e1
  injection e1 with e1
  injection e1 with e1
  subst e1
  exact ⟨⟨_, e3⟩, frozen_of_row w g i _ _ e2⟩
theorem Tr.Wf.bod {t : Tr} (h : t.Wf) (d : Tx) (s : Nat) : (t.bod d s).Wf := by
  have hl : (t.bod d s).da.length = t.da.length + 1 := by simp [Tr.bod]
  exact ⟨h.l1, h.l2, by simp [Tr.bod, h.l3], h.nd, fun i b e => by have := h.b1 i b e; omega, fun i l e b hb => by have := h.b2 i l e b hb; omega⟩
section
attribute [local irreducible] Calls GB
set_option maxHeartbeats 2000000 in
set_option maxRecDepth 1000000 in
theorem body_any {w0 w : World} {H : Nat → Prop} {tb : Nat} {t : Tr} (h : TrAt w0 H tb t w) (d : Tx) (s : Nat) (hn : t.da.length ≤ 100000000) : Calls Try.prog 59 #[.pointer (some ⟨tb, 0, none⟩), encStr d, .int .i64 (s : Int)] w fun e w' => e = .returned (.int .i64 (t.da.length : Int)) ∧ TrAt w0 H tb (t.bod d s) w' := by
  obtain ⟨R, hq, hr⟩ := h.ex
  obtain ⟨k, hkk⟩ : ∃ k, k = t.da.length := ⟨_, rfl⟩
  rw [← hkk] at hn ⊢
  have HH := (show Hid (TrAt w0 H tb t w ∧ Tq w0 H tb (5 + t.nm.length) R w ∧ TrR t R ∧ k = t.da.length) from ⟨h, hq, hr, hkk⟩)
  have O0 := (show Hid (w.ownsRow 0 9 1 (R 3).v k (t.da.map encStr)) from hq.own (by omega) (by rw [hkk]; exact hr.r3))
  obtain ⟨p0, c0, e0, _⟩ := own_form O0.out
  have E0 := (show Hid ((R 3).v = .slice p0 k c0) from e0)
  have k0 := hq.cells.2.2.2.1
  rw [e0] at k0
  have TA := (show Hid (Tq w0 H tb (5 + t.nm.length) R (w.alloc (.cells #[encStr d] 9))) from hq.below (alb _ _))
  have OA := (show Hid ((w.alloc (.cells #[encStr d] 9)).ownsRow 0 9 1 (.slice p0 k c0) k (t.da.map encStr)) from by rw [← E0.out]; exact own_below O0.out (alb _ _))
  have q0 := TA.out.cells.2.2.2.1
  rw [e0] at q0
  clear h hq hr hkk e0
  go_enter Try.func59, Try.ntmps59
  go_upto_region 2 with (at_builtin; refine wpList_apS rfl (.tmp 11) (.tmp 13) 47 9 rfl Try.underlying47 infoSt rfl 0 (.slice p0 k c0) k (t.da.map encStr) rfl OA.out (some ⟨w.heap.size, 0, none⟩) 1 1 [encStr d] rfl (sr_new w [encStr d] _) rfl (one_str d) (by omega) (by decide) (Nat.zero_le _) ?_; intro v1 w1 ho1 hg1 hk1; have AP := (show Hid _ from TA.out.app (k := 3) (by decide) (by rw [E0.out]; exact hg1) ⟨9, v1, k + 1, t.da.map encStr ++ [encStr d]⟩ ho1 (by rw [E0.out]; exact hk1) HH.out.2.2.1.r3.1.symm); have d0 := AP.out.1.cell 3; have f0 := AP.out.1.frozen 3; obtain ⟨p1, c1, e1, _⟩ := own_form ho1; subst e1)
  have T1 := (show Hid (Tq w0 H tb (5 + t.nm.length) (upd R 3 ⟨9, .slice p1 (k + 1) c1, k + 1, t.da.map encStr ++ [encStr d]⟩) (w1.setCell ⟨tb, 3, none⟩ (.slice p1 (k + 1) c1))) from AP.out.2)
  generalize w1.setCell ⟨tb, 3, none⟩ (.slice p1 (k + 1) c1) = w2 at T1 ⊢
  obtain ⟨R1, hR1⟩ : ∃ R1, R1 = upd R 3 ⟨9, .slice p1 (k + 1) c1, k + 1, t.da.map encStr ++ [encStr d]⟩ := ⟨_, rfl⟩
  rw [← hR1] at T1
  have HR1 := (show Hid (RowIs (R1 3) 9 (k + 1) (t.da.map encStr ++ [encStr d]) ∧ ∀ i, i ≠ 3 → R1 i = R i) from ⟨by rw [hR1, upd_same]; exact ⟨rfl, rfl, rfl⟩, fun i hi => by rw [hR1, upd_other R _ hi]⟩)
  clear hR1 AP d0 f0 q0 k0 TA OA ho1 hg1 hk1
  have O1 := (show Hid (w2.ownsRow 0 3 1 (R1 4).v k (t.sa.map nvv)) from T1.out.own (by omega) (by rw [HR1.out.2 4 (by decide)]; have := HH.out.2.2.1.r4; rw [← HH.out.2.2.2] at this; exact this))
  obtain ⟨p2, c2, e2, _⟩ := own_form O1.out
  have E2 := (show Hid ((R1 4).v = .slice p2 k c2) from e2)
  have k1 := T1.out.cells.2.2.2.2
  rw [e2] at k1
  have TB := (show Hid (Tq w0 H tb (5 + t.nm.length) R1 (w2.alloc (.cells #[.int .i64 (s : Int)] 3))) from T1.out.below (alb _ _))
  have OB := (show Hid ((w2.alloc (.cells #[.int .i64 (s : Int)] 3)).ownsRow 0 3 1 (.slice p2 k c2) k (t.sa.map nvv)) from by rw [← E2.out]; exact own_below O1.out (alb _ _))
  have q1 := TB.out.cells.2.2.2.2
  rw [e2] at q1
  clear e2
  go_upto_region 3 with (at_builtin; refine wpList_apS rfl (.tmp 21) (.tmp 23) 28 3 rfl Try.underlying28 infoI rfl 0 (.slice p2 k c2) k (t.sa.map nvv) rfl OB.out (some ⟨w2.heap.size, 0, none⟩) 1 1 [.int .i64 (s : Int)] rfl (sr_new w2 [.int .i64 (s : Int)] _) rfl (one_int _) (by omega) (by decide) (Nat.zero_le _) ?_; intro v1 w3 ho1 hg1 hk1; have AP := (show Hid _ from TB.out.app (k := 4) (by decide) (by rw [E2.out]; exact hg1) ⟨3, v1, k + 1, t.sa.map nvv ++ [.int .i64 (s : Int)]⟩ ho1 (by rw [E2.out]; exact hk1) (by rw [HR1.out.2 4 (by decide)]; exact HH.out.2.2.1.r4.1.symm)); have d0 := AP.out.1.cell 4; have f0 := AP.out.1.frozen 4; obtain ⟨p3, c3, e1, _⟩ := own_form ho1; subst e1)
  have T2 := (show Hid (Tq w0 H tb (5 + t.nm.length) (upd R1 4 ⟨3, .slice p3 (k + 1) c3, k + 1, t.sa.map nvv ++ [.int .i64 (s : Int)]⟩) (w3.setCell ⟨tb, 4, none⟩ (.slice p3 (k + 1) c3))) from AP.out.2)
  generalize w3.setCell ⟨tb, 4, none⟩ (.slice p3 (k + 1) c3) = w4 at T2 ⊢
  obtain ⟨R2, hR2⟩ : ∃ R2, R2 = upd R1 4 ⟨3, .slice p3 (k + 1) c3, k + 1, t.sa.map nvv ++ [.int .i64 (s : Int)]⟩ := ⟨_, rfl⟩
  rw [← hR2] at T2
  have HR2 := (show Hid (RowIs (R2 3) 9 (k + 1) (t.da.map encStr ++ [encStr d]) ∧ RowIs (R2 4) 3 (k + 1) (t.sa.map nvv ++ [nvv s]) ∧ ∀ i, i ≠ 3 → i ≠ 4 → R2 i = R i) from ⟨by rw [hR2, upd_other R1 _ (by decide)]; exact HR1.out.1, by rw [hR2, upd_same]; exact ⟨rfl, rfl, rfl⟩, fun i hi hi' => by rw [hR2, upd_other R1 _ hi']; exact HR1.out.2 i hi⟩)
  clear hR2 AP d0 f0 q1 k1 TB OB ho1 hg1 hk1 T1 O1 HR1
  have O3 := (show Hid (w4.ownsRow 0 9 1 (R2 3).v (k + 1) (t.da.map encStr ++ [encStr d])) from T2.out.own (by omega) HR2.out.1)
  obtain ⟨p6, c6, e6, _⟩ := own_form O3.out
  have k3 := T2.out.cells.2.2.2.1
  rw [e6] at k3
  clear e6
  go_wp2_with fail
  go_ret
  have hkn := HH.out.2.2.2
  refine ⟨by simp, HH.out.1.wf.bod d s, R2, T2.out, ?_⟩
  have hr := HH.out.2.2.1
  have g := HR2.out.2.2
  refine ⟨by rw [g 0 (by decide) (by decide)]; exact hr.r0, by rw [g 1 (by decide) (by decide)]; exact hr.r1, ?_, ?_, ?_, fun i hi => by rw [g _ (by omega) (by omega)]; exact hr.r5 i hi⟩
  · rw [g 2 (by decide) (by decide)]
    have e1 : (List.range (t.bod d s).nm.length).map (fun i => (R2 (5 + i)).v) = (List.range t.nm.length).map (fun i => (R (5 + i)).v) := List.map_congr_left (fun i _ => by rw [g _ (by omega) (by omega)])
    rw [e1]
    exact hr.r2
  · show RowIs _ _ (t.da ++ [d]).length ((t.da ++ [d]).map encStr)
    rw [List.length_append, List.length_singleton, List.map_append, ← hkn]
    exact HR2.out.1
  · show RowIs _ _ (t.da ++ [d]).length ((t.sa ++ [s]).map nvv)
    rw [List.length_append, List.length_singleton, List.map_append, ← hkn]
    exact HR2.out.2.1
/-- What a name leads to is written. -/
theorem TrAt.setL {w0 w : World} {H : Nat → Prop} {tb : Nat} {t : Tr} {R : Nat → Rwt} (hq : Tq w0 H tb (5 + t.nm.length) R w) (hr : TrR t R) {i g c : Nat} (hv : (R 1).v = .slice (some ⟨g, 0, none⟩) t.nm.length c) (o : Option Nat) : ∃ R', Tq w0 H tb (5 + t.nm.length) R' (w.setCell ⟨g, i, none⟩ (lvv o)) ∧ TrR { t with ld := t.ld.set i o } R' ∧ (∀ j, (R' j).v = (R j).v) := by
  have h1 := hq.set (k := 1) (by omega) (by rw [hr.r1.2.1]; exact hv) i (lvv o)
  refine ⟨_, h1, ?_, fun j => ?_⟩
  · have g : ∀ j, j ≠ 1 → upd R 1 ⟨(R 1).te, (R 1).v, (R 1).n, (R 1).xs.set i (lvv o)⟩ j = R j := fun j hj => upd_other R _ hj
    refine ⟨by rw [g 0 (by decide)]; exact hr.r0, ?_, ?_, by rw [g 3 (by decide)]; exact hr.r3, by rw [g 4 (by decide)]; exact hr.r4, fun j hj => by rw [g _ (by omega)]; exact hr.r5 j hj⟩
    · rw [upd_same]
      refine ⟨hr.r1.1, hr.r1.2.1, ?_⟩
      show (R 1).xs.set i (lvv o) = (t.ld.set i o).map lvv
      rw [hr.r1.2.2, List.map_set]
    · rw [g 2 (by decide)]
      have e1 : (List.range t.nm.length).map (fun j => (upd R 1 ⟨(R 1).te, (R 1).v, (R 1).n, (R 1).xs.set i (lvv o)⟩ (5 + j)).v) = (List.range t.nm.length).map (fun j => (R (5 + j)).v) := List.map_congr_left (fun j _ => by rw [g _ (by omega)])
      show RowIs _ _ t.nm.length ((List.range t.nm.length).map _)
      rw [e1]
      exact hr.r2
  · by_cases e : j = 1
    · subst e; rw [upd_same]
    · rw [upd_other R _ e]
/-- A row of what a name has led to is set in its place. -/
theorem TrAt.setE {w0 w : World} {H : Nat → Prop} {tb : Nat} {t : Tr} {R : Nat → Rwt} (hw : t.Wf) {i g c : Nat} (r : Rwt) (l : List Nat) (hq : Tq w0 H tb (5 + t.nm.length) (upd R (5 + i) r) w) (hr : TrR t R) (hi : i < t.nm.length) (hv : (R 2).v = .slice (some ⟨g, 0, none⟩) t.nm.length c) (hR : RowIs r 3 l.length (l.map nvv)) : ∃ R', Tq w0 H tb (5 + t.nm.length) R' (w.setCell ⟨g, i, none⟩ r.v) ∧ TrR { t with lds := t.lds.set i l } R' := by
  have h2 : upd R (5 + i) r 2 = R 2 := upd_other R r (by omega)
  have h1 := hq.set (k := 2) (by omega) (g := g) (c := c) (by rw [h2, hr.r2.2.1]; exact hv) i r.v
  refine ⟨_, h1, ?_⟩
  rw [h2]
  have g' : ∀ j, j ≠ 2 → upd (upd R (5 + i) r) 2 ⟨(R 2).te, (R 2).v, (R 2).n, (R 2).xs.set i r.v⟩ j = upd R (5 + i) r j := fun j hj => upd_other _ _ hj
  have g5 : ∀ j, j < 5 → j ≠ 2 → upd (upd R (5 + i) r) 2 ⟨(R 2).te, (R 2).v, (R 2).n, (R 2).xs.set i r.v⟩ j = R j := fun j hj hj' => by rw [g' j hj', upd_other R r (by omega)]
  refine ⟨by rw [g5 0 (by decide) (by decide)]; exact hr.r0, by rw [g5 1 (by decide) (by decide)]; exact hr.r1, ?_, by rw [g5 3 (by decide) (by decide)]; exact hr.r3, by rw [g5 4 (by decide) (by decide)]; exact hr.r4, fun j hj => ?_⟩
  · rw [upd_same]
    refine ⟨hr.r2.1, hr.r2.2.1, ?_⟩
    show (R 2).xs.set i r.v = (List.range t.nm.length).map _
    rw [hr.r2.2.2]
    apply List.ext_getElem?
    intro j
    rw [set_get, List.getElem?_map, List.getElem?_map]
    by_cases hj : j < t.nm.length
    · rw [List.getElem?_range hj]
      by_cases e : i = j
      · subst e
        rw [if_pos rfl, if_pos (by simp [hj])]
        simp only [Option.map_some]
        rw [upd_other _ _ (show 5 + i ≠ 2 by omega), upd_same]
      · rw [if_neg e]
        simp only [Option.map_some]
        rw [upd_other _ _ (show 5 + j ≠ 2 by omega), upd_other R r (by omega)]
    · rw [List.getElem?_eq_none (by simp; omega)]
      by_cases e : i = j
      · omega
      · rw [if_neg e]
        rfl
  · rw [g' _ (by omega)]
    show RowIs _ _ ((t.lds.set i l).getD j []).length (((t.lds.set i l).getD j []).map nvv)
    have hj' : j < t.nm.length := hj
    by_cases e : i = j
    · subst e
      rw [upd_same]
      have : (t.lds.set i l).getD i [] = l := by rw [List.getD, set_get, if_pos rfl, if_pos (by rw [hw.l2]; exact hi)]; rfl
      rw [this]
      exact hR
    · rw [upd_other R r (by omega)]
      have : (t.lds.set i l).getD j [] = t.lds.getD j [] := by rw [List.getD, set_get, if_neg e, List.getD]
      rw [this]
      exact hr.r5 j hj'
set_option maxHeartbeats 2000000 in
set_option maxRecDepth 1000000 in
theorem lead_any {w0 w : World} {H : Nat → Prop} {tb : Nat} {t : Tr} (h : TrAt w0 H tb t w) (x : Tx) (o : Option Nat) (ho : ∀ b, o = some b → b < t.da.length) (hn : t.nm.length ≤ 100000000) (hd : t.da.length ≤ 100000000) (hm : ∀ i : Nat, (t.lds.getD i []).length ≤ 100000000) : Calls Try.prog 63 #[.pointer (some ⟨tb, 0, none⟩), encStr x, lvv o] w fun e w' => (∃ r, e = .returned r) ∧ ∃ i : Nat, (t.at' x).nm[i]? = some x ∧ TrAt w0 H tb ((t.at' x).leadAt i o) w' := by
  have HP := (show Hid (Calls Try.prog 62 #[.pointer (some ⟨tb, 0, none⟩), encStr x] w fun e w' => ∃ i : Nat, e = .returned (.int .i64 (i : Int)) ∧ (t.at' x).nm[i]? = some x ∧ TrAt w0 H tb (t.at' x) w' ∧ (x ∈ t.nm → w' = w)) from place_any h x hn)
  have HO := (show Hid ((∀ b, o = some b → b < t.da.length) ∧ t.da.length ≤ 100000000 ∧ ∀ i : Nat, ((t.at' x).lds.getD i []).length ≤ 100000000) from ⟨ho, hd, fun i => by
    unfold Tr.at'
    split
    · exact hm i
    · show ((t.lds ++ [[]]).getD i []).length ≤ _
      rw [List.getD, get_app]
      split
      · have := hm i; rw [List.getD] at this; exact this
      · split <;> simp⟩)
  have HU := (show Hid ((t.at' x).da = t.da) from (at_da t x).1)
  clear h ho hn hd hm
  obtain ⟨u, hu⟩ : ∃ u, u = t.at' x := ⟨_, rfl⟩
  rw [← hu] at HP HO HU ⊢
  clear hu
  obtain ⟨z, hz⟩ : ∃ z : Int, lvv o = .int .i64 z := by cases o <;> exact ⟨_, rfl⟩
  have HV := (show Hid (lvv o = .int .i64 z) from hz)
  rw [hz]
  clear hz
  go_enter Try.func63, Try.ntmps63
  go_upto_region 1 with (go_at_call 62; refine HP.out.mono ?_; rintro e w1 ⟨i, rfl, hi, hT, _⟩)
  have HI := (show Hid (u.nm[i]? = some x) from hi)
  have HT := (show Hid (TrAt w0 H tb u w1) from hT)
  obtain ⟨R, hq, hr⟩ := hT.ex
  obtain ⟨n, hnn⟩ : ∃ n, n = u.nm.length := ⟨_, rfl⟩
  have hil : i < n := by rw [hnn]; exact (List.getElem?_eq_some_iff.1 hi).1
  have hii : (i : Int) < (n : Int) := by omega
  have TQ := (show Hid (Tq w0 H tb (5 + u.nm.length) R w1 ∧ TrR u R ∧ n = u.nm.length) from ⟨hq, hr, hnn⟩)
  obtain ⟨g1, c1, cur1, e1, e2, e3⟩ := own_cell (hq.own (by omega) hr.r1) i (by omega)
  rw [← hnn] at e1
  have k1 := hq.cells.2.1
  rw [e1] at k1
  have f1 := frozen_of_row w1 g1 i _ _ e2
  have SL := (show Hid (∃ R', Tq w0 H tb (5 + u.nm.length) R' (w1.setCell ⟨g1, i, none⟩ (.int .i64 z)) ∧ TrR { u with ld := u.ld.set i o } R' ∧ (∀ j, (R' j).v = (R j).v)) from by rw [← HV.out]; exact TrAt.setL hq hr (by rw [← hnn]; exact e1) o)
  clear hT hi hq hr hnn e1 e2 HP
  go_upto_region 2 with fail
  clear k1 e3 f1
  generalize w1.setCell ⟨g1, i, none⟩ (.int .i64 z) = w2 at SL ⊢
  obtain ⟨R1, hq1, hr1, hv1⟩ := SL.out
  have T1 := (show Hid (Tq w0 H tb (5 + u.nm.length) R1 w2 ∧ TrR { u with ld := u.ld.set i o } R1) from ⟨hq1, hr1⟩)
  clear SL
  cases o with
  | none =>
    obtain rfl : z = -1 := by have h9 := HV.out; unfold lvv at h9; injection h9 with _ h9; exact h9.symm
    clear hq1 hr1 hv1
    go_wp2_with fail
    go_end0
    exact ⟨⟨_, rfl⟩, i, HI.out, HT.out.wf.leadAt i none (fun b e => by cases e), R1, T1.out.1, T1.out.2⟩
  | some b =>
    obtain rfl : z = (b : Int) := by have h9 := HV.out; unfold lvv at h9; injection h9 with _ h9; exact h9.symm
    have hb0 : (0 : Int) ≤ (b : Int) := by omega
    obtain ⟨g2, c2, cur2, e1, e2, e3⟩ := own_cell (hq1.own (by omega) hr1.r2) i (by show i < u.nm.length; have := TQ.out.2.2; omega)
    have E1 := (show Hid ((R1 2).v = .slice (some ⟨g2, 0, none⟩) n c2) from by rw [TQ.out.2.2]; exact e1)
    have hiu : i < u.nm.length := by have := TQ.out.2.2; omega
    have e3' : w2.cell? ⟨g2, i, none⟩ = some (R1 (5 + i)).v := by rw [e3]; simp [List.getD, hiu]
    obtain ⟨m, hmm⟩ : ∃ m, m = (u.lds.getD i []).length := ⟨_, rfl⟩
    have O5 := (show Hid (w2.ownsRow 0 3 1 (R1 (5 + i)).v m ((u.lds.getD i []).map nvv)) from by rw [hmm]; exact hq1.own (by omega) (hr1.r5 i hiu))
    have hm9 : m ≤ 100000000 := by rw [hmm]; exact HO.out.2.2 i
    obtain ⟨p5, c5, e5, _⟩ := own_form O5.out
    have E5 := (show Hid ((R1 (5 + i)).v = .slice p5 m c5) from e5)
    rw [e5] at e3'
    have k2 := hq1.cells.2.2.1
    rw [E1.out] at k2
    have TB := (show Hid (Tq w0 H tb (5 + u.nm.length) R1 (w2.alloc (.cells #[.int .i64 (b : Int)] 3)).drew) from (hq1.below (alb _ _)).drew)
    have OB := (show Hid ((w2.alloc (.cells #[.int .i64 (b : Int)] 3)).drew.ownsRow 0 3 1 (.slice p5 m c5) m ((u.lds.getD i []).map nvv)) from by rw [← E5.out]; exact own_below O5.out (alb _ _).drew)
    have q2 := TB.out.cells.2.2.1
    rw [E1.out] at q2
    have q3 := cell_below e3' (alb w2 (.cells #[.int .i64 (b : Int)] 3)).drew
    have NW := (show Hid ((w2.alloc (.cells #[.int .i64 (b : Int)] 3)).drew.cell? ⟨w2.heap.size, 0, none⟩ = some (.int .i64 (b : Int))) from by have h9 := (GB.new w2 3 #[.int .i64 (b : Int)]).cell 0; exact h9)
    have HM := (show Hid (m = (u.lds.getD i []).length ∧ i < u.nm.length) from ⟨hmm, hiu⟩)
    clear e1 e2 e3 e5 hmm hq1 hr1 hv1 hiu
    go_upto_region 3 with fail
    have AQ := (show Hid (∀ v1 w3, w3.ownsRow 0 3 1 v1 (m + 1) ((u.lds.getD i []).map nvv ++ [.int .i64 (b : Int)]) → (w2.alloc (.cells #[.int .i64 (b : Int)] 3)).drew.grownBy w3 (Value.slice p5 m c5).ownBlock → (v1.ownBlock = (Value.slice p5 m c5).ownBlock ∨ v1.ownBlock = some (w2.alloc (.cells #[.int .i64 (b : Int)] 3)).drew.heap.size) → Tq w0 H tb (5 + u.nm.length) (upd R1 (5 + i) ⟨3, v1, m + 1, (u.lds.getD i []).map nvv ++ [.int .i64 (b : Int)]⟩) w3 ∧ (∃ x, w3.cell? ⟨g2, i, none⟩ = some x) ∧ w3.frozen? ⟨g2, i, none⟩ = false ∧ w3.cell? ⟨tb, 2, none⟩ = some (.slice (some ⟨g2, 0, none⟩) n c2)) from fun v1 w3 ho1 hg1 hk1 => by
      have h9 := TB.out.row (k := 5 + i) (by have := HM.out.2; omega) (by omega) (by rw [E5.out]; exact hg1) ⟨3, v1, m + 1, (u.lds.getD i []).map nvv ++ [.int .i64 (b : Int)]⟩ ho1 (by rw [E5.out]; exact hk1) (show (3 : TypeId) ≠ 120 by decide)
      have e2 : upd R1 (5 + i) ⟨3, v1, m + 1, (u.lds.getD i []).map nvv ++ [.int .i64 (b : Int)]⟩ 2 = R1 2 := upd_other R1 _ (by omega)
      have h8 := h9.wr (k := 2) (by omega) (g := g2) (n := n) (c := c2) (by rw [e2]; exact E1.out) (i := i) hil (by rw [e2, T1.out.2.r2.2.1]; exact TQ.out.2.2.symm)
      have h7 := h9.cells.2.2.1
      rw [e2, E1.out] at h7
      exact ⟨h9, h8.1, h8.2, h7⟩)
    have FIN := (show Hid (∀ v1 w3, w3.ownsRow 0 3 1 v1 (m + 1) ((u.lds.getD i []).map nvv ++ [.int .i64 (b : Int)]) → Tq w0 H tb (5 + u.nm.length) (upd R1 (5 + i) ⟨3, v1, m + 1, (u.lds.getD i []).map nvv ++ [.int .i64 (b : Int)]⟩) w3 → TrAt w0 H tb (u.leadAt i (some b)) (w3.setCell ⟨g2, i, none⟩ v1)) from fun v1 w3 ho1 h9 => by
      have wf' : Tr.Wf { u with ld := u.ld.set i (some b) } := by
        have h8 := HT.out.wf.leadAt i (some b) (fun b' e => by injection e with e; rw [HU.out, ← e]; exact HO.out.1 b rfl)
        exact ⟨h8.l1, HT.out.wf.l2, h8.l3, h8.nd, h8.b1, HT.out.wf.b2⟩
      obtain ⟨R', k1, k2⟩ := TrAt.setE (t := { u with ld := u.ld.set i (some b) }) (R := R1) wf' (i := i) (g := g2) (c := c2) ⟨3, v1, m + 1, (u.lds.getD i []).map nvv ++ [.int .i64 (b : Int)]⟩ (u.lds.getD i [] ++ [b]) h9 T1.out.2 HM.out.2 (by rw [E1.out, TQ.out.2.2]) ⟨rfl, by simp [HM.out.1], by simp [nvv]⟩
      exact ⟨HT.out.wf.leadAt i (some b) (fun b' e => by injection e with e; rw [HU.out, ← e]; exact HO.out.1 b rfl), R', k1, k2⟩)
    go_region_law (refine step_apT rfl (.tmp 30) (.tmp 32) 28 3 rfl Try.underlying28 infoI rfl (.slice p5 m c5) m ((u.lds.getD i []).map nvv) (by first | (simp [Act.eval]; done) | simp [Act.eval, Act.put]) OB.out w2.heap.size 1 (.int .i64 (b : Int)) (by first | (simp [Act.eval]; done) | simp [Act.eval, Act.put]) NW.out rfl (by omega) (by decide) ?_; intro v1 w3 ho1 hg1 hk1; obtain ⟨h9, ⟨x9, hx9⟩, hf9, hc9⟩ := AQ.out v1 w3 ho1 hg1 hk1; have HO1 := (show Hid (w3.ownsRow 0 3 1 v1 (m + 1) ((u.lds.getD i []).map nvv ++ [.int .i64 (b : Int)])) from ho1); have AP := (show Hid (Tq w0 H tb (5 + u.nm.length) (upd R1 (5 + i) ⟨3, v1, m + 1, (u.lds.getD i []).map nvv ++ [.int .i64 (b : Int)]⟩) w3) from h9); clear h9; obtain ⟨p6, c6, e6, _⟩ := own_form ho1; subst e6)
    all_goals
      go_end0
      first
      | exact ⟨⟨_, rfl⟩, i, HI.out, FIN.out _ _ HO1.out AP.out⟩
      | exact ⟨⟨_, rfl⟩, i, HI.out, (FIN.out _ _ HO1.out AP.out).below (Below.refl _ _).drew⟩
end
end Go.Proofs.Ytaddgmbglhdfdaa
