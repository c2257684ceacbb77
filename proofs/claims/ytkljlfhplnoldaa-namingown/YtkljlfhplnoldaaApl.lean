/-
  Rows that share nothing: what a law's 'apart' keeps while rows of one-cell elements are filled, grown and kept.
-/
import Derived.Test.YtkljlfhplnoldaaNoO
import Derived.Deep.RegionHeld3
import Derived.ArgAppend
import Derived.Deep.Cut
namespace Go.Proofs.Ytkljlfhplnoldaa
open Go.RowKit

/-- A row of the call's own: the first n of its cap cells read so. -/
structure Mde (te : TypeId) (w : World) (g cap n : Nat) (x : Nat → Value) : Prop where
  cur : ∃ c, w.heap[g]? = some (.cells c te (0, 0)) ∧ c.size = cap ∧ c.toList.take n = (List.range n).map x
  le : n ≤ cap
  lim : cap ≤ maxLen
theorem mde_get (x : Nat → Value) (n i : Nat) (h : i < n) : ((List.range n).map x)[i]? = some (x i) := by rw [List.getElem?_map, List.getElem?_range h]; rfl
theorem Mde.cell {te : TypeId} {w : World} {g cap n : Nat} {x : Nat → Value} (h : Mde te w g cap n x) {i : Nat} (hi : i < n) : w.cell? ⟨g, i, none⟩ = some (x i) := by
  obtain ⟨c, hh, hs, ht⟩ := h.cur
  rw [cell_of_row w g i _ _ _ hh]
  have h1 : (c.toList.take n)[i]? = some (x i) := by rw [ht, mde_get x n i hi]
  rw [List.getElem?_take_of_lt hi] at h1
  simpa using h1
theorem Mde.frozen {te : TypeId} {w : World} {g cap n : Nat} {x : Nat → Value} (h : Mde te w g cap n x) (i : Nat) : w.frozen? ⟨g, i, none⟩ = false := by
  obtain ⟨c, hh, _⟩ := h.cur
  exact frozen_of_row w g i _ _ hh
theorem Mde.lt {te : TypeId} {w : World} {g cap n : Nat} {x : Nat → Value} (h : Mde te w g cap n x) : g < w.heap.size := by
  obtain ⟨c, hh, _⟩ := h.cur
  exact (Array.getElem?_eq_some_iff.1 hh).1
theorem Mde.keep {te : TypeId} {w w' : World} {g cap n : Nat} {x : Nat → Value} (h : Mde te w g cap n x) (e : w'.heap[g]? = w.heap[g]?) : Mde te w' g cap n x := by
  obtain ⟨c, hh, hs⟩ := h.cur
  exact ⟨⟨c, by rw [e]; exact hh, hs⟩, h.le, h.lim⟩
theorem Mde.below {te : TypeId} {w w' : World} {g cap n : Nat} {x : Nat → Value} (h : Mde te w g cap n x) (hb : Below w.heap.size w w') : Mde te w' g cap n x := h.keep (hb.block g h.lt)
theorem Mde.owns {te : TypeId} {w : World} {g cap n : Nat} {x : Nat → Value} (h : Mde te w g cap n x) : w.ownsRow 0 te 1 (.slice (some ⟨g, 0, none⟩) n cap) n ((List.range n).map x) := by
  obtain ⟨c, hh, hs, ht⟩ := h.cur
  exact ⟨by simp, .inr ⟨g, cap, c, rfl, Nat.zero_le _, hh, h.le, h.lim, by omega, by rw [Nat.mul_one]; exact ht⟩⟩
theorem mde_owns {te : TypeId} {w : World} {base g cap n : Nat} {x : Nat → Value} (h : w.ownsRow base te 1 (.slice (some ⟨g, 0, none⟩) n cap) n ((List.range n).map x)) : Mde te w g cap n x := by
  rcases h.2 with ⟨hv, _⟩ | ⟨g', cap', c, hv, hg, hh, hc, hm, hs, ht⟩
  · cases hv
  · cases hv
    exact ⟨⟨c, hh, by omega, by rw [← ht, Nat.mul_one]⟩, hc, hm⟩
theorem mde_of {te : TypeId} {w : World} {base n : Nat} {v : Value} {x : Nat → Value} (h : w.ownsRow base te 1 v n ((List.range n).map x)) (hn : 0 < n) : ∃ g cap, v = .slice (some ⟨g, 0, none⟩) n cap ∧ base ≤ g ∧ Mde te w g cap n x := by
  rcases h.2 with ⟨_, h0⟩ | ⟨g, cap, c, hv, hg, hh, hc, hm, hs, ht⟩
  · omega
  · exact ⟨g, cap, hv, hg, ⟨c, hh, by omega, by rw [← ht, Nat.mul_one]⟩, hc, hm⟩
theorem Mde.short {te : TypeId} {w : World} {g cap n m : Nat} {x : Nat → Value} (h : Mde te w g cap n x) (hm : m ≤ n) : Mde te w g cap m x := by
  obtain ⟨c, hh, hs, ht⟩ := h.cur
  refine ⟨⟨c, hh, hs, ?_⟩, Nat.le_trans hm h.le, h.lim⟩
  have h1 : (c.toList.take n).take m = ((List.range n).map x).take m := by rw [ht]
  rw [List.take_take, Nat.min_eq_left hm] at h1
  rw [h1, ← List.map_take, List.take_range, Nat.min_eq_left hm]
theorem Mde.congr {te : TypeId} {w : World} {g cap n : Nat} {x y : Nat → Value} (h : Mde te w g cap n x) (e : ∀ i, i < n → x i = y i) : Mde te w g cap n y := by
  obtain ⟨c, hh, hs, ht⟩ := h.cur
  refine ⟨⟨c, hh, hs, ?_⟩, h.le, h.lim⟩
  rw [ht]
  apply List.map_congr_left
  intro i hi; exact e i (List.mem_range.1 hi)
theorem Mde.src {te : TypeId} {w : World} {g cap n : Nat} {x : Nat → Value} (h : Mde te w g cap n x) : ∀ j u, ((List.range n).map x)[j]? = some u → w.cell? ((⟨g, 0, none⟩ : Addr).add j) = some u := by
  intro j u hu
  have hj : j < n := by
    have := (List.getElem?_eq_some_iff.1 hu).1
    simpa using this
  rw [mde_get x n j hj] at hu
  cases hu
  rw [show (⟨g, 0, none⟩ : Addr).add j = ⟨g, j, none⟩ by unfold Addr.add; split <;> simp_all]
  exact h.cell hj
/-- A place is written. -/
theorem Mde.set {te : TypeId} {w W : World} {g cap n : Nat} {x : Nat → Value} (h : Mde te w g cap n x) (k : Nat) (v : Value) (e : W.heap = (w.setCell ⟨g, k, none⟩ v).heap) : Mde te W g cap n (fun i => if i = k then v else x i) := by
  obtain ⟨c, hh, hs, ht⟩ := h.cur
  refine ⟨⟨c.setIfInBounds k v, ?_, by simpa using hs, ?_⟩, h.le, h.lim⟩
  · rw [e, heap_setCell_same w g k c te v hh]
  · rw [Array.toList_setIfInBounds, List.take_set, ht]
    apply List.ext_getElem?
    intro i
    by_cases hi : i < n
    · rw [mde_get _ n i hi, List.getElem?_set]
      by_cases ek : k = i
      · subst ek; simp [hi]
      · rw [if_neg ek, mde_get x n i hi, if_neg (fun h => ek h.symm)]
    · rw [List.getElem?_eq_none (by simp; omega), List.getElem?_eq_none (by simp; omega)]

/-- All but these R rows is as it was. -/
structure Kpt (R : Nat) (gs : Nat → Nat) (w w' : World) : Prop where
  os : w'.os = w.os
  tape : w'.tape = w.tape
  output : w'.output = w.output
  size : w.heap.size ≤ w'.heap.size
  block : ∀ k, k < w.heap.size → (∀ m, m < R → k ≠ gs m) → w'.heap[k]? = w.heap[k]?
theorem Kpt.refl (R : Nat) (gs : Nat → Nat) (w : World) : Kpt R gs w w := ⟨rfl, rfl, rfl, Nat.le_refl _, fun _ _ _ => rfl⟩
theorem Kpt.trans {R : Nat} {gs : Nat → Nat} {w w1 w2 : World} (h : Kpt R gs w w1) (k : Kpt R gs w1 w2) : Kpt R gs w w2 :=
  ⟨k.os.trans h.os, k.tape.trans h.tape, k.output.trans h.output, Nat.le_trans h.size k.size, fun j hj hm => (k.block j (Nat.lt_of_lt_of_le hj h.size) hm).trans (h.block j hj hm)⟩
theorem Kpt.set {R : Nat} {gs : Nat → Nat} {w w' : World} (h : Kpt R gs w w') {i j : Nat} (hi : i < R) (v : Value) : Kpt R gs w (w'.setCell ⟨gs i, j, none⟩ v) :=
  ⟨h.os, h.tape, h.output, by have := h.size; simpa using this, fun k hk hm => by rw [Below.heap_setCell _ _ _ _ (hm i hi)]; exact h.block k hk hm⟩
theorem Kpt.cell {R : Nat} {gs : Nat → Nat} {w w' : World} (h : Kpt R gs w w') {G m : Nat} {v : Value} (hc : w.cell? ⟨G, m, none⟩ = some v) (hG : ∀ m, m < R → G ≠ gs m) : w'.cell? ⟨G, m, none⟩ = some v := by
  rw [World.cell?_of_block (w := w) (h.block G (block_lt_of_cell hc) hG)]; exact hc
theorem Kpt.below {R : Nat} {gs : Nat → Nat} {w w1 w' : World} (h : Kpt R gs w w1) (hb : Below w1.heap.size w1 w') : Kpt R gs w w' :=
  ⟨hb.os.trans h.os, hb.tape.trans h.tape, hb.output.trans h.output, Nat.le_trans h.size hb.size, fun k hk hm => by rw [hb.block k (Nat.lt_of_lt_of_le hk h.size)]; exact h.block k hk hm⟩
theorem Kpt.grown {R : Nat} {gs : Nat → Nat} {w w1 w' : World} {row : Option Nat} (h : Kpt R gs w w1) (hg : w1.grownBy w' row) (hr : ∀ k, row = some k → w.heap.size ≤ k ∨ ∃ m, m < R ∧ k = gs m) : Kpt R gs w w' :=
  ⟨hg.os.trans h.os, hg.tape.trans h.tape, hg.output.trans h.output, Nat.le_trans h.size hg.size, fun k hk hm => by
    rw [hg.block k (Nat.lt_of_lt_of_le hk h.size) (fun e => by
      rcases hr k e.symm with h1 | ⟨m, h1, h2⟩
      · omega
      · exact hm m h1 h2)]
    exact h.block k hk hm⟩
theorem Kpt.toBelow {R : Nat} {gs : Nat → Nat} {w w' : World} (h : Kpt R gs w w') {B : Nat} (hB : B ≤ w.heap.size) (hl : ∀ m, m < R → B ≤ gs m) : Below B w w' :=
  ⟨h.os, h.tape, h.output, h.size, fun k hk => h.block k (by omega) (fun m hm e => by have := hl m hm; omega)⟩

/-- The rows while they are filled: those before i, and i up to j. -/
def fiv (a : Nat → Value) (f : Nat → Nat → Value) (i j m t : Nat) : Value := if m < i ∨ (m = i ∧ t < j) then a m else f m t
theorem fiv_start {te : TypeId} {R : Nat} {w : World} {gs cs ns : Nat → Nat} {a : Nat → Value} {f : Nat → Nat → Value} (h : ∀ m, m < R → Mde te w (gs m) (cs m) (ns m) (f m)) : ∀ m, m < R → Mde te w (gs m) (cs m) (ns m) (fiv a f 0 0 m) := fun m hm =>
  (h m hm).congr (fun t ht => by unfold fiv; rw [if_neg (by omega)])
theorem fiv_done {te : TypeId} {R : Nat} {w : World} {gs cs ns : Nat → Nat} {a : Nat → Value} {f : Nat → Nat → Value} (h : ∀ m, m < R → Mde te w (gs m) (cs m) (ns m) (fiv a f R 0 m)) : ∀ m, m < R → Mde te w (gs m) (cs m) (ns m) (fun _ => a m) := fun m hm =>
  (h m hm).congr (fun t ht => by unfold fiv; rw [if_pos (.inl hm)])
theorem fiv_next {te : TypeId} {R : Nat} {w : World} {gs cs ns : Nat → Nat} {a : Nat → Value} {f : Nat → Nat → Value} {i : Nat} (h : ∀ m, m < R → Mde te w (gs m) (cs m) (ns m) (fiv a f i (ns i) m)) : ∀ m, m < R → Mde te w (gs m) (cs m) (ns m) (fiv a f (i + 1) 0 m) := fun m hm =>
  (h m hm).congr (fun t ht => by
    unfold fiv
    by_cases em : m = i
    · subst em; rw [if_pos (.inr ⟨rfl, ht⟩), if_pos (.inl (by omega))]
    · by_cases h2 : m < i ∨ (m = i ∧ t < ns i)
      · rw [if_pos h2, if_pos (by omega)]
      · rw [if_neg h2, if_neg (by omega)])
theorem fiv_set {te : TypeId} {R : Nat} {w W : World} {gs cs ns : Nat → Nat} {a : Nat → Value} {f : Nat → Nat → Value} {i j : Nat} (h : ∀ m, m < R → Mde te w (gs m) (cs m) (ns m) (fiv a f i j m)) (hd : ∀ m m', m < R → m' < R → m ≠ m' → gs m ≠ gs m') (hi : i < R)
    (e : W.heap = (w.setCell ⟨gs i, j, none⟩ (a i)).heap) : ∀ m, m < R → Mde te W (gs m) (cs m) (ns m) (fiv a f i (j + 1) m) := by
  intro m hm
  by_cases em : m = i
  · subst em
    refine ((h m hm).set j (a m) e).congr (fun t ht => ?_)
    show (if t = j then a m else fiv a f m j m t) = fiv a f m (j + 1) m t
    unfold fiv
    by_cases et : t = j
    · subst et; rw [if_pos rfl, if_pos (.inr ⟨rfl, by omega⟩)]
    · rw [if_neg et]
      by_cases h2 : m < m ∨ (m = m ∧ t < j)
      · rw [if_pos h2, if_pos (by omega)]
      · rw [if_neg h2, if_neg (by omega)]
  · refine ((h m hm).congr (y := fiv a f i (j + 1) m) (fun t ht => ?_)).keep (by rw [e, Below.heap_setCell _ _ _ _ (hd m i hm hi em)])
    unfold fiv
    by_cases h2 : m < i ∨ (m = i ∧ t < j)
    · rw [if_pos h2, if_pos (by omega)]
    · rw [if_neg h2, if_neg (by omega)]

/-- What the grown slices of row i read as. -/
def mfv (ns : Nat → Nat) (a b : Nat → Value) (i j : Nat) : Value := if j < ns i then a i else b i
theorem mfv_lt {ns : Nat → Nat} {a b : Nat → Value} {i j : Nat} (h : j < ns i) : mfv ns a b i j = a i := by unfold mfv; rw [if_pos h]
theorem mfv_ge {ns : Nat → Nat} {a b : Nat → Value} {i j : Nat} (h : ns i ≤ j) : mfv ns a b i j = b i := by unfold mfv; rw [if_neg (by omega)]
theorem mfv_succ {ns : Nat → Nat} {a b : Nat → Value} {i n : Nat} (h : ns i ≤ n) : (List.range (n + 1)).map (mfv ns a b i) = (List.range n).map (mfv ns a b i) ++ [b i] := by
  rw [List.range_succ, List.map_append, List.map_cons, List.map_nil, mfv_ge h]
structure Enk where
  i : Nat
  B : Nat
  C : Nat
  L : Nat
def Enk.V (e : Enk) : Value := .slice (some ⟨e.B, 0, none⟩) e.L e.C
def Enk.I (e : Enk) : Value := .int .i64 (e.i : Int)
structure Gdk (te : TypeId) (R wd : Nat) (gs ns : Nat → Nat) (a b : Nat → Value) (b0 : Nat) (w : World) (e : Enk) : Prop where
  lt : e.i < R
  lo : ns e.i ≤ e.L
  hi : e.L ≤ ns e.i + wd
  pl : e.B = gs e.i ∨ b0 ≤ e.B
  made : Mde te w e.B e.C e.L (mfv ns a b e.i)
theorem Gdk.keep {te : TypeId} {R wd : Nat} {gs ns : Nat → Nat} {a b : Nat → Value} {b0 : Nat} {w w' : World} {e : Enk} (h : Gdk te R wd gs ns a b b0 w e) (hk : w'.heap[e.B]? = w.heap[e.B]?) : Gdk te R wd gs ns a b b0 w' e := ⟨h.lt, h.lo, h.hi, h.pl, h.made.keep hk⟩
theorem Gdk.below {te : TypeId} {R wd : Nat} {gs ns : Nat → Nat} {a b : Nat → Value} {b0 : Nat} {w w' : World} {e : Enk} (h : Gdk te R wd gs ns a b b0 w e) (hb : Below w.heap.size w w') : Gdk te R wd gs ns a b b0 w' e := h.keep (hb.block _ h.made.lt)
/-- Rows of unlike element types lie apart. -/
theorem mde_type {te : TypeId} {w w' : World} {base T n : Nat} {v : Value} {xs : List Value} {g cap m : Nat} {x : Nat → Value} (h : Mde te w g cap m x) (ho : w.ownsRow base T 1 v n xs) (hT : T ≠ te) (hg : w.grownBy w' v.ownBlock) : w'.heap[g]? = w.heap[g]? := by
  refine hg.block g h.lt ?_
  obtain ⟨c, hh, _⟩ := h.cur
  rcases ho.2 with ⟨rfl, _⟩ | ⟨g', cap', c', rfl, _, hh', _⟩
  · simp [Value.ownBlock]
  · intro e
    have e' : g = g' := by simpa [Value.ownBlock] using e
    rw [e', hh'] at hh
    simp at hh
    exact hT hh.2
theorem row_type {w w' : World} {base T n : Nat} {v : Value} {xs : List Value} {base' T' n' : Nat} {v' : Value} {xs' : List Value} (h : w.ownsRow base' T' 1 v' n' xs') (ho : w.ownsRow base T 1 v n xs) (hT : T' ≠ T) (hg : w.grownBy w' v.ownBlock) : w'.ownsRow base' T' 1 v' n' xs' := by
  refine h.kept hg ?_
  rcases h.2 with ⟨rfl, _⟩ | ⟨g', cap', c', rfl, _, hh', _⟩
  · exact .inl rfl
  · right
    rcases ho.2 with ⟨rfl, _⟩ | ⟨g, cap, c, rfl, _, hh, _⟩
    · simp [Value.ownBlock]
    · intro e
      have e' : g' = g := by simpa [Value.ownBlock] using e
      rw [e', hh] at hh'
      simp at hh'
      exact hT hh'.2.symm
theorem row_mde {te : TypeId} {w w' : World} {base T n : Nat} {v : Value} {xs : List Value} {B C L : Nat} {x : Nat → Value} (h : w.ownsRow base T 1 v n xs) (hm : Mde te w B C L x) (hT : T ≠ te) (hg : w.grownBy w' (some B)) : w'.ownsRow base T 1 v n xs := by
  refine h.kept hg ?_
  rcases h.2 with ⟨rfl, _⟩ | ⟨g', cap', c', rfl, _, hh', _⟩
  · exact .inl rfl
  · right
    obtain ⟨c, hh, _⟩ := hm.cur
    intro e
    have e' : g' = B := by simpa [Value.ownBlock] using e
    rw [e', hh] at hh'
    simp at hh'
    exact hT hh'.2.symm
theorem row_below {w w' : World} {base T n : Nat} {v : Value} {xs : List Value} (h : w.ownsRow base T 1 v n xs) (hb : Below w.heap.size w w') : w'.ownsRow base T 1 v n xs := by
  rcases h.2 with ⟨hv, h0⟩ | ⟨g, cap, c, hv, hg, hh, hc⟩
  · exact ⟨h.1, .inl ⟨hv, h0⟩⟩
  · refine ⟨h.1, .inr ⟨g, cap, c, hv, hg, ?_, hc⟩⟩
    have hl : g < w.heap.size := (Array.getElem?_eq_some_iff.1 hh).1
    rw [hb.block g hl]; exact hh
theorem grown_bl {w w' : World} (h : w.grownBy w' none) : Below w.heap.size w w' := ⟨h.os, h.tape, h.output, h.size, fun k hk => h.block k hk (by simp)⟩
theorem cell_new (w : World) (v : Value) (t : TypeId) : ∀ j u, ([v] : List Value)[j]? = some u → (w.alloc (.cells #[v] t)).cell? ((⟨w.heap.size, 0, none⟩ : Addr).add j) = some u := by
  intro j u hj
  match j, hj with
  | 0, hj =>
    simp at hj; subst hj
    rw [show (⟨w.heap.size, 0, none⟩ : Addr).add 0 = ⟨w.heap.size, 0, none⟩ by unfold Addr.add; split <;> simp_all, cell_of_row _ _ _ _ _ (0, 0) (heap_alloc_new w _)]; rfl
theorem one_vk (v : Value) (h : v.oneCell' = true) : ∀ u ∈ ([v] : List Value), u.oneCell' = true := by
  intro u hu; simp at hu; subst hu; exact h

/-- The rows that are looked at: unlike blocks, all there. -/
structure Apt (R : Nat) (gs : Nat → Nat) (w1 : World) : Prop where
  ne : ∀ m m', m < R → m' < R → m ≠ m' → gs m ≠ gs m'
  lt : ∀ m, m < R → gs m < w1.heap.size
/-- The state while slices grow and are kept: lists of slices (type tS) and of whose they are (type tI). -/
structure Sta (te tS tI : TypeId) (R wd : Nat) (gs cs ns : Nat → Nat) (a b : Nat → Value) (w1 w : World) (i n B C : Nat) (Kl Kw : List Enk) (vl vw : Value) : Prop where
  long : w.ownsRow w1.heap.size tS 1 vl Kl.length (Kl.map Enk.V)
  whose : w.ownsRow w1.heap.size tI 1 vw Kw.length (Kw.map Enk.I)
  good : ∀ e ∈ Kl, Gdk te R wd gs ns a b w1.heap.size w e
  rows : ∀ m, m < R → Mde te w (gs m) (cs m) (ns m) (fun _ => a m)
  kept : Kpt R gs w1 w
  made : Mde te w B C n (mfv ns a b i)
  pl : (B = gs i ∧ C = cs i) ∨ w1.heap.size ≤ B
  own : ∀ e ∈ Kl, e.B = B → e.i = i ∧ e.L ≤ n ∧ e.C = C
section
variable {te tS tI : TypeId} {R wd : Nat} {gs cs ns : Nat → Nat} {a b : Nat → Value} {w1 w : World} {i n B C : Nat} {Kl Kw : List Enk} {vl vw : Value}
theorem Sta.next {w' : World} (h : Sta te tS tI R wd gs cs ns a b w1 w i n B C Kl Kw vl vw) (hb : Below w.heap.size w w') : Sta te tS tI R wd gs cs ns a b w1 w' i n B C Kl Kw vl vw :=
  ⟨row_below h.long hb, row_below h.whose hb, fun e he => (h.good e he).below hb, fun m hm => (h.rows m hm).below hb, h.kept.below hb, h.made.below hb, h.pl, h.own⟩
theorem Sta.alloc (h : Sta te tS tI R wd gs cs ns a b w1 w i n B C Kl Kw vl vw) (o : Obj) : Sta te tS tI R wd gs cs ns a b w1 (w.alloc o) i n B C Kl Kw vl vw :=
  h.next ((Below.refl _ _).alloc (Nat.le_refl _) o)
theorem Sta.room {w2 : World} (h : Sta te tS tI R wd gs cs ns a b w1 w i n B C Kl Kw vl vw) (ap : Apt R gs w1) (hi : i < R) (hS : tS ≠ te) (hI : tI ≠ te) (hn : ns i ≤ n)
    (ho : w2.ownsRow 0 te 1 (.slice (some ⟨B, 0, none⟩) (n + 1) C) (n + 1) ((List.range n).map (mfv ns a b i) ++ [b i])) (hg : w.grownBy w2 (some B)) : Sta te tS tI R wd gs cs ns a b w1 w2 i (n + 1) B C Kl Kw vl vw := by
  have hM : Mde te w2 B C (n + 1) (mfv ns a b i) := mde_owns (by rw [mfv_succ hn]; exact ho)
  refine ⟨row_mde h.long h.made hS hg, row_mde h.whose h.made hI hg, fun e he => ?_, fun m hm => ?_, h.kept.grown hg (fun k hk => ?_), hM, h.pl, fun e he eb => ?_⟩
  · have hgd := h.good e he
    by_cases eb : e.B = B
    · obtain ⟨h1, h2, h3⟩ := h.own e he eb
      exact ⟨hgd.lt, hgd.lo, hgd.hi, hgd.pl, by rw [eb, h3, h1]; exact hM.short (by omega)⟩
    · exact hgd.keep (hg.block e.B hgd.made.lt (by simpa using eb))
  · by_cases eb : gs m = B
    · have hmi : m = i := by
        rcases h.pl with ⟨h1, _⟩ | h1
        · rcases Nat.decEq m i with h2 | h2
          · exact absurd (eb.trans h1) (ap.ne m i hm hi h2)
          · exact h2
        · have := ap.lt m hm; omega
      subst hmi
      rcases h.pl with ⟨h1, h2⟩ | h1
      · rw [eb, ← h2]
        exact (hM.short (by omega)).congr (fun t ht => mfv_lt ht)
      · have := ap.lt m hm; omega
    · exact (h.rows m hm).keep (hg.block _ (h.rows m hm).lt (by simpa using eb))
  · cases hk
    rcases h.pl with ⟨h1, _⟩ | h1
    · exact .inr ⟨i, hi, h1⟩
    · exact .inl h1
  · obtain ⟨h1, h2, h3⟩ := h.own e he eb
    exact ⟨h1, by omega, h3⟩
theorem Sta.grow {w2 : World} {v2 : Value} (h : Sta te tS tI R wd gs cs ns a b w1 w i n B C Kl Kw vl vw) (hn : ns i ≤ n)
    (ho : w2.ownsRow w.heap.size te 1 v2 (n + 1) ((List.range n).map (mfv ns a b i) ++ [b i])) (hg : w.grownBy w2 none) : ∃ B2 C2, v2 = .slice (some ⟨B2, 0, none⟩) (n + 1) C2 ∧ Sta te tS tI R wd gs cs ns a b w1 w2 i (n + 1) B2 C2 Kl Kw vl vw := by
  have ho' : w2.ownsRow w.heap.size te 1 v2 (n + 1) ((List.range (n + 1)).map (mfv ns a b i)) := by rw [mfv_succ hn]; exact ho
  obtain ⟨B2, C2, hv, hB2, hM⟩ := mde_of ho' (by omega)
  have hb := grown_bl hg
  refine ⟨B2, C2, hv, ⟨row_below h.long hb, row_below h.whose hb, fun e he => (h.good e he).below hb, fun m hm => (h.rows m hm).below hb, h.kept.below hb, hM, .inr (Nat.le_trans h.kept.size hB2), fun e he eb => ?_⟩⟩
  have := (h.good e he).made.lt
  omega
theorem Sta.keepL {w2 : World} {v2 : Value} (h : Sta te tS tI R wd gs cs ns a b w1 w i n B C Kl Kw vl vw) (hR : i < R) (hS : tS ≠ te) (hSI : tI ≠ tS) (hi : ns i ≤ n) (hh : n ≤ ns i + wd)
    (ho : w2.ownsRow w1.heap.size tS 1 v2 (Kl.length + 1) (Kl.map Enk.V ++ [.slice (some ⟨B, 0, none⟩) n C])) (hg : w.grownBy w2 vl.ownBlock) : Sta te tS tI R wd gs cs ns a b w1 w2 i n B C (Kl ++ [⟨i, B, C, n⟩]) Kw v2 vw := by
  have hM := h.made.keep (mde_type h.made h.long hS hg)
  refine ⟨by simpa [Enk.V] using ho, row_type h.whose h.long hSI hg, fun e he => ?_, fun m hm => (h.rows m hm).keep (mde_type (h.rows m hm) h.long hS hg), h.kept.grown hg (fun k hk => .inl (h.long.lt k hk).1), hM, h.pl, fun e he eb => ?_⟩
  · rcases List.mem_append.1 he with he | he
    · exact (h.good e he).keep (mde_type (h.good e he).made h.long hS hg)
    · simp at he; subst he
      refine ⟨hR, hi, hh, ?_, hM⟩
      rcases h.pl with ⟨h1, _⟩ | h1
      · exact .inl h1
      · exact .inr h1
  · rcases List.mem_append.1 he with he | he
    · exact h.own e he eb
    · simp at he; subst he
      exact ⟨rfl, Nat.le_refl _, rfl⟩
theorem Sta.keepW {w2 : World} {v2 : Value} (h : Sta te tS tI R wd gs cs ns a b w1 w i n B C Kl Kw vl vw) (hI : tI ≠ te) (hSI : tI ≠ tS) (e0 : Enk) (h0 : e0.i = i)
    (ho : w2.ownsRow w1.heap.size tI 1 v2 (Kw.length + 1) (Kw.map Enk.I ++ [.int .i64 (i : Int)])) (hg : w.grownBy w2 vw.ownBlock) : Sta te tS tI R wd gs cs ns a b w1 w2 i n B C Kl (Kw ++ [e0]) vl v2 := by
  have hM := h.made.keep (mde_type h.made h.whose hI hg)
  exact ⟨row_type h.long h.whose hSI.symm hg, by simpa [Enk.I, h0] using ho, fun e he => (h.good e he).keep (mde_type (h.good e he).made h.whose hI hg), fun m hm => (h.rows m hm).keep (mde_type (h.rows m hm) h.whose hI hg), h.kept.grown hg (fun k hk => .inl (h.whose.lt k hk).1), hM, h.pl, h.own⟩
end
/-- A list of the call's own as a slice whose cells read so. -/
theorem rowForm {w : World} {base T n : Nat} {v : Value} {xs : List Value} (h : w.ownsRow base T 1 v n xs) : ∃ p cap, v = .slice p n cap ∧ Hid (∀ j u, xs[j]? = some u → ∃ g, p = some ⟨g, 0, none⟩ ∧ w.cell? ⟨g, j, none⟩ = some u) := by
  rcases h.2 with ⟨hv, h0⟩ | ⟨g, cap, c, hv, hg, hh, hc, hm, hs, ht⟩
  · refine ⟨none, 0, by rw [hv, h0], fun j u hu => ?_⟩
    have h1 := h.1
    rw [h0] at h1
    have : xs = [] := List.eq_nil_of_length_eq_zero (by omega)
    subst this; cases hu
  · refine ⟨_, cap, hv, fun j u hu => ⟨g, rfl, ?_⟩⟩
    rw [cell_of_row w g j _ _ _ hh]
    rw [← ht, Nat.mul_one] at hu
    have hj : j < n := by
      have := (List.getElem?_eq_some_iff.1 hu).1
      simp at this; omega
    rw [List.getElem?_take_of_lt hj] at hu
    simpa using hu
theorem entAt {w : World} {p q : Option Addr} {K : List Enk} (Hl : ∀ j u, (K.map Enk.V)[j]? = some u → ∃ g, p = some ⟨g, 0, none⟩ ∧ w.cell? ⟨g, j, none⟩ = some u) (Hw : ∀ j u, (K.map Enk.I)[j]? = some u → ∃ g, q = some ⟨g, 0, none⟩ ∧ w.cell? ⟨g, j, none⟩ = some u) {k : Nat} (hk : k < K.length) :
    ∃ e ∈ K, ∃ gl gw, p = some ⟨gl, 0, none⟩ ∧ q = some ⟨gw, 0, none⟩ ∧ w.cell? ⟨gl, k, none⟩ = some e.V ∧ w.cell? ⟨gw, k, none⟩ = some e.I := by
  obtain ⟨gl, h1, h2⟩ := Hl k (K[k]).V (by rw [List.getElem?_map, List.getElem?_eq_getElem hk]; rfl)
  obtain ⟨gw, h3, h4⟩ := Hw k (K[k]).I (by rw [List.getElem?_map, List.getElem?_eq_getElem hk]; rfl)
  exact ⟨K[k], List.getElem_mem hk, gl, gw, h1, h3, h2, h4⟩
/-- What the kit needs of an element's type. -/
structure Inf (P : Program) (t e : TypeId) (bytes : Nat) (z : Value) : Prop where
  un : P.underlying t = some (.slice e)
  inf : ∃ i, P.info? e = some i ∧ i.zero = some z ∧ i.size = 1 ∧ i.bytes = bytes
  one : z.cells.size = 1
theorem addr0 (g : Nat) : ∀ j u (v : Value), ([v] : List Value)[j]? = some u → (⟨g, 0, none⟩ : Addr).add j = ⟨g, 0, none⟩ ∧ u = v := by
  intro j u v hj
  match j, hj with
  | 0, hj =>
    simp at hj; subst hj
    exact ⟨by unfold Addr.add; split <;> simp_all, rfl⟩
section
variable {P : Program} {ops : Array Oper} {rest : List Oper} {o : Oper} {ac : Act} {Q : Exit → Act → World → Prop} {te tS tI : TypeId} {R wd : Nat} {gs cs ns : Nat → Nat} {a b : Nat → Value} {w1 w : World} {i n B C : Nat} {Kl Kw : List Enk} {vl vw : Value}
/-- 'g = append(g, mark)'. -/
theorem wpList_akG (hgd : o.guard = none) (s x : Operand) {t : TypeId} (ho : o.op = .call { callee := .builtin .append, args := #[s, x], argTypes := #[t, t] }) {by1 : Nat} {z : Value} (hI : Inf P t te by1 z)
    (h : Sta te tS tI R wd gs cs ns a b w1 w i n B C Kl Kw vl vw) (ap : Apt R gs w1) (hi : i < R) (hS : tS ≠ te) (hW : tI ≠ te) (hn : ns i ≤ n) (hs : ac.eval s = .slice (some ⟨B, 0, none⟩) n C) (g c : Nat) (hx : ac.eval x = .slice (some ⟨g, 0, none⟩) 1 c)
    (hc : w.cell? ⟨g, 0, none⟩ = some (b i)) (h1 : (b i).oneCell' = true) (m1 : n + 1 ≤ maxLen) (m2 : (n + 1) * by1 ≤ 140737488355328)
    (K : ∀ B2 C2 w2, Sta te tS tI R wd gs cs ns a b w1 w2 i (n + 1) B2 C2 Kl Kw vl vw → wpList P ops Q rest (ac.put o.dst (.slice (some ⟨B2, 0, none⟩) (n + 1) C2)) w2) : wpList P ops Q (o :: rest) ac w := by
  obtain ⟨inf, hi1, hz, hsz, hby⟩ := hI.inf
  have hnew : ∀ j u, ([b i] : List Value)[j]? = some u → w.cell? ((⟨g, 0, none⟩ : Addr).add j) = some u := fun j u hj => by
    obtain ⟨h2, h3⟩ := addr0 g j u _ hj
    rw [h2, h3]; exact hc
  by_cases hr : n < C
  · refine wpList_append_fits w hgd s x t ho 0 te inf 1 hI.un hi1 hsz B n C ((List.range n).map (mfv ns a b i)) hs h.made.owns ⟨g, 0, none⟩ 1 c [b i] hx rfl hnew (one_vk _ h1) (by omega) ?_
    intro w2 ho2 hg2
    exact K B C w2 (h.room ap hi hS hW hn ho2 hg2)
  · refine wpList_append_grows w hgd s x t ho te inf z 1 by1 hI.un hi1 hz hsz hby hI.one (by decide) (some ⟨B, 0, none⟩) n C ((List.range n).map (mfv ns a b i)) hs (fun h => by cases h) (by simp) (fun b' hb => by cases hb; exact h.made.src) ⟨g, 0, none⟩ 1 c [b i] hx rfl hnew (one_vk _ h1) (by omega) m1 m2 ?_
    intro v2 w2 ho2 hg2
    obtain ⟨B2, C2, rfl, hS2⟩ := h.grow hn ho2 hg2
    exact K B2 C2 w2 hS2
/-- 'more = append(more, g)'. -/
theorem wpList_akL (hgd : o.guard = none) (s x : Operand) {t : TypeId} (ho : o.op = .call { callee := .builtin .append, args := #[s, x], argTypes := #[t, t] }) {z : Value} (hI : Inf P t tS 24 z)
    (h : Sta te tS tI R wd gs cs ns a b w1 w i n B C Kl Kw vl vw) (hi : i < R) (hS : tS ≠ te) (hSI : tI ≠ tS) (hn : ns i ≤ n) (hh : n ≤ ns i + wd) (hs : ac.eval s = vl) (g c : Nat) (hx : ac.eval x = .slice (some ⟨g, 0, none⟩) 1 c)
    (hc : w.cell? ⟨g, 0, none⟩ = some (.slice (some ⟨B, 0, none⟩) n C)) (m1 : (Kl.length + 1) * 24 ≤ 140737488355328)
    (K : ∀ v2 w2, Sta te tS tI R wd gs cs ns a b w1 w2 i n B C (Kl ++ [⟨i, B, C, n⟩]) Kw v2 vw → wpList P ops Q rest (ac.put o.dst v2) w2) : wpList P ops Q (o :: rest) ac w := by
  obtain ⟨inf, hi1, hz, hsz, hby⟩ := hI.inf
  refine wpList_append_own w hgd s x t ho w1.heap.size tS inf z 1 24 hI.un hi1 hz hsz hby hI.one (by decide) _ _ _ hs h.long ⟨g, 0, none⟩ 1 c [.slice (some ⟨B, 0, none⟩) n C] hx rfl (fun j u hj => by
    obtain ⟨h2, h3⟩ := addr0 g j u _ hj
    rw [h2, h3]; exact hc) (one_vk _ rfl) (by unfold maxLen; omega) m1 h.kept.size ?_
  intro v2 w2 ho2 hg2 _
  exact K v2 w2 (h.keepL hi hS hSI hn hh ho2 hg2)
/-- 'whose = append(whose, i)'. -/
theorem wpList_akW (hgd : o.guard = none) (s x : Operand) {t : TypeId} (ho : o.op = .call { callee := .builtin .append, args := #[s, x], argTypes := #[t, t] }) {z : Value} (hI : Inf P t tI 8 z)
    (h : Sta te tS tI R wd gs cs ns a b w1 w i n B C Kl Kw vl vw) (hW : tI ≠ te) (hSI : tI ≠ tS) (e0 : Enk) (h0 : e0.i = i) (hs : ac.eval s = vw) (g c : Nat) (hx : ac.eval x = .slice (some ⟨g, 0, none⟩) 1 c)
    (hc : w.cell? ⟨g, 0, none⟩ = some (.int .i64 (i : Int))) (m1 : (Kw.length + 1) * 8 ≤ 140737488355328)
    (K : ∀ v2 w2, Sta te tS tI R wd gs cs ns a b w1 w2 i n B C Kl (Kw ++ [e0]) vl v2 → wpList P ops Q rest (ac.put o.dst v2) w2) : wpList P ops Q (o :: rest) ac w := by
  obtain ⟨inf, hi1, hz, hsz, hby⟩ := hI.inf
  refine wpList_append_own w hgd s x t ho w1.heap.size tI inf z 1 8 hI.un hi1 hz hsz hby hI.one (by decide) _ _ _ hs h.whose ⟨g, 0, none⟩ 1 c [.int .i64 (i : Int)] hx rfl (fun j u hj => by
    obtain ⟨h2, h3⟩ := addr0 g j u _ hj
    rw [h2, h3]; exact hc) (one_vk _ rfl) (by unfold maxLen; omega) m1 h.kept.size ?_
  intro v2 w2 ho2 hg2 _
  exact K v2 w2 (h.keepW hW hSI e0 h0 ho2 hg2)
end
theorem cell_one (w : World) (v : Value) (t : TypeId) : (w.alloc (.cells #[v] t)).cell? ⟨w.heap.size, 0, none⟩ = some v := by
  rw [cell_of_row _ _ _ _ _ (0, 0) (heap_alloc_new w _)]; rfl
theorem Kpt.drew {R : Nat} {gs : Nat → Nat} {w w1 : World} (h : Kpt R gs w w1) (n : Nat) : Kpt R gs w (w1.drewN n) := ⟨h.os, h.tape, h.output, h.size, h.block⟩
theorem below_dr9 {B : Nat} {a w : World} (h : Below B a w) (n : Nat) : Below B a (w.drewN n) := ⟨h.os, h.tape, h.output, h.size, h.block⟩
end Go.Proofs.Ytkljlfhplnoldaa
