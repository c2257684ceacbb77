/-
  Rows of values: reading, owning; whatever a value is.
-/
import Derived.Test.YtgokkppojhokbaaRd
import Derived.Deep.RegionWith
import Derived.Deep.RegionLaw
import Derived.Deep.WholeRow
namespace Go.Proofs.Ytgokkppojhokbaa
open Go.RowKit

/-- One step behind the other. -/
theorem bt {w w1 w2 : World} (h1 : Below w.heap.size w w1) (h2 : Below w1.heap.size w1 w2) : Below w.heap.size w w2 := h1.trans (h2.mono h1.size)
theorem add_pl (b o j : Nat) : (⟨b, o, none⟩ : Addr).add j = ⟨b, o + j, none⟩ := by unfold Addr.add; split <;> simp_all
theorem below_append {t : TypeId} {w w' : World} {base k n : Nat} {v : Value} {xs : List Value} {B : Nat} {a : World} (hb : Below B a w) (hB : B ≤ w.heap.size) (hg : w.grownBy w' v.ownBlock) (ho : w.ownsRow base t k v n xs) (hbase : B ≤ base) : Below B a w' :=
  hb.grown hg hB (fun k hk => Nat.le_trans hbase (ho.lt k hk).1)
theorem one_new (w : World) (v : Value) (t : TypeId) : ∀ j u, ([v] : List Value)[j]? = some u → (w.alloc (.cells #[v] t)).cell? ((⟨w.heap.size, 0, none⟩ : Addr).add j) = some u := by
  intro j u hj
  match j, hj with
  | 0, hj =>
    simp at hj; subst hj
    rw [add_pl, cell_of_row _ _ _ _ _ (0, 0) (heap_alloc_new w _)]; rfl
theorem one_newb (w : World) (v : Value) (t : TypeId) {b : Nat} (h : b = w.heap.size) : ∀ j u, ([v] : List Value)[j]? = some u → (w.alloc (.cells #[v] t)).cell? ((⟨b, 0, none⟩ : Addr).add j) = some u := by
  subst h; exact one_new w v t
theorem size_set (w : World) (p : Addr) (v : Value) : w.heap.size = (w.setCell p v).heap.size := by simp
/-- The cells of n values. -/
def rv (f : Nat → Value) (n : Nat) : Array Value := ((List.range n).map f).toArray
theorem rv_size (f : Nat → Value) (n : Nat) : (rv f n).size = n := by simp [rv]
theorem rv_get (f : Nat → Value) (n i : Nat) (h : i < n) : (rv f n)[i]? = some (f i) := by
  unfold rv; rw [List.getElem?_toArray, List.getElem?_map, List.getElem?_range h]; rfl
theorem rv_toList (f : Nat → Value) (n : Nat) : (rv f n).toList = (List.range n).map f := by simp [rv]
theorem rv_congr {f g : Nat → Value} {n : Nat} (h : ∀ i, i < n → f i = g i) : rv f n = rv g n := by
  unfold rv; congr 1
  apply List.map_congr_left
  intro i hi; rw [h i (List.mem_range.1 hi)]
theorem rv_set (f : Nat → Value) (n k : Nat) (v : Value) (hk : k < n) : (rv f n).setIfInBounds k v = rv (fun i => if i = k then v else f i) n := by
  apply Array.ext_getElem?
  intro i
  rw [Array.getElem?_setIfInBounds, rv_size]
  by_cases hi : i < n
  · rw [rv_get (fun i => if i = k then v else f i) n i hi]
    by_cases e : k = i
    · subst e; simp [hk]
    · rw [if_neg e, rv_get f n i hi, if_neg (fun h => e h.symm)]
  · rw [Array.getElem?_eq_none (by rw [rv_size]; omega), Array.getElem?_eq_none (by rw [rv_size]; omega), if_neg (by omega)]
theorem rv_const (v : Value) (n : Nat) : rv (fun _ => v) n = Array.replicate n v := by
  apply Array.ext_getElem?
  intro i
  by_cases hi : i < n
  · rw [rv_get _ n i hi]; simp [hi]
  · rw [Array.getElem?_eq_none (by rw [rv_size]; omega), Array.getElem?_eq_none (by simp; omega)]
/-- The block g is a row of the call's own: these cells and no more room. -/
def Ov (w : World) (t : TypeId) (g : Nat) (f : Nat → Value) (n : Nat) : Prop := w.heap[g]? = some (.cells (rv f n) t (0, 0))
theorem Ov.cell {w : World} {t : TypeId} {g : Nat} {f : Nat → Value} {n : Nat} (h : Ov w t g f n) {i : Nat} (hi : i < n) : w.cell? ⟨g, i, none⟩ = some (f i) := by
  rw [cell_of_row w g i _ _ _ h, rv_get f n i hi]
theorem Ov.frozen {w : World} {t : TypeId} {g : Nat} {f : Nat → Value} {n : Nat} (h : Ov w t g f n) (i : Nat) : w.frozen? ⟨g, i, none⟩ = false := frozen_of_row w g i _ _ h
theorem Ov.set {w : World} {t : TypeId} {g : Nat} {f : Nat → Value} {n : Nat} (h : Ov w t g f n) {k : Nat} (hk : k < n) (v : Value) : Ov (w.setCell ⟨g, k, none⟩ v) t g (fun i => if i = k then v else f i) n := by
  unfold Ov; rw [heap_setCell_same w g k _ _ _ h, rv_set f n k v hk]
theorem Ov.congr {w : World} {t : TypeId} {g : Nat} {f f' : Nat → Value} {n : Nat} (h : Ov w t g f n) (e : ∀ i, i < n → f i = f' i) : Ov w t g f' n := by
  unfold Ov; rw [← rv_congr e]; exact h
theorem Ov.lt {w : World} {t : TypeId} {g : Nat} {f : Nat → Value} {n : Nat} (h : Ov w t g f n) : g < w.heap.size := by
  rcases Nat.lt_or_ge g w.heap.size with h1 | h1
  · exact h1
  · unfold Ov at h; rw [Array.getElem?_eq_none h1] at h; cases h
theorem Ov.below {w w' : World} {t : TypeId} {g : Nat} {f : Nat → Value} {n : Nat} (h : Ov w t g f n) (hb : Below w.heap.size w w') : Ov w' t g f n := by
  unfold Ov; rw [hb.block g h.lt]; exact h
theorem Ov.other {w W : World} {t : TypeId} {g n : Nat} {f : Nat → Value} (h : Ov w t g f n) {p : Addr} {u : Value} (hp : g ≠ p.block) (e : W.heap = (w.setCell p u).heap) : Ov W t g f n := by
  unfold Ov at h ⊢
  rw [e, heap_setCell_other _ _ _ _ hp]; exact h
theorem Ov.heap {w W : World} {t : TypeId} {g n : Nat} {f : Nat → Value} (h : Ov w t g f n) (e : W.heap = w.heap) : Ov W t g f n := by
  unfold Ov at h ⊢; rw [e]; exact h
theorem ov_new (w : World) (t : TypeId) (v : Value) (n : Nat) : Ov (w.alloc (.cells (Array.replicate n v) t)) t w.heap.size (fun _ => v) n := by
  unfold Ov; rw [heap_alloc_new, rv_const]
/-- The slice v has n cells in a block of type t, and reads so (its length is l). -/
def St (w : World) (t : TypeId) (v : Value) (l : Nat) (f : Nat → Value) (n : Nat) : Prop := ∃ p c, v = .slice p l c ∧ (n = 0 ∨ ∃ b o cs z, p = some ⟨b, o, none⟩ ∧ w.heap[b]? = some (.cells cs t z) ∧ ∀ i, i < n → cs[o + i]? = some (f i))
/-- The slice v reads so. -/
def Sv (w : World) (v : Value) (l : Nat) (f : Nat → Value) (n : Nat) : Prop := ∃ p c, v = .slice p l c ∧ (n = 0 ∨ ∃ b o, p = some ⟨b, o, none⟩ ∧ ∀ i, i < n → w.cell? ⟨b, o + i, none⟩ = some (f i))
theorem St.sv {w : World} {t : TypeId} {v : Value} {l : Nat} {f : Nat → Value} {n : Nat} (h : St w t v l f n) : Sv w v l f n := by
  obtain ⟨p, c, e, h⟩ := h
  refine ⟨p, c, e, ?_⟩
  rcases h with h | ⟨b, o, cs, z, e2, h1, h2⟩
  · exact .inl h
  · exact .inr ⟨b, o, e2, fun i hi => by rw [cell_of_row w b (o + i) _ _ _ h1]; exact h2 i hi⟩
theorem Ov.st {w : World} {t : TypeId} {g : Nat} {f : Nat → Value} {n : Nat} (h : Ov w t g f n) (l c : Nat) : St w t (.slice (some ⟨g, 0, none⟩) l c) l f n :=
  ⟨_, c, rfl, .inr ⟨g, 0, _, _, rfl, h, fun i hi => by rw [Nat.zero_add]; exact rv_get f n i hi⟩⟩
theorem Sv.below {w w' : World} {v : Value} {l : Nat} {f : Nat → Value} {n : Nat} (h : Sv w v l f n) (hb : Below w.heap.size w w') : Sv w' v l f n := by
  obtain ⟨p, c, e, h⟩ := h
  refine ⟨p, c, e, ?_⟩
  rcases h with h | ⟨b, o, e2, h2⟩
  · exact .inl h
  · exact .inr ⟨b, o, e2, fun i hi => cell_below (h2 i hi) hb⟩
theorem Sv.congr {w : World} {v : Value} {l : Nat} {f f' : Nat → Value} {n : Nat} (h : Sv w v l f n) (e : ∀ i, i < n → f i = f' i) : Sv w v l f' n := by
  obtain ⟨p, c, ev, h⟩ := h
  refine ⟨p, c, ev, ?_⟩
  rcases h with h | ⟨b, o, e2, h2⟩
  · exact .inl h
  · exact .inr ⟨b, o, e2, fun i hi => by rw [h2 i hi, e i hi]⟩
theorem St.below {w w' : World} {t : TypeId} {v : Value} {l : Nat} {f : Nat → Value} {n : Nat} (h : St w t v l f n) (hb : Below w.heap.size w w') : St w' t v l f n := by
  obtain ⟨p, c, e, h⟩ := h
  refine ⟨p, c, e, ?_⟩
  rcases h with h | ⟨b, o, cs, z, e2, h1, h2⟩
  · exact .inl h
  · exact .inr ⟨b, o, cs, z, e2, by rw [hb.block b (lt_of_block h1)]; exact h1, h2⟩
theorem Sv.cells {w : World} {v : Value} {l : Nat} {f : Nat → Value} {n : Nat} (h : Sv w v l f n) (h0 : 0 < n) : ∃ b o c, v = .slice (some ⟨b, o, none⟩) l c ∧ ∀ i, i < n → w.cell? ⟨b, o + i, none⟩ = some (f i) := by
  obtain ⟨p, c, rfl, h⟩ := h
  rcases h with h | ⟨b, o, rfl, h2⟩
  · omega
  · exact ⟨b, o, c, rfl, h2⟩
theorem St.congr {w : World} {t : TypeId} {v : Value} {l : Nat} {f f' : Nat → Value} {n : Nat} (h : St w t v l f n) (e : ∀ i, i < n → f i = f' i) : St w t v l f' n := by
  obtain ⟨p, c, ev, h⟩ := h
  refine ⟨p, c, ev, ?_⟩
  rcases h with h | ⟨b, o, cs, z, e2, h1, h2⟩
  · exact .inl h
  · exact .inr ⟨b, o, cs, z, e2, h1, fun i hi => by rw [h2 i hi, e i hi]⟩
/-- A row that grew: rows of another type are as they were. -/
theorem St.grown {w w' : World} {t : TypeId} {v : Value} {l : Nat} {f : Nat → Value} {n : Nat} (h : St w t v l f n) {base k m : Nat} {t' : TypeId} {u : Value} {us : List Value} (ho : w.ownsRow base t' k u m us) (hg : w.grownBy w' u.ownBlock) (ht : t ≠ t') : St w' t v l f n := by
  obtain ⟨p, c, e, h⟩ := h
  refine ⟨p, c, e, ?_⟩
  rcases h with h | ⟨b, o, cs, z, e2, h1, h2⟩
  · exact .inl h
  · refine .inr ⟨b, o, cs, z, e2, ?_, h2⟩
    rw [hg.block b (lt_of_block h1) ?_]
    · exact h1
    · intro hb
      rcases ho.2 with ⟨hv, _⟩ | ⟨g, cap, cur, hv, _, hh, _⟩
      · rw [hv] at hb; cases hb
      · rw [hv] at hb
        injection hb with hb
        subst hb
        rw [hh] at h1
        injection h1 with h1
        injection h1 with _ h1 _
        exact ht h1.symm
/-- n values that are owned. -/
def lv (f : Nat → Value) (n : Nat) : List Value := (List.range n).map f
theorem lv_succ (f : Nat → Value) (n : Nat) : lv f (n + 1) = lv f n ++ [f n] := by
  unfold lv; rw [List.range_succ, List.map_append]; rfl
theorem lv_len (f : Nat → Value) (n : Nat) : (lv f n).length = n := by simp [lv]
theorem lv_at (f : Nat → Value) (n j : Nat) (h : j < n) : (lv f n)[j]? = some (f j) := by
  unfold lv; rw [List.getElem?_map, List.getElem?_range h]; rfl
theorem lv_congr {f g : Nat → Value} {n : Nat} (h : ∀ i, i < n → f i = g i) : lv f n = lv g n := by
  unfold lv; apply List.map_congr_left; intro i hi; rw [h i (List.mem_range.1 hi)]
theorem lv_none (t : TypeId) (k : Nat) (w : World) (base : Nat) (f : Nat → Value) : w.ownsRow base t k (.slice none 0 0) 0 (lv f 0) := World.ownsRow_nil _ _ _ _
/-- What is owned reads so. -/
theorem owns_st {t : TypeId} {w : World} {base k n : Nat} {v : Value} {f : Nat → Value} (h : w.ownsRow base t k v n (lv f (n * k))) : St w t v n f (n * k) := by
  rcases h.2 with ⟨hv, h0⟩ | ⟨g, cap, c, hv, hg, hh, hc, hm, hs, ht⟩
  · subst h0; exact ⟨none, 0, hv, .inl (Nat.zero_mul k)⟩
  · refine ⟨some ⟨g, 0, none⟩, cap, hv, .inr ⟨g, 0, c, _, rfl, hh, fun i hi => ?_⟩⟩
    have h1 : (c.toList.take (n * k))[i]? = some (f i) := by rw [ht, lv_at f (n * k) i hi]
    rw [List.getElem?_take_of_lt hi] at h1
    rw [Nat.zero_add]; simpa using h1
theorem owns_st1 {t : TypeId} {w : World} {base n : Nat} {v : Value} {f : Nat → Value} (h : w.ownsRow base t 1 v n (lv f n)) : St w t v n f n := by
  have h2 := owns_st (k := 1) (f := f) (by rw [Nat.mul_one]; exact h)
  rw [Nat.mul_one] at h2; exact h2
/-- A list of rows that grew by one row. -/
theorem push_all {t t' : TypeId} (ht : t ≠ t') {W W3 : World} {base k : Nat} {v x : Value} {us : List Value} {rows : Nat → Value} {o : Obj} {l c : Nat → Nat} {f : Nat → Nat → Value} (hown : W.ownsRow base t' 1 v k us) (hgrow : (W.alloc o).grownBy W3 v.ownBlock) (hR : ∀ i, i < k → St W t (rows i) (l i) (f i) (c i)) (hx : St W t x (l k) (f k) (c k)) : ∀ i, i < k + 1 → St W3 t (if i = k then x else rows i) (l i) (f i) (c i) := by
  intro i hi
  have ha := (Below.refl _ W).alloc (Nat.le_refl _) o
  by_cases e : i = k
  · subst e; rw [if_pos rfl]; exact (hx.below ha).grown (hown.alloc _) hgrow ht
  · rw [if_neg e]; exact ((hR i (by omega)).below ha).grown (hown.alloc _) hgrow ht
theorem push_lv (rows : Nat → Value) (k : Nat) (x : Value) : lv rows k ++ [x] = lv (fun i => if i = k then x else rows i) (k + 1) := by
  rw [lv_succ, if_pos rfl]
  exact congrArg (· ++ _) (lv_congr (fun i hi => by rw [if_neg (by omega)]))
theorem one_cellv {v : Value} (h : v.oneCell' = true) : ∀ u ∈ ([v] : List Value), u.oneCell' = true := by
  intro u hu; simp at hu; subst hu; exact h
end Go.Proofs.Ytgokkppojhokbaa
/-
  'blank': rows of zeros of the call's own.
-/
namespace Go.Proofs.Ytgokkppojhokbaa
open Go.RowKit
theorem made_eq (z c : Value) (sz n : Nat) (h : z.cells = Array.replicate sz c) (h0 : 0 < sz) : madeCells z.cells (n * sz) = Array.replicate (n * sz) c := by
  apply Array.ext_getElem?
  intro i
  rw [h]
  simp only [madeCells]
  by_cases hin : i < n * sz
  · have : i % sz < sz := Nat.mod_lt _ h0
    simp [hin, this]
  · rw [Array.getElem?_eq_none (by simp; omega), Array.getElem?_eq_none (by simp; omega)]
theorem make_any {st et : TypeId} {z c : Value} {sz bs : Nat} (hu : Try.prog.underlying st = some (.slice et)) (hinf : (Try.prog.info? et).map (fun i => (i.zero, i.size, i.bytes)) = some (some z, sz, bs)) (h : z.cells = Array.replicate sz c) (h0 : 0 < sz) (n : Nat) (hn : bs * n ≤ 281474976710656) (hn2 : n ≤ 281474976710656) (w : World) :
    (Instr.makeSlice st (.int .i64 (n : Int)) (.int .i64 (n : Int))).run Try.prog w = .ok (.slice (some ⟨w.heap.size, 0, none⟩) n n) (w.alloc (.cells (Array.replicate (n * sz) c) et)) := by
  obtain ⟨i0, hi, hz0, hz1, hz2⟩ := info_parts hinf
  have hr := run_make (P := Try.prog) w st et i0 z hu hi hz0 .i64 .i64 (n : Int) (n : Int) (by omega) (by omega) (by rw [hz2, ← Int.natCast_mul]; omega) (by omega)
  rw [hr, hz1, Int.toNat_natCast, made_eq z c sz n h h0]
/-- A matrix of the call's own: the list of its rows at B, the row i at the block ρ i. -/
structure Gr (w : World) (to te : TypeId) (B r l m : Nat) (ρ : Nat → Nat) (M : Nat → Nat → Value) : Prop where
  out : Ov w to B (fun i => .slice (some ⟨ρ i, 0, none⟩) l l) r
  row : ∀ i, i < r → Ov w te (ρ i) (M i) m
  ne : ∀ i, i < r → ρ i ≠ B
  inj : ∀ i, i < r → ∀ j, j < r → ρ i = ρ j → i = j
theorem Gr.below {w w' : World} {to te : TypeId} {B r l m : Nat} {ρ : Nat → Nat} {M : Nat → Nat → Value} (h : Gr w to te B r l m ρ M) (hb : Below w.heap.size w w') : Gr w' to te B r l m ρ M :=
  ⟨h.out.below hb, fun i hi => (h.row i hi).below hb, h.ne, h.inj⟩
theorem Gr.congr {w : World} {to te : TypeId} {B r l m : Nat} {ρ : Nat → Nat} {M M' : Nat → Nat → Value} (h : Gr w to te B r l m ρ M) (e : ∀ i, i < r → ∀ j, j < m → M i j = M' i j) : Gr w to te B r l m ρ M' :=
  ⟨h.out, fun i hi => (h.row i hi).congr (e i hi), h.ne, h.inj⟩
theorem Gr.set {w W : World} {to te : TypeId} {B r l m : Nat} {ρ : Nat → Nat} {M : Nat → Nat → Value} (h : Gr w to te B r l m ρ M) {a j : Nat} (ha : a < r) (hj : j < m) (v : Value) (e : W.heap = (w.setCell ⟨ρ a, j, none⟩ v).heap) : Gr W to te B r l m ρ (fun i t => if i = a then (if t = j then v else M i t) else M i t) := by
  refine ⟨h.out.other (by show B ≠ ρ a; exact (h.ne a ha).symm) e, fun i hi => ?_, h.ne, h.inj⟩
  by_cases e2 : i = a
  · subst e2
    have := (h.row i hi).set hj v
    refine (this.heap e).congr (fun t _ => by rw [if_pos rfl])
  · refine ((h.row i hi).other (by show ρ i ≠ ρ a; exact fun x => e2 (h.inj i hi a ha x)) e).congr (fun t _ => by rw [if_neg e2])
def vE (x : BitVec 8) : Value := .int .u8 (el x)
def nuE (x : BitVec 8) : Int := el x
def clE (f : Nat → BitVec 8) (i : Nat) : Value := .int .u8 (el (f i))
def oE : BitVec 8 := 0#8
def vB (x : Bool) : Value := .bool x
def nuB (x : Bool) : Int := if x then 1 else 0
def clB (f : Nat → Bool) (i : Nat) : Value := .bool (f i)
def oB : Bool := false
def vF (x : Bool × Bool) : Value := .agg #[.bool x.1, .bool x.2]
def nuF (x : Bool × Bool) : Int := (if x.1 then 1 else 0) + (if x.2 then 2 else 0)
def clF (f : Nat → Bool × Bool) (i : Nat) : Value := .bool (if i % 2 = 0 then (f (i / 2)).1 else (f (i / 2)).2)
def oF : Bool × Bool := (false, false)
/-- A matrix of numbers of the call's own. -/
def GmE (w : World) (B r l : Nat) (ρ : Nat → Nat) (N : Nat → Nat → BitVec 8) : Prop := Gr w 84 83 B r l l ρ (fun i => clE (N i))
theorem GmE.below {w w' : World} {B r l : Nat} {ρ : Nat → Nat} {N : Nat → Nat → BitVec 8} (h : GmE w B r l ρ N) (hb : Below w.heap.size w w') : GmE w' B r l ρ N := Gr.below h hb
theorem GmE.out {w : World} {B r l : Nat} {ρ : Nat → Nat} {N : Nat → Nat → BitVec 8} (h : GmE w B r l ρ N) {i : Nat} (hi : i < r) : w.cell? ⟨B, i, none⟩ = some (.slice (some ⟨ρ i, 0, none⟩) l l) := (Gr.out h).cell hi
theorem GmE.ov {w : World} {B r l : Nat} {ρ : Nat → Nat} {N : Nat → Nat → BitVec 8} (h : GmE w B r l ρ N) {i : Nat} (hi : i < r) : Ov w 83 (ρ i) (clE (N i)) l := Gr.row h i hi
theorem GmE.congr {w : World} {B r l : Nat} {ρ : Nat → Nat} {N N' : Nat → Nat → BitVec 8} (h : GmE w B r l ρ N) (e : ∀ i, i < r → ∀ j, j < l → N i j = N' i j) : GmE w B r l ρ N' :=
  Gr.congr h (fun i hi j hj => by
    unfold clE
    rw [e i hi j hj])
theorem GmE.cell {w : World} {B r l : Nat} {ρ : Nat → Nat} {N : Nat → Nat → BitVec 8} (h : GmE w B r l ρ N) {i j : Nat} (hi : i < r) (hj : j < l) : w.cell? ⟨ρ i, j, none⟩ = some (vE (N i j)) := (Gr.row h i hi).cell hj
theorem GmE.frozen {w : World} {B r l : Nat} {ρ : Nat → Nat} {N : Nat → Nat → BitVec 8} (h : GmE w B r l ρ N) {i : Nat} (hi : i < r) (j : Nat) : w.frozen? ⟨ρ i, j, none⟩ = false := (Gr.row h i hi).frozen j
theorem GmE.put {w W : World} {B r l : Nat} {ρ : Nat → Nat} {N : Nat → Nat → BitVec 8} (h : GmE w B r l ρ N) {a j : Nat} (ha : a < r) (hj : j < l) (x : BitVec 8) (e : W.heap = (w.setCell ⟨ρ a, j, none⟩ (vE x)).heap) : GmE W B r l ρ (fun i t => if i = a then (if t = j then x else N i t) else N i t) := by
  refine (Gr.set h ha hj _ e).congr (fun i _ t _ => ?_)
  unfold clE vE
  by_cases e1 : i = a
  · by_cases e2 : t = j
    · simp [e1, e2]
    · simp [e1, e2]
  · simp [e1]
/-- A matrix of numbers of new memory, from the block b on. -/
def GxE (b : Nat) (w : World) (v : Value) (r l : Nat) (N : Nat → Nat → BitVec 8) : Prop := ∃ B ρ, v = .slice (some ⟨B, 0, none⟩) r r ∧ GmE w B r l ρ N ∧ b ≤ B ∧ ∀ i, i < r → b ≤ ρ i
theorem GxE.below {b : Nat} {w w' : World} {v : Value} {r l : Nat} {N : Nat → Nat → BitVec 8} (h : GxE b w v r l N) (hb : Below w.heap.size w w') : GxE b w' v r l N := by
  obtain ⟨B, ρ, e, h, hB, hr⟩ := h
  exact ⟨B, ρ, e, h.below hb, hB, hr⟩
theorem infoE : (Try.prog.info? 83).map (fun i => (i.zero, i.size, i.bytes)) = some (some (.int .u8 0), 1, 1) := by kernel_rfl
theorem infoER : (Try.prog.info? 84).map (fun i => (i.zero, i.size, i.bytes)) = some (some (.slice none 0 0), 1, 24) := by kernel_rfl
theorem makeE (n : Nat) (hn : n ≤ 1000) (w : World) : (Instr.makeSlice 84 (.int .i64 (n : Int)) (.int .i64 (n : Int))).run Try.prog w = .ok (.slice (some ⟨w.heap.size, 0, none⟩) n n) (w.alloc (.cells (Array.replicate (n * 1) (.int .u8 0)) 83)) :=
  make_any Try.underlying84 infoE rfl (by decide) n (by omega) (by omega) w
theorem makeER (n : Nat) (hn : n ≤ 1000) (w : World) : (Instr.makeSlice 67 (.int .i64 (n : Int)) (.int .i64 (n : Int))).run Try.prog w = .ok (.slice (some ⟨w.heap.size, 0, none⟩) n n) (w.alloc (.cells (Array.replicate (n * 1) (.slice none 0 0)) 84)) :=
  make_any Try.underlying67 infoER rfl (by decide) n (by omega) (by omega) w
section
attribute [local irreducible] Calls el Ov
set_option maxHeartbeats 2000000 in
set_option maxRecDepth 1000000 in
theorem blankE (r c : Nat) (hr : r ≤ 1000) (hc : c ≤ 1000) (w : World) : Calls Try.prog 50 #[.int .i64 r, .int .i64 c] w fun e w' => e = .returned (.slice (some ⟨w.heap.size, 0, none⟩) r r) ∧ Gr w' 84 83 w.heap.size r c c (fun i => w.heap.size + 1 + i) (fun _ _ => (.int .u8 0)) ∧ Below w.heap.size w w' ∧ w'.heap.size = w.heap.size + 1 + r := by
  have hm1 := makeER r (by omega)
  go_enter Try.func50, Try.ntmps50
  go_wp2
  clear hm1
  have hm2 := makeE c (by omega)
  go_loopw [11] (fun i wr => ∃ k : Nat, k ≤ r ∧ i = .int .i64 k ∧ Ov wr 84 w.heap.size (fun i => if i < k then .slice (some ⟨w.heap.size + 1 + i, 0, none⟩) c c else .slice none 0 0) r ∧ Hid (∀ i, i < k → Ov wr 83 (w.heap.size + 1 + i) (fun _ => (.int .u8 0)) c) ∧ Hid (wr.heap.size = w.heap.size + 1 + k) ∧ Below w.heap.size w wr) (fun i _ => r - (intOf i).toNat)
  case atStart => exact ⟨0, Nat.zero_le _, rfl, ov_new w _ _ r, fun i hi => by omega, by show _ = _; simp, (Below.refl _ _).alloc (Nat.le_refl _) _⟩
  case round =>
    obtain ⟨k, hk, rfl, hO, hR, hS, hb⟩ := hrel
    by_cases hlt : k < r
    · have hi : (k : Int) < (r : Int) := by omega
      have B1 := (Below.refl wr.heap.size wr).alloc (Nat.le_refl _) (.cells (Array.replicate c (.int .u8 0)) 83)
      have hO2 := hO.below B1
      have g3 := hO2.cell hlt
      have g4 := hO2.frozen k
      have hN := (show Hid _ from ov_new wr 83 (.int .u8 0) c)
      go_wp2
      clear g3 g4
      have hsz := hS.out
      go_roundw
      case rel =>
        refine ⟨k + 1, by omega, by go_num, ?_, fun i hi2 => ?_, ?_, ?_⟩
        · refine ((hO2.set hlt _).congr ?_)
          intro i hi2
          by_cases e : i = k
          · rw [if_pos e, if_pos (by omega), e, hsz]
          · rw [if_neg e]
            by_cases e2 : i < k
            · rw [if_pos e2, if_pos (by omega)]
            · rw [if_neg e2, if_neg (by omega)]
        · by_cases e : i = k
          · subst e
            rw [← hsz]
            exact hN.out.other (by have := hb.size; show wr.heap.size ≠ w.heap.size; omega) rfl
          · exact ((hR.out i (by omega)).below B1).other (by show w.heap.size + 1 + i ≠ w.heap.size; omega) rfl
        · show _ = _
          simp; omega
        · exact (hb.alloc hb.size _).setCell (Nat.le_refl _) _
      case measure => simp [intOf]; omega
    · obtain rfl : k = r := by omega
      go_wp2
      go_ret
      refine ⟨rfl, ⟨hO.congr (fun i hi => by rw [if_pos hi]), hR.out, fun i hi => by omega, fun i hi j hj h => by omega⟩, hb, hS.out⟩
end
theorem blankxE (r c : Nat) (hr : r ≤ 1000) (hc : c ≤ 1000) (w : World) : Calls Try.prog 50 #[.int .i64 r, .int .i64 c] w fun e w' => ∃ B, e = .returned (.slice (some ⟨B, 0, none⟩) r r) ∧ GmE w' B r c (fun i => B + 1 + i) (fun _ _ => oE) ∧ w.heap.size ≤ B ∧ Below w.heap.size w w' :=
  (blankE r c hr hc w).mono fun _ _ ⟨h1, h2, h3, _⟩ => ⟨_, h1, Gr.congr h2 (fun i _ j _ => by unfold clE oE; first | rfl | simp), Nat.le_refl _, h3⟩
section
attribute [local irreducible] Calls el Ov
end
section
attribute [local irreducible] Calls el Ov
end
end Go.Proofs.Ytgokkppojhokbaa
/-
  'sizeFault', 'Identity'.
-/
namespace Go.Proofs.Ytgokkppojhokbaa
open Go.RowKit
theorem sizeFault_neg (n : Int) (h : n < 0) (w : World) : Calls Try.prog 49 #[.int .i64 n] w fun e w' => e = .returned (.int .i64 2) ∧ w' = w := by
  go_enter Try.func49, Try.ntmps49
  go_wp2
  go_ret
  exact ⟨rfl, rfl⟩
theorem sizeFault_big (n : Int) (h : 255 < n) (w : World) : Calls Try.prog 49 #[.int .i64 n] w fun e w' => e = .returned (.int .i64 3) ∧ w' = w := by
  have h2 : ¬ n < 0 := by omega
  go_enter Try.func49, Try.ntmps49
  go_wp2
  go_ret
  exact ⟨rfl, rfl⟩
theorem sizeFault_ok (n : Nat) (h : n ≤ 255) (w : World) : Calls Try.prog 49 #[.int .i64 (n : Int)] w fun e w' => e = .returned (.int .i64 0) ∧ w' = w := by
  have h2 : ¬ (n : Int) < 0 := by omega
  have h3 : ¬ 255 < (n : Int) := by omega
  go_enter Try.func49, Try.ntmps49
  go_wp2
  go_ret
  exact ⟨rfl, rfl⟩
theorem identityE_err (n c : Int) (x : BitVec 8) (h : ∀ w : World, Calls Try.prog 49 #[.int .i64 n] w fun e w' => e = .returned (.int .i64 c) ∧ w' = w) (hc : ¬ c = 0) (w : World) :
    Calls Try.prog 43 #[.int .i64 n, vE x] w fun e w' => e = .returned (.tuple #[.slice none 0 0, .int .i64 c]) ∧ Below w.heap.size w w' := by
  have hc2 : (c != 0) = true := by simpa using hc
  go_enter Try.func43, Try.ntmps43
  go_wp2_with (go_at_call 49; refine (h _).mono ?_; rintro e w' ⟨rfl, h⟩; obtain rfl := h.symm)
  go_ret2
  exact ⟨rfl, Below.refl _ _⟩
section
attribute [local irreducible] Calls el Ov GmE
set_option maxHeartbeats 2000000 in
set_option maxRecDepth 1000000 in
theorem identityE_ok (n : Nat) (hn : n ≤ 255) (x : BitVec 8) (w : World) : Calls Try.prog 43 #[.int .i64 (n : Int), vE x] w fun e w' => ∃ v, e = .returned (.tuple #[v, .int .i64 0]) ∧ GxE w.heap.size w' v n n (fun i j => if i = j then x else oE) ∧ Below w.heap.size w w' := by
  show Calls Try.prog _ #[_, .int .u8 (el x)] _ _
  go_enter Try.func43, Try.ntmps43
  go_wp2_with (first
    | (go_at_call 49; refine (sizeFault_ok n hn _).mono ?_; rintro e w' ⟨rfl, h⟩; obtain rfl := h.symm)
    | (go_at_call 50; refine (blankxE n n (by omega) (by omega) _).mono ?_; rintro e w1 ⟨B, rfl, hG, hB, hb⟩))
  have hG0 : GmE w1 B n n (fun i => B + 1 + i) (fun i j => if i < 0 ∧ i = j then x else oE) := hG.congr (fun i _ j _ => by rw [if_neg (by omega)])
  clear hG
  go_loopw [20] (fun i wr => ∃ k : Nat, k ≤ n ∧ i = .int .i64 k ∧ GmE wr B n n (fun i => B + 1 + i) (fun i j => if i < k ∧ i = j then x else oE) ∧ Below (w).heap.size w wr) (fun i _ => n - (intOf i).toNat)
  case atStart => exact ⟨0, Nat.zero_le _, rfl, hG0, hb⟩
  case round =>
    clear hG0 hb
    obtain ⟨k, hk, rfl, hG, hb⟩ := hrel
    by_cases hlt : k < n
    · have hi : (k : Int) < (n : Int) := by omega
      have g1 := hG.out hlt
      have g2 := hG.cell hlt hlt
      have g3 := hG.frozen hlt k
      go_wp2
      go_roundw
      case rel =>
        refine ⟨k + 1, by omega, by go_num, (hG.put hlt hlt x rfl).congr (fun i _ j _ => ?_), ?_⟩
        · by_cases e : i = k
          · by_cases e2 : j = k
            · rw [if_pos e, if_pos e2, if_pos (by omega)]
            · rw [if_pos e, if_neg e2, if_neg (by omega), if_neg (by omega)]
          · rw [if_neg e]
            by_cases e2 : i < k ∧ i = j
            · rw [if_pos e2, if_pos (by omega)]
            · rw [if_neg e2, if_neg (by omega)]
        · exact hb.setCell (by show _ ≤ B + 1 + k; omega) _
      case measure => simp [intOf]; omega
    · obtain rfl : k = n := by omega
      go_wp2
      go_ret2
      have hG2 : GmE wr B k k (fun i => B + 1 + i) (fun i j => if i = j then x else oE) := hG.congr (fun i hi j hj => by
        by_cases e : i = j
        · rw [if_pos ⟨hi, e⟩, if_pos e]
        · rw [if_neg (fun h => e h.2), if_neg e])
      refine ⟨_, rfl, ⟨B, _, rfl, hG2, hB, fun i hi => by omega⟩, hb⟩
end
section
attribute [local irreducible] Calls el Ov
end
section
attribute [local irreducible] Calls el Ov
end
end Go.Proofs.Ytgokkppojhokbaa
