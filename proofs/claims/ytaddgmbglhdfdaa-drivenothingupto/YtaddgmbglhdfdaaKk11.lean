/-
  A list of files that a law makes: each with bytes that are lent.
-/
import Derived.Test.YtaddgmbglhdfdaaKj11
namespace Go.Proofs.Ytaddgmbglhdfdaa
open Go.RowKit Go.Maps Go.Sort
/-- The cells of files. -/
def fcs (nm : Nat → Tx) (vs : Nat → Value) (n : Nat) : List Value := (List.range n).flatMap fun i => [encStr (nm i), vs i]
theorem fcs_succ (nm : Nat → Tx) (vs : Nat → Value) (n : Nat) : fcs nm vs (n + 1) = fcs nm vs n ++ [encStr (nm n), vs n] := by
  unfold fcs; rw [List.range_succ, List.flatMap_append]; simp
theorem fcs_len (nm : Nat → Tx) (vs : Nat → Value) (n : Nat) : (fcs nm vs n).length = n * 2 := by
  induction n with
  | zero => rfl
  | succ n ih => rw [fcs_succ, List.length_append, ih]; simp; omega
theorem fcs_at (nm : Nat → Tx) (vs : Nat → Value) (n i : Nat) (h : i < n) : (fcs nm vs n)[i * 2]? = some (encStr (nm i)) ∧ (fcs nm vs n)[i * 2 + 1]? = some (vs i) := by
  induction n with
  | zero => omega
  | succ n ih =>
    rw [fcs_succ]
    have hl := fcs_len nm vs n
    by_cases e : i = n
    · subst e
      rw [List.getElem?_append_right (by omega), List.getElem?_append_right (by omega), hl, show i * 2 - i * 2 = 0 by omega, show i * 2 + 1 - i * 2 = 1 by omega]
      exact ⟨rfl, rfl⟩
    · rw [List.getElem?_append_left (by omega), List.getElem?_append_left (by omega)]
      exact ih (by omega)
theorem fcs_congr (nm : Nat → Tx) (vs vs' : Nat → Value) (n : Nat) (h : ∀ i, i < n → vs i = vs' i) : fcs nm vs n = fcs nm vs' n := by
  induction n with
  | zero => rfl
  | succ n ih => rw [fcs_succ, fcs_succ, ih (fun i hi => h i (by omega)), h n (by omega)]
/-- Files of a law's own, their bytes lent. -/
structure FL (w : World) (base : Nat) (v : Value) (nm dt : Nat → Tx) (vs : Nat → Value) (n : Nat) : Prop where
  own : w.ownsRow base 63 2 v n (fcs nm vs n)
  lnt : ∀ i, i < n → Lnt w base 5 (vs i) ((dt i).map u8v) (mks 66)
  sep : ∀ i j g, i < n → j < n → i ≠ j → (vs i).ownBlock = some g → (vs j).ownBlock ≠ some g
theorem FL.nil (w : World) (base : Nat) (nm dt : Nat → Tx) (vs : Nat → Value) : FL w base (.slice none 0 0) nm dt vs 0 := ⟨⟨rfl, .inl ⟨rfl, rfl⟩⟩, fun i hi => by omega, fun i j g hi => by omega⟩
theorem FL.below {w w' : World} {base : Nat} {v : Value} {nm dt : Nat → Tx} {vs : Nat → Value} {n : Nat} (h : FL w base v nm dt vs n) (hb : Below w.heap.size w w') : FL w' base v nm dt vs n := ⟨own_below h.own hb, fun i hi => (h.lnt i hi).below hb, h.sep⟩
theorem infoF : (Try.prog.info? 63).map (fun i => (i.zero, i.size, i.bytes)) = some (some (.agg #[.string ⟨#[]⟩, .slice none 0 0]), 2, 40) := by kernel_rfl
theorem lnt_grown {w w' : World} {base b2 : Nat} {te t2 : TypeId} {v u : Value} {xs ms ys : List Value} {sz n : Nat} (h : Lnt w base te v xs ms) (hO : w.ownsRow b2 t2 sz u n ys) (ht : te ≠ t2) (hg : w.grownBy w' u.ownBlock) : Lnt w' base te v xs ms := by
  obtain ⟨g, cap, rfl, h1⟩ := h
  refine ⟨g, cap, rfl, own_kept h1 hg (fun g' e e2 => ?_)⟩
  obtain ⟨_, _, c1, k1⟩ := own_lt h1 e
  obtain ⟨_, _, c2, k2⟩ := own_lt hO e2
  rw [k1] at k2
  injection k2 with k2
  injection k2 with _ k3
  exact ht k3
/-- One more: what was lent last lies behind what was there. -/
theorem FL.push {w w' : World} {base lo : Nat} {v v' : Value} {nm dt : Nat → Tx} {vs : Nat → Value} {n : Nat} (h : FL w base v nm dt vs n) (u : Value) (hu : Lnt w lo 5 u ((dt n).map u8v) (mks 66)) (hlo : base ≤ lo) (hold : ∀ i g, i < n → (vs i).ownBlock = some g → g < lo) (hO : w'.ownsRow base 63 2 v' (n + 1) (fcs nm vs n ++ [encStr (nm n), u])) (hg : w.grownBy w' v.ownBlock) : FL w' base v' nm dt (fun i => if i = n then u else vs i) (n + 1) := by
  have hlt : ∀ g, u.ownBlock = some g → lo ≤ g := fun g e => by
    obtain ⟨g1, cap, rfl, h1⟩ := hu
    exact (own_lt h1 e).1
  refine ⟨?_, fun i hi => ?_, fun i j g hi hj hne e1 e2 => ?_⟩
  · rw [fcs_succ, fcs_congr nm (fun i => if i = n then u else vs i) vs n (fun i hi => if_neg (by omega)), if_pos rfl]
    exact hO
  · by_cases e : i = n
    · subst e
      rw [if_pos rfl]
      have h9 := lnt_grown hu h.own (by decide) hg
      obtain ⟨g1, cap, e1, h1⟩ := h9
      exact ⟨g1, cap, e1, own_up h1 hlo⟩
    · rw [if_neg e]
      exact lnt_grown (h.lnt i (by omega)) h.own (by decide) hg
  · by_cases ei : i = n
    · rw [if_pos ei] at e1
      rw [if_neg (by omega)] at e2
      have := hlt g e1
      have := hold j g (by omega) e2
      omega
    · rw [if_neg ei] at e1
      by_cases ej : j = n
      · rw [if_pos ej] at e2
        have := hlt g e2
        have := hold i g (by omega) e1
        omega
      · rw [if_neg ej] at e2
        exact h.sep i j g (by omega) (by omega) hne e1 e2
theorem FL.lt {w : World} {base : Nat} {v : Value} {nm dt : Nat → Tx} {vs : Nat → Value} {n : Nat} (h : FL w base v nm dt vs n) : ∀ i g, i < n → (vs i).ownBlock = some g → g < w.heap.size := fun i g hi e => by
  obtain ⟨cs, hc⟩ := lnt_ty (h.lnt i hi) e
  exact blt hc
/-- Files that are handed in. -/
def FlIn (w : World) (p : Option Addr) (nm dt : Nat → Tx) (n : Nat) : Prop := ∀ i, i < n → ∃ b o pd cd, p = some ⟨b, o, none⟩ ∧ w.cell? ⟨b, o + i * 2, none⟩ = some (encStr (nm i)) ∧ w.cell? ⟨b, o + i * 2 + 1, none⟩ = some (.slice pd (dt i).length cd) ∧ Rx w pd (dt i)
theorem FlIn.below {w w' : World} {p : Option Addr} {nm dt : Nat → Tx} {n : Nat} (h : FlIn w p nm dt n) (hb : Below w.heap.size w w') : FlIn w' p nm dt n := fun i hi => by
  obtain ⟨b, o, pd, cd, h1, h2, h3, h4⟩ := h i hi
  exact ⟨b, o, pd, cd, h1, cell_below h2 hb, cell_below h3 hb, h4.below hb⟩
/-- The files as a list. -/
def fls (nm dt : Nat → Tx) (n : Nat) : List (Tx × Tx) := (List.range n).map fun i => (nm i, dt i)
theorem fls_len (nm dt : Nat → Tx) (n : Nat) : (fls nm dt n).length = n := by simp [fls]
theorem fls_at (nm dt : Nat → Tx) (n i : Nat) (h : i < n) : (fls nm dt n).getD i ([], []) = (nm i, dt i) := by simp [fls, List.getD, h]
/-- What Load is handed. -/
theorem FL.flat {w : World} {base : Nat} {g m c : Nat} {nm dt : Nat → Tx} {vs : Nat → Value} {n k : Nat} {tl : List Value} (hO : w.ownsRow base 63 2 (.slice (some ⟨g, 0, none⟩) m c) m (fcs nm vs n ++ tl)) (hL : ∀ i, i < n → Lnt w base 5 (vs i) ((dt i).map u8v) (mks 66)) (hk : k = n) : FlAt w (some ⟨g, 0, none⟩) (fls nm dt k) := by
  subst hk
  intro i hi
  rw [fls_len] at hi
  rw [fls_at nm dt k i hi]
  obtain ⟨a1, a2⟩ := fcs_at nm vs k i hi
  have hl := fcs_len nm vs k
  rcases hO.2 with ⟨hv, _⟩ | ⟨g', cap, cur, hv, _, hh, h1, h2, h3, h4⟩
  · cases hv
  · injection hv with e1 e2 e3
    injection e1 with e1
    injection e1 with e1
    subst e1
    have hm : m * 2 = (fcs nm vs k ++ tl).length := hO.1.symm
    have cell : ∀ j u, j < k * 2 → (fcs nm vs k)[j]? = some u → w.cell? ⟨g, 0 + j, none⟩ = some u := fun j u hj e => by
      rw [Nat.zero_add, cell_of_row w g j _ _ _ hh]
      have e9 : (fcs nm vs k ++ tl)[j]? = some u := by rw [List.getElem?_append_left (by omega)]; exact e
      rw [← e9, ← h4, List.getElem?_take, if_pos (by rw [hm, List.length_append]; omega), Array.getElem?_toList]
    refine ⟨g, 0, vs i, rfl, cell _ _ (by omega) a1, ?_, ?_⟩
    · have := cell (i * 2 + 1) (vs i) (by omega) a2
      rw [← Nat.add_assoc] at this
      exact this
    · obtain ⟨g1, c1, e1, _, _, _, hc, _⟩ := (hL i hi).cells
      refine .inr ⟨g1, c1, by rw [e1, List.length_map], fun t ht => ?_⟩
      have ht' : t < (dt i).length := ht
      rw [Nat.zero_add, hc t (by rw [List.length_map]; omega), lnt_at (by simpa using ht')]
      simp [ht']
theorem own_at {w : World} {base sz n g c : Nat} {te : TypeId} {xs : List Value} (h : w.ownsRow base te sz (.slice (some ⟨g, 0, none⟩) n c) n xs) {j : Nat} {u : Value} (e : xs[j]? = some u) : w.cell? ⟨g, j, none⟩ = some u ∧ w.frozen? ⟨g, j, none⟩ = false := by
  have hm : n * sz = xs.length := h.1.symm
  rcases h.2 with ⟨hv, _⟩ | ⟨g', cap, cur, hv, _, hh, h1, h2, h3, h4⟩
  · cases hv
  · injection hv with e1 e2 e3
    injection e1 with e1
    injection e1 with e1
    subst e1
    refine ⟨?_, frozen_of_row w g j _ _ hh⟩
    have hj := (List.getElem?_eq_some_iff.1 e).1
    rw [cell_of_row w g j _ _ _ hh, ← e, ← h4, List.getElem?_take, if_pos (by omega), Array.getElem?_toList]
/-- The third loop of 'made': files that are spoilt one by one. -/
structure SpR (W2 : World) (lo hi gf : Nat) (dt : Nat → Tx) (vs : Nat → Value) (n j : Nat) (wr : World) : Prop where
  tn : Tn (fun b => lo ≤ b ∧ b < hi) W2 wr
  sz : wr.heap.size = W2.heap.size
  blk : ∃ cs, wr.heap[gf]? = some (.cells cs 63 (0, 0)) ∧ (∀ i, i < n → cs[i * 2 + 1]? = some (vs i)) ∧ ∀ i, i < n → ∃ t, cs[i * 2]? = some (.string t)
  lnt : ∀ i, j ≤ i → i < n → Lnt wr lo 5 (vs i) ((dt i).map u8v) (mks 66)
theorem SpR.start {W2 : World} {lo hi gf c : Nat} {nm dt : Nat → Tx} {vs : Nat → Value} {n m : Nat} {tl : List Value} (hO : W2.ownsRow lo 63 2 (.slice (some ⟨gf, 0, none⟩) m c) m (fcs nm vs n ++ tl)) (hL : ∀ i, i < n → Lnt W2 lo 5 (vs i) ((dt i).map u8v) (mks 66)) : SpR W2 lo hi gf dt vs n 0 W2 := by
  refine ⟨Tn.refl _ _, rfl, ?_, fun i _ hi => hL i hi⟩
  have hm : m * 2 = (fcs nm vs n ++ tl).length := hO.1.symm
  have hl := fcs_len nm vs n
  rcases hO.2 with ⟨hv, _⟩ | ⟨g', cap, cur, hv, _, hh, h1, h2, h3, h4⟩
  · cases hv
  · injection hv with e1 e2 e3
    injection e1 with e1
    injection e1 with e1
    subst e1
    have key : ∀ j u, j < n * 2 → (fcs nm vs n)[j]? = some u → cur[j]? = some u := fun j u hj e => by
      have e9 : (fcs nm vs n ++ tl)[j]? = some u := by rw [List.getElem?_append_left (by omega)]; exact e
      rw [← e9, ← h4, List.getElem?_take, if_pos (by rw [hm, List.length_append]; omega), Array.getElem?_toList]
    exact ⟨cur, hh, fun i hi => key _ _ (by omega) (fcs_at nm vs n i hi).2, fun i hi => ⟨_, key _ _ (by omega) (fcs_at nm vs n i hi).1⟩⟩
theorem SpR.cells {W2 wr : World} {lo hi gf : Nat} {dt : Nat → Tx} {vs : Nat → Value} {n j : Nat} (h : SpR W2 lo hi gf dt vs n j wr) {i : Nat} (hi' : i < n) : wr.cell? ⟨gf, i * 2 + 1, none⟩ = some (vs i) ∧ (∃ t, wr.cell? ⟨gf, i * 2, none⟩ = some (.string t)) ∧ wr.frozen? ⟨gf, i * 2, none⟩ = false := by
  obtain ⟨cs, hh, h1, h2⟩ := h.blk
  obtain ⟨t, ht⟩ := h2 i hi'
  exact ⟨by rw [cell_of_row wr gf _ _ _ _ hh]; exact h1 i hi', ⟨t, by rw [cell_of_row wr gf _ _ _ _ hh]; exact ht⟩, frozen_of_row wr gf _ _ _ hh⟩
/-- Its round: the bytes are spoilt, then the name. -/
theorem SpR.step {W2 wr w3 : World} {lo hi gf : Nat} {dt : Nat → Tx} {vs : Nat → Value} {n j : Nat} (h : SpR W2 lo hi gf dt vs n j wr) (hj : j < n) (hsep : ∀ i j g, i < n → j < n → i ≠ j → (vs i).ownBlock = some g → (vs j).ownBlock ≠ some g) (hlo : ∀ g, (vs j).ownBlock = some g → lo ≤ g ∧ g < hi) (hgf : lo ≤ gf ∧ gf < hi) (hT : Tn (fun b => (vs j).ownBlock = some b) wr w3) (hz : w3.heap.size = wr.heap.size) (t : ByteArray) : SpR W2 lo hi gf dt vs n (j + 1) (w3.setCell ⟨gf, j * 2, none⟩ (.string t)) := by
  obtain ⟨cs, hh, h1, h2⟩ := h.blk
  have hne : ¬ (vs j).ownBlock = some gf := fun e => by
    obtain ⟨c9, k9⟩ := lnt_ty (h.lnt j (Nat.le_refl _) hj) e
    rw [hh] at k9
    injection k9 with k9
    injection k9 with _ k9
    revert k9
    decide
  have hh3 : w3.heap[gf]? = some (.cells cs 63 (0, 0)) := (hT.block gf (blt hh) hne).trans hh
  refine ⟨(h.tn.trans (hT.more (fun b e => hlo b e))).trans (Tn.setCell (F := fun b => lo ≤ b ∧ b < hi) w3 ⟨gf, j * 2, none⟩ hgf _), by simp [World.setCell, hz, h.sz], ⟨_, heap_setCell_same w3 gf (j * 2) _ _ _ hh3, fun i hi => ?_, fun i hi => ?_⟩, fun i hi hi' => ?_⟩
  · rw [← h1 i hi]
    simp [show j * 2 ≠ i * 2 + 1 by omega]
  · obtain ⟨t9, h9⟩ := h2 i hi
    by_cases e : i = j
    · subst e
      have := (Array.getElem?_eq_some_iff.1 h9).1
      exact ⟨t, by simp [this]⟩
    · exact ⟨t9, by rw [← h9]; simp [show j * 2 ≠ i * 2 by omega]⟩
  · have L3 := (h.lnt i (by omega) hi').tn2 hT (fun g e e2 => hsep i j g hi' hj (by omega) e e2)
    refine L3.tn2 (Tn.setCell (F := (· = gf)) w3 ⟨gf, j * 2, none⟩ rfl _) (fun g e e2 => ?_)
    obtain ⟨c9, k9⟩ := lnt_ty L3 e
    have e3 : g = gf := e2
    rw [e3, hh3] at k9
    injection k9 with k9
    injection k9 with _ k9
    revert k9
    decide
theorem spr_ne {W2 wr : World} {lo hi gf : Nat} {dt : Nat → Tx} {vs : Nat → Value} {n j : Nat} (h : SpR W2 lo hi gf dt vs n j wr) (hj : j < n) : ¬ (vs j).ownBlock = some gf := fun e => by
  obtain ⟨cs, hh, h1, h2⟩ := h.blk
  obtain ⟨c9, k9⟩ := lnt_ty (h.lnt j (Nat.le_refl _) hj) e
  rw [hh] at k9
  injection k9 with k9
  injection k9 with _ k9
  revert k9
  decide
theorem cell_tn {w w' : World} {b o : Nat} {v : Value} {G : Nat → Prop} (h : w.cell? ⟨b, o, none⟩ = some v) (hT : Tn G w w') (hG : ¬ G b) : w'.cell? ⟨b, o, none⟩ = some v := by
  have e := hT.block b (block_lt_of_cell h) hG
  rw [← h]
  unfold World.cell?
  simp only [e]
theorem frz_tn {w w' : World} {b o : Nat} {v : Value} {G : Nat → Prop} (h : w.frozen? ⟨b, o, none⟩ = false) (hc : w.cell? ⟨b, o, none⟩ = some v) (hT : Tn G w w') (hG : ¬ G b) : w'.frozen? ⟨b, o, none⟩ = false := by
  have e := hT.block b (block_lt_of_cell hc) hG
  rw [← h]
  unfold World.frozen?
  simp only [e]
end Go.Proofs.Ytaddgmbglhdfdaa
