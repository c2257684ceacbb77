/-
  The document's 'zeros', 'Identity'.
-/
import Derived.Test.YtgokkppojhokbaaKn
namespace Go.Proofs.Ytgokkppojhokbaa
open Go.RowKit
theorem infoI : (Try.prog.info? 3).map (fun i => (i.zero, i.size, i.bytes)) = some (some (.int .i64 0), 1, 8) := by kernel_rfl
theorem infoIR : (Try.prog.info? 24).map (fun i => (i.zero, i.size, i.bytes)) = some (some (.slice none 0 0), 1, 24) := by kernel_rfl
/-- A row of ints that reads so. -/
def Ir (w : World) (v : Value) (n : Nat) (f : Nat → Int) : Prop := St w 3 v n (fun j => .int .i64 (f j)) n
theorem Ir.below {w w' : World} {v : Value} {n : Nat} {f : Nat → Int} (h : Ir w v n f) (hb : Below w.heap.size w w') : Ir w' v n f := St.below h hb
theorem Ir.grown {w w' : World} {v : Value} {n : Nat} {f : Nat → Int} (h : Ir w v n f) {base m : Nat} {u : Value} {us : List Value} (ho : w.ownsRow base 24 1 u m us) (hg : w.grownBy w' u.ownBlock) : Ir w' v n f := St.grown h ho hg (by decide)
theorem Ir.congr {w : World} {v : Value} {n : Nat} {f f' : Nat → Int} (h : Ir w v n f) (e : ∀ i, i < n → f i = f' i) : Ir w v n f' := St.congr h (fun i hi => by rw [e i hi])
/-- A matrix of ints: r rows, the row i of l i numbers. -/
def Im (w : World) (v : Value) (r : Nat) (l : Nat → Nat) (M : Nat → Nat → Int) : Prop := ∃ rows : Nat → Value, St w 24 v r rows r ∧ ∀ i, i < r → Ir w (rows i) (l i) (M i)
theorem Im.below {w w' : World} {v : Value} {r : Nat} {l : Nat → Nat} {M : Nat → Nat → Int} (h : Im w v r l M) (hb : Below w.heap.size w w') : Im w' v r l M := by
  obtain ⟨rows, h1, h2⟩ := h
  exact ⟨rows, h1.below hb, fun i hi => (h2 i hi).below hb⟩
theorem Im.nil (w : World) (l : Nat → Nat) (M : Nat → Nat → Int) : Im w (.slice none 0 0) 0 l M := ⟨fun _ => .bool false, ⟨none, 0, rfl, .inl rfl⟩, fun i hi => by omega⟩
theorem owns_set {w : World} {base : Nat} {t : TypeId} {n g cap : Nat} {f : Nat → Value} (h : w.ownsRow base t 1 (.slice (some ⟨g, 0, none⟩) n cap) n (lv f n)) (k : Nat) (u : Value) : (w.setCell ⟨g, k, none⟩ u).ownsRow base t 1 (.slice (some ⟨g, 0, none⟩) n cap) n (lv (fun i => if i = k then u else f i) n) := by
  refine ⟨by rw [lv_len, Nat.mul_one], ?_⟩
  rcases h.2 with ⟨hv, h0⟩ | ⟨g', cap', c, hv, hg, hh, hc, hm, hs, ht⟩
  · cases hv
  · injection hv with h1 h2 h3
    injection h1 with h1
    injection h1 with h1
    subst h1 h3
    refine .inr ⟨g, cap, c.setIfInBounds k u, rfl, hg, heap_setCell_same w g k _ _ _ hh, hc, hm, by rw [Array.size_setIfInBounds]; exact hs, ?_⟩
    rw [Nat.mul_one] at ht ⊢
    apply List.ext_getElem?
    intro i
    by_cases hi : i < n
    · rw [List.getElem?_take_of_lt hi, lv_at _ n i hi]
      have h1 : (c.toList.take n)[i]? = some (f i) := by rw [ht, lv_at f n i hi]
      rw [List.getElem?_take_of_lt hi] at h1
      have h2 : c[i]? = some (f i) := by simpa using h1
      have h3 : (c.setIfInBounds k u)[i]? = some (if i = k then u else f i) := by
        rw [Array.getElem?_setIfInBounds]
        have : i < c.size := by
          rcases Nat.lt_or_ge i c.size with h | h
          · exact h
          · rw [Array.getElem?_eq_none h] at h2; cases h2
        by_cases e : k = i
        · subst e; simp [this]
        · rw [if_neg e, if_neg (fun x => e x.symm)]; exact h2
      rw [Array.getElem?_toList]; exact h3
    · rw [List.getElem?_eq_none (by rw [List.length_take]; omega), List.getElem?_eq_none (by rw [lv_len]; omega)]
theorem owns_some {w : World} {base : Nat} {t : TypeId} {k n : Nat} {v : Value} {xs : List Value} (h : w.ownsRow base t k v n xs) (hn : 0 < n) : ∃ g cap, v = .slice (some ⟨g, 0, none⟩) n cap ∧ base ≤ g ∧ g < w.heap.size ∧ n ≤ cap ∧ cap ≤ maxLen ∧ ∃ cs, w.heap[g]? = some (.cells cs t (0, 0)) := by
  rcases h.2 with ⟨hv, h0⟩ | ⟨g, cap, c, hv, hg, hh, hc, hm, hs, ht⟩
  · omega
  · exact ⟨g, cap, hv, hg, lt_of_block hh, hc, hm, c, hh⟩
theorem owns_below {B : Nat} {e : TypeId} {k : Nat} {v : Value} {n : Nat} {xs : List Value} {w w' : World} (h : w.ownsRow B e k v n xs) (hb : Below w.heap.size w w') : w'.ownsRow B e k v n xs := by
  refine ⟨h.1, ?_⟩
  rcases h.2 with h1 | ⟨g, cap, cur, hv, hg, hh, hr⟩
  · exact .inl h1
  · exact .inr ⟨g, cap, cur, hv, hg, by rw [hb.block g (lt_of_block hh)]; exact hh, hr⟩
section
attribute [local irreducible] Calls lv
end
theorem St.own_cell {w : World} {t : TypeId} {g l c : Nat} {f : Nat → Value} {n : Nat} {v : Value} (h : St w t v l f n) (e : v = .slice (some ⟨g, 0, none⟩) l c) {i : Nat} (hi : i < n) : w.cell? ⟨g, i, none⟩ = some (f i) := by
  obtain ⟨p, c', e2, h⟩ := h
  rw [e] at e2
  injection e2 with e2
  subst e2
  rcases h with h | ⟨b, o, cs, z, e3, h1, h2⟩
  · omega
  · injection e3 with e3
    injection e3 with e3 e4
    subst e3 e4
    rw [cell_of_row w g i _ _ _ h1]
    have := h2 i hi
    rwa [Nat.zero_add] at this
section
attribute [local irreducible] Calls lv Ir
end
end Go.Proofs.Ytgokkppojhokbaa
/-
  The laws' own helpers: 'size', 'low', 'elem', 'bit', 'four', 'like..'.
-/
namespace Go.Proofs.Ytgokkppojhokbaa
open Go.RowKit
theorem low_eq {s : Int} (n : Int) (h : s = 256 ∨ s = 2 ∨ s = 4) : (wrap64 (n.tmod s + s)).tmod s = n % s := by
  have hs : 0 < s := by omega
  have b2 : n.tmod s < s := Int.tmod_lt_of_pos n hs
  have b1 : -s < n.tmod s := Int.lt_tmod_of_pos n hs
  have e1 : wrap64 (n.tmod s + s) = n.tmod s + s := by unfold wrap64; omega
  rw [e1, Int.tmod_eq_emod_of_nonneg (by omega), Int.add_emod_right]
  rcases Int.le_total 0 n with h0 | h0
  · rw [Int.tmod_eq_emod_of_nonneg h0, Int.emod_emod_of_dvd n (Int.dvd_refl s)]
  · have := Int.tmod_add_mul_tdiv n s
    have e : n.tmod s = n + s * (-(n.tdiv s)) := by rw [Int.mul_neg]; omega
    rw [e, Int.add_mul_emod_self_left]
section
attribute [local irreducible] Calls el nuE
end
/-- A row of numbers that reads so. -/
def NrE (w : World) (v : Value) (n : Nat) (f : Nat → BitVec 8) : Prop := Sv w v n (clE f) n
theorem NrE.below {w w' : World} {v : Value} {n : Nat} {f : Nat → BitVec 8} (h : NrE w v n f) (hb : Below w.heap.size w w') : NrE w' v n f := Sv.below h hb
/-- A matrix of numbers that reads so. -/
def NmE (w : World) (v : Value) (r : Nat) (l : Nat → Nat) (N : Nat → Nat → BitVec 8) : Prop := ∃ rows : Nat → Value, Sv w v r rows r ∧ ∀ i, i < r → NrE w (rows i) (l i) (N i)
theorem NmE.below {w w' : World} {v : Value} {r : Nat} {l : Nat → Nat} {N : Nat → Nat → BitVec 8} (h : NmE w v r l N) (hb : Below w.heap.size w w') : NmE w' v r l N := by
  obtain ⟨rows, h1, h2⟩ := h
  exact ⟨rows, h1.below hb, fun i hi => (h2 i hi).below hb⟩
theorem NmE.nil (w : World) (l : Nat → Nat) (N : Nat → Nat → BitVec 8) : NmE w (.slice none 0 0) 0 l N := ⟨fun _ => .bool false, ⟨none, 0, rfl, .inl rfl⟩, fun i hi => by omega⟩
theorem GxE.nm {b : Nat} {w : World} {v : Value} {r l : Nat} {N : Nat → Nat → BitVec 8} (h : GxE b w v r l N) : NmE w v r (fun _ => l) N := by
  obtain ⟨B, ρ, rfl, h, _, _⟩ := h
  exact ⟨_, ((Gr.out h).st r r).sv, fun i hi => ((Gr.row h i hi).st l l).sv⟩
section
attribute [local irreducible] Calls el nuE NrE Ir
end
section
attribute [local irreducible] Calls el nuB
end
/-- A row of numbers that reads so. -/
def NrB (w : World) (v : Value) (n : Nat) (f : Nat → Bool) : Prop := Sv w v n (clB f) n
theorem NrB.below {w w' : World} {v : Value} {n : Nat} {f : Nat → Bool} (h : NrB w v n f) (hb : Below w.heap.size w w') : NrB w' v n f := Sv.below h hb
/-- A matrix of numbers that reads so. -/
def NmB (w : World) (v : Value) (r : Nat) (l : Nat → Nat) (N : Nat → Nat → Bool) : Prop := ∃ rows : Nat → Value, Sv w v r rows r ∧ ∀ i, i < r → NrB w (rows i) (l i) (N i)
theorem NmB.below {w w' : World} {v : Value} {r : Nat} {l : Nat → Nat} {N : Nat → Nat → Bool} (h : NmB w v r l N) (hb : Below w.heap.size w w') : NmB w' v r l N := by
  obtain ⟨rows, h1, h2⟩ := h
  exact ⟨rows, h1.below hb, fun i hi => (h2 i hi).below hb⟩
theorem NmB.nil (w : World) (l : Nat → Nat) (N : Nat → Nat → Bool) : NmB w (.slice none 0 0) 0 l N := ⟨fun _ => .bool false, ⟨none, 0, rfl, .inl rfl⟩, fun i hi => by omega⟩
section
attribute [local irreducible] Calls el nuB NrB Ir
end
section
attribute [local irreducible] Calls el nuF
end
/-- A row of numbers that reads so. -/
def NrF (w : World) (v : Value) (n : Nat) (f : Nat → (Bool × Bool)) : Prop := Sv w v n (clF f) (n * 2)
theorem NrF.below {w w' : World} {v : Value} {n : Nat} {f : Nat → (Bool × Bool)} (h : NrF w v n f) (hb : Below w.heap.size w w') : NrF w' v n f := Sv.below h hb
/-- A matrix of numbers that reads so. -/
def NmF (w : World) (v : Value) (r : Nat) (l : Nat → Nat) (N : Nat → Nat → (Bool × Bool)) : Prop := ∃ rows : Nat → Value, Sv w v r rows r ∧ ∀ i, i < r → NrF w (rows i) (l i) (N i)
theorem NmF.below {w w' : World} {v : Value} {r : Nat} {l : Nat → Nat} {N : Nat → Nat → (Bool × Bool)} (h : NmF w v r l N) (hb : Below w.heap.size w w') : NmF w' v r l N := by
  obtain ⟨rows, h1, h2⟩ := h
  exact ⟨rows, h1.below hb, fun i hi => (h2 i hi).below hb⟩
theorem NmF.nil (w : World) (l : Nat → Nat) (N : Nat → Nat → (Bool × Bool)) : NmF w (.slice none 0 0) 0 l N := ⟨fun _ => .bool false, ⟨none, 0, rfl, .inl rfl⟩, fun i hi => by omega⟩
section
attribute [local irreducible] Calls el nuF NrF Ir
end
end Go.Proofs.Ytgokkppojhokbaa
/-
  MatrixIdentities: the walk.
-/
namespace Go.Proofs.Ytgokkppojhokbaa
open Go.RowKit
def ic (n : Int) : Int := if n < 0 then 2 else if 255 < n then 3 else 0
def ir (n : Int) : Nat := if n < 0 then 0 else if 255 < n then 0 else n.toNat
theorem ir_le (n : Int) : ir n ≤ 1000 := by unfold ir; split; omega; split <;> omega
theorem nuE_sur (z : Int) : ∃ x, nuE x = z % 256 := by
  obtain ⟨x, hx⟩ := el_of (z % 256) (by omega) (by omega)
  exact ⟨x, hx.symm⟩
theorem nuB_sur (z : Int) : ∃ x, nuB x = z % 2 := by
  have : z % 2 = 0 ∨ z % 2 = 1 := by omega
  rcases this with h | h
  · exact ⟨false, by rw [h]; rfl⟩
  · exact ⟨true, by rw [h]; rfl⟩
theorem nuF_sur (z : Int) : ∃ x, nuF x = z % 4 := by
  have : z % 4 = 0 ∨ z % 4 = 1 ∨ z % 4 = 2 ∨ z % 4 = 3 := by omega
  rcases this with h | h | h | h
  · exact ⟨(false, false), by rw [h]; rfl⟩
  · exact ⟨(true, false), by rw [h]; rfl⟩
  · exact ⟨(false, true), by rw [h]; rfl⟩
  · exact ⟨(true, true), by rw [h]; rfl⟩
theorem Im.congr {w : World} {v : Value} {r : Nat} {l : Nat → Nat} {M M' : Nat → Nat → Int} (h : Im w v r l M) (e : ∀ i, i < r → ∀ j, j < l i → M i j = M' i j) : Im w v r l M' := by
  obtain ⟨rows, h1, h2⟩ := h
  exact ⟨rows, h1, fun i hi => (h2 i hi).congr (e i hi)⟩
theorem ask_cell (w : World) (cs : Array Value) (t : TypeId) (i : Nat) (v : Value) (h : cs[i]? = some v) : (w.alloc (.cells cs t)).cell? ⟨w.heap.size, i, none⟩ = some v := by
  rw [cell_of_row _ _ _ _ _ (0, 0) (heap_alloc_new w _)]; exact h
theorem nuE_o : nuE oE = 0 := by unfold nuE oE; first | rfl | decide
theorem identityE_any (n : Int) (x : BitVec 8) (w : World) : Calls Try.prog 43 #[.int .i64 n, vE x] w fun e w' => ∃ v, e = .returned (.tuple #[v, .int .i64 (ic n)]) ∧ NmE w' v (ir n) (fun _ => ir n) (fun i j => if i = j then x else oE) ∧ Below w.heap.size w w' := by
  by_cases h1 : n < 0
  · have e1 : ic n = 2 := by unfold ic; rw [if_pos h1]
    have e2 : ir n = 0 := by unfold ir; rw [if_pos h1]
    rw [e1, e2]
    exact (identityE_err n 2 x (sizeFault_neg n h1) (by decide) w).mono fun e w' ⟨h, hb⟩ => ⟨_, h, NmE.nil _ _ _, hb⟩
  · by_cases h2 : 255 < n
    · have e1 : ic n = 3 := by unfold ic; rw [if_neg h1, if_pos h2]
      have e2 : ir n = 0 := by unfold ir; rw [if_neg h1, if_pos h2]
      rw [e1, e2]
      exact (identityE_err n 3 x (sizeFault_big n h2) (by decide) w).mono fun e w' ⟨h, hb⟩ => ⟨_, h, NmE.nil _ _ _, hb⟩
    · have e1 : ic n = 0 := by unfold ic; rw [if_neg h1, if_neg h2]
      have e2 : ir n = n.toNat := by unfold ir; rw [if_neg h1, if_neg h2]
      obtain ⟨m, rfl⟩ : ∃ m : Nat, n = m := ⟨n.toNat, by omega⟩
      rw [e1, e2, Int.toNat_natCast]
      exact (identityE_ok m (by omega) x w).mono fun e w' ⟨v, h, hG, hb⟩ => ⟨v, h, hG.nm, hb⟩
theorem im_idE {w : World} {v : Value} {n : Nat} {x : BitVec 8} (h : Im w v n (fun _ => n) (fun i j => if i = j then nuE x else 0)) : Im w v n (fun _ => n) (fun i j => nuE (if i = j then x else oE)) :=
  h.congr (fun i _ j _ => by
    by_cases e : i = j
    · rw [if_pos e, if_pos e]
    · rw [if_neg e, if_neg e, nuE_o])
section
attribute [local irreducible] Calls el nuE NmE Im ic ir
end
theorem nuB_o : nuB oB = 0 := by unfold nuB oB; first | rfl | decide
theorem im_idB {w : World} {v : Value} {n : Nat} {x : Bool} (h : Im w v n (fun _ => n) (fun i j => if i = j then nuB x else 0)) : Im w v n (fun _ => n) (fun i j => nuB (if i = j then x else oB)) :=
  h.congr (fun i _ j _ => by
    by_cases e : i = j
    · rw [if_pos e, if_pos e]
    · rw [if_neg e, if_neg e, nuB_o])
section
attribute [local irreducible] Calls el nuB NmB Im ic ir
end
theorem nuF_o : nuF oF = 0 := by unfold nuF oF; first | rfl | decide
theorem im_idF {w : World} {v : Value} {n : Nat} {x : (Bool × Bool)} (h : Im w v n (fun _ => n) (fun i j => if i = j then nuF x else 0)) : Im w v n (fun _ => n) (fun i j => nuF (if i = j then x else oF)) :=
  h.congr (fun i _ j _ => by
    by_cases e : i = j
    · rw [if_pos e, if_pos e]
    · rw [if_neg e, if_neg e, nuF_o])
section
attribute [local irreducible] Calls el nuF NmF Im ic ir
end
end Go.Proofs.Ytgokkppojhokbaa
