/-
  The document's 'zeros', 'Identity'.
-/
import Derived.Test.YtmjobnabnkiakaaVk
namespace Go.Proofs.Ytmjobnabnkiakaa
open Go.RowKit
theorem infoI : (Try.prog.info? 3).map (fun i => (i.zero, i.size, i.bytes)) = some (some (.int .i64 0), 1, 8) := by kernel_rfl
theorem infoIR : (Try.prog.info? 50).map (fun i => (i.zero, i.size, i.bytes)) = some (some (.slice none 0 0), 1, 24) := by kernel_rfl
/-- A row of ints that reads so. -/
def Ir (w : World) (v : Value) (n : Nat) (f : Nat → Int) : Prop := St w 3 v n (fun j => .int .i64 (f j)) n
theorem Ir.below {w w' : World} {v : Value} {n : Nat} {f : Nat → Int} (h : Ir w v n f) (hb : Below w.heap.size w w') : Ir w' v n f := St.below h hb
theorem Ir.grown {w w' : World} {v : Value} {n : Nat} {f : Nat → Int} (h : Ir w v n f) {base m : Nat} {u : Value} {us : List Value} (ho : w.ownsRow base 50 1 u m us) (hg : w.grownBy w' u.ownBlock) : Ir w' v n f := St.grown h ho hg (by decide)
theorem Ir.congr {w : World} {v : Value} {n : Nat} {f f' : Nat → Int} (h : Ir w v n f) (e : ∀ i, i < n → f i = f' i) : Ir w v n f' := St.congr h (fun i hi => by rw [e i hi])
/-- A matrix of ints: r rows, the row i of l i numbers. -/
def Im (w : World) (v : Value) (r : Nat) (l : Nat → Nat) (M : Nat → Nat → Int) : Prop := ∃ rows : Nat → Value, St w 50 v r rows r ∧ ∀ i, i < r → Ir w (rows i) (l i) (M i)
theorem Im.below {w w' : World} {v : Value} {r : Nat} {l : Nat → Nat} {M : Nat → Nat → Int} (h : Im w v r l M) (hb : Below w.heap.size w w') : Im w' v r l M := by
  obtain ⟨rows, h1, h2⟩ := h
  exact ⟨rows, h1.below hb, fun i hi => (h2 i hi).below hb⟩
theorem Im.nil (w : World) (l : Nat → Nat) (M : Nat → Nat → Int) : Im w (.slice none 0 0) 0 l M := ⟨fun _ => .bool false, ⟨none, 0, rfl, .inl rfl⟩, fun i hi => by omega⟩
theorem owns_set {w : World} {base : Nat} {t : TypeId} {n g cap : Nat} {f : Nat → Value} (h : w.ownsRow base t 1 (.slice (some ⟨g, 0, none⟩) n cap) n (lv f n)) (k : Nat) (u : Value) : (w.setCell ⟨g, k, none⟩ u).ownsRow base t 1 (.slice (some ⟨g, 0, none⟩) n cap) n (lv (fun i => if i = k then u else f i) n) := by
  refine ⟨by rw [lv_len, Nat.mul_one], ?_⟩
  rcases h.2 with ⟨hv, h0⟩ | ⟨g', cap', c, hv, hg, hh, hc, hm, hs, ht⟩
  · cases hv
  · injection hv with h1 h2 h3
    injection h1 with h1
    injection h1 with h1
    subst h1 h3
    refine .inr ⟨g, cap, c.setIfInBounds k u, rfl, hg, heap_setCell_same w g k _ _ _ hh, hc, hm, by rw [Array.size_setIfInBounds]; exact hs, ?_⟩
    rw [Nat.mul_one] at ht ⊢
    apply List.ext_getElem?
    intro i
    by_cases hi : i < n
    · rw [List.getElem?_take_of_lt hi, lv_at _ n i hi]
      have h1 : (c.toList.take n)[i]? = some (f i) := by rw [ht, lv_at f n i hi]
      rw [List.getElem?_take_of_lt hi] at h1
      have h2 : c[i]? = some (f i) := by simpa using h1
      have h3 : (c.setIfInBounds k u)[i]? = some (if i = k then u else f i) := by
        rw [Array.getElem?_setIfInBounds]
        have : i < c.size := by
          rcases Nat.lt_or_ge i c.size with h | h
          · exact h
          · rw [Array.getElem?_eq_none h] at h2; cases h2
        by_cases e : k = i
        · subst e; simp [this]
        · rw [if_neg e, if_neg (fun x => e x.symm)]; exact h2
      rw [Array.getElem?_toList]; exact h3
    · rw [List.getElem?_eq_none (by rw [List.length_take]; omega), List.getElem?_eq_none (by rw [lv_len]; omega)]
theorem owns_some {w : World} {base : Nat} {t : TypeId} {k n : Nat} {v : Value} {xs : List Value} (h : w.ownsRow base t k v n xs) (hn : 0 < n) : ∃ g cap, v = .slice (some ⟨g, 0, none⟩) n cap ∧ base ≤ g ∧ g < w.heap.size ∧ n ≤ cap ∧ cap ≤ maxLen ∧ ∃ cs, w.heap[g]? = some (.cells cs t (0, 0)) := by
  rcases h.2 with ⟨hv, h0⟩ | ⟨g, cap, c, hv, hg, hh, hc, hm, hs, ht⟩
  · omega
  · exact ⟨g, cap, hv, hg, lt_of_block hh, hc, hm, c, hh⟩
theorem owns_below {B : Nat} {e : TypeId} {k : Nat} {v : Value} {n : Nat} {xs : List Value} {w w' : World} (h : w.ownsRow B e k v n xs) (hb : Below w.heap.size w w') : w'.ownsRow B e k v n xs := by
  refine ⟨h.1, ?_⟩
  rcases h.2 with h1 | ⟨g, cap, cur, hv, hg, hh, hr⟩
  · exact .inl h1
  · exact .inr ⟨g, cap, cur, hv, hg, by rw [hb.block g (lt_of_block hh)]; exact hh, hr⟩
section
attribute [local irreducible] Calls lv
end
theorem St.own_cell {w : World} {t : TypeId} {g l c : Nat} {f : Nat → Value} {n : Nat} {v : Value} (h : St w t v l f n) (e : v = .slice (some ⟨g, 0, none⟩) l c) {i : Nat} (hi : i < n) : w.cell? ⟨g, i, none⟩ = some (f i) := by
  obtain ⟨p, c', e2, h⟩ := h
  rw [e] at e2
  injection e2 with e2
  subst e2
  rcases h with h | ⟨b, o, cs, z, e3, h1, h2⟩
  · omega
  · injection e3 with e3
    injection e3 with e3 e4
    subst e3 e4
    rw [cell_of_row w g i _ _ _ h1]
    have := h2 i hi
    rwa [Nat.zero_add] at this
section
attribute [local irreducible] Calls lv Ir
end
end Go.Proofs.Ytmjobnabnkiakaa
