/-
  in: is a text in a list?
-/
import Derived.Test.YtkljlfhplnoldaaNg
namespace Go.Proofs.Ytkljlfhplnoldaa
open Go.RowKit Go.Maps Go.Sort
theorem less_dec : ∀ (x y : Tx), Op.bytesLess x y = decide (x < y)
  | _, [] => by simp [Op.bytesLess]
  | [], _ :: _ => by simp [Op.bytesLess]
  | a :: x, b :: y => by
    unfold Op.bytesLess
    rw [less_dec x y, Bool.eq_iff_iff]
    simp [List.cons_lt_cons_iff]
theorem mem_take_next {l : List Tx} {k : Nat} {t : Tx} (hk : k < l.length) (h : t ∉ l.take k) (hn : ¬ l.getD k [] = t) : t ∉ l.take (k + 1) := by
  rw [List.take_add_one]
  simp only [List.getD, List.getElem?_eq_getElem hk, Option.getD_some] at hn
  simp only [List.getElem?_eq_getElem hk, Option.toList_some, List.mem_append, List.mem_singleton]
  rintro (e | e)
  · exact h e
  · exact hn e.symm
theorem ins_len (t : Tx) (l : List Tx) : (ins t l).length = l.length + 1 := by
  induction l with
  | nil => rfl
  | cons x r ih =>
    unfold ins
    split
    · rfl
    · simp [ih]
theorem mem_at {l : List Tx} {k : Nat} {t : Tx} (hk : k < l.length) (h : l.getD k [] = t) : t ∈ l := by
  simp only [List.getD, List.getElem?_eq_getElem hk, Option.getD_some] at h
  rw [← h]; exact List.getElem_mem hk
theorem Ot.shape {w : World} {base : Nat} {v : Value} {ts : List Tx} (h : Ot w base v ts) : ∃ p c, v = .slice p ts.length c ∧ Rs w p ts := by
  rcases h.2 with ⟨hv, h0⟩ | ⟨g, cap, cur, hv, hg, hb, h1, h2, h3, h4⟩
  · cases ts with
    | nil => exact ⟨none, 0, hv, .inl rfl⟩
    | cons a t => simp at h0
  · have h' := h
    rw [hv] at h'
    exact ⟨_, _, hv, h'.rs.1⟩
theorem ot_below {w w' : World} {base : Nat} {v : Value} {xs : List Tx} (h : Ot w base v xs) (hb : Below w.heap.size w w') : Ot w' base v xs := by
  refine ⟨h.1, ?_⟩
  rcases h.2 with h1 | ⟨g, cap, c, hv, hg, hh, hc⟩
  · exact .inl h1
  · refine .inr ⟨g, cap, c, hv, hg, ?_, hc⟩
    rw [hb.block g (Array.getElem?_eq_some_iff.1 hh).1]
    exact hh
section
attribute [local irreducible] Calls
end
end Go.Proofs.Ytkljlfhplnoldaa
