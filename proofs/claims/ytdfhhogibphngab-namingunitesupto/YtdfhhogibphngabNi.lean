/-
  in: is a text in a list?
-/
import Derived.Test.YtdfhhogibphngabNg
namespace Go.Proofs.Ytdfhhogibphngab
open Go.RowKit Go.Maps Go.Sort
theorem less_dec : ∀ (x y : Tx), Op.bytesLess x y = decide (x < y)
  | _, [] => by simp [Op.bytesLess]
  | [], _ :: _ => by simp [Op.bytesLess]
  | a :: x, b :: y => by
    unfold Op.bytesLess
    rw [less_dec x y, Bool.eq_iff_iff]
    simp [List.cons_lt_cons_iff]
theorem mem_take_next {l : List Tx} {k : Nat} {t : Tx} (hk : k < l.length) (h : t ∉ l.take k) (hn : ¬ l.getD k [] = t) : t ∉ l.take (k + 1) := by
  rw [List.take_add_one]
  simp only [List.getD, List.getElem?_eq_getElem hk, Option.getD_some] at hn
  simp only [List.getElem?_eq_getElem hk, Option.toList_some, List.mem_append, List.mem_singleton]
  rintro (e | e)
  · exact h e
  · exact hn e.symm
theorem ins_len (t : Tx) (l : List Tx) : (ins t l).length = l.length + 1 := by
  induction l with
  | nil => rfl
  | cons x r ih =>
    unfold ins
    split
    · rfl
    · simp [ih]
theorem mem_at {l : List Tx} {k : Nat} {t : Tx} (hk : k < l.length) (h : l.getD k [] = t) : t ∈ l := by
  simp only [List.getD, List.getElem?_eq_getElem hk, Option.getD_some] at h
  rw [← h]; exact List.getElem_mem hk
theorem Ot.shape {w : World} {base : Nat} {v : Value} {ts : List Tx} (h : Ot w base v ts) : ∃ p c, v = .slice p ts.length c ∧ Rs w p ts := by
  rcases h.2 with ⟨hv, h0⟩ | ⟨g, cap, cur, hv, hg, hb, h1, h2, h3, h4⟩
  · cases ts with
    | nil => exact ⟨none, 0, hv, .inl rfl⟩
    | cons a t => simp at h0
  · have h' := h
    rw [hv] at h'
    exact ⟨_, _, hv, h'.rs.1⟩
theorem ot_below {w w' : World} {base : Nat} {v : Value} {xs : List Tx} (h : Ot w base v xs) (hb : Below w.heap.size w w') : Ot w' base v xs := by
  refine ⟨h.1, ?_⟩
  rcases h.2 with h1 | ⟨g, cap, c, hv, hg, hh, hc⟩
  · exact .inl h1
  · refine .inr ⟨g, cap, c, hv, hg, ?_, hc⟩
    rw [hb.block g (Array.getElem?_eq_some_iff.1 hh).1]
    exact hh
section
attribute [local irreducible] Calls
set_option maxRecDepth 1000000 in
theorem in_core (b o n c : Nat) (l : List Tx) (t : Tx) (w : World) (hn : n ≤ 8796093022208) (hl : Hid (l.length = n)) (H1 : Hid (∀ i, i < n → w.cell? ⟨b, o + i, none⟩ = some (encStr (l.getD i [])))) :
    Calls Try.prog 15 #[.slice (some ⟨b, o, none⟩) n c, encStr t] w fun e w' => e = .returned (.bool (decide (t ∈ l))) ∧ Below w.heap.size w w' := by
  go_enter Try.func15, Try.ntmps15
  go_wp2
  go_loopw [5] (fun i wr => ∃ k : Nat, k ≤ n ∧ i = .int .i64 k ∧ t ∉ l.take k ∧ Below w.heap.size w wr) (fun i _ => n - (intOf i).toNat)
  case atStart => exact ⟨0, Nat.zero_le _, rfl, by simp, Below.refl _ _⟩
  case round =>
    obtain ⟨k, hk, rfl, hm, hb⟩ := hrel
    by_cases hlt : k < n
    · have hi1 : (k : Int) < (n : Int) := by omega
      obtain ⟨s, hs⟩ : ∃ s, s = l.getD k [] := ⟨_, rfl⟩
      have g1 : wr.cell? ⟨b, o + k, none⟩ = some (encStr s) := by rw [hs]; exact cell_below (H1.out k hlt) hb
      have hl' := hl.out
      by_cases he : s = t
      · have F : Hid (true = decide (t ∈ l)) := (decide_eq_true (mem_at (k := k) (by omega) (by rw [← hs]; exact he))).symm
        clear hs hm hl'
        subst he
        go_wp2
        go_ret
        exact ⟨ret_bool F.out, hb⟩
      · have hne : (s == t) = false := by simp [he]
        have T : Hid (t ∉ l.take (k + 1)) := mem_take_next (by omega) hm (by rw [← hs]; exact he)
        clear he hs hm hl'
        go_wp2
        go_roundw
        case rel => exact ⟨k + 1, by omega, by go_num, T.out, hb⟩
        case measure => simp [intOf]; omega
    · obtain rfl : k = n := by omega
      have hl' := hl.out
      rw [← hl', List.take_length] at hm
      have F : Hid (false = decide (t ∈ l)) := (decide_eq_false hm).symm
      clear hm hl'
      go_wp2
      go_ret
      exact ⟨ret_bool F.out, hb⟩
set_option maxRecDepth 1000000 in
theorem in_nil (a : Option Addr) (c : Nat) (t : Tx) (w : World) : Calls Try.prog 15 #[.slice a 0 c, encStr t] w fun e w' => e = .returned (.bool false) ∧ w' = w := by
  go_enter Try.func15, Try.ntmps15
  go_wp2
  refine wp_loop_rounds 1 ?_
  rw [rounds_succ]
  go_wp2
  go_ret
  exact ⟨rfl, rfl⟩
theorem in_any {a : Option Addr} {n c : Nat} {l : List Tx} {w : World} (h : Rs w a l) (hn : l.length = n) (hm : n ≤ 8796093022208) (t : Tx) :
    Calls Try.prog 15 #[.slice a n c, encStr t] w fun e w' => e = .returned (.bool (decide (t ∈ l))) ∧ Below w.heap.size w w' := by
  rcases h with h | ⟨b, o, rfl, g⟩
  · subst h
    subst hn
    refine (in_nil a c t w).mono ?_
    rintro e w' ⟨rfl, rfl⟩
    exact ⟨by simp, Below.refl _ _⟩
  · exact in_core b o n c l t w hm hn (fun i hi => g i (by omega))
end
end Go.Proofs.Ytdfhhogibphngab
