/-
  like, known.
-/
import Derived.Test.YtkljlfhplnoldaaNu
import Derived.Test.YtkljlfhplnoldaaNo
import Derived.Test.YtkljlfhplnoldaaNd
namespace Go.Proofs.Ytkljlfhplnoldaa
open Go.RowKit Go.Maps Go.Sort
theorem take_more {xs ys : List Tx} {k : Nat} (h1 : k < xs.length) (h2 : k < ys.length) (h : xs.take k = ys.take k) (he : xs.getD k [] = ys.getD k []) : xs.take (k + 1) = ys.take (k + 1) := by
  simp [h1, h2] at he
  rw [List.take_add_one, List.take_add_one, h]
  simp [h1, h2, he]
theorem enc_beq (a b : Tx) : ((⟨a.toArray⟩ : ByteArray).toList == (⟨b.toArray⟩ : ByteArray).toList) = decide (a = b) := beq_dec a b
section
attribute [local irreducible] Calls
set_option maxRecDepth 1000000 in
theorem like_core (b1 o1 b2 o2 n c1 c2 : Nat) (xs ys : List Tx) (w : World) (hn : n ≤ 8796093022208) (hx : Hid (xs.length = n)) (hy : Hid (ys.length = n))
    (H1 : Hid (∀ i, i < n → w.cell? ⟨b1, o1 + i, none⟩ = some (encStr (xs.getD i [])))) (H2 : Hid (∀ i, i < n → w.cell? ⟨b2, o2 + i, none⟩ = some (encStr (ys.getD i [])))) :
    Calls Try.prog 5 #[.slice (some ⟨b1, o1, none⟩) n c1, .slice (some ⟨b2, o2, none⟩) n c2] w fun e w' => e = .returned (.bool (decide (xs = ys))) ∧ Below w.heap.size w w' := by
  go_enter Try.func5, Try.ntmps5
  go_wp2
  go_loopw [5] (fun i wr => ∃ k : Nat, k ≤ n ∧ i = .int .i64 k ∧ xs.take k = ys.take k ∧ Below w.heap.size w wr) (fun i _ => n - (intOf i).toNat)
  case atStart => exact ⟨0, Nat.zero_le _, rfl, rfl, Below.refl _ _⟩
  case round =>
    obtain ⟨k, hk, rfl, ht, hb⟩ := hrel
    by_cases hlt : k < n
    · have hi1 : (k : Int) < (n : Int) := by omega
      obtain ⟨s, hs⟩ : ∃ s, s = xs.getD k [] := ⟨_, rfl⟩
      obtain ⟨t, htt⟩ : ∃ t, t = ys.getD k [] := ⟨_, rfl⟩
      have g1 : wr.cell? ⟨b1, o1 + k, none⟩ = some (encStr s) := by rw [hs]; exact cell_below (H1.out k hlt) hb
      have g2 : wr.cell? ⟨b2, o2 + k, none⟩ = some (encStr t) := by rw [htt]; exact cell_below (H2.out k hlt) hb
      have T : Hid (s = t → xs.take (k + 1) = ys.take (k + 1)) := fun e => take_more (by have := hx.out; omega) (by have := hy.out; omega) ht (by rw [← hs, ← htt, e])
      have T2 : Hid (¬ s = t → decide (xs = ys) = false) := fun e => decide_eq_false (fun e' => e (by rw [hs, htt, e']))
      clear hs htt
      by_cases he : s = t
      · have T' := T.out he
        subst he
        go_wp2
        go_region
        all_goals
          go_wp2
          go_roundw
          case rel => exact ⟨k + 1, by omega, by go_num, T', hb.drew⟩
          case measure => simp [intOf]; omega
      · have hne : (s == t) = false := by simp [he]
        have F : Hid (decide (xs = ys) = false) := T2.out he
        clear he T T2
        go_wp2
        go_region
        all_goals
          go_wp2
          go_ret
          exact ⟨ret_bool F.out.symm, hb.drew⟩
    · obtain rfl : k = n := by omega
      have hxx := hx.out
      have hyy := hy.out
      rw [show ys.take k = ys by rw [← hyy, List.take_length], show xs.take k = xs by rw [← hxx, List.take_length]] at ht
      clear hxx hyy
      have F : Hid (decide (xs = ys) = true) := decide_eq_true ht
      clear ht
      go_wp2
      go_ret
      exact ⟨ret_bool F.out.symm, hb⟩
set_option maxRecDepth 1000000 in
theorem like_nil (a1 a2 : Option Addr) (c1 c2 : Nat) (w : World) : Calls Try.prog 5 #[.slice a1 0 c1, .slice a2 0 c2] w fun e w' => e = .returned (.bool true) ∧ w' = w := by
  go_enter Try.func5, Try.ntmps5
  go_wp2
  refine wp_loop_rounds 1 ?_
  rw [rounds_succ]
  go_wp2
  go_ret
  exact ⟨rfl, rfl⟩
set_option maxRecDepth 1000000 in
theorem like_uneven (a1 a2 : Option Addr) (n m c1 c2 : Nat) (h : ¬ n = m) (w : World) : Calls Try.prog 5 #[.slice a1 n c1, .slice a2 m c2] w fun e w' => e = .returned (.bool false) ∧ w' = w := by
  have h0 : ((n : Int) != (m : Int)) = true := by simp; omega
  clear h
  go_enter Try.func5, Try.ntmps5
  go_wp2
  go_ret
  exact ⟨rfl, rfl⟩
theorem like_any {a1 a2 : Option Addr} {n m c1 c2 : Nat} {xs ys : List Tx} {w : World} (h1 : Rs w a1 xs) (h2 : Rs w a2 ys) (hn : xs.length = n) (hm : ys.length = m) (hl : n ≤ 8796093022208) :
    Calls Try.prog 5 #[.slice a1 n c1, .slice a2 m c2] w fun e w' => e = .returned (.bool (decide (xs = ys))) ∧ Below w.heap.size w w' := by
  by_cases hnm : n = m
  · subst hnm
    by_cases h0 : n = 0
    · subst h0
      rw [List.length_eq_zero_iff.1 hn, List.length_eq_zero_iff.1 hm]
      refine (like_nil a1 a2 c1 c2 w).mono ?_
      rintro e w' ⟨rfl, rfl⟩
      exact ⟨rfl, Below.refl _ _⟩
    · rcases h1 with h1 | ⟨b1, o1, rfl, g1⟩
      · exact absurd (by rw [← hn, h1]; rfl) h0
      · rcases h2 with h2 | ⟨b2, o2, rfl, g2⟩
        · exact absurd (by rw [← hm, h2]; rfl) h0
        · exact like_core b1 o1 b2 o2 n c1 c2 xs ys w hl hn hm (fun i hi => g1 i (by omega)) (fun i hi => g2 i (by omega))
  · rw [decide_eq_false (fun e => hnm (by rw [← hn, ← hm, e]))]
    refine (like_uneven a1 a2 n m c1 c2 hnm w).mono ?_
    rintro e w' ⟨rfl, rfl⟩
    exact ⟨rfl, Below.refl _ _⟩
end
end Go.Proofs.Ytkljlfhplnoldaa
