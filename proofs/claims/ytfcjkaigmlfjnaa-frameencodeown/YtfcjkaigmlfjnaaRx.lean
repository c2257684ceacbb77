/-
  A reading on its way: 'count', 'block'.
-/
import Derived.Test.YtfcjkaigmlfjnaaRw
namespace Go.Proofs.Ytfcjkaigmlfjnaa
open Go.RowKit
theorem tk_next {B : Nat} {w : World} {g : Nat} {bs : List (BitVec 8)} (h : Wk B w g bs) (n : Nat) :
    Calls Try.prog 57 #[.pointer (some ⟨g, 0, none⟩), .int .i64 (n : Int)] w fun e w' => Tell B w g (fun xs W v => Sq W v xs) (tk n bs) e w' := by
  unfold tk
  by_cases hn : bs.length < n
  · rw [if_pos hn]
    exact (next_cut h n (by omega)).mono fun e w' ⟨he, hw⟩ => ⟨by rw [hw]; exact grefl _ _, he⟩
  · rw [if_neg hn]
    have h' : Wk B w g (bs.take n ++ bs.drop n) := by rw [List.take_append_drop]; exact h
    exact (next_ok h' n (by rw [List.length_take]; omega)).mono fun e w' ⟨v, he, hs, hW, hG⟩ => ⟨hG, v, he, hs, hW⟩
section
attribute [local irreducible] Calls el
end
end Go.Proofs.Ytfcjkaigmlfjnaa
