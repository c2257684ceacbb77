/-
  The laws' own helpers of layer 6: 'both', 'place', 'laid'.
-/
import Derived.Test.YtmpccpcnbenpfaaKy
import Derived.Deep.RegionLaw
namespace Go.Proofs.Ytmpccpcnbenpfaa
open Go.RowKit Go.Great
theorem bt {u v x : World} (h : Below u.heap.size u v) (k : Below v.heap.size v x) : Below u.heap.size u x := h.trans (k.mono h.size)
theorem xl_len : ∀ (l m : List (BitVec 8)), l.length = m.length → (xl l m).length = l.length
  | [], [], _ => rfl
  | x :: l, y :: m, h => by unfold xl; simp at h ⊢; exact xl_len l m h
theorem xl_fn : ∀ (l m : List (BitVec 8)) (i : Nat), l.length = m.length → fn (xl l m) i = fn l i ^^^ fn m i
  | [], [], i, _ => by unfold xl fn; simp
  | x :: l, y :: m, 0, h => rfl
  | x :: l, y :: m, i + 1, h => by
    show fn (xl l m) i = fn l i ^^^ fn m i
    exact xl_fn l m i (by simpa using h)
theorem ow_of {w : World} {base n : Nat} {v : Value} {f : Nat → BitVec 8} {xs : List (BitVec 8)} (h : w.ownsRow base 5 1 v n (vs f n)) (hn : xs.length = n) (hf : ∀ i, i < n → f i = fn xs i) : Ow w base v xs := by
  unfold Ow; rw [hn, ← vs_congr hf]; exact h
section
attribute [local irreducible] Calls el gm vs
end
end Go.Proofs.Ytmpccpcnbenpfaa
