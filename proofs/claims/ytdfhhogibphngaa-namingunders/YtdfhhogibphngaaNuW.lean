/-
  The law of the keys among names: the walk.
-/
import Derived.Test.YtdfhhogibphngaaNv
namespace Go.Proofs.Ytdfhhogibphngaa
open Go.RowKit Go.Maps Go.Sort
section
attribute [local irreducible] Calls
set_option maxHeartbeats 4000000 in
set_option maxRecDepth 1000000 in
theorem unders_walk {a : Option Addr} {n c : Nat} {ns : List Tx} {w : World} (h : Rs w a ns) (hn : ns.length = n) (hm : n ≤ 8796093022207) (p : Tx) :
    Calls Try.prog 7 #[.slice a n c, encStr p] w fun e w' => e = .returned (.bool true) ∧ Below w.heap.size w w' := by
  have hr := runder_any (c := c) h hn hm p
  have hu : ∀ w1, Below w.heap.size w w1 → _ := fun w1 hb => under_any (c := c) (h.below hb) hn (by omega) p
  clear hn
  go_enter Try.func7, Try.ntmps7
  go_wp2_with (first
    | (go_at_call 16; refine hr.mono ?_; rintro e w1 ⟨v1, l1, rfl, hU1, hl1, hO1, hb1⟩; obtain ⟨q1, c1, hv1, hR1⟩ := hO1.shape; rw [hv1])
    | (go_at_call 18; refine (hu w1 hb1).mono ?_; rintro e w2 ⟨g2, c2, l2, rfl, hU2, hO2, hb2⟩; obtain rfl := hU1.eq hU2)
    | (go_at_call 17; refine (like_any hO2.rs.1 (hR1.below hb2) rfl rfl (by omega)).mono ?_; rintro e w3 ⟨rfl, hb3⟩; rw [decide_eq_true rfl])
    | (go_at_call 9; refine (known_any _).mono ?_; rintro e w4 ⟨rfl, hb4⟩))
  go_ret
  have a2 := below_trans hb1 hb2 hb1.size
  have a3 := below_trans a2 hb3 a2.size
  exact ⟨rfl, below_trans a3 hb4 a3.size⟩
end
end Go.Proofs.Ytdfhhogibphngaa
