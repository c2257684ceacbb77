/-
  Layer 11's laws: 'touches'.
-/
import Derived.Test.YtaddgmbglhdfdaaKq11
namespace Go.Proofs.Ytaddgmbglhdfdaa
open Go.RowKit Go.Maps Go.Sort
section
attribute [local irreducible] Calls GB Ac.v
set_option maxHeartbeats 4000000 in
set_option maxRecDepth 1000000 in
theorem touches_any (k : Int) (s : Ac) (nm : Tx) (w : World) : Calls Try.prog 17 #[.agg (s.v k), encStr nm] w fun e w' => e = .returned (.bool (tch k s.x s.y nm)) ∧ Below w.heap.size w w' := by
  have key : ∀ B : Bool, tch k s.x s.y nm = B → Calls Try.prog 17 #[.agg (s.v k), encStr nm] w fun e w' => e = .returned (.bool B) ∧ Below w.heap.size w w' := by
    intro B hB
    unfold tch at hB
    by_cases e0 : k = 0
    · subst e0
      rw [if_pos (by decide)] at hB
      by_cases ex : s.x = nm
      · obtain rfl : B = true := by rw [← hB]; simp [ex]
        have d0 : (s.x == nm) = true := by simp [ex]
        clear hB ex
        go_enter Try.func17, Try.ntmps17
        go_wp2_with (refine wpList_bxB (cs := s.v 0) rfl _ rfl rfl ?_; intro w1 hG1 hb1 hs1; obtain ⟨c0, c1, c2, _⟩ := ac_c hG1)
        go_ret
        exact ⟨rfl, hb1⟩
      · obtain rfl : B = false := by rw [← hB]; simp [ex]
        have d0 : (s.x == nm) = false := by simp [ex]
        clear hB ex
        go_enter Try.func17, Try.ntmps17
        go_wp2_with (refine wpList_bxB (cs := s.v 0) rfl _ rfl rfl ?_; intro w1 hG1 hb1 hs1; obtain ⟨c0, c1, c2, _⟩ := ac_c hG1)
        go_ret
        exact ⟨rfl, hb1⟩
    by_cases e1 : k = 1
    · subst e1
      rw [if_pos (by decide)] at hB
      by_cases ex : s.x = nm
      · obtain rfl : B = true := by rw [← hB]; simp [ex]
        have d0 : (s.x == nm) = true := by simp [ex]
        clear hB ex
        go_enter Try.func17, Try.ntmps17
        go_wp2_with (refine wpList_bxB (cs := s.v 1) rfl _ rfl rfl ?_; intro w1 hG1 hb1 hs1; obtain ⟨c0, c1, c2, _⟩ := ac_c hG1)
        go_ret
        exact ⟨rfl, hb1⟩
      · obtain rfl : B = false := by rw [← hB]; simp [ex]
        have d0 : (s.x == nm) = false := by simp [ex]
        clear hB ex
        go_enter Try.func17, Try.ntmps17
        go_wp2_with (refine wpList_bxB (cs := s.v 1) rfl _ rfl rfl ?_; intro w1 hG1 hb1 hs1; obtain ⟨c0, c1, c2, _⟩ := ac_c hG1)
        go_ret
        exact ⟨rfl, hb1⟩
    by_cases e4 : k = 4
    · subst e4
      rw [if_pos (by decide)] at hB
      by_cases ex : s.x = nm
      · obtain rfl : B = true := by rw [← hB]; simp [ex]
        have d0 : (s.x == nm) = true := by simp [ex]
        clear hB ex
        go_enter Try.func17, Try.ntmps17
        go_wp2_with (refine wpList_bxB (cs := s.v 4) rfl _ rfl rfl ?_; intro w1 hG1 hb1 hs1; obtain ⟨c0, c1, c2, _⟩ := ac_c hG1)
        go_ret
        exact ⟨rfl, hb1⟩
      · obtain rfl : B = false := by rw [← hB]; simp [ex]
        have d0 : (s.x == nm) = false := by simp [ex]
        clear hB ex
        go_enter Try.func17, Try.ntmps17
        go_wp2_with (refine wpList_bxB (cs := s.v 4) rfl _ rfl rfl ?_; intro w1 hG1 hb1 hs1; obtain ⟨c0, c1, c2, _⟩ := ac_c hG1)
        go_ret
        exact ⟨rfl, hb1⟩
    by_cases e14 : k = 14
    · subst e14
      rw [if_pos (by decide)] at hB
      by_cases ex : s.x = nm
      · obtain rfl : B = true := by rw [← hB]; simp [ex]
        have d0 : (s.x == nm) = true := by simp [ex]
        clear hB ex
        go_enter Try.func17, Try.ntmps17
        go_wp2_with (refine wpList_bxB (cs := s.v 14) rfl _ rfl rfl ?_; intro w1 hG1 hb1 hs1; obtain ⟨c0, c1, c2, _⟩ := ac_c hG1)
        go_ret
        exact ⟨rfl, hb1⟩
      · obtain rfl : B = false := by rw [← hB]; simp [ex]
        have d0 : (s.x == nm) = false := by simp [ex]
        clear hB ex
        go_enter Try.func17, Try.ntmps17
        go_wp2_with (refine wpList_bxB (cs := s.v 14) rfl _ rfl rfl ?_; intro w1 hG1 hb1 hs1; obtain ⟨c0, c1, c2, _⟩ := ac_c hG1)
        go_ret
        exact ⟨rfl, hb1⟩
    by_cases e15 : k = 15
    · subst e15
      rw [if_pos (by decide)] at hB
      by_cases ex : s.x = nm
      · obtain rfl : B = true := by rw [← hB]; simp [ex]
        have d0 : (s.x == nm) = true := by simp [ex]
        clear hB ex
        go_enter Try.func17, Try.ntmps17
        go_wp2_with (refine wpList_bxB (cs := s.v 15) rfl _ rfl rfl ?_; intro w1 hG1 hb1 hs1; obtain ⟨c0, c1, c2, _⟩ := ac_c hG1)
        go_ret
        exact ⟨rfl, hb1⟩
      · obtain rfl : B = false := by rw [← hB]; simp [ex]
        have d0 : (s.x == nm) = false := by simp [ex]
        clear hB ex
        go_enter Try.func17, Try.ntmps17
        go_wp2_with (refine wpList_bxB (cs := s.v 15) rfl _ rfl rfl ?_; intro w1 hG1 hb1 hs1; obtain ⟨c0, c1, c2, _⟩ := ac_c hG1)
        go_ret
        exact ⟨rfl, hb1⟩
    rw [if_neg (by simp [e0, e1, e4, e14, e15])] at hB
    by_cases e3 : k = 3
    · subst e3
      rw [if_pos rfl] at hB
      by_cases ex : s.x = nm
      · obtain rfl : B = true := by rw [← hB]; simp [ex]
        have d0 : (s.x == nm) = true := by simp [ex]
        clear hB ex
        go_enter Try.func17, Try.ntmps17
        go_wp2_with (refine wpList_bxB (cs := s.v 3) rfl _ rfl rfl ?_; intro w1 hG1 hb1 hs1; obtain ⟨c0, c1, c2, _⟩ := ac_c hG1)
        go_ret
        exact ⟨rfl, hb1⟩
      · have d0 : (s.x == nm) = false := by simp [ex]
        by_cases ey : s.y = nm
        · obtain rfl : B = true := by rw [← hB]; simp [ey]
          have d1 : (s.y == nm) = true := by simp [ey]
          clear hB ex ey
          go_enter Try.func17, Try.ntmps17
          go_wp2_with (refine wpList_bxB (cs := s.v 3) rfl _ rfl rfl ?_; intro w1 hG1 hb1 hs1; obtain ⟨c0, c1, c2, _⟩ := ac_c hG1)
          go_ret
          exact ⟨rfl, hb1⟩
        · obtain rfl : B = false := by rw [← hB]; simp [ex, ey]
          have d1 : (s.y == nm) = false := by simp [ey]
          clear hB ex ey
          go_enter Try.func17, Try.ntmps17
          go_wp2_with (refine wpList_bxB (cs := s.v 3) rfl _ rfl rfl ?_; intro w1 hG1 hb1 hs1; obtain ⟨c0, c1, c2, _⟩ := ac_c hG1)
          go_ret
          exact ⟨rfl, hb1⟩
    rw [if_neg e3] at hB
    by_cases e16 : k = 16
    · subst e16
      obtain rfl : B = true := by rw [← hB]; simp
      clear hB
      go_enter Try.func17, Try.ntmps17
      go_wp2_with (refine wpList_bxB (cs := s.v 16) rfl _ rfl rfl ?_; intro w1 hG1 hb1 hs1; obtain ⟨c0, c1, c2, _⟩ := ac_c hG1)
      go_ret
      exact ⟨rfl, hb1⟩
    obtain rfl : B = false := by rw [← hB]; simp [e16]
    have f0 : (k == 0) = false := by simp [e0]
    have f1 : (k == 1) = false := by simp [e1]
    have f4 : (k == 4) = false := by simp [e4]
    have f14 : (k == 14) = false := by simp [e14]
    have f15 : (k == 15) = false := by simp [e15]
    have f3 : (k == 3) = false := by simp [e3]
    have f16 : (k == 16) = false := by simp [e16]
    clear hB
    go_enter Try.func17, Try.ntmps17
    go_wp2_with (refine wpList_bxB (cs := s.v k) rfl _ rfl rfl ?_; intro w1 hG1 hb1 hs1; obtain ⟨c0, c1, c2, _⟩ := ac_c hG1)
    go_ret
    exact ⟨rfl, hb1⟩
  exact key _ rfl
end
end Go.Proofs.Ytaddgmbglhdfdaa
