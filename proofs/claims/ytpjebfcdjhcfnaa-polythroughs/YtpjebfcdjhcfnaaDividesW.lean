/-
  PolyDivides: the walk.
-/
import Derived.Test.YtpjebfcdjhcfnaaSumsW
import Derived.Test.YtpjebfcdjhcfnaaRefE
import Derived.Test.YtpjebfcdjhcfnaaPDivb
namespace Go.Proofs.Ytpjebfcdjhcfnaa
open Go.RowKit
theorem num_any (k : Int) (w : World) : Calls Try.prog 28 #[.int .i64 k] w fun e w' => e = .returned (.int .i64 k) ∧ w' = w := by
  go_enter Try.func28, Try.ntmps28
  go_wp2
  go_ret
  exact ⟨rfl, rfl⟩
theorem lenDiv {p q s r : List (BitVec 8)} (h : IsDiv p q s r) : s.length ≤ p.length ∧ r.length ≤ q.length := by
  have hq : trim q ≠ [] := by intro e; have := h.lt; rw [e] at this; simp at this
  refine ⟨?_, Nat.le_trans (Nat.le_of_lt h.lt) (trim_len q)⟩
  by_cases hs : trim s = []
  · rw [← h.ts, hs]; simp
  · have h1 := trim_mul_len hs hq
    have hl : 0 < (trim q).length := List.length_pos_iff.2 hq
    have hl2 : 0 < (trim s).length := List.length_pos_iff.2 hs
    have ht := trim_top (mul s q) (by intro e; rw [e] at h1; simp at h1; omega)
    have h2 := h.eq ((trim (mul s q)).length - 1)
    rw [co_ge (p := r) (by have := h.lt; omega)] at h2
    have h3 : co p ((trim (mul s q)).length - 1) ≠ 0#8 := by rw [h2]; simpa using ht
    have h4 := co_lt h3
    rw [← h.ts]; omega
section
attribute [local irreducible] Calls el gm trim co vs Rs Sl Sr Lent Rd ev add mul smul
set_option maxHeartbeats 4000000 in
set_option maxRecDepth 1000000 in
theorem polyDivides_walk {w : World} {va vb : Value} {xs ys : List (BitVec 8)} (hp : Sr w va xs) (hq : Sr w vb ys) (hn1 : xs.length ≤ 140737488351232) (hn2 : ys.length ≤ 140737488351232) :
    Calls Try.prog 5 #[va, vb] w fun e w' => e = .returned (.bool true) ∧ Below w.heap.size w w' := by
  have L4 : Hid (xs.length ≤ 140737488351232) := hn1
  have L5 : Hid (ys.length ≤ 140737488351232) := hn2
  have L6 : Hid (xs.length ≤ 281474976710656) := by show _ ≤ _; omega
  have L7 : Hid (ys.length ≤ 281474976710656) := by show _ ≤ _; omega
  clear hn1 hn2
  by_cases h0 : trim ys = []
  · go_enter Try.func5, Try.ntmps5
    go_wp2_with (first
    | (go_at_call 26; refine (refDivide_zero va vb ys _ hq L5.out h0).mono ?_; rintro e w1 ⟨rfl, hb1⟩; have hp_1 := hp.below hb1; have hq_1 := hq.below hb1)
    | (go_at_call 12; refine (lent_sl hp_1 L4.out).mono ?_; rintro e w2 ⟨x, rfl, hX, hb2⟩; have hp_2 := hp_1.below hb2; clear hp_1; have hq_2 := hq_1.below hb2; clear hq_1)
    | (go_at_call 12; refine (lent_sl hq_2 L5.out).mono ?_; rintro e w3 ⟨y, rfl, hY, hb3⟩; have hp_3 := hp_2.below hb3; clear hp_2; have hq_3 := hq_2.below hb3; clear hq_2; have hX_3 := hX.below hb3)
    | (go_at_call 27; refine (divide_zero _ _ ys _ hY.sl L7.out h0).mono ?_; rintro e w' ⟨rfl, e⟩; obtain rfl := e.symm)
    | (go_at_call 28; refine (num_any 10 _).mono ?_; rintro e w' ⟨rfl, e⟩; obtain rfl := e.symm)
    | (go_at_call 14; refine (same_nil none none 0 0 _).mono ?_; rintro e w4 ⟨rfl, hb4⟩; have hp_4 := hp_3.below hb4; clear hp_3; have hq_4 := hq_3.below hb4; clear hq_3; have hX_4 := hX_3.below hb4; clear hX_3; have hY_4 := hY.below hb4)
    | (go_at_call 14; refine (same_nil none none 0 0 _).mono ?_; rintro e w5 ⟨rfl, hb5⟩; have hp_5 := hp_4.below hb5; clear hp_4; have hq_5 := hq_4.below hb5; clear hq_4; have hX_5 := hX_4.below hb5; clear hX_4; have hY_5 := hY_4.below hb5; clear hY_4)
    | (go_at_call 17; refine (kept_sl hX_5 hp_5 L4.out).mono ?_; rintro e w6 ⟨rfl, hb6⟩; have hp_6 := hp_5.below hb6; clear hp_5; have hq_6 := hq_5.below hb6; clear hq_5; have hY_6 := hY_5.below hb6; clear hY_5)
    | (go_at_call 17; refine (kept_sl hY_6 hq_6 L5.out).mono ?_; rintro e w7 ⟨rfl, hb7⟩; have hp_7 := hp_6.below hb7; clear hp_6; have hq_7 := hq_6.below hb7; clear hq_6))
    go_ret
    exact ⟨rfl, (bt (bt (bt (bt (bt (bt hb1 hb2) hb3) hb4) hb5) hb6) hb7)⟩
  · go_enter Try.func5, Try.ntmps5
    go_wp2_with (first
    | (go_at_call 26; refine (refDivide_any hp hq L4.out L5.out h0).mono ?_; rintro e w1 ⟨s, r, a1, a2, rfl, hD1, hS, hR, hb1⟩; have hp_1 := hp.below hb1; have hq_1 := hq.below hb1; have hls := lenDiv hD1; have LS : Hid (s.length ≤ 281474976710656) := (by show _ ≤ _; have := hls.1; have := L6.out; omega); have LR : Hid (r.length ≤ 281474976710656) := (by show _ ≤ _; have := hls.2; have := L7.out; omega); clear hls)
    | (go_at_call 12; refine (lent_sl hp_1 L4.out).mono ?_; rintro e w2 ⟨x, rfl, hX, hb2⟩; have hp_2 := hp_1.below hb2; clear hp_1; have hq_2 := hq_1.below hb2; clear hq_1; have hS_2 := hS.below hb2; have hR_2 := hR.below hb2)
    | (go_at_call 12; refine (lent_sl hq_2 L5.out).mono ?_; rintro e w3 ⟨y, rfl, hY, hb3⟩; have hp_3 := hp_2.below hb3; clear hp_2; have hq_3 := hq_2.below hb3; clear hq_2; have hS_3 := hS_2.below hb3; clear hS_2; have hR_3 := hR_2.below hb3; clear hR_2; have hX_3 := hX.below hb3)
    | (go_at_call 27; refine (pdivide_any hX_3.sl hY.sl L6.out L7.out h0).mono ?_; rintro e w4 ⟨s2, r2, a3, a4, rfl, hD2, hS2, hR2, _, hb4⟩; have hp_4 := hp_3.below hb4; clear hp_3; have hq_4 := hq_3.below hb4; clear hq_3; have hS_4 := hS_3.below hb4; clear hS_3; have hR_4 := hR_3.below hb4; clear hR_3; have hX_4 := hX_3.below hb4; clear hX_3; have hY_4 := hY.below hb4; obtain ⟨es, er⟩ := hD2.unique hD1; rw [es] at hS2; rw [er] at hR2)
    | (go_at_call 28; refine (num_any 0 _).mono ?_; rintro e w' ⟨rfl, e⟩; obtain rfl := e.symm)
    | (go_at_call 14; refine (same_any hS2.sr hS_4.sr LS.out).mono ?_; rintro e w5 ⟨rfl, hb5⟩; have hp_5 := hp_4.below hb5; clear hp_4; have hq_5 := hq_4.below hb5; clear hq_4; have hR_5 := hR_4.below hb5; clear hR_4; have hX_5 := hX_4.below hb5; clear hX_4; have hY_5 := hY_4.below hb5; clear hY_4; have hR2_5 := hR2.below hb5)
    | (go_at_call 14; refine (same_any hR2_5.sr hR_5.sr LR.out).mono ?_; rintro e w6 ⟨rfl, hb6⟩; have hp_6 := hp_5.below hb6; clear hp_5; have hq_6 := hq_5.below hb6; clear hq_5; have hX_6 := hX_5.below hb6; clear hX_5; have hY_6 := hY_5.below hb6; clear hY_5)
    | (go_at_call 17; refine (kept_sl hX_6 hp_6 L4.out).mono ?_; rintro e w7 ⟨rfl, hb7⟩; have hp_7 := hp_6.below hb7; clear hp_6; have hq_7 := hq_6.below hb7; clear hq_6; have hY_7 := hY_6.below hb7; clear hY_6)
    | (go_at_call 17; refine (kept_sl hY_7 hq_7 L5.out).mono ?_; rintro e w8 ⟨rfl, hb8⟩; have hp_8 := hp_7.below hb8; clear hp_7; have hq_8 := hq_7.below hb8; clear hq_7))
    go_ret
    exact ⟨rfl, (bt (bt (bt (bt (bt (bt (bt hb1 hb2) hb3) hb4) hb5) hb6) hb7) hb8)⟩
end
end Go.Proofs.Ytpjebfcdjhcfnaa
