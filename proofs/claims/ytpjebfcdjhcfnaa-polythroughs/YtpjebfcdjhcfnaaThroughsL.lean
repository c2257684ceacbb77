/-
  PolyThroughs: the walk.
-/
import Derived.Test.YtpjebfcdjhcfnaaRefT2
import Derived.Test.YtpjebfcdjhcfnaaDividesW
namespace Go.Proofs.Ytpjebfcdjhcfnaa
open Go.RowKit
theorem refThrough_unevens {w : World} {v1 v2 : Value} {xs ys : List (BitVec 8)} (h1 : Sr w v1 xs) (h2 : Sr w v2 ys) (hl : xs.length ≠ ys.length) :
    Calls Try.prog 30 #[v1, v2] w fun e w' => e = .returned (.tuple #[.slice none 0 0, .int .i64 2]) ∧ w' = w := by
  obtain ⟨p1, c1, rfl, _⟩ := h1
  obtain ⟨p2, c2, rfl, _⟩ := h2
  exact refThrough_uneven p1 p2 _ _ c1 c2 w hl
theorem refThrough_twices {w : World} {v1 v2 : Value} {xs ys : List (BitVec 8)} (h1 : Sr w v1 xs) (h2 : Sr w v2 ys) (hl : xs.length = ys.length) (hn : xs.length ≤ 140737488351232) (hnd : ¬ xs.Nodup) :
    Calls Try.prog 30 #[v1, v2] w fun e w' => e = .returned (.tuple #[.slice none 0 0, .int .i64 20]) ∧ Below w.heap.size w w' := by
  have h3 := h1
  obtain ⟨p1, c1, rfl, _⟩ := h1
  obtain ⟨p2, c2, rfl, _⟩ := h2
  rw [← hl]
  exact refThrough_twice p1 p2 _ c1 c2 xs w h3 hn hnd
section
attribute [local irreducible] Calls el gm trim co vs Rs Sl Sr Lent Rd ev add mul smul van
set_option maxHeartbeats 4000000 in
set_option maxRecDepth 1000000 in
theorem polyThroughs_walk {w : World} {va vb : Value} {xs ys : List (BitVec 8)} (hp : Sr w va xs) (hq : Sr w vb ys) (hn1 : xs.length ≤ 140737488351232) (hn2 : ys.length ≤ 140737488351232) :
    Calls Try.prog 6 #[va, vb] w fun e w' => e = .returned (.bool true) ∧ Below w.heap.size w w' := by
  have L4 : Hid (xs.length ≤ 140737488351232) := hn1
  have L5 : Hid (ys.length ≤ 140737488351232) := hn2
  have L6 : Hid (xs.length ≤ 281474976710656) := by show _ ≤ _; omega
  have L7 : Hid (xs.length + 1 ≤ 281474976710656) := by show _ ≤ _; omega
  have L8 : Hid (xs.length + 4 ≤ 281474976710656) := by show _ ≤ _; omega
  have L9 : Hid ((van xs).length ≤ 281474976710656) := by show _ ≤ _; rw [van_len]; omega
  clear hn1 hn2
  by_cases hl : xs.length ≠ ys.length
  · go_enter Try.func6, Try.ntmps6
    go_wp2_with (first
      | (go_at_call 29; refine (refVanish_any hp L4.out).mono ?_; rintro e w1 ⟨s, rfl, hS, hb1⟩; have hp_1 := hp.below hb1; have hq_1 := hq.below hb1)
      | (go_at_call 30; refine (refThrough_unevens hp_1 hq_1 hl).mono ?_; rintro e w' ⟨rfl, e⟩; obtain rfl := e.symm)
      | (go_at_call 12; refine (lent_sl hp_1 L4.out).mono ?_; rintro e w2 ⟨x, rfl, hX, hb2⟩; have hp_2 := hp_1.below hb2; clear hp_1; have hq_2 := hq_1.below hb2; clear hq_1; have hS_2 := hS.below hb2)
      | (go_at_call 12; refine (lent_sl hq_2 L5.out).mono ?_; rintro e w3 ⟨y, rfl, hY, hb3⟩; have hp_3 := hp_2.below hb3; clear hp_2; have hq_3 := hq_2.below hb3; clear hq_2; have hS_3 := hS_2.below hb3; clear hS_2; have hX_3 := hX.below hb3)
      | (go_at_call 31; refine (pvanish_any hX_3.sl L7.out).mono ?_; rintro e w4 ⟨v, rfl, hV, hb4⟩; have hp_4 := hp_3.below hb4; clear hp_3; have hq_4 := hq_3.below hb4; clear hq_3; have hS_4 := hS_3.below hb4; clear hS_3; have hX_4 := hX_3.below hb4; clear hX_3; have hY_4 := hY.below hb4)
      | (go_at_call 32; refine (pthrough_uneven hX_4.sl.sr hY_4.sl.sr hl).mono ?_; rintro e w' ⟨rfl, e⟩; obtain rfl := e.symm)
      | (go_at_call 14; refine (same_any hV.sr hS_4.sr L9.out).mono ?_; rintro e w5 ⟨rfl, hb5⟩; have hp_5 := hp_4.below hb5; clear hp_4; have hq_5 := hq_4.below hb5; clear hq_4; have hX_5 := hX_4.below hb5; clear hX_4; have hY_5 := hY_4.below hb5; clear hY_4)
      | (go_at_call 28; refine (num_any 2 _).mono ?_; rintro e w' ⟨rfl, e⟩; obtain rfl := e.symm)
      | (go_at_call 14; refine (same_nil none none 0 0 _).mono ?_; rintro e w6 ⟨rfl, hb6⟩; have hp_6 := hp_5.below hb6; clear hp_5; have hq_6 := hq_5.below hb6; clear hq_5; have hX_6 := hX_5.below hb6; clear hX_5; have hY_6 := hY_5.below hb6; clear hY_5)
      | (go_at_call 17; refine (kept_sl hX_6 hp_6 L4.out).mono ?_; rintro e w7 ⟨rfl, hb7⟩; have hp_7 := hp_6.below hb7; clear hp_6; have hq_7 := hq_6.below hb7; clear hq_6; have hY_7 := hY_6.below hb7; clear hY_6)
      | (go_at_call 17; refine (kept_sl hY_7 hq_7 L5.out).mono ?_; rintro e w8 ⟨rfl, hb8⟩; have hp_8 := hp_7.below hb8; clear hp_7; have hq_8 := hq_7.below hb8; clear hq_7))
    go_ret
    exact ⟨rfl, (bt (bt (bt (bt (bt (bt (bt hb1 hb2) hb3) hb4) hb5) hb6) hb7) hb8)⟩
  · have hl : xs.length = ys.length := by omega
    by_cases hnd : ¬ xs.Nodup
    · go_enter Try.func6, Try.ntmps6
      go_wp2_with (first
        | (go_at_call 29; refine (refVanish_any hp L4.out).mono ?_; rintro e w1 ⟨s, rfl, hS, hb1⟩; have hp_1 := hp.below hb1; have hq_1 := hq.below hb1)
        | (go_at_call 30; refine (refThrough_twices hp_1 hq_1 hl L4.out hnd).mono ?_; rintro e w2 ⟨rfl, hb2⟩; have hp_2 := hp_1.below hb2; clear hp_1; have hq_2 := hq_1.below hb2; clear hq_1; have hS_2 := hS.below hb2)
        | (go_at_call 12; refine (lent_sl hp_2 L4.out).mono ?_; rintro e w3 ⟨x, rfl, hX, hb3⟩; have hp_3 := hp_2.below hb3; clear hp_2; have hq_3 := hq_2.below hb3; clear hq_2; have hS_3 := hS_2.below hb3; clear hS_2)
        | (go_at_call 12; refine (lent_sl hq_3 L5.out).mono ?_; rintro e w4 ⟨y, rfl, hY, hb4⟩; have hp_4 := hp_3.below hb4; clear hp_3; have hq_4 := hq_3.below hb4; clear hq_3; have hS_4 := hS_3.below hb4; clear hS_3; have hX_4 := hX.below hb4)
        | (go_at_call 31; refine (pvanish_any hX_4.sl L7.out).mono ?_; rintro e w5 ⟨v, rfl, hV, hb5⟩; have hp_5 := hp_4.below hb5; clear hp_4; have hq_5 := hq_4.below hb5; clear hq_4; have hS_5 := hS_4.below hb5; clear hS_4; have hX_5 := hX_4.below hb5; clear hX_4; have hY_5 := hY.below hb5)
        | (go_at_call 32; refine (pthrough_twice hX_5.sl.sr hY_5.sl.sr hl L6.out hnd).mono ?_; rintro e w6 ⟨rfl, hb6⟩; have hp_6 := hp_5.below hb6; clear hp_5; have hq_6 := hq_5.below hb6; clear hq_5; have hS_6 := hS_5.below hb6; clear hS_5; have hX_6 := hX_5.below hb6; clear hX_5; have hY_6 := hY_5.below hb6; clear hY_5; have hV_6 := hV.below hb6)
        | (go_at_call 14; refine (same_any hV_6.sr hS_6.sr L9.out).mono ?_; rintro e w7 ⟨rfl, hb7⟩; have hp_7 := hp_6.below hb7; clear hp_6; have hq_7 := hq_6.below hb7; clear hq_6; have hX_7 := hX_6.below hb7; clear hX_6; have hY_7 := hY_6.below hb7; clear hY_6)
        | (go_at_call 28; refine (num_any 20 _).mono ?_; rintro e w' ⟨rfl, e⟩; obtain rfl := e.symm)
        | (go_at_call 14; refine (same_nil none none 0 0 _).mono ?_; rintro e w8 ⟨rfl, hb8⟩; have hp_8 := hp_7.below hb8; clear hp_7; have hq_8 := hq_7.below hb8; clear hq_7; have hX_8 := hX_7.below hb8; clear hX_7; have hY_8 := hY_7.below hb8; clear hY_7)
        | (go_at_call 17; refine (kept_sl hX_8 hp_8 L4.out).mono ?_; rintro e w9 ⟨rfl, hb9⟩; have hp_9 := hp_8.below hb9; clear hp_8; have hq_9 := hq_8.below hb9; clear hq_8; have hY_9 := hY_8.below hb9; clear hY_8)
        | (go_at_call 17; refine (kept_sl hY_9 hq_9 L5.out).mono ?_; rintro e w10 ⟨rfl, hb10⟩; have hp_10 := hp_9.below hb10; clear hp_9; have hq_10 := hq_9.below hb10; clear hq_9))
      go_ret
      exact ⟨rfl, (bt (bt (bt (bt (bt (bt (bt (bt (bt hb1 hb2) hb3) hb4) hb5) hb6) hb7) hb8) hb9) hb10)⟩
    · have hnd : xs.Nodup := by
        by_cases h : xs.Nodup
        · exact h
        · exact absurd h hnd
      go_enter Try.func6, Try.ntmps6
      go_wp2_with (first
        | (go_at_call 29; refine (refVanish_any hp L4.out).mono ?_; rintro e w1 ⟨s, rfl, hS, hb1⟩; have hp_1 := hp.below hb1; have hq_1 := hq.below hb1)
        | (go_at_call 30; refine (refThrough_any hp_1 hq_1 hl L4.out hnd).mono ?_; rintro e w2 ⟨tv, t, rfl, hT1, hT, hb2⟩; have hp_2 := hp_1.below hb2; clear hp_1; have hq_2 := hq_1.below hb2; clear hq_1; have hS_2 := hS.below hb2; have LT : Hid (t.length ≤ 281474976710656) := (by show _ ≤ _; have := hT1.out.len; have := L6.out; omega))
        | (go_at_call 12; refine (lent_sl hp_2 L4.out).mono ?_; rintro e w3 ⟨x, rfl, hX, hb3⟩; have hp_3 := hp_2.below hb3; clear hp_2; have hq_3 := hq_2.below hb3; clear hq_2; have hS_3 := hS_2.below hb3; clear hS_2; have hT_3 := hT.below hb3)
        | (go_at_call 12; refine (lent_sl hq_3 L5.out).mono ?_; rintro e w4 ⟨y, rfl, hY, hb4⟩; have hp_4 := hp_3.below hb4; clear hp_3; have hq_4 := hq_3.below hb4; clear hq_3; have hS_4 := hS_3.below hb4; clear hS_3; have hT_4 := hT_3.below hb4; clear hT_3; have hX_4 := hX.below hb4)
        | (go_at_call 31; refine (pvanish_any hX_4.sl L7.out).mono ?_; rintro e w5 ⟨v, rfl, hV, hb5⟩; have hp_5 := hp_4.below hb5; clear hp_4; have hq_5 := hq_4.below hb5; clear hq_4; have hS_5 := hS_4.below hb5; clear hS_4; have hT_5 := hT_4.below hb5; clear hT_4; have hX_5 := hX_4.below hb5; clear hX_4; have hY_5 := hY.below hb5)
        | (go_at_call 32; refine (pthrough_any hX_5.sl.sr hY_5.sl.sr hl L8.out hnd).mono ?_; rintro e w6 ⟨uv, u, rfl, hU1, hU, hb6⟩; have hp_6 := hp_5.below hb6; clear hp_5; have hq_6 := hq_5.below hb6; clear hq_5; have hS_6 := hS_5.below hb6; clear hS_5; have hT_6 := hT_5.below hb6; clear hT_5; have hX_6 := hX_5.below hb6; clear hX_5; have hY_6 := hY_5.below hb6; clear hY_5; have hV_6 := hV.below hb6; have eu := hU1.out.unique hT1.out hnd; rw [eu] at hU; clear eu)
        | (go_at_call 14; refine (same_any hV_6.sr hS_6.sr L9.out).mono ?_; rintro e w7 ⟨rfl, hb7⟩; have hp_7 := hp_6.below hb7; clear hp_6; have hq_7 := hq_6.below hb7; clear hq_6; have hT_7 := hT_6.below hb7; clear hT_6; have hX_7 := hX_6.below hb7; clear hX_6; have hY_7 := hY_6.below hb7; clear hY_6; have hU_7 := hU.below hb7)
        | (go_at_call 28; refine (num_any 0 _).mono ?_; rintro e w' ⟨rfl, e⟩; obtain rfl := e.symm)
        | (go_at_call 14; refine (same_any hU_7.sr hT_7.sr LT.out).mono ?_; rintro e w8 ⟨rfl, hb8⟩; have hp_8 := hp_7.below hb8; clear hp_7; have hq_8 := hq_7.below hb8; clear hq_7; have hX_8 := hX_7.below hb8; clear hX_7; have hY_8 := hY_7.below hb8; clear hY_7)
        | (go_at_call 17; refine (kept_sl hX_8 hp_8 L4.out).mono ?_; rintro e w9 ⟨rfl, hb9⟩; have hp_9 := hp_8.below hb9; clear hp_8; have hq_9 := hq_8.below hb9; clear hq_8; have hY_9 := hY_8.below hb9; clear hY_8)
        | (go_at_call 17; refine (kept_sl hY_9 hq_9 L5.out).mono ?_; rintro e w10 ⟨rfl, hb10⟩; have hp_10 := hp_9.below hb10; clear hp_9; have hq_10 := hq_9.below hb10; clear hq_9))
      go_ret
      exact ⟨rfl, (bt (bt (bt (bt (bt (bt (bt (bt (bt hb1 hb2) hb3) hb4) hb5) hb6) hb7) hb8) hb9) hb10)⟩
end
end Go.Proofs.Ytpjebfcdjhcfnaa
