/-
  The document's Check, Length.
-/
import Derived.Test.YtnjgfiiimcacbaaQ8d
namespace Go.Proofs.Ytnjgfiiimcacbaa
open Go.RowKit
section
attribute [local irreducible] Calls el Hd.cs
set_option maxHeartbeats 4000000 in
set_option maxRecDepth 1000000 in
theorem rcheck_any (h : Hd) (hi : h.In) (hy : h.key.length ≤ 9223372036854775807) (w : World) :
    Calls Try.prog 19 #[.agg h.cs] w fun e w' => e = .returned (.int .i64 (chk h)) ∧ Below w.heap.size w w' := by
  have al : ∀ (W : World) (o : Obj), Below W.heap.size W (W.alloc o) := fun W o => (Below.refl _ _).alloc (Nat.le_refl _) o
  have hl : (bstr h.key).size = h.key.length := by show (us h.key).toArray.size = _; simp [us]
  have FI := (show Hid _ from fun w => rfits_any h.k h.m h.b hi.k hi.m w)
  have SZ := (show Hid _ from fun w => rsizes_any h.k h.m h.b h.sz hi.k hi.m hi.sz w)
  have HA := HdAt.new w h
  obtain ⟨q8, q9, q10, q11, q12, q13, q14, q15⟩ := HA.cells
  obtain ⟨ik, im, ib, iz, ii, ie, ic⟩ := hi
  unfold In64 at ik im ib iz ii ie ic
  unfold shC at FI SZ
  by_cases h1 : shp h.k h.m h.b
  · have d1 := (shB_iff _ _ _).2 h1
    have e1 : szC h.k h.m h.b h.sz = szE h.k h.b h.sz := by unfold szC; rw [if_neg (not_not_intro h1)]
    rw [e1] at SZ
    have kk : 1 ≤ h.k ∧ h.k ≤ 255 ∧ 1 ≤ h.m ∧ h.m ≤ 255 := by unfold shp at h1; omega
    by_cases h2 : 1 ≤ h.key.length ∧ h.key.length ≤ 255
    · have g1 : ¬ (h.key.length : Int) < 1 := by omega
      have g2 : ¬ 255 < (h.key.length : Int) := by omega
      by_cases h3 : szE h.k h.b h.sz = 0
      · rw [h3] at SZ
        by_cases h4 : 0 ≤ h.ix ∧ h.ix ≤ h.k + h.m - 1
        · have g3 : ¬ h.ix < 0 := by omega
          have g4 : ¬ h.k + h.m ≤ h.ix := by omega
          by_cases h5 : 1 ≤ h.ep ∧ h.ep ≤ 4294967295
          · have g5 : ¬ h.ep < 1 := by omega
            have g6 : ¬ 4294967295 < h.ep := by omega
            by_cases h6 : 1 ≤ h.ct ∧ h.ct ≤ 4294967295
            · have g7 : ¬ h.ct < 1 := by omega
              have g8 : ¬ 4294967295 < h.ct := by omega
              have ec : chk h = 0 := by unfold chk; rw [if_neg (not_not_intro h1), if_neg (not_not_intro h2), if_neg (not_not_intro h3), if_neg (not_not_intro h4), if_neg (not_not_intro ⟨h5, h6⟩)]
              rw [ec]
              clear h1 h2 h3 h4 h5 h6 ec e1
              go_enter Try.func19, Try.ntmps19
              go_wp2_with (first | (go_at_call 37; refine (FI.out _).mono ?_; rintro e w1 ⟨rfl, hb1⟩; rw [d1]; have H1 := HA.below hb1; obtain ⟨q8, q9, q10, q11, q12, q13, q14, q15⟩ := H1.cells) | (go_at_call 20; refine (SZ.out _).mono ?_; rintro e w3 ⟨v, rfl, hO, hb3⟩; obtain ⟨z8, z9, z10, z11, z12, z13, z14, z15⟩ := (H1.below hb3).cells))
              all_goals go_ret
              all_goals exact ⟨rfl, bt (bt (al _ _) hb1) hb3⟩
            · have ec : chk h = 2 := by unfold chk; rw [if_neg (not_not_intro h1), if_neg (not_not_intro h2), if_neg (not_not_intro h3), if_neg (not_not_intro h4), if_pos (fun g => h6 g.2)]
              rw [ec]
              by_cases g7 : h.ct < 1
              · clear h1 h2 h3 h4 h5 h6 ec e1
                go_enter Try.func19, Try.ntmps19
                go_wp2_with (first | (go_at_call 37; refine (FI.out _).mono ?_; rintro e w1 ⟨rfl, hb1⟩; rw [d1]; have H1 := HA.below hb1; obtain ⟨q8, q9, q10, q11, q12, q13, q14, q15⟩ := H1.cells) | (go_at_call 20; refine (SZ.out _).mono ?_; rintro e w3 ⟨v, rfl, hO, hb3⟩; obtain ⟨z8, z9, z10, z11, z12, z13, z14, z15⟩ := (H1.below hb3).cells))
                all_goals go_ret
                all_goals exact ⟨rfl, bt (bt (al _ _) hb1) hb3⟩
              · have g8 : 4294967295 < h.ct := by omega
                clear h1 h2 h3 h4 h5 h6 ec e1
                go_enter Try.func19, Try.ntmps19
                go_wp2_with (first | (go_at_call 37; refine (FI.out _).mono ?_; rintro e w1 ⟨rfl, hb1⟩; rw [d1]; have H1 := HA.below hb1; obtain ⟨q8, q9, q10, q11, q12, q13, q14, q15⟩ := H1.cells) | (go_at_call 20; refine (SZ.out _).mono ?_; rintro e w3 ⟨v, rfl, hO, hb3⟩; obtain ⟨z8, z9, z10, z11, z12, z13, z14, z15⟩ := (H1.below hb3).cells))
                all_goals go_ret
                all_goals exact ⟨rfl, bt (bt (al _ _) hb1) hb3⟩
          · have ec : chk h = 2 := by unfold chk; rw [if_neg (not_not_intro h1), if_neg (not_not_intro h2), if_neg (not_not_intro h3), if_neg (not_not_intro h4), if_pos (fun g => h5 g.1)]
            rw [ec]
            by_cases g7 : h.ep < 1
            · clear h1 h2 h3 h4 h5 ec e1
              go_enter Try.func19, Try.ntmps19
              go_wp2_with (first | (go_at_call 37; refine (FI.out _).mono ?_; rintro e w1 ⟨rfl, hb1⟩; rw [d1]; have H1 := HA.below hb1; obtain ⟨q8, q9, q10, q11, q12, q13, q14, q15⟩ := H1.cells) | (go_at_call 20; refine (SZ.out _).mono ?_; rintro e w3 ⟨v, rfl, hO, hb3⟩; obtain ⟨z8, z9, z10, z11, z12, z13, z14, z15⟩ := (H1.below hb3).cells))
              all_goals go_ret
              all_goals exact ⟨rfl, bt (bt (al _ _) hb1) hb3⟩
            · have g8 : 4294967295 < h.ep := by omega
              clear h1 h2 h3 h4 h5 ec e1
              go_enter Try.func19, Try.ntmps19
              go_wp2_with (first | (go_at_call 37; refine (FI.out _).mono ?_; rintro e w1 ⟨rfl, hb1⟩; rw [d1]; have H1 := HA.below hb1; obtain ⟨q8, q9, q10, q11, q12, q13, q14, q15⟩ := H1.cells) | (go_at_call 20; refine (SZ.out _).mono ?_; rintro e w3 ⟨v, rfl, hO, hb3⟩; obtain ⟨z8, z9, z10, z11, z12, z13, z14, z15⟩ := (H1.below hb3).cells))
              all_goals go_ret
              all_goals exact ⟨rfl, bt (bt (al _ _) hb1) hb3⟩
        · have ec : chk h = 2 := by unfold chk; rw [if_neg (not_not_intro h1), if_neg (not_not_intro h2), if_neg (not_not_intro h3), if_pos h4]
          rw [ec]
          by_cases g3 : h.ix < 0
          · clear h1 h2 h3 h4 ec e1
            go_enter Try.func19, Try.ntmps19
            go_wp2_with (first | (go_at_call 37; refine (FI.out _).mono ?_; rintro e w1 ⟨rfl, hb1⟩; rw [d1]; have H1 := HA.below hb1; obtain ⟨q8, q9, q10, q11, q12, q13, q14, q15⟩ := H1.cells) | (go_at_call 20; refine (SZ.out _).mono ?_; rintro e w3 ⟨v, rfl, hO, hb3⟩; obtain ⟨z8, z9, z10, z11, z12, z13, z14, z15⟩ := (H1.below hb3).cells))
            all_goals go_ret
            all_goals exact ⟨rfl, bt (bt (al _ _) hb1) hb3⟩
          · have g4 : h.k + h.m ≤ h.ix := by omega
            clear h1 h2 h3 h4 ec e1
            go_enter Try.func19, Try.ntmps19
            go_wp2_with (first | (go_at_call 37; refine (FI.out _).mono ?_; rintro e w1 ⟨rfl, hb1⟩; rw [d1]; have H1 := HA.below hb1; obtain ⟨q8, q9, q10, q11, q12, q13, q14, q15⟩ := H1.cells) | (go_at_call 20; refine (SZ.out _).mono ?_; rintro e w3 ⟨v, rfl, hO, hb3⟩; obtain ⟨z8, z9, z10, z11, z12, z13, z14, z15⟩ := (H1.below hb3).cells))
            all_goals go_ret
            all_goals exact ⟨rfl, bt (bt (al _ _) hb1) hb3⟩
      · have ec : chk h = szE h.k h.b h.sz := by unfold chk; rw [if_neg (not_not_intro h1), if_neg (not_not_intro h2), if_pos h3]
        rw [ec]
        have hz := szE_bd h.k h.b h.sz
        generalize szE h.k h.b h.sz = z at h3 SZ hz ⊢
        clear h1 h2 ec e1
        go_enter Try.func19, Try.ntmps19
        go_wp2_with (first | (go_at_call 37; refine (FI.out _).mono ?_; rintro e w1 ⟨rfl, hb1⟩; rw [d1]; have H1 := HA.below hb1; obtain ⟨q8, q9, q10, q11, q12, q13, q14, q15⟩ := H1.cells) | (go_at_call 20; refine (SZ.out _).mono ?_; rintro e w3 ⟨v, rfl, hO, hb3⟩; obtain ⟨z8, z9, z10, z11, z12, z13, z14, z15⟩ := (H1.below hb3).cells))
        all_goals go_ret
        all_goals exact ⟨rfl, bt (bt (al _ _) hb1) hb3⟩
    · have ec : chk h = 90 := by unfold chk; rw [if_neg (not_not_intro h1), if_pos h2]
      rw [ec]
      by_cases g1 : (h.key.length : Int) < 1
      · clear h1 h2 ec e1
        go_enter Try.func19, Try.ntmps19
        go_wp2_with (first | (go_at_call 37; refine (FI.out _).mono ?_; rintro e w1 ⟨rfl, hb1⟩; rw [d1]; have H1 := HA.below hb1; obtain ⟨q8, q9, q10, q11, q12, q13, q14, q15⟩ := H1.cells) | (go_at_call 20; refine (SZ.out _).mono ?_; rintro e w3 ⟨v, rfl, hO, hb3⟩; obtain ⟨z8, z9, z10, z11, z12, z13, z14, z15⟩ := (H1.below hb3).cells))
        all_goals go_ret
        all_goals exact ⟨rfl, bt (al _ _) hb1⟩
      · have g2 : 255 < (h.key.length : Int) := by omega
        clear h1 h2 ec e1
        go_enter Try.func19, Try.ntmps19
        go_wp2_with (first | (go_at_call 37; refine (FI.out _).mono ?_; rintro e w1 ⟨rfl, hb1⟩; rw [d1]; have H1 := HA.below hb1; obtain ⟨q8, q9, q10, q11, q12, q13, q14, q15⟩ := H1.cells) | (go_at_call 20; refine (SZ.out _).mono ?_; rintro e w3 ⟨v, rfl, hO, hb3⟩; obtain ⟨z8, z9, z10, z11, z12, z13, z14, z15⟩ := (H1.below hb3).cells))
        all_goals go_ret
        all_goals exact ⟨rfl, bt (al _ _) hb1⟩
  · have d1 : shB h.k h.m h.b = false := by
      cases e : shB h.k h.m h.b with
      | false => rfl
      | true => exact absurd ((shB_iff _ _ _).1 e) h1
    have ec : chk h = 4 := by unfold chk; rw [if_pos h1]
    rw [ec]
    clear h1 ec
    go_enter Try.func19, Try.ntmps19
    go_wp2_with (first | (go_at_call 37; refine (FI.out _).mono ?_; rintro e w1 ⟨rfl, hb1⟩; rw [d1]; have H1 := HA.below hb1; obtain ⟨q8, q9, q10, q11, q12, q13, q14, q15⟩ := H1.cells) | (go_at_call 20; refine (SZ.out _).mono ?_; rintro e w3 ⟨v, rfl, hO, hb3⟩; obtain ⟨z8, z9, z10, z11, z12, z13, z14, z15⟩ := (H1.below hb3).cells))
    all_goals go_ret
    all_goals exact ⟨rfl, bt (al _ _) hb1⟩
end
end Go.Proofs.Ytnjgfiiimcacbaa
