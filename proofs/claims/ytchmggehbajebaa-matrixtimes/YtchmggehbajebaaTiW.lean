/-
  MatrixTimes: the walk.
-/
import Derived.Test.YtchmggehbajebaaMt
import Derived.Test.YtchmggehbajebaaIdW
import Derived.Deep.RegionHeld3
namespace Go.Proofs.Ytchmggehbajebaa
open Go.RowKit
theorem nuE_fam (M : Nat → Nat → Int) : ∃ g : Nat → Nat → BitVec 8, ∀ i j, nuE (g i j) = M i j % 256 :=
  ⟨fun i j => (nuE_sur (M i j)).choose, fun i j => (nuE_sur (M i j)).choose_spec⟩
section
attribute [local irreducible] Calls el nuE NmE Im Jm Ir Jr NrE TrE TmE tc tn fc cw skk
set_option maxHeartbeats 4000000 in
set_option maxRecDepth 1000000 in
theorem timesLE (fl n5 n6 : Int) (vA vB vAt vV : Value) (r1 r2 : Nat) (l1 l2 : Nat → Nat) (M1 M2 : Nat → Nat → Int) (hr1 : r1 ≤ 5864062014805) (hl1 : ∀ i, i < r1 → l1 i ≤ 17592186044416) (hr2 : r2 ≤ 5864062014805) (hl2 : ∀ i, i < r2 → l2 i ≤ 17592186044416) (hs : ∀ w : World, Calls Try.prog 9 #[.int .i64 fl] w fun e w' => e = .returned (.int .i64 256) ∧ w' = w) (w : World) (hA : Jm w vA r1 l1 M1) (hB : Jm w vB r2 l2 M2) :
    Calls Try.prog 3 #[.agg #[.int .i64 fl, vA, vB, vAt, vV, .int .i64 n5, .int .i64 n6]] w fun e w' => e = .returned (.bool true) ∧ Below w.heap.size w w' := by
  have hb0 : Below w.heap.size w (w.alloc (.cells #[.int .i64 fl, vA, vB, vAt, vV, .int .i64 n5, .int .i64 n6] 25)) := (Below.refl _ _).alloc (Nat.le_refl _) _
  have q0 := ask_cell w #[.int .i64 fl, vA, vB, vAt, vV, .int .i64 n5, .int .i64 n6] 25 0 (.int .i64 fl) rfl
  have q1 := ask_cell w #[.int .i64 fl, vA, vB, vAt, vV, .int .i64 n5, .int .i64 n6] 25 1 vA rfl
  have q2 := ask_cell w #[.int .i64 fl, vA, vB, vAt, vV, .int .i64 n5, .int .i64 n6] 25 2 vB rfl
  obtain ⟨g1, hg1⟩ := nuE_fam M1
  obtain ⟨g2, hg2⟩ := nuE_fam M2
  have HG1 : Hid (∀ i j, nuE (g1 i j) = M1 i j % 256) := hg1
  have HG2 : Hid (∀ i j, nuE (g2 i j) = M2 i j % 256) := hg2
  have hA0 := (show Hid _ from hA.below hb0)
  have hB0 := (show Hid _ from hB.below hb0)
  have HL1 : Hid (∀ i, i < r1 → l1 i ≤ 17592186044416) := hl1
  have HN1 : Hid (r1 ≤ 5864062014805) := hr1
  have HL2 : Hid (∀ i, i < r2 → l2 i ≤ 17592186044416) := hl2
  have HN2 : Hid (r2 ≤ 5864062014805) := hr2
  have HW : Hid (∀ i, i < tn r1 l1 r2 l2 → (fun _ : Nat => cw r2 l2) i ≤ 1000) := fun i hi => by have := tn_cw hi; show cw r2 l2 ≤ 1000; omega
  have HR : Hid (tn r1 l1 r2 l2 ≤ 1000) := by have := tn_le r1 l1 r2 l2; show _ ≤ _; omega
  clear hg1 hg2 hr1 hl1 hr2 hl2 hA hB
  go_enter Try.func3, Try.ntmps3
  go_wp2_with (first
    | (go_at_call 9; refine (hs _).mono ?_; rintro e w' ⟨rfl, h⟩; obtain rfl := h.symm)
    | (go_at_call 10; refine (rows_any hA0.out 256 (by omega) HN1.out HL1.out).mono ?_; rintro e w1 ⟨v1, rfl, hI, hb1⟩; have hI1 : Im w1 v1 r1 l1 (fun i j => nuE (g1 i j)) := Im.congr hI (fun i _ j _ => (HG1.out i j).symm); have q21 := cell_below q2 hb1; have hB1 := (show Hid _ from Jm.below hB0.out hb1); clear hI)
    | (go_at_call 10; refine (rows_any hB1.out 256 (by omega) HN2.out HL2.out).mono ?_; rintro e w2 ⟨v2, rfl, hI, hb2⟩; have hI2 : Im w2 v2 r2 l2 (fun i j => nuE (g2 i j)) := Im.congr hI (fun i _ j _ => (HG2.out i j).symm); have hI12 := Im.below hI1 hb2; clear hI)
    | (go_at_call 11; refine (refProduct_any nuE plE tiE oE 256 refMulE nuE_pl nuE_o (Im.jm hI12) (Im.jm hI2)).mono ?_; rintro e w3 ⟨v3, rfl, hM3, hb3⟩; have hI13 := Im.below hI12 hb3; have hI23 := Im.below hI2 hb3)
    | (go_at_call 13; refine (elemss_any (Im.jm hI13) HN1.out HL1.out).mono ?_; rintro e w4 ⟨v4, rfl, hT4, hb4⟩; have hI24 := Im.below hI23 hb4)
    | (go_at_call 13; refine (elemss_any (Im.jm hI24) HN2.out HL2.out).mono ?_; rintro e w5 ⟨v5, rfl, hT5, hb5⟩)
    | (go_at_call 12; refine (timesE_any (TmE.nm (TmE.below hT4 hb5)) (TmE.nm hT5)).mono ?_; rintro e w6 ⟨v6, rfl, hN6, hb6⟩; have hM6 := Im.below hM3 (bt hb4 (bt hb5 hb6)))
    | (go_at_call 14; refine (likesE_any hN6 hM6 HR.out HW.out).mono ?_; rintro e w7 ⟨rfl, hb7⟩))
  go_ret
  exact ⟨rfl, bt (bt (bt (bt (bt (bt (bt hb0 hb1) hb2) hb3) hb4) hb5) hb6) hb7⟩
end
theorem nuB_fam (M : Nat → Nat → Int) : ∃ g : Nat → Nat → Bool, ∀ i j, nuB (g i j) = M i j % 2 :=
  ⟨fun i j => (nuB_sur (M i j)).choose, fun i j => (nuB_sur (M i j)).choose_spec⟩
section
attribute [local irreducible] Calls el nuB NmB Im Jm Ir Jr NrB TrB TmB tc tn fc cw skk
set_option maxHeartbeats 4000000 in
set_option maxRecDepth 1000000 in
theorem timesLB (fl n5 n6 : Int) (vA vB vAt vV : Value) (r1 r2 : Nat) (l1 l2 : Nat → Nat) (M1 M2 : Nat → Nat → Int) (hr1 : r1 ≤ 5864062014805) (hl1 : ∀ i, i < r1 → l1 i ≤ 17592186044416) (hr2 : r2 ≤ 5864062014805) (hl2 : ∀ i, i < r2 → l2 i ≤ 17592186044416) (hs : ∀ w : World, Calls Try.prog 9 #[.int .i64 fl] w fun e w' => e = .returned (.int .i64 2) ∧ w' = w) (w : World) (hA : Jm w vA r1 l1 M1) (hB : Jm w vB r2 l2 M2) :
    Calls Try.prog 3 #[.agg #[.int .i64 fl, vA, vB, vAt, vV, .int .i64 n5, .int .i64 n6]] w fun e w' => e = .returned (.bool true) ∧ Below w.heap.size w w' := by
  have hb0 : Below w.heap.size w (w.alloc (.cells #[.int .i64 fl, vA, vB, vAt, vV, .int .i64 n5, .int .i64 n6] 25)) := (Below.refl _ _).alloc (Nat.le_refl _) _
  have q0 := ask_cell w #[.int .i64 fl, vA, vB, vAt, vV, .int .i64 n5, .int .i64 n6] 25 0 (.int .i64 fl) rfl
  have q1 := ask_cell w #[.int .i64 fl, vA, vB, vAt, vV, .int .i64 n5, .int .i64 n6] 25 1 vA rfl
  have q2 := ask_cell w #[.int .i64 fl, vA, vB, vAt, vV, .int .i64 n5, .int .i64 n6] 25 2 vB rfl
  obtain ⟨g1, hg1⟩ := nuB_fam M1
  obtain ⟨g2, hg2⟩ := nuB_fam M2
  have HG1 : Hid (∀ i j, nuB (g1 i j) = M1 i j % 2) := hg1
  have HG2 : Hid (∀ i j, nuB (g2 i j) = M2 i j % 2) := hg2
  have hA0 := (show Hid _ from hA.below hb0)
  have hB0 := (show Hid _ from hB.below hb0)
  have HL1 : Hid (∀ i, i < r1 → l1 i ≤ 17592186044416) := hl1
  have HN1 : Hid (r1 ≤ 5864062014805) := hr1
  have HL2 : Hid (∀ i, i < r2 → l2 i ≤ 17592186044416) := hl2
  have HN2 : Hid (r2 ≤ 5864062014805) := hr2
  have HW : Hid (∀ i, i < tn r1 l1 r2 l2 → (fun _ : Nat => cw r2 l2) i ≤ 1000) := fun i hi => by have := tn_cw hi; show cw r2 l2 ≤ 1000; omega
  have HR : Hid (tn r1 l1 r2 l2 ≤ 1000) := by have := tn_le r1 l1 r2 l2; show _ ≤ _; omega
  clear hg1 hg2 hr1 hl1 hr2 hl2 hA hB
  go_enter Try.func3, Try.ntmps3
  go_wp2_with (first
    | (go_at_call 9; refine (hs _).mono ?_; rintro e w' ⟨rfl, h⟩; obtain rfl := h.symm)
    | (go_at_call 10; refine (rows_any hA0.out 2 (by omega) HN1.out HL1.out).mono ?_; rintro e w1 ⟨v1, rfl, hI, hb1⟩; have hI1 : Im w1 v1 r1 l1 (fun i j => nuB (g1 i j)) := Im.congr hI (fun i _ j _ => (HG1.out i j).symm); have q21 := cell_below q2 hb1; have hB1 := (show Hid _ from Jm.below hB0.out hb1); clear hI)
    | (go_at_call 10; refine (rows_any hB1.out 2 (by omega) HN2.out HL2.out).mono ?_; rintro e w2 ⟨v2, rfl, hI, hb2⟩; have hI2 : Im w2 v2 r2 l2 (fun i j => nuB (g2 i j)) := Im.congr hI (fun i _ j _ => (HG2.out i j).symm); have hI12 := Im.below hI1 hb2; clear hI)
    | (go_at_call 11; refine (refProduct_any nuB plB tiB oB 2 refMulB nuB_pl nuB_o (Im.jm hI12) (Im.jm hI2)).mono ?_; rintro e w3 ⟨v3, rfl, hM3, hb3⟩; have hI13 := Im.below hI12 hb3; have hI23 := Im.below hI2 hb3)
    | (go_at_call 16; refine (bitss_any (Im.jm hI13) HN1.out HL1.out).mono ?_; rintro e w4 ⟨v4, rfl, hT4, hb4⟩; have hI24 := Im.below hI23 hb4)
    | (go_at_call 16; refine (bitss_any (Im.jm hI24) HN2.out HL2.out).mono ?_; rintro e w5 ⟨v5, rfl, hT5, hb5⟩)
    | (go_at_call 15; refine (timesB_any (TmB.nm (TmB.below hT4 hb5)) (TmB.nm hT5)).mono ?_; rintro e w6 ⟨v6, rfl, hN6, hb6⟩; have hM6 := Im.below hM3 (bt hb4 (bt hb5 hb6)))
    | (go_at_call 17; refine (likesB_any hN6 hM6 HR.out HW.out).mono ?_; rintro e w7 ⟨rfl, hb7⟩))
  go_ret
  exact ⟨rfl, bt (bt (bt (bt (bt (bt (bt hb0 hb1) hb2) hb3) hb4) hb5) hb6) hb7⟩
end
theorem nuF_fam (M : Nat → Nat → Int) : ∃ g : Nat → Nat → (Bool × Bool), ∀ i j, nuF (g i j) = M i j % 4 :=
  ⟨fun i j => (nuF_sur (M i j)).choose, fun i j => (nuF_sur (M i j)).choose_spec⟩
section
attribute [local irreducible] Calls el nuF NmF Im Jm Ir Jr NrF TrF TmF tc tn fc cw skk
set_option maxHeartbeats 4000000 in
set_option maxRecDepth 1000000 in
theorem timesLF (fl n5 n6 : Int) (vA vB vAt vV : Value) (r1 r2 : Nat) (l1 l2 : Nat → Nat) (M1 M2 : Nat → Nat → Int) (hr1 : r1 ≤ 5864062014805) (hl1 : ∀ i, i < r1 → l1 i ≤ 17592186044416) (hr2 : r2 ≤ 5864062014805) (hl2 : ∀ i, i < r2 → l2 i ≤ 17592186044416) (hs : ∀ w : World, Calls Try.prog 9 #[.int .i64 fl] w fun e w' => e = .returned (.int .i64 4) ∧ w' = w) (w : World) (hA : Jm w vA r1 l1 M1) (hB : Jm w vB r2 l2 M2) :
    Calls Try.prog 3 #[.agg #[.int .i64 fl, vA, vB, vAt, vV, .int .i64 n5, .int .i64 n6]] w fun e w' => e = .returned (.bool true) ∧ Below w.heap.size w w' := by
  have hb0 : Below w.heap.size w (w.alloc (.cells #[.int .i64 fl, vA, vB, vAt, vV, .int .i64 n5, .int .i64 n6] 25)) := (Below.refl _ _).alloc (Nat.le_refl _) _
  have q0 := ask_cell w #[.int .i64 fl, vA, vB, vAt, vV, .int .i64 n5, .int .i64 n6] 25 0 (.int .i64 fl) rfl
  have q1 := ask_cell w #[.int .i64 fl, vA, vB, vAt, vV, .int .i64 n5, .int .i64 n6] 25 1 vA rfl
  have q2 := ask_cell w #[.int .i64 fl, vA, vB, vAt, vV, .int .i64 n5, .int .i64 n6] 25 2 vB rfl
  obtain ⟨g1, hg1⟩ := nuF_fam M1
  obtain ⟨g2, hg2⟩ := nuF_fam M2
  have HG1 : Hid (∀ i j, nuF (g1 i j) = M1 i j % 4) := hg1
  have HG2 : Hid (∀ i j, nuF (g2 i j) = M2 i j % 4) := hg2
  have hA0 := (show Hid _ from hA.below hb0)
  have hB0 := (show Hid _ from hB.below hb0)
  have HL1 : Hid (∀ i, i < r1 → l1 i ≤ 17592186044416) := hl1
  have HN1 : Hid (r1 ≤ 5864062014805) := hr1
  have HL2 : Hid (∀ i, i < r2 → l2 i ≤ 17592186044416) := hl2
  have HN2 : Hid (r2 ≤ 5864062014805) := hr2
  have HW : Hid (∀ i, i < tn r1 l1 r2 l2 → (fun _ : Nat => cw r2 l2) i ≤ 1000) := fun i hi => by have := tn_cw hi; show cw r2 l2 ≤ 1000; omega
  have HR : Hid (tn r1 l1 r2 l2 ≤ 1000) := by have := tn_le r1 l1 r2 l2; show _ ≤ _; omega
  clear hg1 hg2 hr1 hl1 hr2 hl2 hA hB
  go_enter Try.func3, Try.ntmps3
  go_wp2_with (first
    | (go_at_call 9; refine (hs _).mono ?_; rintro e w' ⟨rfl, h⟩; obtain rfl := h.symm)
    | (go_at_call 10; refine (rows_any hA0.out 4 (by omega) HN1.out HL1.out).mono ?_; rintro e w1 ⟨v1, rfl, hI, hb1⟩; have hI1 : Im w1 v1 r1 l1 (fun i j => nuF (g1 i j)) := Im.congr hI (fun i _ j _ => (HG1.out i j).symm); have q21 := cell_below q2 hb1; have hB1 := (show Hid _ from Jm.below hB0.out hb1); clear hI)
    | (go_at_call 10; refine (rows_any hB1.out 4 (by omega) HN2.out HL2.out).mono ?_; rintro e w2 ⟨v2, rfl, hI, hb2⟩; have hI2 : Im w2 v2 r2 l2 (fun i j => nuF (g2 i j)) := Im.congr hI (fun i _ j _ => (HG2.out i j).symm); have hI12 := Im.below hI1 hb2; clear hI)
    | (go_at_call 11; refine (refProduct_any nuF plF tiF oF 4 refMulF nuF_pl nuF_o (Im.jm hI12) (Im.jm hI2)).mono ?_; rintro e w3 ⟨v3, rfl, hM3, hb3⟩; have hI13 := Im.below hI12 hb3; have hI23 := Im.below hI2 hb3)
    | (go_at_call 19; refine (fourss_any (Im.jm hI13) HN1.out HL1.out).mono ?_; rintro e w4 ⟨v4, rfl, hT4, hb4⟩; have hI24 := Im.below hI23 hb4)
    | (go_at_call 19; refine (fourss_any (Im.jm hI24) HN2.out HL2.out).mono ?_; rintro e w5 ⟨v5, rfl, hT5, hb5⟩)
    | (go_at_call 18; refine (timesF_any (TmF.nm (TmF.below hT4 hb5)) (TmF.nm hT5)).mono ?_; rintro e w6 ⟨v6, rfl, hN6, hb6⟩; have hM6 := Im.below hM3 (bt hb4 (bt hb5 hb6)))
    | (go_at_call 20; refine (likesF_any hN6 hM6 HR.out HW.out).mono ?_; rintro e w7 ⟨rfl, hb7⟩))
  go_ret
  exact ⟨rfl, bt (bt (bt (bt (bt (bt (bt hb0 hb1) hb2) hb3) hb4) hb5) hb6) hb7⟩
end
theorem matrixTimes_walk (fl n5 n6 : Int) (vA vB vAt vV : Value) (r1 r2 : Nat) (l1 l2 : Nat → Nat) (M1 M2 : Nat → Nat → Int) (hr1 : r1 ≤ 5864062014805) (hr2 : r2 ≤ 5864062014805) (hl1 : ∀ i, i < r1 → l1 i ≤ 17592186044416) (hl2 : ∀ i, i < r2 → l2 i ≤ 17592186044416) (w : World) (hA : Jm w vA r1 l1 M1) (hB : Jm w vB r2 l2 M2) :
    Calls Try.prog 3 #[.agg #[.int .i64 fl, vA, vB, vAt, vV, .int .i64 n5, .int .i64 n6]] w fun e w' => e = .returned (.bool true) ∧ Below w.heap.size w w' := by
  obtain ⟨s, h, hs⟩ := size_any fl
  rcases h with rfl | rfl | rfl
  · exact timesLE fl n5 n6 vA vB vAt vV r1 r2 l1 l2 M1 M2 hr1 hl1 hr2 hl2 hs w hA hB
  · exact timesLB fl n5 n6 vA vB vAt vV r1 r2 l1 l2 M1 M2 hr1 hl1 hr2 hl2 hs w hA hB
  · exact timesLF fl n5 n6 vA vB vAt vV r1 r2 l1 l2 M1 M2 hr1 hl1 hr2 hl2 hs w hA hB
end Go.Proofs.Ytchmggehbajebaa
