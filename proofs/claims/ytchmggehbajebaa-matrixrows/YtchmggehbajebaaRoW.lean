/-
  MatrixRows: the walk.
-/
import Derived.Test.YtchmggehbajebaaMr
import Derived.Deep.RegionHeld3
namespace Go.Proofs.Ytchmggehbajebaa
open Go.RowKit
theorem nuE_funs (M : Nat → Nat → Int) : ∃ g : Nat → Nat → BitVec 8, ∀ i j, nuE (g i j) = M i j % 256 :=
  ⟨fun i j => (nuE_sur (M i j)).choose, fun i j => (nuE_sur (M i j)).choose_spec⟩
theorem nuB_funs (M : Nat → Nat → Int) : ∃ g : Nat → Nat → Bool, ∀ i j, nuB (g i j) = M i j % 2 :=
  ⟨fun i j => (nuB_sur (M i j)).choose, fun i j => (nuB_sur (M i j)).choose_spec⟩
theorem nuF_funs (M : Nat → Nat → Int) : ∃ g : Nat → Nat → (Bool × Bool), ∀ i j, nuF (g i j) = M i j % 4 :=
  ⟨fun i j => (nuF_sur (M i j)).choose, fun i j => (nuF_sur (M i j)).choose_spec⟩
section
attribute [local irreducible] Calls el nuE NmE Im Jm Ir Jr NrE TrE TmE rc rn fc cw
set_option maxHeartbeats 4000000 in
set_option maxRecDepth 1000000 in
theorem rowsLE (fl n5 n6 : Int) (vA vB vAt vV : Value) (r n : Nat) (l : Nat → Nat) (M : Nat → Nat → Int) (f : Nat → Int) (hr : r ≤ 5864062014805) (hl : ∀ i, i < r → l i ≤ 17592186044416) (hs : ∀ w : World, Calls Try.prog 9 #[.int .i64 fl] w fun e w' => e = .returned (.int .i64 256) ∧ w' = w) (w : World) (hA : Jm w vA r l M) (hAt : Jr w vAt n f) :
    Calls Try.prog 4 #[.agg #[.int .i64 fl, vA, vB, vAt, vV, .int .i64 n5, .int .i64 n6]] w fun e w' => e = .returned (.bool true) ∧ Below w.heap.size w w' := by
  have hb0 : Below w.heap.size w (w.alloc (.cells #[.int .i64 fl, vA, vB, vAt, vV, .int .i64 n5, .int .i64 n6] 25)) := (Below.refl _ _).alloc (Nat.le_refl _) _
  have q0 := ask_cell w #[.int .i64 fl, vA, vB, vAt, vV, .int .i64 n5, .int .i64 n6] 25 0 (.int .i64 fl) rfl
  have q1 := ask_cell w #[.int .i64 fl, vA, vB, vAt, vV, .int .i64 n5, .int .i64 n6] 25 1 vA rfl
  have q3 := ask_cell w #[.int .i64 fl, vA, vB, vAt, vV, .int .i64 n5, .int .i64 n6] 25 3 vAt rfl
  obtain ⟨g, hg⟩ := nuE_funs M
  have HG : Hid (∀ i j, nuE (g i j) = M i j % 256) := hg
  have hA0 := (show Hid _ from hA.below hb0)
  have hT0 := (show Hid _ from hAt.below hb0)
  have HL : Hid (∀ i, i < r → l i ≤ 17592186044416) := hl
  have HN : Hid (r ≤ 5864062014805) := hr
  have HW : Hid (∀ i, i < rn r l n f → (fun _ : Nat => cw r l) i ≤ 1000) := fun i hi => by have := rn_cw hi; show cw r l ≤ 1000; omega
  have HR : Hid (rn r l n f ≤ 1000) := by have := rn_le r l n f; show _ ≤ _; omega
  clear hg hr hl hA hAt
  go_enter Try.func4, Try.ntmps4
  go_wp2_with (first
    | (go_at_call 9; refine (hs _).mono ?_; rintro e w' ⟨rfl, h⟩; obtain rfl := h.symm)
    | (go_at_call 10; refine (rows_any hA0.out 256 (by omega) HN.out HL.out).mono ?_; rintro e w1 ⟨v1, rfl, hI, hb1⟩; have hI1 : Im w1 v1 r l (fun i j => nuE (g i j)) := Im.congr hI (fun i _ j _ => (HG.out i j).symm); have q31 := cell_below q3 hb1; have hT1 := (show Hid _ from Jr.below hT0.out hb1); clear hI)
    | (go_at_call 21; refine (refRows_any (Im.jm hI1) hT1.out).mono ?_; rintro e w2 ⟨v2, rfl, hM2, hb2⟩; have q32 := cell_below q31 hb2; have hI2 := Im.below hI1 hb2; have hT2 := (show Hid _ from Jr.below hT1.out hb2)))
  have d2 := (Below.refl w2.heap.size w2).drew
  have HI3 := (show Hid _ from Im.below hI2 d2)
  have HM3 := (show Hid _ from Im.below hM2 d2)
  have HT3 := (show Hid _ from Jr.below hT2.out d2)
  have q33 := cell_below q32 d2
  clear hI1 hI2 hM2 q0 q1 q31 hT1 hT2
  go_region_held3 (fun W => W.cell? ⟨w.heap.size, 3, none⟩ = some vAt) (first | exact q34.out | exact q35.out | go_keep)
    (first
    | (go_at_call 13; refine (elemss_any (Im.jm HI3.out) HN.out HL.out).mono ?_; rintro e w3 ⟨v3, rfl, hT, hb3⟩; have q34 := (show Hid _ from cell_below q33 hb3))
    | (go_at_call 22; refine (rowsE_any (TmE.nm hT) (Jr.below HT3.out hb3)).mono ?_; rintro e w5 ⟨v5, rfl, hN5, hb5⟩; have q35 := (show Hid _ from cell_below q34.out hb5)))
  all_goals
    have hM5 := (show Hid _ from Im.below HM3.out (bt hb3 hb5))
    go_wp2_with (go_at_call 14; refine (likesE_any hN5 hM5.out HR.out HW.out).mono ?_; rintro e w7 ⟨rfl, hb7⟩)
    go_ret
    exact ⟨rfl, bt (bt (bt (bt (bt (bt hb0 hb1) hb2) d2) hb3) hb5) hb7⟩
end
section
attribute [local irreducible] Calls el nuB NmB Im Jm Ir Jr NrB TrB TmB rc rn fc cw
set_option maxHeartbeats 4000000 in
set_option maxRecDepth 1000000 in
theorem rowsLB (fl n5 n6 : Int) (vA vB vAt vV : Value) (r n : Nat) (l : Nat → Nat) (M : Nat → Nat → Int) (f : Nat → Int) (hr : r ≤ 5864062014805) (hl : ∀ i, i < r → l i ≤ 17592186044416) (hs : ∀ w : World, Calls Try.prog 9 #[.int .i64 fl] w fun e w' => e = .returned (.int .i64 2) ∧ w' = w) (w : World) (hA : Jm w vA r l M) (hAt : Jr w vAt n f) :
    Calls Try.prog 4 #[.agg #[.int .i64 fl, vA, vB, vAt, vV, .int .i64 n5, .int .i64 n6]] w fun e w' => e = .returned (.bool true) ∧ Below w.heap.size w w' := by
  have hb0 : Below w.heap.size w (w.alloc (.cells #[.int .i64 fl, vA, vB, vAt, vV, .int .i64 n5, .int .i64 n6] 25)) := (Below.refl _ _).alloc (Nat.le_refl _) _
  have q0 := ask_cell w #[.int .i64 fl, vA, vB, vAt, vV, .int .i64 n5, .int .i64 n6] 25 0 (.int .i64 fl) rfl
  have q1 := ask_cell w #[.int .i64 fl, vA, vB, vAt, vV, .int .i64 n5, .int .i64 n6] 25 1 vA rfl
  have q3 := ask_cell w #[.int .i64 fl, vA, vB, vAt, vV, .int .i64 n5, .int .i64 n6] 25 3 vAt rfl
  obtain ⟨g, hg⟩ := nuB_funs M
  have HG : Hid (∀ i j, nuB (g i j) = M i j % 2) := hg
  have hA0 := (show Hid _ from hA.below hb0)
  have hT0 := (show Hid _ from hAt.below hb0)
  have HL : Hid (∀ i, i < r → l i ≤ 17592186044416) := hl
  have HN : Hid (r ≤ 5864062014805) := hr
  have HW : Hid (∀ i, i < rn r l n f → (fun _ : Nat => cw r l) i ≤ 1000) := fun i hi => by have := rn_cw hi; show cw r l ≤ 1000; omega
  have HR : Hid (rn r l n f ≤ 1000) := by have := rn_le r l n f; show _ ≤ _; omega
  clear hg hr hl hA hAt
  go_enter Try.func4, Try.ntmps4
  go_wp2_with (first
    | (go_at_call 9; refine (hs _).mono ?_; rintro e w' ⟨rfl, h⟩; obtain rfl := h.symm)
    | (go_at_call 10; refine (rows_any hA0.out 2 (by omega) HN.out HL.out).mono ?_; rintro e w1 ⟨v1, rfl, hI, hb1⟩; have hI1 : Im w1 v1 r l (fun i j => nuB (g i j)) := Im.congr hI (fun i _ j _ => (HG.out i j).symm); have q31 := cell_below q3 hb1; have hT1 := (show Hid _ from Jr.below hT0.out hb1); clear hI)
    | (go_at_call 21; refine (refRows_any (Im.jm hI1) hT1.out).mono ?_; rintro e w2 ⟨v2, rfl, hM2, hb2⟩; have q32 := cell_below q31 hb2; have hI2 := Im.below hI1 hb2; have hT2 := (show Hid _ from Jr.below hT1.out hb2)))
  have d2 := (Below.refl w2.heap.size w2).drew
  have HI3 := (show Hid _ from Im.below hI2 d2)
  have HM3 := (show Hid _ from Im.below hM2 d2)
  have HT3 := (show Hid _ from Jr.below hT2.out d2)
  have q33 := cell_below q32 d2
  clear hI1 hI2 hM2 q0 q1 q31 hT1 hT2
  go_region_held3 (fun W => W.cell? ⟨w.heap.size, 3, none⟩ = some vAt) (first | exact q34.out | exact q35.out | go_keep)
    (first
    | (go_at_call 16; refine (bitss_any (Im.jm HI3.out) HN.out HL.out).mono ?_; rintro e w3 ⟨v3, rfl, hT, hb3⟩; have q34 := (show Hid _ from cell_below q33 hb3))
    | (go_at_call 23; refine (rowsB_any (TmB.nm hT) (Jr.below HT3.out hb3)).mono ?_; rintro e w5 ⟨v5, rfl, hN5, hb5⟩; have q35 := (show Hid _ from cell_below q34.out hb5)))
  all_goals
    have hM5 := (show Hid _ from Im.below HM3.out (bt hb3 hb5))
    go_wp2_with (go_at_call 17; refine (likesB_any hN5 hM5.out HR.out HW.out).mono ?_; rintro e w7 ⟨rfl, hb7⟩)
    go_ret
    exact ⟨rfl, bt (bt (bt (bt (bt (bt hb0 hb1) hb2) d2) hb3) hb5) hb7⟩
end
section
attribute [local irreducible] Calls el nuF NmF Im Jm Ir Jr NrF TrF TmF rc rn fc cw
set_option maxHeartbeats 4000000 in
set_option maxRecDepth 1000000 in
theorem rowsLF (fl n5 n6 : Int) (vA vB vAt vV : Value) (r n : Nat) (l : Nat → Nat) (M : Nat → Nat → Int) (f : Nat → Int) (hr : r ≤ 5864062014805) (hl : ∀ i, i < r → l i ≤ 17592186044416) (hs : ∀ w : World, Calls Try.prog 9 #[.int .i64 fl] w fun e w' => e = .returned (.int .i64 4) ∧ w' = w) (w : World) (hA : Jm w vA r l M) (hAt : Jr w vAt n f) :
    Calls Try.prog 4 #[.agg #[.int .i64 fl, vA, vB, vAt, vV, .int .i64 n5, .int .i64 n6]] w fun e w' => e = .returned (.bool true) ∧ Below w.heap.size w w' := by
  have hb0 : Below w.heap.size w (w.alloc (.cells #[.int .i64 fl, vA, vB, vAt, vV, .int .i64 n5, .int .i64 n6] 25)) := (Below.refl _ _).alloc (Nat.le_refl _) _
  have q0 := ask_cell w #[.int .i64 fl, vA, vB, vAt, vV, .int .i64 n5, .int .i64 n6] 25 0 (.int .i64 fl) rfl
  have q1 := ask_cell w #[.int .i64 fl, vA, vB, vAt, vV, .int .i64 n5, .int .i64 n6] 25 1 vA rfl
  have q3 := ask_cell w #[.int .i64 fl, vA, vB, vAt, vV, .int .i64 n5, .int .i64 n6] 25 3 vAt rfl
  obtain ⟨g, hg⟩ := nuF_funs M
  have HG : Hid (∀ i j, nuF (g i j) = M i j % 4) := hg
  have hA0 := (show Hid _ from hA.below hb0)
  have hT0 := (show Hid _ from hAt.below hb0)
  have HL : Hid (∀ i, i < r → l i ≤ 17592186044416) := hl
  have HN : Hid (r ≤ 5864062014805) := hr
  have HW : Hid (∀ i, i < rn r l n f → (fun _ : Nat => cw r l) i ≤ 1000) := fun i hi => by have := rn_cw hi; show cw r l ≤ 1000; omega
  have HR : Hid (rn r l n f ≤ 1000) := by have := rn_le r l n f; show _ ≤ _; omega
  clear hg hr hl hA hAt
  go_enter Try.func4, Try.ntmps4
  go_wp2_with (first
    | (go_at_call 9; refine (hs _).mono ?_; rintro e w' ⟨rfl, h⟩; obtain rfl := h.symm)
    | (go_at_call 10; refine (rows_any hA0.out 4 (by omega) HN.out HL.out).mono ?_; rintro e w1 ⟨v1, rfl, hI, hb1⟩; have hI1 : Im w1 v1 r l (fun i j => nuF (g i j)) := Im.congr hI (fun i _ j _ => (HG.out i j).symm); have q31 := cell_below q3 hb1; have hT1 := (show Hid _ from Jr.below hT0.out hb1); clear hI)
    | (go_at_call 21; refine (refRows_any (Im.jm hI1) hT1.out).mono ?_; rintro e w2 ⟨v2, rfl, hM2, hb2⟩; have q32 := cell_below q31 hb2; have hI2 := Im.below hI1 hb2; have hT2 := (show Hid _ from Jr.below hT1.out hb2)))
  have d2 := (Below.refl w2.heap.size w2).drew
  have HI3 := (show Hid _ from Im.below hI2 d2)
  have HM3 := (show Hid _ from Im.below hM2 d2)
  have HT3 := (show Hid _ from Jr.below hT2.out d2)
  have q33 := cell_below q32 d2
  clear hI1 hI2 hM2 q0 q1 q31 hT1 hT2
  go_region_held3 (fun W => W.cell? ⟨w.heap.size, 3, none⟩ = some vAt) (first | exact q34.out | exact q35.out | go_keep)
    (first
    | (go_at_call 19; refine (fourss_any (Im.jm HI3.out) HN.out HL.out).mono ?_; rintro e w3 ⟨v3, rfl, hT, hb3⟩; have q34 := (show Hid _ from cell_below q33 hb3))
    | (go_at_call 24; refine (rowsF_any (TmF.nm hT) (Jr.below HT3.out hb3)).mono ?_; rintro e w5 ⟨v5, rfl, hN5, hb5⟩; have q35 := (show Hid _ from cell_below q34.out hb5)))
  all_goals
    have hM5 := (show Hid _ from Im.below HM3.out (bt hb3 hb5))
    go_wp2_with (go_at_call 20; refine (likesF_any hN5 hM5.out HR.out HW.out).mono ?_; rintro e w7 ⟨rfl, hb7⟩)
    go_ret
    exact ⟨rfl, bt (bt (bt (bt (bt (bt hb0 hb1) hb2) d2) hb3) hb5) hb7⟩
end
theorem matrixRows_walk (fl n5 n6 : Int) (vA vB vAt vV : Value) (r n : Nat) (l : Nat → Nat) (M : Nat → Nat → Int) (f : Nat → Int) (hr : r ≤ 5864062014805) (hl : ∀ i, i < r → l i ≤ 17592186044416) (w : World) (hA : Jm w vA r l M) (hAt : Jr w vAt n f) :
    Calls Try.prog 4 #[.agg #[.int .i64 fl, vA, vB, vAt, vV, .int .i64 n5, .int .i64 n6]] w fun e w' => e = .returned (.bool true) ∧ Below w.heap.size w w' := by
  obtain ⟨s, h, hs⟩ := size_any fl
  rcases h with rfl | rfl | rfl
  · exact rowsLE fl n5 n6 vA vB vAt vV r n l M f hr hl hs w hA hAt
  · exact rowsLB fl n5 n6 vA vB vAt vV r n l M f hr hl hs w hA hAt
  · exact rowsLF fl n5 n6 vA vB vAt vV r n l M f hr hl hs w hA hAt
end Go.Proofs.Ytchmggehbajebaa
