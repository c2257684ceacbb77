/-
  MatrixPowers: the walk.
-/
import Derived.Test.YtfopegfkgmccdaaKq
import Derived.Deep.RegionHeld3
namespace Go.Proofs.Ytfopegfkgmccdaa
open Go.RowKit
theorem pn_le (cols : Int) (n : Nat) : pn cols n ≤ 1000 := by
  unfold pn
  by_cases h : pc cols n = 0
  · rw [if_pos h]
    unfold pc at h
    by_cases h1 : cols < 0
    · rw [if_pos h1] at h; cases h
    · rw [if_neg h1] at h
      by_cases h2 : 255 < cols
      · rw [if_pos h2] at h; cases h
      · rw [if_neg h2] at h
        by_cases h3 : 255 < n
        · rw [if_pos h3] at h; cases h
        · omega
  · rw [if_neg h]; omega
theorem pl_le (cols : Int) (n i : Nat) (hi : i < pn cols n) : cols.toNat ≤ 1000 := by
  unfold pn at hi
  by_cases h : pc cols n = 0
  · unfold pc at h
    by_cases h1 : cols < 0
    · rw [if_pos h1] at h; cases h
    · rw [if_neg h1] at h
      by_cases h2 : 255 < cols
      · rw [if_pos h2] at h; cases h
      · omega
  · rw [if_neg h] at hi; omega
theorem Jr.congr {w : World} {v : Value} {n : Nat} {f f' : Nat → Int} (h : Jr w v n f) (e : ∀ i, i < n → f i = f' i) : Jr w v n f' := Sv.congr h (fun i hi => by rw [e i hi])
theorem nuE_fun (f : Nat → Int) : ∃ g : Nat → BitVec 8, ∀ i, nuE (g i) = f i % 256 := by
  exact ⟨fun i => (nuE_sur (f i)).choose, fun i => (nuE_sur (f i)).choose_spec⟩
section
attribute [local irreducible] Calls el nuE NmE Im Ir Jr pc pn NrE TrE pwk
set_option maxHeartbeats 4000000 in
set_option maxRecDepth 1000000 in
theorem powersLE (fl cols one : Int) (vA vB vAt vV : Value) (n : Nat) (f : Nat → Int) (hn : n ≤ 17592186044416) (x : BitVec 8) (hs : ∀ w : World, Calls Try.prog 9 #[.int .i64 fl] w fun e w' => e = .returned (.int .i64 256) ∧ w' = w) (hx : Hid (nuE x = one % 256)) (w : World) (hV : Jr w vV n f) :
    Calls Try.prog 4 #[.agg #[.int .i64 fl, vA, vB, vAt, vV, .int .i64 cols, .int .i64 one]] w fun e w' => e = .returned (.bool true) ∧ Below w.heap.size w w' := by
  have hb0 : Below w.heap.size w (w.alloc (.cells #[.int .i64 fl, vA, vB, vAt, vV, .int .i64 cols, .int .i64 one] 25)) := (Below.refl _ _).alloc (Nat.le_refl _) _
  have q0 := ask_cell w #[.int .i64 fl, vA, vB, vAt, vV, .int .i64 cols, .int .i64 one] 25 0 (.int .i64 fl) rfl
  have q4 := ask_cell w #[.int .i64 fl, vA, vB, vAt, vV, .int .i64 cols, .int .i64 one] 25 4 vV rfl
  have q5 := ask_cell w #[.int .i64 fl, vA, vB, vAt, vV, .int .i64 cols, .int .i64 one] 25 5 (.int .i64 cols) rfl
  have q6 := ask_cell w #[.int .i64 fl, vA, vB, vAt, vV, .int .i64 cols, .int .i64 one] 25 6 (.int .i64 one) rfl
  have HLow := (show Hid _ from fun w => low_any 256 one (by omega) w)
  rw [← hx.out] at HLow
  obtain ⟨g, hg⟩ := nuE_fun f
  have HG : Hid (∀ i, nuE (g i) = f i % 256) := hg
  have hV0 := (show Hid _ from hV.below hb0)
  have HL : Hid (∀ i, i < pn cols n → (fun _ : Nat => cols.toNat) i ≤ 1000) := fun i hi => pl_le cols n i hi
  have HN : Hid (n ≤ 17592186044416) := hn
  clear hg hn hV
  go_enter Try.func4, Try.ntmps4
  go_wp2_with (first
    | (go_at_call 9; refine (hs _).mono ?_; rintro e w' ⟨rfl, h⟩; obtain rfl := h.symm)
    | (go_at_call 10; refine (HLow.out _).mono ?_; rintro e w' ⟨rfl, h⟩; obtain rfl := h.symm)
    | (go_at_call 21; refine (list_any hV0.out 256 (by omega) HN.out).mono ?_; rintro e w1 ⟨v1, rfl, hI, hb1⟩; have hI1 : Ir w1 v1 n (fun j => nuE (g j)) := Ir.congr hI (fun i _ => (HG.out i).symm); have q51 := cell_below q5 hb1; clear hI)
    | (go_at_call 22; refine (refPowers_any nuE tiE 256 refMulE (Ir.jr hI1) cols x).mono ?_; rintro e w2 ⟨v2, rfl, hM2, hb2⟩; have q52 := cell_below q51 hb2; have hI2 := Ir.below hI1 hb2))
  have d2 := (Below.refl w2.heap.size w2).drew
  have hI3 := Ir.below hI2 d2
  have hM3 := Im.below hM2 d2
  have q53 := cell_below q52 d2
  have HI3 := (show Hid _ from hI3)
  have HM3 := (show Hid _ from hM3)
  clear hI3 hM3 hI1 hI2 hM2 q0 q4 q6 q51
  go_region_held3 (fun W => W.cell? ⟨w.heap.size, 5, none⟩ = some (.int .i64 cols)) (first | exact q54.out | exact q55.out | exact q56.out | go_keep)
    (first
    | (go_at_call 24; refine (elems_any (Ir.jr HI3.out) HN.out).mono ?_; rintro e w3 ⟨v3, rfl, hT3, hb3⟩; have q54 := (show Hid _ from cell_below q53 hb3))
    | (go_at_call 13; refine (elem_any x _).mono ?_; rintro e w' ⟨rfl, h⟩; obtain rfl := h.symm)
    | (go_at_call 23; refine (powersE_any hT3.nr cols x).mono ?_; rintro e w5 ⟨v5, rfl, hN5, hb5⟩; have q55 := (show Hid _ from cell_below q54.out hb5))
    )
  all_goals
    have hM5 := (show Hid _ from Im.below HM3.out (bt hb3 hb5))
    go_wp2_with (go_at_call 14; refine (likesE_any hN5 hM5.out (pn_le cols n) HL.out).mono ?_; rintro e w7 ⟨rfl, hb7⟩)
    go_ret
    exact ⟨rfl, bt (bt (bt (bt (bt (bt hb0 hb1) hb2) d2) hb3) hb5) hb7⟩
end
theorem nuB_fun (f : Nat → Int) : ∃ g : Nat → Bool, ∀ i, nuB (g i) = f i % 2 := by
  exact ⟨fun i => (nuB_sur (f i)).choose, fun i => (nuB_sur (f i)).choose_spec⟩
section
attribute [local irreducible] Calls el nuB NmB Im Ir Jr pc pn NrB TrB pwk
set_option maxHeartbeats 4000000 in
set_option maxRecDepth 1000000 in
theorem powersLB (fl cols one : Int) (vA vB vAt vV : Value) (n : Nat) (f : Nat → Int) (hn : n ≤ 17592186044416) (x : Bool) (hs : ∀ w : World, Calls Try.prog 9 #[.int .i64 fl] w fun e w' => e = .returned (.int .i64 2) ∧ w' = w) (hx : Hid (nuB x = one % 2)) (w : World) (hV : Jr w vV n f) :
    Calls Try.prog 4 #[.agg #[.int .i64 fl, vA, vB, vAt, vV, .int .i64 cols, .int .i64 one]] w fun e w' => e = .returned (.bool true) ∧ Below w.heap.size w w' := by
  have hb0 : Below w.heap.size w (w.alloc (.cells #[.int .i64 fl, vA, vB, vAt, vV, .int .i64 cols, .int .i64 one] 25)) := (Below.refl _ _).alloc (Nat.le_refl _) _
  have q0 := ask_cell w #[.int .i64 fl, vA, vB, vAt, vV, .int .i64 cols, .int .i64 one] 25 0 (.int .i64 fl) rfl
  have q4 := ask_cell w #[.int .i64 fl, vA, vB, vAt, vV, .int .i64 cols, .int .i64 one] 25 4 vV rfl
  have q5 := ask_cell w #[.int .i64 fl, vA, vB, vAt, vV, .int .i64 cols, .int .i64 one] 25 5 (.int .i64 cols) rfl
  have q6 := ask_cell w #[.int .i64 fl, vA, vB, vAt, vV, .int .i64 cols, .int .i64 one] 25 6 (.int .i64 one) rfl
  have HLow := (show Hid _ from fun w => low_any 2 one (by omega) w)
  rw [← hx.out] at HLow
  obtain ⟨g, hg⟩ := nuB_fun f
  have HG : Hid (∀ i, nuB (g i) = f i % 2) := hg
  have hV0 := (show Hid _ from hV.below hb0)
  have HL : Hid (∀ i, i < pn cols n → (fun _ : Nat => cols.toNat) i ≤ 1000) := fun i hi => pl_le cols n i hi
  have HN : Hid (n ≤ 17592186044416) := hn
  clear hg hn hV
  go_enter Try.func4, Try.ntmps4
  go_wp2_with (first
    | (go_at_call 9; refine (hs _).mono ?_; rintro e w' ⟨rfl, h⟩; obtain rfl := h.symm)
    | (go_at_call 10; refine (HLow.out _).mono ?_; rintro e w' ⟨rfl, h⟩; obtain rfl := h.symm)
    | (go_at_call 21; refine (list_any hV0.out 2 (by omega) HN.out).mono ?_; rintro e w1 ⟨v1, rfl, hI, hb1⟩; have hI1 : Ir w1 v1 n (fun j => nuB (g j)) := Ir.congr hI (fun i _ => (HG.out i).symm); have q51 := cell_below q5 hb1; clear hI)
    | (go_at_call 22; refine (refPowers_any nuB tiB 2 refMulB (Ir.jr hI1) cols x).mono ?_; rintro e w2 ⟨v2, rfl, hM2, hb2⟩; have q52 := cell_below q51 hb2; have hI2 := Ir.below hI1 hb2))
  have d2 := (Below.refl w2.heap.size w2).drew
  have hI3 := Ir.below hI2 d2
  have hM3 := Im.below hM2 d2
  have q53 := cell_below q52 d2
  have HI3 := (show Hid _ from hI3)
  have HM3 := (show Hid _ from hM3)
  clear hI3 hM3 hI1 hI2 hM2 q0 q4 q6 q51
  go_region_held3 (fun W => W.cell? ⟨w.heap.size, 5, none⟩ = some (.int .i64 cols)) (first | exact q54.out | exact q55.out | exact q56.out | go_keep)
    (first
    | (go_at_call 26; refine (bits_any (Ir.jr HI3.out) HN.out).mono ?_; rintro e w3 ⟨v3, rfl, hT3, hb3⟩; have q54 := (show Hid _ from cell_below q53 hb3))
    | (go_at_call 16; refine (bit_any x _).mono ?_; rintro e w' ⟨rfl, h⟩; obtain rfl := h.symm)
    | (go_at_call 25; refine (powersB_any hT3.nr cols x).mono ?_; rintro e w5 ⟨v5, rfl, hN5, hb5⟩; have q55 := (show Hid _ from cell_below q54.out hb5))
    )
  all_goals
    have hM5 := (show Hid _ from Im.below HM3.out (bt hb3 hb5))
    go_wp2_with (go_at_call 17; refine (likesB_any hN5 hM5.out (pn_le cols n) HL.out).mono ?_; rintro e w7 ⟨rfl, hb7⟩)
    go_ret
    exact ⟨rfl, bt (bt (bt (bt (bt (bt hb0 hb1) hb2) d2) hb3) hb5) hb7⟩
end
theorem nuF_fun (f : Nat → Int) : ∃ g : Nat → (Bool × Bool), ∀ i, nuF (g i) = f i % 4 := by
  exact ⟨fun i => (nuF_sur (f i)).choose, fun i => (nuF_sur (f i)).choose_spec⟩
section
attribute [local irreducible] Calls el nuF NmF Im Ir Jr pc pn NrF TrF pwk
set_option maxHeartbeats 4000000 in
set_option maxRecDepth 1000000 in
theorem powersLF (fl cols one : Int) (vA vB vAt vV : Value) (n : Nat) (f : Nat → Int) (hn : n ≤ 17592186044416) (x : (Bool × Bool)) (hs : ∀ w : World, Calls Try.prog 9 #[.int .i64 fl] w fun e w' => e = .returned (.int .i64 4) ∧ w' = w) (hx : Hid (nuF x = one % 4)) (w : World) (hV : Jr w vV n f) :
    Calls Try.prog 4 #[.agg #[.int .i64 fl, vA, vB, vAt, vV, .int .i64 cols, .int .i64 one]] w fun e w' => e = .returned (.bool true) ∧ Below w.heap.size w w' := by
  have hb0 : Below w.heap.size w (w.alloc (.cells #[.int .i64 fl, vA, vB, vAt, vV, .int .i64 cols, .int .i64 one] 25)) := (Below.refl _ _).alloc (Nat.le_refl _) _
  have q0 := ask_cell w #[.int .i64 fl, vA, vB, vAt, vV, .int .i64 cols, .int .i64 one] 25 0 (.int .i64 fl) rfl
  have q4 := ask_cell w #[.int .i64 fl, vA, vB, vAt, vV, .int .i64 cols, .int .i64 one] 25 4 vV rfl
  have q5 := ask_cell w #[.int .i64 fl, vA, vB, vAt, vV, .int .i64 cols, .int .i64 one] 25 5 (.int .i64 cols) rfl
  have q6 := ask_cell w #[.int .i64 fl, vA, vB, vAt, vV, .int .i64 cols, .int .i64 one] 25 6 (.int .i64 one) rfl
  have HLow := (show Hid _ from fun w => low_any 4 one (by omega) w)
  rw [← hx.out] at HLow
  obtain ⟨g, hg⟩ := nuF_fun f
  have HG : Hid (∀ i, nuF (g i) = f i % 4) := hg
  have hV0 := (show Hid _ from hV.below hb0)
  have HL : Hid (∀ i, i < pn cols n → (fun _ : Nat => cols.toNat) i ≤ 1000) := fun i hi => pl_le cols n i hi
  have HN : Hid (n ≤ 17592186044416) := hn
  clear hg hn hV
  go_enter Try.func4, Try.ntmps4
  go_wp2_with (first
    | (go_at_call 9; refine (hs _).mono ?_; rintro e w' ⟨rfl, h⟩; obtain rfl := h.symm)
    | (go_at_call 10; refine (HLow.out _).mono ?_; rintro e w' ⟨rfl, h⟩; obtain rfl := h.symm)
    | (go_at_call 21; refine (list_any hV0.out 4 (by omega) HN.out).mono ?_; rintro e w1 ⟨v1, rfl, hI, hb1⟩; have hI1 : Ir w1 v1 n (fun j => nuF (g j)) := Ir.congr hI (fun i _ => (HG.out i).symm); have q51 := cell_below q5 hb1; clear hI)
    | (go_at_call 22; refine (refPowers_any nuF tiF 4 refMulF (Ir.jr hI1) cols x).mono ?_; rintro e w2 ⟨v2, rfl, hM2, hb2⟩; have q52 := cell_below q51 hb2; have hI2 := Ir.below hI1 hb2))
  have d2 := (Below.refl w2.heap.size w2).drew
  have hI3 := Ir.below hI2 d2
  have hM3 := Im.below hM2 d2
  have q53 := cell_below q52 d2
  have HI3 := (show Hid _ from hI3)
  have HM3 := (show Hid _ from hM3)
  clear hI3 hM3 hI1 hI2 hM2 q0 q4 q6 q51
  go_region_held3 (fun W => W.cell? ⟨w.heap.size, 5, none⟩ = some (.int .i64 cols)) (first | exact q54.out | exact q55.out | exact q56.out | go_keep)
    (first
    | (go_at_call 28; refine (fours_any (Ir.jr HI3.out) HN.out).mono ?_; rintro e w3 ⟨v3, rfl, hT3, hb3⟩; have q54 := (show Hid _ from cell_below q53 hb3))
    | (go_at_call 19; refine (four_any x _).mono ?_; rintro e w4 ⟨rfl, hb4⟩; have q56 := (show Hid _ from cell_below q54.out hb4))
    | (go_at_call 27; refine (powersF_any (TrF.nr (TrF.below hT3 hb4)) cols x).mono ?_; rintro e w5 ⟨v5, rfl, hN5, hb5⟩; have q55 := (show Hid _ from cell_below q56.out hb5))
    )
  all_goals
    have hM5 := (show Hid _ from Im.below HM3.out (bt hb3 (bt hb4 hb5)))
    go_wp2_with (go_at_call 20; refine (likesF_any hN5 hM5.out (pn_le cols n) HL.out).mono ?_; rintro e w7 ⟨rfl, hb7⟩)
    go_ret
    exact ⟨rfl, bt (bt (bt (bt (bt (bt (bt hb0 hb1) hb2) d2) hb3) hb4) hb5) hb7⟩
end
theorem matrixPowers_walk (fl cols one : Int) (vA vB vAt vV : Value) (n : Nat) (f : Nat → Int) (hn : n ≤ 17592186044416) (w : World) (hV : Jr w vV n f) :
    Calls Try.prog 4 #[.agg #[.int .i64 fl, vA, vB, vAt, vV, .int .i64 cols, .int .i64 one]] w fun e w' => e = .returned (.bool true) ∧ Below w.heap.size w w' := by
  obtain ⟨s, h, hs⟩ := size_any fl
  rcases h with rfl | rfl | rfl
  · obtain ⟨x, hx⟩ := nuE_sur one
    exact powersLE fl cols one vA vB vAt vV n f hn x hs hx w hV
  · obtain ⟨x, hx⟩ := nuB_sur one
    exact powersLB fl cols one vA vB vAt vV n f hn x hs hx w hV
  · obtain ⟨x, hx⟩ := nuF_sur one
    exact powersLF fl cols one vA vB vAt vV n f hn x hs hx w hV
end Go.Proofs.Ytfopegfkgmccdaa
