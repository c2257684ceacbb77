/-
  'Times'.
-/
import Derived.Test.YtbjmdijphciliaaJoinb
namespace Go.Proofs.Ytbjmdijphciliaa
open Go.RowKit

theorem Sl.cells {w : World} {v : Value} {xs : List (BitVec 8)} (h : Sl w v xs) (h0 : xs ≠ []) : ∃ b o c, v = .slice (some ⟨b, o, none⟩) xs.length c ∧ xs.length ≤ c ∧ c ≤ 9223372036854775807 ∧ b < w.heap.size ∧ ∀ i, i < xs.length → w.cell? ⟨b, o + i, none⟩ = some (.int .u8 (el (co xs i))) := by
  obtain ⟨p, c, rfl, hc, hm, hr, _⟩ := h
  rcases hr with h | ⟨b, o, rfl, hcell⟩
  · exact absurd h h0
  · exact ⟨b, o, c, rfl, hc, hm, block_lt_of_cell (hcell 0 (List.length_pos_iff.2 h0)), hcell⟩
theorem Sl.of_cells {w : World} {b o n c : Nat} {xs : List (BitVec 8)} (hl : xs.length = n) (hc : n ≤ c) (hm : c ≤ 9223372036854775807) (h : ∀ i, i < n → w.cell? ⟨b, o + i, none⟩ = some (.int .u8 (el (co xs i)))) : Sl w (.slice (some ⟨b, o, none⟩) n c) xs := by
  subst hl
  exact ⟨_, c, rfl, hc, hm, .inr ⟨b, o, rfl, h⟩, .inr ⟨b, o, rfl⟩⟩
theorem Sl.empty {w : World} {v : Value} (h : Sl w v []) : ∃ p c, v = .slice p 0 c := by
  obtain ⟨p, c, rfl, _⟩ := h
  exact ⟨p, c, rfl⟩
/-- The world that the loop of Times passes through. -/
theorem times_step {w : World} {G N k : Nat} {ps qs : List (BitVec 8)} (h : Own w 48 G (fun i => co (mul (ps.take k) qs) i ^^^ adq k (co ps k) qs i) N) (hk : k < ps.length) : Own w 48 G (co (mul (ps.take (k + 1)) qs)) N :=
  h.congr (fun i _ => by rw [mul_take_succ qs hk i]; rfl)
section
attribute [local irreducible] Calls el gm trim co Own Rs mul adq
set_option maxHeartbeats 4000000 in
set_option maxRecDepth 1000000 in
theorem times_zero (v1 v2 : Value) (xs ys : List (BitVec 8)) (w : World) (h1 : Sl w v1 xs) (h2 : Sl w v2 ys) (hn1 : xs.length ≤ 281474976710656) (hn2 : ys.length ≤ 281474976710656) (h0 : trim xs = [] ∨ trim ys = []) :
    Calls Try.prog 17 #[v1, v2] w fun e w' => e = .returned (.slice none 0 0) ∧ w' = w := by
  have C1 := (show Hid _ from cut_any h1 hn1)
  have C2 := (show Hid _ from cut_any h2 hn2)
  by_cases e1 : trim xs = []
  · rw [e1] at C1
    go_enter Try.func17, Try.ntmps17
    go_wp2_with (first | (go_at_call 31; refine C1.out.mono ?_; rintro e w' ⟨v, rfl, hR, h⟩; obtain rfl := h.symm; obtain ⟨p, c, rfl⟩ := hR.empty) | (go_at_call 31; refine C2.out.mono ?_; rintro e w' ⟨v, rfl, hR2, h⟩; obtain rfl := h.symm))
    go_ret
    exact ⟨rfl, rfl⟩
  · have e2 : trim ys = [] := by rcases h0 with h | h; exact absurd h e1; exact h
    rw [e2] at C2
    have l1 : ¬ ((trim xs).length : Int) = 0 := by have := List.length_pos_iff.2 e1; omega
    have l2 : (((trim xs).length : Int) == 0) = false := by simp; exact e1
    go_enter Try.func17, Try.ntmps17
    go_wp2_with (first | (go_at_call 31; refine C1.out.mono ?_; rintro e w' ⟨v, rfl, hR, h⟩; obtain rfl := h.symm; obtain ⟨b, o, c, rfl, _⟩ := hR.cells e1) | (go_at_call 31; refine C2.out.mono ?_; rintro e w' ⟨v, rfl, hR2, h⟩; obtain rfl := h.symm; obtain ⟨p2, c2, rfl⟩ := hR2.empty))
    go_ret
    exact ⟨rfl, rfl⟩
/-- What Times answers, of two lists that are not zero. -/
def TimesPost (w : World) (ps qs : List (BitVec 8)) (n1 n2 : Nat) (e : Ending) (w' : World) : Prop := ∃ G, e = .returned (.slice (some ⟨G, 0, none⟩) (n1 + n2 - 1) (n1 + n2 - 1)) ∧ w.heap.size ≤ G ∧ Own w' 48 G (co (mul ps qs)) (n1 + n2 - 1) ∧ Below w.heap.size w w'
-- WALKS
set_option maxHeartbeats 8000000 in
set_option maxRecDepth 1000000 in
theorem times_le (v1 v2 : Value) (xs ys ps qs : List (BitVec 8)) (n1 n2 : Nat) (w : World) (h1 : Sl w v1 xs) (h2 : Sl w v2 ys) (hn1 : xs.length ≤ 281474976710656) (hn2 : ys.length ≤ 281474976710656)
    (hp : Hid (trim xs = ps)) (hq : Hid (trim ys = qs)) (hlp : Hid (ps.length = n1)) (hlq : Hid (qs.length = n2)) (h01 : 0 < n1) (h02 : 0 < n2) (hle : n1 ≤ n2) (hs : n1 + n2 ≤ 281474976710656) :
    Calls Try.prog 17 #[v1, v2] w (TimesPost w ps qs n1 n2) := by
  have C1 := (show Hid _ from cut_any h1 hn1)
  have C2 := (show Hid _ from cut_any h2 hn2)
  rw [hp.out] at C1
  rw [hq.out] at C2
  have e1 : ps ≠ [] := by intro e; have := hlp.out; rw [e] at this; simp at this; omega
  have e2 : qs ≠ [] := by intro e; have := hlq.out; rw [e] at this; simp at this; omega
  have E1 : Hid (ps ≠ []) := e1
  have E2 : Hid (qs ≠ []) := e2
  clear h1 h2 hp hq e1 e2
  have l1 : ((n1 : Int) == 0) = false := by simp; omega
  have l2 : ((n2 : Int) == 0) = false := by simp; omega
  have l3 : ¬ (n2 : Int) < (n1 : Int) := by omega
  have l7 : decide (n2 < n1) = false := by simp; omega
  obtain ⟨N, hN⟩ : ∃ N, N = n1 + n2 - 1 := ⟨_, rfl⟩
  have l4 : wrap64 ((n1 : Int) + (n2 : Int)) = (n1 : Int) + (n2 : Int) := by unfold wrap64; omega
  have l5 : wrap64 ((n1 : Int) + (n2 : Int) - 1) = (N : Int) := by unfold wrap64; omega
  have l6 : (n1 : Int) + (n2 : Int) - 1 = (N : Int) := by omega
  have hmk := make_el N (by omega)
  have HN : Hid (N = n1 + n2 - 1) := hN
  rw [show TimesPost w ps qs n1 n2 = fun e w' => ∃ G, e = .returned (.slice (some ⟨G, 0, none⟩) N N) ∧ w.heap.size ≤ G ∧ Own w' 48 G (co (mul ps qs)) N ∧ Below w.heap.size w w' by rw [hN]; rfl]
  clear hN
  go_enter Try.func17, Try.ntmps17
  go_wp2_with (first | (go_at_call 31; refine C1.out.mono ?_; rintro e w' ⟨v, rfl, hR, h⟩; obtain rfl := h.symm; obtain ⟨b1, o1, c1, rfl, hc1, hm1, hlt1, hcell1⟩ := hR.cells E1.out; rw [hlp.out] at hcell1 hc1 ⊢; have K1 := (show Hid _ from hcell1); clear hcell1 hR C1) | (go_at_call 31; refine C2.out.mono ?_; rintro e w' ⟨v, rfl, hR2, h⟩; obtain rfl := h.symm; obtain ⟨b2, o2, c2, rfl, hc2, hm2, hlt2, hcell2⟩ := hR2.cells E2.out; rw [hlq.out] at hcell2 hc2 ⊢; have K2 := (show Hid _ from hcell2); clear hcell2 hR2 C2))
  clear hmk
  have hne : ∀ a b : Nat, (Value.slice (some ⟨b2, o2, none⟩) a b).ownBlock ≠ some w.heap.size := fun a b e => by
    have := Option.some.inj e
    have h3 : b2 = w.heap.size := this
    omega
  have HNE := (show Hid _ from hne)
  clear hne
  go_loopw [35] (fun i wr => ∃ k : Nat, k ≤ n1 ∧ i = .int .i64 k ∧ Own wr 48 w.heap.size (co (mul (ps.take k) qs)) N ∧ Below w.heap.size w wr) (fun i _ => n1 - (intOf i).toNat)
  case atStart => exact ⟨0, Nat.zero_le _, rfl, (own_newE w N).congr (fun i _ => by rw [List.take_zero]; unfold mul; exact (co_nil i).symm), (Below.refl _ _).alloc (Nat.le_refl _) _⟩
  case round =>
    obtain ⟨k, hk, rfl, hO, hb⟩ := hrel
    by_cases hlt : k < n1
    · have g1 := cell_below (K1.out k hlt) hb
      have HS : Hid (Sl wr (.slice (some ⟨b2, o2, none⟩) n2 c2) qs) := Sl.of_cells hlq.out hc2 hm2 (fun i hi => cell_below (K2.out i hi) hb)
      have i1 : (k : Int) < (n1 : Int) := by omega
      have kN : k + n2 ≤ N := by have := HN.out; omega
      have i2 : (k : Int) ≤ (N : Int) := by omega
      have i3 : ¬ N = k := by omega
      have i4 : ¬ (N : Int) = (k : Int) := by omega
      have HA : Hid (∀ (W : World) (cap : Nat), (∃ d, W = wr.drewN d) → Calls Try.prog 32 #[.slice (some ⟨w.heap.size, k, none⟩) (N - k) cap, .slice (some ⟨b2, o2, none⟩) n2 c2, .int .u8 (el (co ps k))] W fun e w' => e = .returned (.tuple #[]) ∧ Own w' 48 w.heap.size (fun i => co (mul (ps.take k) qs) i ^^^ adq k (co ps k) qs i) N ∧ But w.heap.size wr w') := fun W cap hW => by
        obtain ⟨d, rfl⟩ := hW
        refine (add_any (hO.drewN d) (HS.out.below (below_drewN (Below.refl _ _) d)) (HNE.out _ _) (co ps k) (by rw [hlq.out]; omega) (by omega) (by omega)).mono fun e w' ⟨he, ho, hB⟩ => ⟨he, ho, ?_⟩
        exact ⟨hB.os, hB.tape, hB.output, hB.size, hB.block⟩
      go_wp2
      go_region_with (first | (go_at_call 32; refine (HA.out _ _ ⟨_, rfl⟩).mono ?_; rintro e w' ⟨rfl, hO', hB'⟩))
      all_goals
        go_wp2
        go_roundw
        case rel => exact ⟨k + 1, by omega, by go_num, times_step hO' (by rw [hlp.out]; exact hlt), hB'.below hb hb.size (Nat.le_refl _)⟩
        case measure => simp [intOf]; omega
    · obtain rfl : k = n1 := by omega
      have hO2 : Own wr 48 w.heap.size (co (mul ps qs)) N := by
        have h3 := hlp.out
        have h4 : ps.take k = ps := by rw [← h3, List.take_length]
        rw [h4] at hO; exact hO
      clear hO
      go_wp2
      go_ret
      exact ⟨_, rfl, Nat.le_refl _, hO2, hb⟩
set_option maxHeartbeats 8000000 in
set_option maxRecDepth 1000000 in
theorem times_gt (v1 v2 : Value) (xs ys ps qs : List (BitVec 8)) (n1 n2 : Nat) (w : World) (h1 : Sl w v1 xs) (h2 : Sl w v2 ys) (hn1 : xs.length ≤ 281474976710656) (hn2 : ys.length ≤ 281474976710656)
    (hp : Hid (trim xs = ps)) (hq : Hid (trim ys = qs)) (hlp : Hid (ps.length = n1)) (hlq : Hid (qs.length = n2)) (h01 : 0 < n1) (h02 : 0 < n2) (hle : n2 < n1) (hs : n1 + n2 ≤ 281474976710656) :
    Calls Try.prog 17 #[v1, v2] w (TimesPost w qs ps n1 n2) := by
  have C1 := (show Hid _ from cut_any h1 hn1)
  have C2 := (show Hid _ from cut_any h2 hn2)
  rw [hp.out] at C1
  rw [hq.out] at C2
  have e1 : ps ≠ [] := by intro e; have := hlp.out; rw [e] at this; simp at this; omega
  have e2 : qs ≠ [] := by intro e; have := hlq.out; rw [e] at this; simp at this; omega
  have E1 : Hid (ps ≠ []) := e1
  have E2 : Hid (qs ≠ []) := e2
  clear h1 h2 hp hq e1 e2
  have l1 : ((n1 : Int) == 0) = false := by simp; omega
  have l2 : ((n2 : Int) == 0) = false := by simp; omega
  have l3 : (n2 : Int) < (n1 : Int) := by omega
  have l7 : decide (n2 < n1) = true := by simp; omega
  obtain ⟨N, hN⟩ : ∃ N, N = n1 + n2 - 1 := ⟨_, rfl⟩
  have l4 : wrap64 ((n2 : Int) + (n1 : Int)) = (n2 : Int) + (n1 : Int) := by unfold wrap64; omega
  have l5 : wrap64 ((n2 : Int) + (n1 : Int) - 1) = (N : Int) := by unfold wrap64; omega
  have l6 : (n2 : Int) + (n1 : Int) - 1 = (N : Int) := by omega
  have hmk := make_el N (by omega)
  have HN : Hid (N = n1 + n2 - 1) := hN
  rw [show TimesPost w qs ps n1 n2 = fun e w' => ∃ G, e = .returned (.slice (some ⟨G, 0, none⟩) N N) ∧ w.heap.size ≤ G ∧ Own w' 48 G (co (mul qs ps)) N ∧ Below w.heap.size w w' by rw [hN]; rfl]
  clear hN
  go_enter Try.func17, Try.ntmps17
  go_wp2_with (first | (go_at_call 31; refine C1.out.mono ?_; rintro e w' ⟨v, rfl, hR, h⟩; obtain rfl := h.symm; obtain ⟨b1, o1, c1, rfl, hc1, hm1, hlt1, hcell1⟩ := hR.cells E1.out; rw [hlp.out] at hcell1 hc1 ⊢; have K1 := (show Hid _ from hcell1); clear hcell1 hR C1) | (go_at_call 31; refine C2.out.mono ?_; rintro e w' ⟨v, rfl, hR2, h⟩; obtain rfl := h.symm; obtain ⟨b2, o2, c2, rfl, hc2, hm2, hlt2, hcell2⟩ := hR2.cells E2.out; rw [hlq.out] at hcell2 hc2 ⊢; have K2 := (show Hid _ from hcell2); clear hcell2 hR2 C2))
  clear hmk
  have hne : ∀ a b : Nat, (Value.slice (some ⟨b1, o1, none⟩) a b).ownBlock ≠ some w.heap.size := fun a b e => by
    have := Option.some.inj e
    have h3 : b1 = w.heap.size := this
    omega
  have HNE := (show Hid _ from hne)
  clear hne
  go_loopw [35] (fun i wr => ∃ k : Nat, k ≤ n2 ∧ i = .int .i64 k ∧ Own wr 48 w.heap.size (co (mul (qs.take k) ps)) N ∧ Below w.heap.size w wr) (fun i _ => n2 - (intOf i).toNat)
  case atStart => exact ⟨0, Nat.zero_le _, rfl, (own_newE w N).congr (fun i _ => by rw [List.take_zero]; unfold mul; exact (co_nil i).symm), (Below.refl _ _).alloc (Nat.le_refl _) _⟩
  case round =>
    obtain ⟨k, hk, rfl, hO, hb⟩ := hrel
    by_cases hlt : k < n2
    · have g1 := cell_below (K2.out k hlt) hb
      have HS : Hid (Sl wr (.slice (some ⟨b1, o1, none⟩) n1 c1) ps) := Sl.of_cells hlp.out hc1 hm1 (fun i hi => cell_below (K1.out i hi) hb)
      have i1 : (k : Int) < (n2 : Int) := by omega
      have kN : k + n1 ≤ N := by have := HN.out; omega
      have i2 : (k : Int) ≤ (N : Int) := by omega
      have i3 : ¬ N = k := by omega
      have i4 : ¬ (N : Int) = (k : Int) := by omega
      have HA : Hid (∀ (W : World) (cap : Nat), (∃ d, W = wr.drewN d) → Calls Try.prog 32 #[.slice (some ⟨w.heap.size, k, none⟩) (N - k) cap, .slice (some ⟨b1, o1, none⟩) n1 c1, .int .u8 (el (co qs k))] W fun e w' => e = .returned (.tuple #[]) ∧ Own w' 48 w.heap.size (fun i => co (mul (qs.take k) ps) i ^^^ adq k (co qs k) ps i) N ∧ But w.heap.size wr w') := fun W cap hW => by
        obtain ⟨d, rfl⟩ := hW
        refine (add_any (hO.drewN d) (HS.out.below (below_drewN (Below.refl _ _) d)) (HNE.out _ _) (co qs k) (by rw [hlp.out]; omega) (by omega) (by omega)).mono fun e w' ⟨he, ho, hB⟩ => ⟨he, ho, ?_⟩
        exact ⟨hB.os, hB.tape, hB.output, hB.size, hB.block⟩
      go_wp2
      go_region_with (first | (go_at_call 32; refine (HA.out _ _ ⟨_, rfl⟩).mono ?_; rintro e w' ⟨rfl, hO', hB'⟩))
      all_goals
        go_wp2
        go_roundw
        case rel => exact ⟨k + 1, by omega, by go_num, times_step hO' (by rw [hlq.out]; exact hlt), hB'.below hb hb.size (Nat.le_refl _)⟩
        case measure => simp [intOf]; omega
    · obtain rfl : k = n2 := by omega
      have hO2 : Own wr 48 w.heap.size (co (mul qs ps)) N := by
        have h3 := hlq.out
        have h4 : qs.take k = qs := by rw [← h3, List.take_length]
        rw [h4] at hO; exact hO
      clear hO
      go_wp2
      go_ret
      exact ⟨_, rfl, Nat.le_refl _, hO2, hb⟩
end
theorem times_rs {w w' : World} {ps qs xs ys : List (BitVec 8)} {n1 n2 : Nat} {e : Ending} (h : TimesPost w ps qs n1 n2 e w') (hl : (trim (mul xs ys)).length = n1 + n2 - 1) (he : ∀ i, co (mul ps qs) i = co (mul xs ys) i) (hs : n1 + n2 ≤ 281474976710656) :
    ∃ v, e = .returned v ∧ Rs 48 w.heap.size w' v (trim (mul xs ys)) ∧ Below w.heap.size w w' := by
  obtain ⟨G, he1, hg, ho, hb⟩ := h
  refine ⟨_, he1, ?_, hb⟩
  rw [← hl] at ho ⊢
  exact ho.rs hg (by omega) (Nat.le_refl _) (fun i _ => by rw [co_trim, he])
theorem ptimes_any {w : World} {v1 v2 : Value} {xs ys : List (BitVec 8)} (h1 : Sl w v1 xs) (h2 : Sl w v2 ys) (hs : (trim xs).length + (trim ys).length ≤ 281474976710656) (hn1 : xs.length ≤ 281474976710656) (hn2 : ys.length ≤ 281474976710656) :
    Calls Try.prog 17 #[v1, v2] w fun e w' => ∃ v, e = .returned v ∧ Rs 48 w.heap.size w' v (trim (mul xs ys)) ∧ Below w.heap.size w w' := by
  by_cases e1 : trim xs = []
  · rw [trim_mul_nil_l e1]
    exact (times_zero v1 v2 xs ys w h1 h2 hn1 hn2 (.inl e1)).mono fun e w' ⟨he, hw⟩ => ⟨_, he, by rw [hw]; exact Rs.nil _ _ _, by rw [hw]; exact Below.refl _ _⟩
  · by_cases e2 : trim ys = []
    · rw [trim_mul_nil_r e2]
      exact (times_zero v1 v2 xs ys w h1 h2 hn1 hn2 (.inr e2)).mono fun e w' ⟨he, hw⟩ => ⟨_, he, by rw [hw]; exact Rs.nil _ _ _, by rw [hw]; exact Below.refl _ _⟩
    · have p1 : 0 < (trim xs).length := List.length_pos_iff.2 e1
      have p2 : 0 < (trim ys).length := List.length_pos_iff.2 e2
      have hl := trim_mul_len e1 e2
      by_cases h : (trim xs).length ≤ (trim ys).length
      · exact (times_le v1 v2 xs ys _ _ _ _ w h1 h2 hn1 hn2 rfl rfl rfl rfl p1 p2 h hs).mono fun e w' hh => times_rs hh hl (mul_congr (co_trim xs) (co_trim ys)) hs
      · exact (times_gt v1 v2 xs ys _ _ _ _ w h1 h2 hn1 hn2 rfl rfl rfl rfl p1 p2 (by omega) hs).mono fun e w' hh => times_rs hh hl (fun i => by rw [mul_congr (co_trim ys) (co_trim xs) i, mul_comm]) hs
end Go.Proofs.Ytbjmdijphciliaa
