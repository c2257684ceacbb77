/-
  MatrixIdentities: the walk.
-/
import Derived.Test.YtfopegfkgmccdaaLk
namespace Go.Proofs.Ytfopegfkgmccdaa
open Go.RowKit
def ic (n : Int) : Int := if n < 0 then 2 else if 255 < n then 3 else 0
def ir (n : Int) : Nat := if n < 0 then 0 else if 255 < n then 0 else n.toNat
theorem ir_le (n : Int) : ir n ≤ 1000 := by unfold ir; split; omega; split <;> omega
theorem refIdentity_any (n one : Int) (w : World) : Calls Try.prog 11 #[.int .i64 n, .int .i64 one] w fun e w' => ∃ v, e = .returned (.tuple #[v, .int .i64 (ic n)]) ∧ Im w' v (ir n) (fun _ => ir n) (fun i j => if i = j then one else 0) ∧ Below w.heap.size w w' := by
  by_cases h1 : n < 0
  · have e1 : ic n = 2 := by unfold ic; rw [if_pos h1]
    have e2 : ir n = 0 := by unfold ir; rw [if_pos h1]
    rw [e1, e2]
    exact (refIdentity_err n one 2 (.inl ⟨h1, rfl⟩) w).mono fun e w' ⟨h, hw⟩ => ⟨_, h, Im.nil _ _ _, by rw [hw]; exact Below.refl _ _⟩
  · by_cases h2 : 255 < n
    · have e1 : ic n = 3 := by unfold ic; rw [if_neg h1, if_pos h2]
      have e2 : ir n = 0 := by unfold ir; rw [if_neg h1, if_pos h2]
      rw [e1, e2]
      exact (refIdentity_err n one 3 (.inr ⟨h2, rfl⟩) w).mono fun e w' ⟨h, hw⟩ => ⟨_, h, Im.nil _ _ _, by rw [hw]; exact Below.refl _ _⟩
    · have e1 : ic n = 0 := by unfold ic; rw [if_neg h1, if_neg h2]
      have e2 : ir n = n.toNat := by unfold ir; rw [if_neg h1, if_neg h2]
      obtain ⟨m, rfl⟩ : ∃ m : Nat, n = m := ⟨n.toNat, by omega⟩
      rw [e1, e2, Int.toNat_natCast]
      exact refIdentity_ok m (by omega) one w
theorem nuE_sur (z : Int) : ∃ x, nuE x = z % 256 := by
  obtain ⟨x, hx⟩ := el_of (z % 256) (by omega) (by omega)
  exact ⟨x, hx.symm⟩
theorem nuB_sur (z : Int) : ∃ x, nuB x = z % 2 := by
  have : z % 2 = 0 ∨ z % 2 = 1 := by omega
  rcases this with h | h
  · exact ⟨false, by rw [h]; rfl⟩
  · exact ⟨true, by rw [h]; rfl⟩
theorem nuF_sur (z : Int) : ∃ x, nuF x = z % 4 := by
  have : z % 4 = 0 ∨ z % 4 = 1 ∨ z % 4 = 2 ∨ z % 4 = 3 := by omega
  rcases this with h | h | h | h
  · exact ⟨(false, false), by rw [h]; rfl⟩
  · exact ⟨(true, false), by rw [h]; rfl⟩
  · exact ⟨(false, true), by rw [h]; rfl⟩
  · exact ⟨(true, true), by rw [h]; rfl⟩
theorem Im.congr {w : World} {v : Value} {r : Nat} {l : Nat → Nat} {M M' : Nat → Nat → Int} (h : Im w v r l M) (e : ∀ i, i < r → ∀ j, j < l i → M i j = M' i j) : Im w v r l M' := by
  obtain ⟨rows, h1, h2⟩ := h
  exact ⟨rows, h1, fun i hi => (h2 i hi).congr (e i hi)⟩
theorem ask_cell (w : World) (cs : Array Value) (t : TypeId) (i : Nat) (v : Value) (h : cs[i]? = some v) : (w.alloc (.cells cs t)).cell? ⟨w.heap.size, i, none⟩ = some v := by
  rw [cell_of_row _ _ _ _ _ (0, 0) (heap_alloc_new w _)]; exact h
theorem nuE_o : nuE oE = 0 := by unfold nuE oE; first | rfl | decide
theorem identityE_any (n : Int) (x : BitVec 8) (w : World) : Calls Try.prog 12 #[.int .i64 n, vE x] w fun e w' => ∃ v, e = .returned (.tuple #[v, .int .i64 (ic n)]) ∧ NmE w' v (ir n) (fun _ => ir n) (fun i j => if i = j then x else oE) ∧ Below w.heap.size w w' := by
  by_cases h1 : n < 0
  · have e1 : ic n = 2 := by unfold ic; rw [if_pos h1]
    have e2 : ir n = 0 := by unfold ir; rw [if_pos h1]
    rw [e1, e2]
    exact (identityE_err n 2 x (sizeFault_neg n h1) (by decide) w).mono fun e w' ⟨h, hb⟩ => ⟨_, h, NmE.nil _ _ _, hb⟩
  · by_cases h2 : 255 < n
    · have e1 : ic n = 3 := by unfold ic; rw [if_neg h1, if_pos h2]
      have e2 : ir n = 0 := by unfold ir; rw [if_neg h1, if_pos h2]
      rw [e1, e2]
      exact (identityE_err n 3 x (sizeFault_big n h2) (by decide) w).mono fun e w' ⟨h, hb⟩ => ⟨_, h, NmE.nil _ _ _, hb⟩
    · have e1 : ic n = 0 := by unfold ic; rw [if_neg h1, if_neg h2]
      have e2 : ir n = n.toNat := by unfold ir; rw [if_neg h1, if_neg h2]
      obtain ⟨m, rfl⟩ : ∃ m : Nat, n = m := ⟨n.toNat, by omega⟩
      rw [e1, e2, Int.toNat_natCast]
      exact (identityE_ok m (by omega) x w).mono fun e w' ⟨v, h, hG, hb⟩ => ⟨v, h, hG.nm, hb⟩
theorem im_idE {w : World} {v : Value} {n : Nat} {x : BitVec 8} (h : Im w v n (fun _ => n) (fun i j => if i = j then nuE x else 0)) : Im w v n (fun _ => n) (fun i j => nuE (if i = j then x else oE)) :=
  h.congr (fun i _ j _ => by
    by_cases e : i = j
    · rw [if_pos e, if_pos e]
    · rw [if_neg e, if_neg e, nuE_o])
section
attribute [local irreducible] Calls el nuE NmE Im ic ir
set_option maxHeartbeats 4000000 in
set_option maxRecDepth 1000000 in
theorem identitiesE (fl n one : Int) (vA vB vAt vV : Value) (x : BitVec 8) (hs : ∀ w : World, Calls Try.prog 9 #[.int .i64 fl] w fun e w' => e = .returned (.int .i64 256) ∧ w' = w) (hx : Hid (nuE x = one % 256)) (w : World) :
    Calls Try.prog 3 #[.agg #[.int .i64 fl, vA, vB, vAt, vV, .int .i64 n, .int .i64 one]] w fun e w' => e = .returned (.bool true) ∧ Below w.heap.size w w' := by
  have hb0 : Below w.heap.size w (w.alloc (.cells #[.int .i64 fl, vA, vB, vAt, vV, .int .i64 n, .int .i64 one] 25)) := (Below.refl _ _).alloc (Nat.le_refl _) _
  have q0 := ask_cell w #[.int .i64 fl, vA, vB, vAt, vV, .int .i64 n, .int .i64 one] 25 0 (.int .i64 fl) rfl
  have q5 := ask_cell w #[.int .i64 fl, vA, vB, vAt, vV, .int .i64 n, .int .i64 one] 25 5 (.int .i64 n) rfl
  have q6 := ask_cell w #[.int .i64 fl, vA, vB, vAt, vV, .int .i64 n, .int .i64 one] 25 6 (.int .i64 one) rfl
  have HLow := (show Hid _ from fun w => low_any 256 one (by omega) w)
  rw [← hx.out] at HLow
  have HL : Hid (∀ i, i < ir n → (fun _ : Nat => ir n) i ≤ 1000) := fun i _ => ir_le n
  go_enter Try.func3, Try.ntmps3
  go_wp2_with (first
    | (go_at_call 9; refine (hs _).mono ?_; rintro e w' ⟨rfl, h⟩; obtain rfl := h.symm)
    | (go_at_call 10; refine (HLow.out _).mono ?_; rintro e w' ⟨rfl, h⟩; obtain rfl := h.symm)
    | (go_at_call 11; refine (refIdentity_any n (nuE x) _).mono ?_; rintro e w1 ⟨v1, rfl, hI, hb1⟩; have q51 := cell_below q5 hb1))
  have d1 := (Below.refl w1.heap.size w1).drew
  have hI1 := Im.below hI d1
  go_region_with (first
    | (go_at_call 13; refine (elem_any x _).mono ?_; rintro e w' ⟨rfl, h⟩; obtain rfl := h.symm)
    | (go_at_call 12; refine (identityE_any n x _).mono ?_; rintro e w3 ⟨v3, rfl, hN, hb3⟩; have hI3 := im_idE (Im.below hI1 hb3))
    )
  all_goals
    go_wp2_with (go_at_call 14; refine (likesE_any hN hI3 (ir_le n) HL.out).mono ?_; rintro e w4 ⟨rfl, hb4⟩)
    go_ret
    exact ⟨rfl, bt (bt (bt (bt hb0 hb1) d1) hb3) hb4⟩
end
theorem nuB_o : nuB oB = 0 := by unfold nuB oB; first | rfl | decide
theorem identityB_any (n : Int) (x : Bool) (w : World) : Calls Try.prog 15 #[.int .i64 n, vB x] w fun e w' => ∃ v, e = .returned (.tuple #[v, .int .i64 (ic n)]) ∧ NmB w' v (ir n) (fun _ => ir n) (fun i j => if i = j then x else oB) ∧ Below w.heap.size w w' := by
  by_cases h1 : n < 0
  · have e1 : ic n = 2 := by unfold ic; rw [if_pos h1]
    have e2 : ir n = 0 := by unfold ir; rw [if_pos h1]
    rw [e1, e2]
    exact (identityB_err n 2 x (sizeFault_neg n h1) (by decide) w).mono fun e w' ⟨h, hb⟩ => ⟨_, h, NmB.nil _ _ _, hb⟩
  · by_cases h2 : 255 < n
    · have e1 : ic n = 3 := by unfold ic; rw [if_neg h1, if_pos h2]
      have e2 : ir n = 0 := by unfold ir; rw [if_neg h1, if_pos h2]
      rw [e1, e2]
      exact (identityB_err n 3 x (sizeFault_big n h2) (by decide) w).mono fun e w' ⟨h, hb⟩ => ⟨_, h, NmB.nil _ _ _, hb⟩
    · have e1 : ic n = 0 := by unfold ic; rw [if_neg h1, if_neg h2]
      have e2 : ir n = n.toNat := by unfold ir; rw [if_neg h1, if_neg h2]
      obtain ⟨m, rfl⟩ : ∃ m : Nat, n = m := ⟨n.toNat, by omega⟩
      rw [e1, e2, Int.toNat_natCast]
      exact (identityB_ok m (by omega) x w).mono fun e w' ⟨v, h, hG, hb⟩ => ⟨v, h, hG.nm, hb⟩
theorem im_idB {w : World} {v : Value} {n : Nat} {x : Bool} (h : Im w v n (fun _ => n) (fun i j => if i = j then nuB x else 0)) : Im w v n (fun _ => n) (fun i j => nuB (if i = j then x else oB)) :=
  h.congr (fun i _ j _ => by
    by_cases e : i = j
    · rw [if_pos e, if_pos e]
    · rw [if_neg e, if_neg e, nuB_o])
section
attribute [local irreducible] Calls el nuB NmB Im ic ir
set_option maxHeartbeats 4000000 in
set_option maxRecDepth 1000000 in
theorem identitiesB (fl n one : Int) (vA vB vAt vV : Value) (x : Bool) (hs : ∀ w : World, Calls Try.prog 9 #[.int .i64 fl] w fun e w' => e = .returned (.int .i64 2) ∧ w' = w) (hx : Hid (nuB x = one % 2)) (w : World) :
    Calls Try.prog 3 #[.agg #[.int .i64 fl, vA, vB, vAt, vV, .int .i64 n, .int .i64 one]] w fun e w' => e = .returned (.bool true) ∧ Below w.heap.size w w' := by
  have hb0 : Below w.heap.size w (w.alloc (.cells #[.int .i64 fl, vA, vB, vAt, vV, .int .i64 n, .int .i64 one] 25)) := (Below.refl _ _).alloc (Nat.le_refl _) _
  have q0 := ask_cell w #[.int .i64 fl, vA, vB, vAt, vV, .int .i64 n, .int .i64 one] 25 0 (.int .i64 fl) rfl
  have q5 := ask_cell w #[.int .i64 fl, vA, vB, vAt, vV, .int .i64 n, .int .i64 one] 25 5 (.int .i64 n) rfl
  have q6 := ask_cell w #[.int .i64 fl, vA, vB, vAt, vV, .int .i64 n, .int .i64 one] 25 6 (.int .i64 one) rfl
  have HLow := (show Hid _ from fun w => low_any 2 one (by omega) w)
  rw [← hx.out] at HLow
  have HL : Hid (∀ i, i < ir n → (fun _ : Nat => ir n) i ≤ 1000) := fun i _ => ir_le n
  go_enter Try.func3, Try.ntmps3
  go_wp2_with (first
    | (go_at_call 9; refine (hs _).mono ?_; rintro e w' ⟨rfl, h⟩; obtain rfl := h.symm)
    | (go_at_call 10; refine (HLow.out _).mono ?_; rintro e w' ⟨rfl, h⟩; obtain rfl := h.symm)
    | (go_at_call 11; refine (refIdentity_any n (nuB x) _).mono ?_; rintro e w1 ⟨v1, rfl, hI, hb1⟩; have q51 := cell_below q5 hb1))
  have d1 := (Below.refl w1.heap.size w1).drew
  have hI1 := Im.below hI d1
  go_region_with (first
    | (go_at_call 16; refine (bit_any x _).mono ?_; rintro e w' ⟨rfl, h⟩; obtain rfl := h.symm)
    | (go_at_call 15; refine (identityB_any n x _).mono ?_; rintro e w3 ⟨v3, rfl, hN, hb3⟩; have hI3 := im_idB (Im.below hI1 hb3))
    )
  all_goals
    go_wp2_with (go_at_call 17; refine (likesB_any hN hI3 (ir_le n) HL.out).mono ?_; rintro e w4 ⟨rfl, hb4⟩)
    go_ret
    exact ⟨rfl, bt (bt (bt (bt hb0 hb1) d1) hb3) hb4⟩
end
theorem nuF_o : nuF oF = 0 := by unfold nuF oF; first | rfl | decide
theorem identityF_any (n : Int) (x : (Bool × Bool)) (w : World) : Calls Try.prog 18 #[.int .i64 n, vF x] w fun e w' => ∃ v, e = .returned (.tuple #[v, .int .i64 (ic n)]) ∧ NmF w' v (ir n) (fun _ => ir n) (fun i j => if i = j then x else oF) ∧ Below w.heap.size w w' := by
  by_cases h1 : n < 0
  · have e1 : ic n = 2 := by unfold ic; rw [if_pos h1]
    have e2 : ir n = 0 := by unfold ir; rw [if_pos h1]
    rw [e1, e2]
    exact (identityF_err n 2 x (sizeFault_neg n h1) (by decide) w).mono fun e w' ⟨h, hb⟩ => ⟨_, h, NmF.nil _ _ _, hb⟩
  · by_cases h2 : 255 < n
    · have e1 : ic n = 3 := by unfold ic; rw [if_neg h1, if_pos h2]
      have e2 : ir n = 0 := by unfold ir; rw [if_neg h1, if_pos h2]
      rw [e1, e2]
      exact (identityF_err n 3 x (sizeFault_big n h2) (by decide) w).mono fun e w' ⟨h, hb⟩ => ⟨_, h, NmF.nil _ _ _, hb⟩
    · have e1 : ic n = 0 := by unfold ic; rw [if_neg h1, if_neg h2]
      have e2 : ir n = n.toNat := by unfold ir; rw [if_neg h1, if_neg h2]
      obtain ⟨m, rfl⟩ : ∃ m : Nat, n = m := ⟨n.toNat, by omega⟩
      rw [e1, e2, Int.toNat_natCast]
      exact (identityF_ok m (by omega) x w).mono fun e w' ⟨v, h, hG, hb⟩ => ⟨v, h, hG.nm, hb⟩
theorem im_idF {w : World} {v : Value} {n : Nat} {x : (Bool × Bool)} (h : Im w v n (fun _ => n) (fun i j => if i = j then nuF x else 0)) : Im w v n (fun _ => n) (fun i j => nuF (if i = j then x else oF)) :=
  h.congr (fun i _ j _ => by
    by_cases e : i = j
    · rw [if_pos e, if_pos e]
    · rw [if_neg e, if_neg e, nuF_o])
section
attribute [local irreducible] Calls el nuF NmF Im ic ir
set_option maxHeartbeats 4000000 in
set_option maxRecDepth 1000000 in
theorem identitiesF (fl n one : Int) (vA vB vAt vV : Value) (x : (Bool × Bool)) (hs : ∀ w : World, Calls Try.prog 9 #[.int .i64 fl] w fun e w' => e = .returned (.int .i64 4) ∧ w' = w) (hx : Hid (nuF x = one % 4)) (w : World) :
    Calls Try.prog 3 #[.agg #[.int .i64 fl, vA, vB, vAt, vV, .int .i64 n, .int .i64 one]] w fun e w' => e = .returned (.bool true) ∧ Below w.heap.size w w' := by
  have hb0 : Below w.heap.size w (w.alloc (.cells #[.int .i64 fl, vA, vB, vAt, vV, .int .i64 n, .int .i64 one] 25)) := (Below.refl _ _).alloc (Nat.le_refl _) _
  have q0 := ask_cell w #[.int .i64 fl, vA, vB, vAt, vV, .int .i64 n, .int .i64 one] 25 0 (.int .i64 fl) rfl
  have q5 := ask_cell w #[.int .i64 fl, vA, vB, vAt, vV, .int .i64 n, .int .i64 one] 25 5 (.int .i64 n) rfl
  have q6 := ask_cell w #[.int .i64 fl, vA, vB, vAt, vV, .int .i64 n, .int .i64 one] 25 6 (.int .i64 one) rfl
  have HLow := (show Hid _ from fun w => low_any 4 one (by omega) w)
  rw [← hx.out] at HLow
  have HL : Hid (∀ i, i < ir n → (fun _ : Nat => ir n) i ≤ 1000) := fun i _ => ir_le n
  go_enter Try.func3, Try.ntmps3
  go_wp2_with (first
    | (go_at_call 9; refine (hs _).mono ?_; rintro e w' ⟨rfl, h⟩; obtain rfl := h.symm)
    | (go_at_call 10; refine (HLow.out _).mono ?_; rintro e w' ⟨rfl, h⟩; obtain rfl := h.symm)
    | (go_at_call 11; refine (refIdentity_any n (nuF x) _).mono ?_; rintro e w1 ⟨v1, rfl, hI, hb1⟩; have q51 := cell_below q5 hb1))
  have d1 := (Below.refl w1.heap.size w1).drew
  have hI1 := Im.below hI d1
  go_region_with (first
    | (go_at_call 19; refine (four_any x _).mono ?_; rintro e w2 ⟨rfl, hb2⟩; have hI2 := Im.below hI1 hb2; have q52 := cell_below (cell_below q51 d1) hb2)
    | (go_at_call 18; refine (identityF_any n x _).mono ?_; rintro e w3 ⟨v3, rfl, hN, hb3⟩; have hI3 := im_idF (Im.below hI2 hb3))
    )
  all_goals
    go_wp2_with (go_at_call 20; refine (likesF_any hN hI3 (ir_le n) HL.out).mono ?_; rintro e w4 ⟨rfl, hb4⟩)
    go_ret
    exact ⟨rfl, bt (bt (bt (bt (bt hb0 hb1) d1) hb2) hb3) hb4⟩
end
theorem matrixIdentities_walk (fl n one : Int) (vA vB vAt vV : Value) (w : World) :
    Calls Try.prog 3 #[.agg #[.int .i64 fl, vA, vB, vAt, vV, .int .i64 n, .int .i64 one]] w fun e w' => e = .returned (.bool true) ∧ Below w.heap.size w w' := by
  obtain ⟨s, h, hs⟩ := size_any fl
  rcases h with rfl | rfl | rfl
  · obtain ⟨x, hx⟩ := nuE_sur one
    exact identitiesE fl n one vA vB vAt vV x hs hx w
  · obtain ⟨x, hx⟩ := nuB_sur one
    exact identitiesB fl n one vA vB vAt vV x hs hx w
  · obtain ⟨x, hx⟩ := nuF_sur one
    exact identitiesF fl n one vA vB vAt vV x hs hx w
end Go.Proofs.Ytfopegfkgmccdaa
