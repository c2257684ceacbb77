/-
  The document's Times at whatever slices, Inv, shifted.
-/
import Derived.Test.YtbjmdijphciliaaRefC
namespace Go.Proofs.Ytbjmdijphciliaa
open Go.RowKit

section
attribute [local irreducible] Calls el gm trim co Own Rs mul ad
set_option maxHeartbeats 2000000 in
set_option maxRecDepth 1000000 in
theorem refTimes_l0 (p1 p2 : Option Addr) (c1 n2 c2 : Nat) (w : World) (hs : n2 ≤ 140737488355328) :
    Calls Try.prog 42 #[.slice p1 0 c1, .slice p2 n2 c2] w fun e w' => ∃ v, e = .returned v ∧ Rs 5 w.heap.size w' v [] ∧ Below w.heap.size w w' := by
  have hmk := make_u8 n2 (by omega)
  have hO := own_newU w n2
  have HT := (show Hid _ from trim_own (ys := []) hO hs (fun i => by rw [co_ls, co_nil]; split <;> rfl))
  have hb : Below w.heap.size w (w.alloc (.cells (Array.replicate n2 (.int .u8 0)) 5)) := (Below.refl _ _).alloc (Nat.le_refl _) _
  rw [show trim [] = [] from by rw [trim]] at HT
  clear hO
  go_enter Try.func42, Try.ntmps42
  go_wp2
  refine wp_loop_rounds 1 ?_
  rw [rounds_succ]
  go_wp2_with (go_at_call 39; refine HT.out.mono ?_; rintro e w' ⟨v, rfl, hR, hb2⟩)
  go_ret
  exact ⟨v, rfl, hR.mono hb.size, bt hb hb2⟩
set_option maxHeartbeats 2000000 in
set_option maxRecDepth 1000000 in
theorem refTimes_r0 (p1 p2 : Option Addr) (n1 c1 c2 : Nat) (w : World) (hs : n1 ≤ 140737488355328) :
    Calls Try.prog 42 #[.slice p1 n1 c1, .slice p2 0 c2] w fun e w' => ∃ v, e = .returned v ∧ Rs 5 w.heap.size w' v [] ∧ Below w.heap.size w w' := by
  have hmk := make_u8 n1 (by omega)
  have hO := own_newU w n1
  have hb : Below w.heap.size w (w.alloc (.cells (Array.replicate n1 (.int .u8 0)) 5)) := (Below.refl _ _).alloc (Nat.le_refl _) _
  have e0 : trim [] = [] := by rw [trim]
  go_enter Try.func42, Try.ntmps42
  go_wp2
  clear hmk
  go_loopw [6] (fun i wr => ∃ k : Nat, k ≤ n1 ∧ i = .int .i64 k ∧ Own wr 5 w.heap.size (fun _ => 0#8) n1 ∧ Below w.heap.size w wr) (fun i _ => n1 - (intOf i).toNat)
  case atStart => exact ⟨0, Nat.zero_le _, rfl, hO, hb⟩
  case round =>
    clear hO hb
    obtain ⟨k, hk, rfl, hO, hb⟩ := hrel
    by_cases hlt : k < n1
    · have i1 : (k : Int) < (n1 : Int) := by omega
      go_wp2
      refine wp_loop_rounds 1 ?_
      rw [rounds_succ]
      go_wp2
      exact ⟨⟨k + 1, by omega, by go_num, hO, hb⟩, by simp [intOf]; omega⟩
    · obtain rfl : k = n1 := by omega
      have HT := (show Hid _ from trim_own (ys := []) hO hs (fun i => by rw [co_ls, co_nil]; split <;> rfl))
      rw [e0] at HT
      clear hO
      go_wp2_with (go_at_call 39; refine HT.out.mono ?_; rintro e w' ⟨v, rfl, hR, hb2⟩)
      go_ret
      exact ⟨v, rfl, hR.mono hb.size, bt hb hb2⟩
end
theorem refTimes_any {w : World} {v1 v2 : Value} {xs ys : List (BitVec 8)} (h1 : Sr w v1 xs) (h2 : Sr w v2 ys) (hs : xs.length + ys.length ≤ 140737488355328) :
    Calls Try.prog 42 #[v1, v2] w fun e w' => ∃ v, e = .returned v ∧ Rs 5 w.heap.size w' v (trim (mul xs ys)) ∧ Below w.heap.size w w' := by
  by_cases e1 : xs = []
  · subst e1
    obtain ⟨p2, c2, rfl, _⟩ := h2
    obtain ⟨p1, c1, rfl⟩ := h1.empty
    exact refTimes_l0 p1 p2 c1 _ c2 w (by omega)
  · by_cases e2 : ys = []
    · subst e2
      obtain ⟨p1, c1, rfl, _⟩ := h1
      obtain ⟨p2, c2, rfl⟩ := h2.empty
      rw [trim_mul_nil_r rfl]
      exact refTimes_r0 p1 p2 _ c1 c2 w (by omega)
    · obtain ⟨b1, o1, c1, rfl, _, hc1⟩ := h1.cells e1
      obtain ⟨b2, o2, c2, rfl, _, hc2⟩ := h2.cells e2
      exact refTimes_core b1 o1 _ c1 b2 o2 _ c2 xs ys w rfl rfl hs (List.length_pos_iff.2 e1) hc1 hc2
theorem inv_ne {a : BitVec 8} (h : a ≠ 0#8) : inv a ≠ 0#8 := fun e => by have := gm_inv h; rw [e, gm_zero] at this; revert this; decide
theorem nb_toNat (x : BitVec 8) : nb x.toNat = x := by unfold nb; simp
theorem nb_small {j : Nat} (h : j < 256) : (nb j).toNat = j := by unfold nb; rw [BitVec.toNat_ofNat]; omega
theorem not_inv {a : BitVec 8} (ha : a ≠ 0#8) {j : Nat} (hj : j < (inv a).toNat) : gm a (nb j) ≠ 1#8 := fun e => by
  have h1 : gm (nb j) a = gm (inv a) a := by rw [gm_comm, e, gm_comm, gm_inv ha]
  have h2 := gm_cancel ha h1
  have h3 := (inv a).isLt
  have : (nb j).toNat = j := nb_small (by omega)
  rw [h2] at this; omega
theorem refMul_nb (a : BitVec 8) (k : Nat) (hk : k < 256) (w : World) :
    Calls Try.prog 55 #[.int .u8 (el a), .int .u8 (k : Int)] w fun e w' => e = .returned (.int .u8 (el (gm a (nb k)))) ∧ w' = w := by
  rw [← el_nb k hk]; exact refMul_any a (nb k) w
section
attribute [local irreducible] Calls el gm inv nb
set_option maxHeartbeats 1000000 in
set_option maxRecDepth 1000000 in
theorem refInv_any (a : BitVec 8) (ha : a ≠ 0#8) (w : World) :
    Calls Try.prog 54 #[.int .u8 (el a)] w fun e w' => e = .returned (.int .u8 (el (inv a))) ∧ w' = w := by
  obtain ⟨M, hM⟩ : ∃ M, M = (inv a).toNat := ⟨_, rfl⟩
  have hM1 : 1 ≤ M := by
    rcases Nat.eq_zero_or_pos M with h | h
    · exfalso
      refine inv_ne ha (BitVec.eq_of_toNat_eq ?_)
      rw [← hM, h]; rfl
    · exact h
  have hM2 : M < 256 := by rw [hM]; exact (inv a).isLt
  have HM : Hid (M = (inv a).toNat) := hM
  have e1 : el 1#8 = 1 := by unfold el; rfl
  clear hM
  go_enter Try.func54, Try.ntmps54
  go_wp2
  go_loop [3] (fun i => ∃ k : Nat, 1 ≤ k ∧ k ≤ M ∧ i = .int .i64 k) (fun i => 256 - (intOf i).toNat)
  case atStart => exact ⟨1, Nat.le_refl _, hM1, rfl⟩
  case round =>
    obtain ⟨k, hk1, hk, rfl⟩ := hrel
    have i1 : (k : Int) < 256 := by omega
    by_cases hlt : k = M
    · subst hlt
      have hq : (el (gm a (nb k)) == 1) = true := by
        have := HM.out
        rw [this, nb_toNat, gm_inv ha, e1]; rfl
      have HR : Hid ((k : Int) = el (inv a)) := by show _ = _; rw [← el_nb k (by omega), HM.out, nb_toNat]
      go_wp2_with (go_at_call 55; refine (refMul_nb a k (by omega) _).mono ?_; rintro e w' ⟨rfl, h⟩; obtain rfl := h.symm)
      go_ret
      exact ⟨ret_int HR.out, rfl⟩
    · have hq : (el (gm a (nb k)) == 1) = false := by
        rw [← e1, el_beq]
        have := not_inv ha (j := k) (by have := HM.out; omega)
        simpa using this
      go_wp2_with (go_at_call 55; refine (refMul_nb a k (by omega) _).mono ?_; rintro e w' ⟨rfl, h⟩; obtain rfl := h.symm)
      go_round
      case rel => exact ⟨k + 1, by omega, by omega, by go_num⟩
      case measure => simp [intOf]; omega
end
theorem sh_len (k : Nat) (p : List (BitVec 8)) : (sh k p).length = k + p.length := by unfold sh; simp
section
attribute [local irreducible] Calls el gm trim co vs Rs sh smul
set_option maxHeartbeats 4000000 in
set_option maxRecDepth 1000000 in
theorem refShifted_core (b o n c m : Nat) (xs : List (BitVec 8)) (cc : BitVec 8) (w : World) (hl : Hid (xs.length = n)) (hn : m + n ≤ 140737488355328)
    (H1 : Hid (∀ i, i < n → w.cell? ⟨b, o + i, none⟩ = some (.int .u8 (el (co xs i))))) :
    Calls Try.prog 56 #[.slice (some ⟨b, o, none⟩) n c, .int .u8 (el cc), .int .i64 (m : Int)] w fun e w' => ∃ v, e = .returned v ∧ w'.ownsRow w.heap.size 5 1 v (m + n) (vs (co (sh m (smul cc xs))) (m + n)) ∧ Below w.heap.size w w' := by
  obtain ⟨i0, hi, hz0, hz1, hz2⟩ := info_parts info5
  have hmk := make_u8 m (by omega)
  have hb0 : Below w.heap.size w (w.alloc (.cells (Array.replicate m (.int .u8 0)) 5)) := (Below.refl _ _).alloc (Nat.le_refl _) _
  have hO := own_newU w m
  have hw0 : (w.alloc (.cells (Array.replicate m (.int .u8 0)) 5)).ownsRow w.heap.size 5 1 (.slice (some ⟨w.heap.size, 0, none⟩) m m) m (vs (co (sh m (smul cc xs))) m) := by
    refine ⟨by rw [vs_len, Nat.mul_one], .inr ⟨w.heap.size, m, _, rfl, Nat.le_refl _, hO, Nat.le_refl _, by unfold maxLen; omega, by rw [rowC_size, Nat.mul_one], ?_⟩⟩
    rw [rowC_toList, Nat.mul_one, vs_take _ _ _ (Nat.le_refl _)]
    exact vs_congr (fun i hi => by rw [co_sh, if_pos hi])
  have HV : Hid (∀ k, gm (co xs k) cc = co (sh m (smul cc xs)) (m + k)) := fun k => by
    rw [co_sh, if_neg (by omega), Nat.add_sub_cancel_left, co_smul, gm_comm]
  clear hO
  go_enter Try.func56, Try.ntmps56
  go_wp2
  clear hmk
  go_loopw [7, 8] (fun v i wr => ∃ k : Nat, k ≤ n ∧ i = .int .i64 k ∧ wr.ownsRow w.heap.size 5 1 v (m + k) (vs (co (sh m (smul cc xs))) (m + k)) ∧ Below w.heap.size w wr) (fun _ i _ => n - (intOf i).toNat)
  case atStart => exact ⟨0, Nat.zero_le _, rfl, hw0, hb0⟩
  case round =>
    clear hw0 hb0
    obtain ⟨k, hk, rfl, hown, hb⟩ := hrel
    by_cases hlt : k < n
    · have g1 := cell_below (H1.out k hlt) hb
      have j1 : (k : Int) < (n : Int) := by omega
      have M1 : Hid (m + k + 1 ≤ maxLen) := by show _ ≤ _; unfold maxLen; omega
      have M2 : Hid (∀ o : Obj, w.heap.size ≤ (wr.alloc o).heap.size) := fun o => by have := hb.size; simp; omega
      go_wp2_with (first | (go_at_call 55; refine (refMul_any _ _ _).mono ?_; rintro e w' ⟨rfl, h⟩; obtain rfl := h.symm) | (at_builtin; refine wpList_append_own _ rfl _ _ 22 rfl w.heap.size 5 i0 (.int .u8 0) 1 1 Try.underlying22 hi hz0 hz1 hz2 rfl (by decide) _ _ _ rfl (hown.alloc _) ⟨wr.heap.size, 0, none⟩ 1 1 [.int .u8 (el (gm (co xs k) cc))] rfl rfl (one_new _ _ _) (one_cell _ _) M1.out (by omega) (M2.out _) ?_; intro v' w1 hown' hgrow _))
      rw [HV.out k, ← vs_succ (co (sh m (smul cc xs))) (m + k)] at hown'
      have hb' := below_append (hb.alloc hb.size _) (M2.out _) hgrow (hown.alloc _) (Nat.le_refl _)
      clear hown hgrow g1
      go_roundw
      case rel => exact ⟨k + 1, by omega, by go_num, hown', hb'⟩
      case measure => simp [intOf]; omega
    · obtain rfl : k = n := by omega
      go_wp2
      go_ret
      exact ⟨_, rfl, hown, hb⟩
end
theorem refShifted_any {w : World} {v1 : Value} {xs : List (BitVec 8)} (h1 : Sr w v1 xs) (h0 : xs ≠ []) (cc : BitVec 8) (m : Nat) (hn : m + xs.length ≤ 140737488355328) :
    Calls Try.prog 56 #[v1, .int .u8 (el cc), .int .i64 (m : Int)] w fun e w' => ∃ v, e = .returned v ∧ Rs 5 w.heap.size w' v (sh m (smul cc xs)) ∧ Below w.heap.size w w' := by
  obtain ⟨b, o, c, rfl, _, hc⟩ := h1.cells h0
  refine (refShifted_core b o _ c m xs cc w rfl hn hc).mono fun e w' ⟨v, he, ho, hb⟩ => ⟨v, he, ?_, hb⟩
  unfold Rs
  rw [sh_len, smul_len]; exact ho
end Go.Proofs.Ytbjmdijphciliaa
