/-
  The document's Trim, Degree, At.
-/
import Derived.Test.YtbjmdijphciliaaDeg
import Derived.Test.YtbjmdijphciliaaRefMul
namespace Go.Proofs.Ytbjmdijphciliaa
open Go.RowKit

theorem trim_len_at {xs : List (BitVec 8)} {m : Nat} (hz : ∀ j, m ≤ j → co xs j = 0#8) (h : m = 0 ∨ co xs (m - 1) ≠ 0#8) : (trim xs).length = m := by
  by_cases h0 : m = 0
  · subst h0; rw [trim_nil_of (fun i => hz i (Nat.zero_le _))]; rfl
  · rcases h with h | h
    · exact absurd h h0
    · rw [trim_len_of h (fun i hi => hz i (by omega))]; omega
section
attribute [local irreducible] Calls el gm trim co vs
set_option maxHeartbeats 2000000 in
set_option maxRecDepth 1000000 in
theorem refTrim_core (b o n c : Nat) (xs : List (BitVec 8)) (w : World) (hl : Hid (xs.length = n)) (hn : n ≤ 140737488355328)
    (H1 : Hid (∀ i, i < n → w.cell? ⟨b, o + i, none⟩ = some (.int .u8 (el (co xs i))))) :
    Calls Try.prog 39 #[.slice (some ⟨b, o, none⟩) n c] w fun e w' => ∃ v, e = .returned v ∧ w'.ownsRow w.heap.size 5 1 v (trim xs).length (vs (co xs) (trim xs).length) ∧ Below w.heap.size w w' := by
  obtain ⟨i0, hi, hz0, hz1, hz2⟩ := info_parts info5
  go_enter Try.func39, Try.ntmps39
  go_wp2
  go_loop [3] (fun i => ∃ m : Nat, m ≤ n ∧ i = .int .i64 m ∧ Hid (∀ j, m ≤ j → co xs j = 0#8)) (fun i => (intOf i).toNat)
  case atStart => exact ⟨n, Nat.le_refl _, rfl, fun j hj => co_ge (by rw [hl.out]; exact hj)⟩
  case round =>
    obtain ⟨m, hm, rfl, H⟩ := hrel
    by_cases hm0 : m = 0 ∨ co xs (m - 1) ≠ 0#8
    · have HT : Hid ((trim xs).length = m) := trim_len_at H.out hm0
      by_cases h0 : m = 0
      · subst h0
        go_wp2
        refine wp_loop_rounds 1 ?_
        rw [rounds_succ]
        go_wp2
        go_ret
        exact ⟨_, rfl, by rw [HT.out]; exact own_none _ _ _ _, Below.refl _ _⟩
      · have hne : co xs (m - 1) ≠ 0#8 := by rcases hm0 with h | h; exact absurd h h0; exact h
        have g1 := H1.out (m - 1) (by omega)
        have hq : (el (co xs (m - 1)) == 0) = false := by rw [← el_0, el_beq]; simpa using hne
        have i1 : (0 : Int) < (m : Int) := by omega
        have i2 : ((m : Int) - 1).toNat = m - 1 := by omega
        have i3 : (m : Int) - 1 < (n : Int) := by omega
        have i4 : (0 : Int) ≤ (m : Int) - 1 := by omega
        go_wp2
        go_loopw [4, 5] (fun v i wr => ∃ k : Nat, k ≤ m ∧ i = .int .i64 k ∧ wr.ownsRow w.heap.size 5 1 v k (vs (co xs) k) ∧ Below w.heap.size w wr) (fun _ i _ => m - (intOf i).toNat)
        case atStart => exact ⟨0, Nat.zero_le _, rfl, own_none _ _ _ _, Below.refl _ _⟩
        case round =>
          clear g1 hq
          obtain ⟨k, hk, rfl, hown, hb⟩ := hrel
          by_cases hlt : k < m
          · have g1 := cell_below (H1.out k (by omega)) hb
            have j1 : (k : Int) < (m : Int) := by omega
            have j2 : (k : Int) < (n : Int) := by omega
            have M1 : Hid (k + 1 ≤ maxLen) := by show _ ≤ _; unfold maxLen; omega
            have M2 : Hid (∀ o : Obj, w.heap.size ≤ (wr.alloc o).heap.size) := fun o => by have := hb.size; simp; omega
            go_wp2_with (at_builtin; refine wpList_append_own _ rfl _ _ 22 rfl w.heap.size 5 i0 (.int .u8 0) 1 1 Try.underlying22 hi hz0 hz1 hz2 rfl (by decide) _ _ _ rfl (hown.alloc _) ⟨wr.heap.size, 0, none⟩ 1 1 [.int .u8 (el (co xs k))] rfl rfl (one_new _ _ _) (one_cell _ _) M1.out (by omega) (M2.out _) ?_; intro v' w1 hown' hgrow _)
            rw [← vs_succ (co xs) k] at hown'
            have hb' := below_append (hb.alloc hb.size _) (M2.out _) hgrow (hown.alloc _) (Nat.le_refl _)
            clear hown hgrow g1
            go_roundw
            case rel => exact ⟨k + 1, by omega, by go_num, hown', hb'⟩
            case measure => simp [intOf]; omega
          · obtain rfl : k = m := by omega
            go_wp2
            go_ret
            exact ⟨_, rfl, by rw [HT.out]; exact hown, hb⟩
    · have h0 : 0 < m := by omega
      have hze : co xs (m - 1) = 0#8 := by
        by_cases e : co xs (m - 1) = 0#8
        · exact e
        · exact absurd (.inr e) hm0
      have g1 : w.cell? ⟨b, o + (m - 1), none⟩ = some (.int .u8 0) := by
        have := H1.out (m - 1) (by omega)
        rw [hze, el_0] at this; exact this
      have i1 : (0 : Int) < (m : Int) := by omega
      have i2 : ((m : Int) - 1).toNat = m - 1 := by omega
      have i3 : (m : Int) - 1 < (n : Int) := by omega
      have i4 : (0 : Int) ≤ (m : Int) - 1 := by omega
      go_wp2
      go_round
      case rel => exact ⟨m - 1, by omega, by go_num, fun j hj => by
        by_cases e : j = m - 1
        · rw [e]; exact hze
        · exact H.out j (by omega)⟩
      case measure => simp [intOf]; omega
set_option maxRecDepth 1000000 in
theorem refTrim_nil (a : Option Addr) (c : Nat) (w : World) :
    Calls Try.prog 39 #[.slice a 0 c] w fun e w' => e = .returned (.slice none 0 0) ∧ w' = w := by
  go_enter Try.func39, Try.ntmps39
  go_wp2
  refine wp_loop_rounds 1 ?_
  rw [rounds_succ]
  go_wp2
  refine wp_loop_rounds 1 ?_
  rw [rounds_succ]
  go_wp2
  go_ret
  exact ⟨rfl, rfl⟩
end
theorem refTrim_any {w : World} {p : Option Addr} {xs : List (BitVec 8)} (h : Rd w p xs) (n c : Nat) (hl : xs.length = n) (hn : n ≤ 140737488355328) :
    Calls Try.prog 39 #[.slice p n c] w fun e w' => ∃ v, e = .returned v ∧ Rs 5 w.heap.size w' v (trim xs) ∧ Below w.heap.size w w' := by
  rcases h with h | ⟨b, o, rfl, hc⟩
  · subst h; subst hl
    exact (refTrim_nil p c w).mono fun e w' ⟨he, hw⟩ => ⟨_, he, by rw [hw]; exact Rs.nil _ _ _, by rw [hw]; exact Below.refl _ _⟩
  · refine (refTrim_core b o n c xs w hl hn (by rw [hl] at hc; exact hc)).mono fun e w' ⟨v, he, ho, hb⟩ => ⟨v, he, ?_, hb⟩
    unfold Rs
    rw [vs_congr (g := co xs) (fun i _ => co_trim xs i)]; exact ho
section
attribute [local irreducible] Calls el gm trim co vs Rs
theorem len_rs {t : TypeId} {B : Nat} {w : World} {v : Value} {xs : List (BitVec 8)} (h : Rs t B w v xs) : ∃ p c, v = .slice p xs.length c := by
  obtain ⟨p, c, e, _⟩ := h.sl
  exact ⟨p, c, e⟩
attribute [local irreducible] evs px
end
end Go.Proofs.Ytbjmdijphciliaa
