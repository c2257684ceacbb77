/-
  The document's Vanish, twice, Through.
-/
import Derived.Test.YtpjebfcdjhcfnaaRefE
import Derived.Test.YtpjebfcdjhcfnaaPThrb
namespace Go.Proofs.Ytpjebfcdjhcfnaa
open Go.RowKit

theorem refTwo_sl (w : World) (a b : BitVec 8) : Sr (w.alloc (.cells #[.int .u8 (el a), .int .u8 (el b)] 5)) (.slice (some ⟨w.heap.size, 0, none⟩) 2 2) [a, b] := by
  refine Sr.of_cells (xs := [a, b]) rfl (fun i hi => ?_)
  have h : i = 0 ∨ i = 1 := by omega
  rcases h with h | h <;> (subst h; rw [cell_of_row _ _ _ _ _ (0, 0) (heap_alloc_any _ _ _)]; rfl)
theorem one_rs (w : World) : Rs 5 w.heap.size (w.alloc (.cells #[.int .u8 1] 5)) (.slice (some ⟨w.heap.size, 0, none⟩) 1 1) [1#8] := by
  have ho : Own (w.alloc (.cells #[.int .u8 1] 5)) 5 w.heap.size (fun _ => 1#8) 1 := by unfold Own; rw [heap_alloc_new]; rfl
  exact ho.rs (xs := [1#8]) (Nat.le_refl _) (by omega) (Nat.le_refl _) (fun i hi => by
    have h1 : i = 0 := by simpa using hi
    subst h1; rfl)
theorem ba (w : World) (o : Obj) : Below w.heap.size w (w.alloc o) := (Below.refl _ _).alloc (Nat.le_refl _) _
section
attribute [local irreducible] Calls el gm co Rs Sr vk trim mul
set_option maxHeartbeats 4000000 in
set_option maxRecDepth 1000000 in
theorem refVanish_core (p : Option Addr) (n c : Nat) (xs : List (BitVec 8)) (w : World) (hr : Hid (Rd w p xs)) (hl : Hid (xs.length = n)) (hn : n ≤ 140737488351232) :
    Calls Try.prog 29 #[.slice p n c] w fun e w' => ∃ v, e = .returned v ∧ Rs 5 w.heap.size w' v (vk xs n) ∧ Below w.heap.size w w' := by
  have hV0 := one_rs w
  rw [← vk_zero xs] at hV0
  go_enter Try.func29, Try.ntmps29
  go_wp2
  go_loopw [3, 4] (fun v i wr => ∃ k : Nat, k ≤ n ∧ i = .int .i64 k ∧ Rs 5 w.heap.size wr v (vk xs k) ∧ Below w.heap.size w wr) (fun _ i _ => n - (intOf i).toNat)
  case atStart => exact ⟨0, Nat.zero_le _, rfl, hV0, ba w _⟩
  case round =>
    clear hV0
    obtain ⟨k, hk, rfl, hV, hb⟩ := hrel
    by_cases hlt : k < n
    · have hkx : k < xs.length := by rw [hl.out]; exact hlt
      have i1 : (k : Int) < (n : Int) := by omega
      obtain ⟨b, o, ep, hc⟩ : ∃ b o, p = some ⟨b, o, none⟩ ∧ w.cell? ⟨b, o + k, none⟩ = some (.int .u8 (el (co xs k))) := by
        rcases hr.out with h | ⟨b, o, e, hc⟩
        · rw [h] at hkx; simp at hkx
        · refine ⟨b, o, e, ?_⟩
          unfold co; exact hc k hkx
      subst ep
      have g1 := cell_below hc hb
      have hvl := vk_len (xs := xs) (k := k) (by omega)
      have e1 : el 1#8 = 1 := by unfold el; rfl
      have HT : Hid (Calls Try.prog 19 #[u3, .slice (some ⟨wr.heap.size, 0, none⟩) 2 2] (wr.alloc (.cells #[.int .u8 (el (co xs k)), .int .u8 1] 5)) fun e w' => ∃ v, e = .returned v ∧ Rs 5 w.heap.size w' v (vk xs (k + 1)) ∧ Below w.heap.size w w') := by
        have hbA := ba wr (.cells #[.int .u8 (el (co xs k)), .int .u8 1] 5)
        have h2 := refTwo_sl wr (co xs k) 1#8
        rw [e1] at h2
        refine (refTimes_any (hV.below hbA).sr h2 (by rw [hvl]; simp; omega)).mono ?_
        rw [vk_succ hkx]
        rintro e w' ⟨v, he, hr, hb3⟩
        exact ⟨v, he, hr.mono (Nat.le_trans hb.size hbA.size), bt hb (bt hbA hb3)⟩
      clear hV hc hvl e1
      go_wp2_with (go_at_call 19; refine HT.out.mono ?_; rintro e w2 ⟨v2, rfl, hV2, hb2⟩)
      go_roundw
      case rel => exact ⟨k + 1, by omega, by go_num, hV2, hb2⟩
      case measure => simp [intOf]; omega
    · obtain rfl : k = n := by omega
      have i1 : ¬ (k : Int) < (k : Int) := by omega
      go_wp2
      go_ret
      exact ⟨_, rfl, hV, hb⟩
end
theorem refVanish_any {w : World} {v : Value} {xs : List (BitVec 8)} (h : Sr w v xs) (hn : xs.length ≤ 140737488351232) :
    Calls Try.prog 29 #[v] w fun e w' => ∃ v', e = .returned v' ∧ Rs 5 w.heap.size w' v' (van xs) ∧ Below w.heap.size w w' := by
  obtain ⟨p, c, rfl, hr⟩ := h
  have := refVanish_core p _ c xs w hr rfl hn
  rw [show vk xs xs.length = van xs by unfold vk; rw [List.take_length, van_rev_eq]] at this
  exact this
section
attribute [local irreducible] Calls el gm co
set_option maxHeartbeats 4000000 in
set_option maxRecDepth 1000000 in
theorem refTwice_core (b o n c : Nat) (xs : List (BitVec 8)) (w : World) (hl : Hid (xs.length = n)) (hn : n ≤ 140737488351232)
    (H1 : Hid (∀ i, i < n → w.cell? ⟨b, o + i, none⟩ = some (.int .u8 (el (co xs i))))) :
    Calls Try.prog 54 #[.slice (some ⟨b, o, none⟩) n c] w fun e w' => ∃ r, e = .returned (.bool r) ∧ Hid (r = true ↔ ¬ xs.Nodup) ∧ Below w.heap.size w w' := by
  have hbq := fun a b => el_beq a b
  go_enter Try.func54, Try.ntmps54
  go_wp2
  go_loopw [3] (fun i wr => ∃ k : Nat, k ≤ n ∧ i = .int .i64 k ∧ Below w.heap.size w wr ∧ Hid ((xs.take k).Nodup)) (fun i _ => n - (intOf i).toNat)
  case atStart => exact ⟨0, Nat.zero_le _, rfl, Below.refl _ _, by show List.Nodup _; simp⟩
  case round =>
    obtain ⟨k, hk, rfl, hb, D⟩ := hrel
    by_cases hlt : k < n
    · have HK : Hid (k < xs.length) := by show _ < _; rw [hl.out]; exact hlt
      have i1 : (k : Int) < (n : Int) := by omega
      go_wp2
      go_loopw [4] (fun i wq => ∃ j : Nat, j ≤ k ∧ i = .int .i64 j ∧ Below w.heap.size w wq ∧ Hid (∀ m, m < j → co xs m ≠ co xs k)) (fun i _ => k - (intOf i).toNat)
      case atStart => exact ⟨0, Nat.zero_le _, rfl, hb, fun m hm => by omega⟩
      case round =>
        clear hb
        obtain ⟨j, hj, rfl, hb, E⟩ := hrel
        by_cases hlj : j < k
        · have i2 : (j : Int) < (k : Int) := by omega
          have i3 : (j : Int) < (n : Int) := by omega
          have g1 := cell_below (H1.out j (by omega)) hb
          have g2 := cell_below (H1.out k hlt) hb
          by_cases he : co xs j = co xs k
          · have hq : (co xs j == co xs k) = true := by simpa using he
            have HN : Hid (¬ xs.Nodup) := not_nodup HK.out (by
              rw [← he, List.mem_take_iff_getElem]
              have hjx : j < xs.length := by have := HK.out; omega
              exact ⟨j, by omega, by simp [co, List.getD_eq_getElem?_getD, List.getElem?_eq_getElem hjx]⟩)
            clear he
            go_wp2
            go_quiet (fail)
            go_wp2
            go_ret
            exact ⟨true, rfl, ⟨fun _ => HN.out, fun _ => rfl⟩, below_drewN hb _⟩
          · have hq : (co xs j == co xs k) = false := by simpa using he
            have E2 : Hid (∀ m, m < j + 1 → co xs m ≠ co xs k) := fun m hm => by
              by_cases e : m = j
              · rw [e]; exact he
              · exact E.out m (by omega)
            clear E he
            go_wp2
            go_quiet (fail)
            go_wp2
            first
              | exact ⟨⟨j + 1, by omega, by go_num, below_drewN hb _, E2⟩, by simp [intOf]; omega⟩
              | (go_roundw
                 case rel => exact ⟨j + 1, by omega, by go_num, below_drewN hb _, E2⟩
                 case measure => simp [intOf]; omega)
        · obtain rfl : j = k := by omega
          have D2 : Hid ((xs.take (j + 1)).Nodup) := nodup_succ HK.out D.out (fun hm => by
            rw [List.mem_take_iff_getElem] at hm
            obtain ⟨i, hi, e⟩ := hm
            refine E.out i (by omega) ?_
            rw [← e]; simp [co, List.getD_eq_getElem?_getD, List.getElem?_eq_getElem (show i < xs.length by omega)])
          have i2 : ¬ (j : Int) < (j : Int) := by omega
          go_wp2
          first
            | exact ⟨⟨j + 1, by omega, by go_num, hb, D2⟩, by simp [intOf]; omega⟩
            | (go_roundw
               case rel => exact ⟨j + 1, by omega, by go_num, hb, D2⟩
               case measure => simp [intOf]; omega)
    · obtain rfl : k = n := by omega
      have HN : Hid (xs.Nodup) := by
        have h3 := D.out
        rw [← hl.out, List.take_length] at h3; exact h3
      have i1 : ¬ (k : Int) < (k : Int) := by omega
      go_wp2
      go_ret
      first | exact .inl ⟨rfl, hb⟩ | exact ⟨false, rfl, ⟨fun h => (by cases h), fun h => absurd HN.out h⟩, hb⟩
set_option maxRecDepth 1000000 in
theorem refTwice_nil (a : Option Addr) (c : Nat) (w : World) :
    Calls Try.prog 54 #[.slice a 0 c] w fun e w' => e = .returned (.bool false) ∧ w' = w := by
  go_enter Try.func54, Try.ntmps54
  go_wp2
  refine wp_loop_rounds 1 ?_
  rw [rounds_succ]
  go_wp2
  go_ret
  exact ⟨rfl, rfl⟩
end
theorem refTwice_any {w : World} {v : Value} {xs : List (BitVec 8)} (h : Sr w v xs) (hn : xs.length ≤ 140737488351232) :
    Calls Try.prog 54 #[v] w fun e w' => ∃ r, e = .returned (.bool r) ∧ Hid (r = true ↔ ¬ xs.Nodup) ∧ Below w.heap.size w w' := by
  by_cases h0 : xs = []
  · subst h0
    obtain ⟨p, c, rfl⟩ := h.empty
    exact (refTwice_nil p c w).mono fun e w' ⟨he, hw⟩ => ⟨false, he, ⟨fun h => (by cases h), fun h => absurd List.nodup_nil h⟩, by rw [hw]; exact Below.refl _ _⟩
  · obtain ⟨b, o, c, rfl, _, hc⟩ := h.cells h0
    exact refTwice_core b o _ c xs w rfl hn hc
end Go.Proofs.Ytpjebfcdjhcfnaa
