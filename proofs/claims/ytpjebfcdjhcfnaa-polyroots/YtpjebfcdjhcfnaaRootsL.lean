/-
  PolyRoots: the document's Roots, the walk.
-/
import Derived.Test.YtpjebfcdjhcfnaaSumsW
import Derived.Test.YtpjebfcdjhcfnaaPRoots
namespace Go.Proofs.Ytpjebfcdjhcfnaa
open Go.RowKit
section
attribute [local irreducible] Calls el gm co Rs Sl Sr ev rts vs nb
set_option maxHeartbeats 4000000 in
set_option maxRecDepth 1000000 in
theorem refRoots_any {w : World} {va : Value} {xs : List (BitVec 8)} (h : Sr w va xs) (hn : xs.length ≤ 140737488351232) :
    Calls Try.prog 33 #[va] w fun e w' => ∃ v', e = .returned v' ∧ Rs 5 w.heap.size w' v' (rts xs 256) ∧ Below w.heap.size w w' := by
  obtain ⟨i0, hi, hz0, hz1, hz2⟩ := info_parts info5
  have hr0 : rts xs 0 = [] := by unfold rts; rfl
  go_enter Try.func33, Try.ntmps33
  go_wp2
  go_loopw [3, 4] (fun v i wr => ∃ k : Nat, k ≤ 256 ∧ i = .int .i64 k ∧ Rs 5 w.heap.size wr v (rts xs k) ∧ Below w.heap.size w wr) (fun _ i _ => 256 - (intOf i).toNat)
  case atStart => exact ⟨0, Nat.zero_le _, rfl, by rw [hr0]; exact Rs.nil _ _ _, Below.refl _ _⟩
  case round =>
    clear hr0
    obtain ⟨k, hk, rfl, hR, hb⟩ := hrel
    by_cases hlt : k < 256
    · have i1 : (k : Int) < 256 := by omega
      have hlr := rts_len xs k
      have HA : Hid (Calls Try.prog 11 #[va, .int .u8 (k : Int)] wr fun e w' => e = .returned (.int .u8 (el (ev (nb k) xs))) ∧ w' = wr) := by
        have h2 := h.below hb
        unfold Sr at h2
        obtain ⟨p, c, e, hr⟩ := h2
        have h3 := refAt_any hr _ c rfl (by omega) (nb k)
        rw [el_nb k hlt, ← e] at h3; exact h3
      by_cases hz : ev (nb k) xs = 0#8
      · have h0 : (el (ev (nb k) xs) == 0) = true := by rw [hz, el_0]; rfl
        have HZ : Hid (ev (nb k) xs = 0#8) := hz
        clear hz
        have M1 : Hid ((rts xs k).length + 1 ≤ maxLen) := by show _ ≤ _; unfold maxLen; omega
        have M3 : Hid (((rts xs k).length + 1) * 1 ≤ 140737488355328) := by show _ ≤ _; omega
        have M2 : Hid (∀ o : Obj, w.heap.size ≤ (wr.alloc o).heap.size) := fun o => by have := hb.size; simp; omega
        have HI := (show Hid _ from rts_in HZ.out)
        unfold Rs at hR
        go_wp2_with (first
          | (go_at_call 11; refine HA.out.mono ?_; rintro e w' ⟨rfl, h⟩; obtain rfl := h.symm)
          | (at_builtin; refine wpList_append_own _ rfl _ _ 22 rfl w.heap.size 5 i0 (.int .u8 0) 1 1 Try.underlying22 hi hz0 hz1 hz2 rfl (by decide) _ _ _ rfl (hR.alloc _) ⟨wr.heap.size, 0, none⟩ 1 1 [.int .u8 (k : Int)] rfl rfl (one_new _ _ _) (one_cell _ _) M1.out M3.out (M2.out _) ?_; intro v' w3 hown' hgrow _))
        have hb' := below_append (hb.alloc hb.size _) (M2.out _) hgrow (hR.alloc _) (Nat.le_refl _)
        rw [← el_nb k hlt] at hown'
        have hP := Rs.push hown'
        rw [← HI.out] at hP
        clear hown' hgrow hR
        go_roundw
        case rel => exact ⟨k + 1, by omega, by go_num, hP, hb'⟩
        case measure => simp [intOf]; omega
      · have h0 : (el (ev (nb k) xs) == 0) = false := by rw [← el_0, el_beq]; simpa using hz
        have HI := (show Hid _ from rts_out hz)
        go_wp2_with (go_at_call 11; refine HA.out.mono ?_; rintro e w' ⟨rfl, h⟩; obtain rfl := h.symm)
        go_roundw
        case rel => exact ⟨k + 1, by omega, by go_num, by rw [HI.out]; exact hR, hb⟩
        case measure => simp [intOf]; omega
    · obtain rfl : k = 256 := by omega
      go_wp2
      go_ret
      exact ⟨_, rfl, hR, hb⟩
attribute [local irreducible] Lent
set_option maxHeartbeats 4000000 in
set_option maxRecDepth 1000000 in
theorem polyRoots_walk {w : World} {va : Value} {xs : List (BitVec 8)} (hp : Sr w va xs) (hn : xs.length ≤ 140737488351232) :
    Calls Try.prog 7 #[va] w fun e w' => e = .returned (.bool true) ∧ Below w.heap.size w w' := by
  have L4 : Hid (xs.length ≤ 140737488351232) := hn
  have L6 : Hid (xs.length ≤ 281474976710656) := by show _ ≤ _; omega
  have L8 : Hid ((rts xs 256).length ≤ 281474976710656) := by show _ ≤ _; have := rts_len xs 256; omega
  clear hn
  go_enter Try.func7, Try.ntmps7
  go_wp2_with (first
    | (go_at_call 33; refine (refRoots_any hp L4.out).mono ?_; rintro e w1 ⟨s, rfl, hS, hb1⟩; have hp_1 := hp.below hb1)
    | (go_at_call 12; refine (lent_sl hp_1 L4.out).mono ?_; rintro e w2 ⟨x, rfl, hX, hb2⟩; have hp_2 := hp_1.below hb2; clear hp_1; have hS_2 := hS.below hb2)
    | (go_at_call 34; refine (proots_any hX.sl L6.out).mono ?_; rintro e w3 ⟨a1, rfl, hA1, hb3⟩; have hp_3 := hp_2.below hb3; clear hp_2; have hS_3 := hS_2.below hb3; clear hS_2; have hX_3 := hX.below hb3)
    | (go_at_call 14; refine (same_any hA1.sr hS_3.sr L8.out).mono ?_; rintro e w4 ⟨rfl, hb4⟩; have hp_4 := hp_3.below hb4; clear hp_3; have hX_4 := hX_3.below hb4; clear hX_3)
    | (go_at_call 17; refine (kept_sl hX_4 hp_4 L4.out).mono ?_; rintro e w5 ⟨rfl, hb5⟩; have hp_5 := hp_4.below hb5; clear hp_4))
  go_ret
  exact ⟨rfl, (bt (bt (bt (bt hb1 hb2) hb3) hb4) hb5)⟩
end
end Go.Proofs.Ytpjebfcdjhcfnaa
