/-
  CodecSticky: the walk.
-/
import Derived.Test.YtmcbeikgdcgdcaaAf
import Derived.Test.YtmcbeikgdcgdcaaAw7
import Derived.Test.YtmcbeikgdcgdcaaStS
namespace Go.Proofs.Ytmcbeikgdcgdcaa
open Go.RowKit
section
attribute [local irreducible] Calls el Ow Ot asks
set_option maxHeartbeats 8000000 in
set_option maxRecDepth 1000000 in
theorem codecSticky_walk (w : World) (a : Option Addr) (bs : List (BitVec 8)) (hr : Rd w a bs) (n c : Nat) (hn : bs.length = n) (hn' : n ≤ 1048576) (q0 : Option Addr) (m k0 : Nat) (Q : Nat → Int × Int × Int × Int) (hm : m ≤ 1048576) (H1 : Hid (Scr w q0 m Q)) :
    Calls Try.prog 8 #[.slice a n c, .slice q0 m k0] w fun e w' => e = .returned (.bool true) ∧ Below w.heap.size w w' := by
  have al : ∀ (W : World) (o : Obj), Below W.heap.size W (W.alloc o) := fun W o => (Below.refl _ _).alloc (Nat.le_refl _) o
  subst hn
  obtain ⟨n, hn⟩ : ∃ n, bs.length = n := ⟨_, rfl⟩
  rw [hn] at hn' ⊢
  go_enter Try.func8, Try.ntmps8
  go_wp2_with (first
    | (go_at_call 37; refine (awake_any _).mono ?_; rintro e wA ⟨rfl, hbA⟩)
    | (go_at_call 30; refine (open_any (hr.below hbA) n c hn (by omega)).mono ?_; rintro e w3 ⟨r, rfl, hrr, hR3, hb3⟩; have ba3 := bt hbA hb3; have hrw := Nat.le_trans hbA.size hrr)
    | (go_at_call 41; refine (left_any hR3).mono ?_; rw [hn]; rintro e w' ⟨rfl, h9⟩; obtain rfl := h9.symm)
    | (go_at_call 40; refine (fault_any hR3).mono ?_; rintro e w' ⟨rfl, h9⟩; obtain rfl := h9.symm))
  go_loopw [6, 7, 8] (fun left fault i wr => ∃ (j : Nat) (l : List (BitVec 8)) (f : Int), j ≤ m ∧ i = .int .i64 (j : Int) ∧ left = .int .i64 (l.length : Int) ∧ fault = .int .i64 f ∧ 0 ≤ f ∧ f < 1000 ∧ Rdr wr r l f ∧ l.length ≤ n ∧ Below w.heap.size w wr) (fun _ _ i _ => m - (intOf i).toNat)
  case atStart => exact ⟨0, bs, 0, Nat.zero_le _, rfl, by rw [hn], rfl, by omega, by omega, hR3, by omega, ba3⟩
  case round =>
    clear hR3 hb3 ba3 hbA hr hn
    obtain ⟨j, l, f, hj, rfl, rfl, rfl, hf0, hf1, hR, hln, hb⟩ := hrel
    by_cases hlt : j < m
    · have hi : (j : Int) < (m : Int) := by omega
      obtain ⟨b, o, rfl, c0, c1, c2, c3, hq2, hq3⟩ := H1.out j hlt
      obtain ⟨⟨x0, x1, x2, x3⟩, hx⟩ : ∃ x, Q j = x := ⟨_, rfl⟩
      rw [hx] at c0 c1 c2 c3 hq2 hq3
      replace c0 := cell_below c0 hb
      replace c1 := cell_below c1 hb
      replace c2 := cell_below c2 hb
      replace c3 := cell_below c3 hb
      simp only at c0 c1 c2 c3 hq2 hq3
      obtain ⟨kk, hkk⟩ := Int.eq_ofNat_of_zero_le (Int.emod_nonneg x1 (by omega : (10 : Int) ≠ 0))
      have hkl := Int.emod_lt_of_pos x1 (by omega : (0 : Int) < 10)
      rw [hkk] at hkl
      have PK := (show Hid _ from pick_any x1 10 (by omega) (by omega))
      rw [hkk] at PK
      have K := asks_keeps kk (by omega) x2 x3 l f
      have hk13 : ((kk : Int) % 13).toNat = kk := by omega
      obtain ⟨W, hWd⟩ : ∃ W, W = wr.alloc (.cells #[.int .i64 x0, .int .i64 (kk : Int), .int .i64 x2, .int .i64 x3] 65) := ⟨_, rfl⟩
      have hWb : Below wr.heap.size wr W := by rw [hWd]; exact al _ _
      have AK := (show Hid _ from ask_any (hR.below hWb) (by omega) ⟨hf0, hf1⟩ x0 (kk : Int) x2 x3 hq2 hq3)
      rw [hk13] at AK
      obtain ⟨⟨⟨U, B, T⟩, l', f'⟩, hX⟩ : ∃ x, asks kk x2 x3 l f = x := ⟨_, rfl⟩
      rw [hX] at AK K
      obtain ⟨K1, K2, K3, K4⟩ := K
      simp only at K3
      have hf2 := K4 ⟨hf0, hf1⟩
      simp only at hf2
      clear hX hx hkk hkl hk13 K4
      by_cases hA : f = 0
      · subst hA
        by_cases hB : f' = 0
        · subst hB
          clear K1 K2
          by_cases hz : l'.length = 0
          · have E0 : en l'.length 0 = 0 := by unfold en; rw [if_pos rfl, if_pos hz]
            have hzi : (l'.length : Int) = 0 := by omega
            go_wp2_with (first
                      | (go_at_call 31; refine (PK.out _).mono ?_; rintro e2 w2 ⟨rfl, h9⟩; obtain rfl := h9.symm)
                      | (go_at_call 33; rw [← hWd]; refine AK.out.mono ?_; rintro e2 w1 ⟨hG1, hR1, vB, vT, rfl, hoB, hoT⟩; obtain ⟨pB, cB, rfl, _, _⟩ := hoB.rd; obtain ⟨pT, cT, rfl, _, _⟩ := hoT.rs; have hR2 := fun o => hR1.below (al w1 o); have hbb := gb (bt hb hWb) hG1 hrw)
                      | (go_at_call 41; refine (left_any (hR2 _)).mono ?_; rintro e2 w2 ⟨rfl, h9⟩; obtain rfl := h9.symm)
                      | (go_at_call 40; refine (fault_any (hR2 _)).mono ?_; rintro e2 w2 ⟨rfl, h9⟩; obtain rfl := h9.symm)
                      | (go_at_call 42; refine (end_any (hR2 _)).mono ?_; rintro e2 w2 ⟨rfl, h9⟩; obtain rfl := h9.symm))
            all_goals
              go_roundw
              case rel => exact ⟨j + 1, l', 0, by omega, by go_num, congrArg (Value.int .i64) (by first | rfl | omega), rfl, by omega, by omega, hR2 _, by omega, bt hbb (al _ _)⟩
              case measure => simp [intOf]; omega
          · have E0 : en l'.length 0 = 72 := by unfold en; rw [if_pos rfl, if_neg hz]
            have hzi : ((l'.length : Int) == 0) = false := by simp; intro h; rw [h] at hz; exact hz rfl
            go_wp2_with (first
                      | (go_at_call 31; refine (PK.out _).mono ?_; rintro e2 w2 ⟨rfl, h9⟩; obtain rfl := h9.symm)
                      | (go_at_call 33; rw [← hWd]; refine AK.out.mono ?_; rintro e2 w1 ⟨hG1, hR1, vB, vT, rfl, hoB, hoT⟩; obtain ⟨pB, cB, rfl, _, _⟩ := hoB.rd; obtain ⟨pT, cT, rfl, _, _⟩ := hoT.rs; have hR2 := fun o => hR1.below (al w1 o); have hbb := gb (bt hb hWb) hG1 hrw)
                      | (go_at_call 41; refine (left_any (hR2 _)).mono ?_; rintro e2 w2 ⟨rfl, h9⟩; obtain rfl := h9.symm)
                      | (go_at_call 40; refine (fault_any (hR2 _)).mono ?_; rintro e2 w2 ⟨rfl, h9⟩; obtain rfl := h9.symm)
                      | (go_at_call 42; refine (end_any (hR2 _)).mono ?_; rintro e2 w2 ⟨rfl, h9⟩; obtain rfl := h9.symm))
            all_goals
              go_roundw
              case rel => exact ⟨j + 1, l', 0, by omega, by go_num, congrArg (Value.int .i64) (by first | rfl | omega), rfl, by omega, by omega, hR2 _, by omega, bt hbb (al _ _)⟩
              case measure => simp [intOf]; omega
        · obtain ⟨e1, e2⟩ := K2 rfl hB
          simp only [Tl.mk.injEq] at e1
          obtain ⟨rfl, rfl, rfl⟩ := e1
          simp only at e2
          subst e2
          have E0 : en l'.length f' = f' := by unfold en; rw [if_neg hB]
          have hA' : (f' != 0) = true := by simpa using hB
          have hA2 : (f' == 0) = false := by simpa using hB
          clear K1 K2
          go_wp2_with (first
                    | (go_at_call 31; refine (PK.out _).mono ?_; rintro e2 w2 ⟨rfl, h9⟩; obtain rfl := h9.symm)
                    | (go_at_call 33; rw [← hWd]; refine AK.out.mono ?_; rintro e2 w1 ⟨hG1, hR1, vB, vT, rfl, hoB, hoT⟩; obtain ⟨pB, cB, rfl, _, _⟩ := hoB.rd; obtain ⟨pT, cT, rfl, _, _⟩ := hoT.rs; have hR2 := fun o => hR1.below (al w1 o); have hbb := gb (bt hb hWb) hG1 hrw)
                    | (go_at_call 41; refine (left_any (hR2 _)).mono ?_; rintro e2 w2 ⟨rfl, h9⟩; obtain rfl := h9.symm)
                    | (go_at_call 40; refine (fault_any (hR2 _)).mono ?_; rintro e2 w2 ⟨rfl, h9⟩; obtain rfl := h9.symm)
                    | (go_at_call 42; refine (end_any (hR2 _)).mono ?_; rintro e2 w2 ⟨rfl, h9⟩; obtain rfl := h9.symm))
          all_goals
            go_roundw
            case rel => exact ⟨j + 1, l', f', by omega, by go_num, congrArg (Value.int .i64) (by first | rfl | omega), rfl, by omega, by omega, hR2 _, by omega, bt hbb (al _ _)⟩
            case measure => simp [intOf]; omega
      · have e1 := K1 hA
        simp only [Prod.mk.injEq, Tl.mk.injEq] at e1
        obtain ⟨⟨rfl, rfl, rfl⟩, rfl, rfl⟩ := e1
        have E0 : en l'.length f' = f' := by unfold en; rw [if_neg hA]
        have hA' : (f' != 0) = true := by simpa using hA
        have hA2 : (f' == 0) = false := by simpa using hA
        clear K1 K2
        go_wp2_with (first
                  | (go_at_call 31; refine (PK.out _).mono ?_; rintro e2 w2 ⟨rfl, h9⟩; obtain rfl := h9.symm)
                  | (go_at_call 33; rw [← hWd]; refine AK.out.mono ?_; rintro e2 w1 ⟨hG1, hR1, vB, vT, rfl, hoB, hoT⟩; obtain ⟨pB, cB, rfl, _, _⟩ := hoB.rd; obtain ⟨pT, cT, rfl, _, _⟩ := hoT.rs; have hR2 := fun o => hR1.below (al w1 o); have hbb := gb (bt hb hWb) hG1 hrw)
                  | (go_at_call 41; refine (left_any (hR2 _)).mono ?_; rintro e2 w2 ⟨rfl, h9⟩; obtain rfl := h9.symm)
                  | (go_at_call 40; refine (fault_any (hR2 _)).mono ?_; rintro e2 w2 ⟨rfl, h9⟩; obtain rfl := h9.symm)
                  | (go_at_call 42; refine (end_any (hR2 _)).mono ?_; rintro e2 w2 ⟨rfl, h9⟩; obtain rfl := h9.symm))
        all_goals
          go_roundw
          case rel => exact ⟨j + 1, l', f', by omega, by go_num, congrArg (Value.int .i64) (by first | rfl | omega), rfl, by omega, by omega, hR2 _, by omega, bt hbb (al _ _)⟩
          case measure => simp [intOf]; omega
    · obtain rfl : j = m := by omega
      go_wp2
      go_ret
      exact ⟨rfl, hb⟩
end
end Go.Proofs.Ytmcbeikgdcgdcaa
