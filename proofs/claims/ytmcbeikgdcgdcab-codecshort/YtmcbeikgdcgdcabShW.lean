/-
  CodecShort: the walk.
-/
import Derived.Test.YtmcbeikgdcgdcabSh7
import Derived.Test.YtmcbeikgdcgdcabKs
import Derived.Deep.QuietTactic
import Derived.BigQuiet
namespace Go.Proofs.Ytmcbeikgdcgdcab
open Go.RowKit
theorem shl_fact (c i P v : Nat) (h : P + c * 128 ^ i ≤ v) (hv : v < 18446744073709551616) : IntKind.u64.wrap ((c : Int) * 2 ^ (7 * i)) = ((c * 128 ^ i : Nat) : Int) := by
  rw [IntKind.wrap_u64]
  have e : (2 : Int) ^ (7 * i) = ((128 ^ i : Nat) : Int) := by
    rw [Int.pow_mul]; simp
  rw [e]
  have : c * 128 ^ i < 18446744073709551616 := by omega
  rw [← Int.natCast_mul]
  omega
section
attribute [local irreducible] Calls el sb sfk ps gl bstr
set_option maxHeartbeats 4000000 in
set_option maxRecDepth 1000000 in
theorem codecShort_walk (v x : Nat) (hv : v < 18446744073709551616) (hx : x < 18446744073709551616) (w : World) :
    Calls Try.prog 3 #[.int .u64 (v : Int), .int .u64 (x : Int)] w fun e w' => e = .returned (.bool true) ∧ Below w.heap.size w w' := by
  have P1 := (show Hid _ from putU_any (w := w) (a := none) (bs := []) (.inl rfl) 0 0 rfl (by omega) v hv)
  have P2 := (show Hid _ from fun (W : World) => putU_any (w := W) (a := none) (bs := []) (.inl rfl) 0 0 rfl (by omega) x hx)
  have LL := sfk_pos 9 v
  have LM := sfk_len 9 v
  have LX := sfk_pos 9 x
  have LY := sfk_len 9 x
  go_enter Try.func3, Try.ntmps3
  go_wp2_with (first
    | (go_at_call 6; refine P1.out.mono ?_; rintro e w1 ⟨v1, rfl, ho1, hb1⟩)
    | (go_at_call 6; refine (P2.out w1).mono ?_; rintro e w2 ⟨v2, rfl, ho2, hb2⟩))
  rw [List.nil_append] at ho1 ho2
  obtain ⟨p1, c1, rfl, hc1, r1⟩ := ho1.rd
  obtain ⟨p2, c2, rfl, hc2, r2⟩ := ho2.rd
  replace r1 := r1.below hb2
  have hb := bt hb1 hb2
  clear ho1 ho2 P1 P2 hb1 hb2
  rw [sb_sfl] at hc1 hc2
  simp only [sb_sfl]
  obtain ⟨L, hL⟩ : ∃ L, (sfk 9 v).length = L := ⟨_, rfl⟩
  obtain ⟨M, hM⟩ : ∃ M, (sfk 9 x).length = M := ⟨_, rfl⟩
  rw [hL] at LL LM hc1
  rw [hM] at LX LY hc2
  simp only [hL, hM]
  have H1 : Hid (∀ i, i < L → ∃ c : Nat, c = (sfk 9 v).getD i 0 ∧ c < 256 ∧ (128 ≤ c ↔ i + 1 < L) ∧ ps (sfk 9 v) (i + 1) = ps (sfk 9 v) i + (c % 128) * 128 ^ i ∧ ps (sfk 9 v) (i + 1) ≤ v) := by
    intro i hi
    rw [← hL] at hi ⊢
    refine ⟨_, rfl, ?_, sfk_mark 9 v i hv hi, ps_succ _ i hi, ?_⟩
    · have := sb_get 9 v i hv hi
      have := el_bd ((sb 9 v).getD i 0#8)
      omega
    · have := ps_mono (sfk 9 v) (i + 1) (sfk 9 v).length hi
      rw [ps_sfk 9 v hv] at this
      exact this
  have H2 : Hid (∀ i, i < L → el ((sb 9 v).getD i 0#8) = (((sfk 9 v).getD i 0 : Nat) : Int)) := fun i hi => sb_get 9 v i hv (by rw [hL]; exact hi)
  have H3 : Hid (ps (sfk 9 v) L = v) := by rw [← hL]; exact ps_sfk 9 v hv
  have H4 : Hid ((sb 9 v).take (min L M) = (sb 9 x).take (min L M) ↔ v = x) := by rw [← hL, ← hM]; exact sf_prefix v x hv hx
  have H5 : Hid ((sb 9 v).length = L ∧ (sb 9 x).length = M) := ⟨by rw [sb_sfl, hL], by rw [sb_sfl, hM]⟩
  have H6 : Hid (1 + gl 8 (v / 128) = L ∧ v / 128 < 2 ^ (7 * 8 + 1)) := by
    obtain ⟨q1, q2⟩ := gl_first v hv
    rw [hL] at q1
    exact ⟨q1.symm, q2⟩
  clear hL hM
  go_loopw [7, 8] (fun g u wr => ∃ k n m : Nat, g = .int .i64 (n : Int) ∧ u = .int .u64 (m : Int) ∧ n + gl k m = L ∧ m < 2 ^ (7 * k + 1) ∧ Below w2.heap.size w2 wr) (fun _ u _ => (intOf u).toNat)
  case atStart =>
    obtain ⟨q1, q2⟩ := H6.out
    exact ⟨8, 1, v / 128, rfl, by go_num, q1, q2, Below.refl _ _⟩
  case round =>
    obtain ⟨k, n, m, rfl, rfl, hg, hm, hbl⟩ := hrel
    by_cases hlt : 0 < m
    · have hi : (0 : Int) < (m : Int) := by omega
      go_wp2
      go_roundw
      case rel =>
        obtain ⟨q1, q2⟩ := gl_step k m hlt hm
        exact ⟨k - 1, n + 1, m / 128, by go_num, by go_num, by omega, q2, hbl⟩
      case measure => simp [intOf]; omega
    · obtain rfl : m = 0 := by omega
      have e1 : n = L := by rw [gl_zero] at hg; exact hg
      subst e1
      replace r1 := r1.below hbl
      replace r2 := r2.below hbl
      have hb2 := bt hb hbl
      clear hg hm hbl hb
      have n0 : ((M : Int) == 0) = false := by simp; omega
      obtain ⟨wA, hwA⟩ : ∃ W, W = wr := ⟨_, rfl⟩
      subst hwA
      go_wp2
      go_loopw [9, 10] (fun s i wq => ∃ k : Nat, k ≤ n ∧ i = .int .i64 (k : Int) ∧ s = .int .u64 ((ps (sfk 9 v) k : Nat) : Int) ∧ Below w.heap.size w wq ∧ Below wA.heap.size wA wq) (fun _ i _ => n - (intOf i).toNat)
      case atStart => exact ⟨0, Nat.zero_le _, rfl, by unfold ps; rfl, hb2, Below.refl _ _⟩
      case round =>
        obtain ⟨k, hk, rfl, rfl, hb3, hb4⟩ := hrel
        by_cases hlt : k < n
        · have hi : (k : Int) < (n : Int) := by omega
          obtain ⟨b, o, rfl, hc⟩ : ∃ b o, p1 = some ⟨b, o, none⟩ ∧ ∀ i, i < n → wA.cell? ⟨b, o + i, none⟩ = some (.int .u8 (el ((sb 9 v).getD i 0#8))) := by
            rcases r1 with r1 | ⟨b, o, e, hc⟩
            · have := H5.out.1; rw [r1] at this; simp at this; omega
            · rw [H5.out.1] at hc; exact ⟨b, o, e, hc⟩
          obtain ⟨c, e1, hcb, hmk, hps, hle⟩ := H1.out k hlt
          have g1 := cell_below (hc k hlt) hb4
          rw [H2.out k hlt, ← e1] at g1
          clear e1 hc
          obtain ⟨X, hX⟩ : ∃ X, X = (c % 128) * 128 ^ k := ⟨_, rfl⟩
          have sh : IntKind.u64.wrap ((c : Int) % 128 * 2 ^ (7 * k)) = (X : Int) := by
            have := shl_fact (c % 128) k (ps (sfk 9 v) k) v (by omega) hv
            rw [hX, ← this]; simp
          rw [← hX] at hps
          have su : IntKind.u64.wrap (((ps (sfk 9 v) k : Nat) : Int) + (X : Int)) = ((ps (sfk 9 v) (k + 1) : Nat) : Int) := by
            rw [IntKind.wrap_u64, hps]; omega
          clear hX
          by_cases hq : 128 ≤ c
          · have q1 : (128 : Int) ≤ (c : Int) := by omega
            have q2 : (k : Int) + 1 < (n : Int) := by have := hmk.1 hq; omega
            go_wp2
            go_roundw
            case rel => exact ⟨k + 1, by omega, by go_num, congrArg (Value.int .u64) (by rw [hps]; omega), hb3, hb4⟩
            case measure => simp [intOf]; omega
          · have q1 : ¬ (128 : Int) ≤ (c : Int) := by omega
            have q2 : ¬ (k : Int) + 1 < (n : Int) := by
              intro h
              exact hq (hmk.2 (by omega))
            go_wp2
            go_roundw
            case rel => exact ⟨k + 1, by omega, by go_num, congrArg (Value.int .u64) (by rw [hps]; omega), hb3, hb4⟩
            case measure => simp [intOf]; omega
        · obtain rfl : k = n := by omega
          rw [H3.out]
          replace r1 := r1.below hb4
          replace r2 := r2.below hb4
          have H4' := H4.out
          obtain ⟨b1, o1, rfl⟩ : ∃ b o, p1 = some ⟨b, o, none⟩ := by
            rcases r1 with r1 | ⟨b, o, e, hc⟩
            · have := H5.out.1; rw [r1] at this; simp at this; omega
            · exact ⟨b, o, e⟩
          obtain ⟨b2, o2, rfl⟩ : ∃ b o, p2 = some ⟨b, o, none⟩ := by
            rcases r2 with r2 | ⟨b, o, e, hc⟩
            · have := H5.out.2; rw [r2] at this; simp at this; omega
            · exact ⟨b, o, e⟩
          rcases Nat.lt_or_ge M k with hlm | hlm
          · have hlm1 : (M : Int) < (k : Int) := by omega
            have hlm2 : ¬ (k : Int) ≤ (M : Int) := by omega
            rw [Nat.min_eq_right (by omega)] at H4'
            have cA := fun d => conv_rd (w := wr.drewN d) (show Rd (wr.drewN d) _ _ from r1.take M) M c1 (by rw [List.length_take, H5.out.1]; omega)
            have cB := fun d => conv_rd (w := wr.drewN d) (show Rd (wr.drewN d) _ _ from r2.take M) M c2 (by rw [List.length_take, H5.out.2]; omega)
            have k1 : M ≤ c1 := by omega
            have k2 : M ≤ c2 := by omega
            have hs : ((((bstr ((sb 9 v).take M)).toList == (bstr ((sb 9 x).take M)).toList) == ((v : Int) == (x : Int)))) = true := by
              rw [bstr_beq]
              by_cases e : v = x
              · rw [decide_eq_true (H4'.2 e), e]; simp
              · rw [decide_eq_false (fun h => e (H4'.1 h))]
                have : ¬ (v : Int) = (x : Int) := fun h => e (Int.ofNat_inj.1 h)
                simp [this]
            clear r1 r2 H4' H4 H5 H1 H2 H3 H6
            go_wp2
            go_quiet (fail)
            go_wp2
            go_ret
            refine ⟨?_, below_drewN hb3 _⟩
            rfl
          · have hlm1 : (k : Int) ≤ (M : Int) := by omega
            have hlm2 : ¬ (M : Int) < (k : Int) := by omega
            rw [Nat.min_eq_left (by omega)] at H4'
            have cA := fun d => conv_rd (w := wr.drewN d) (show Rd (wr.drewN d) _ _ from r1.take k) k c1 (by rw [List.length_take, H5.out.1]; omega)
            have cB := fun d => conv_rd (w := wr.drewN d) (show Rd (wr.drewN d) _ _ from r2.take k) k c2 (by rw [List.length_take, H5.out.2]; omega)
            have k1 : k ≤ c1 := by omega
            have k2 : k ≤ c2 := by omega
            have hs : ((((bstr ((sb 9 v).take k)).toList == (bstr ((sb 9 x).take k)).toList) == ((v : Int) == (x : Int)))) = true := by
              rw [bstr_beq]
              by_cases e : v = x
              · rw [decide_eq_true (H4'.2 e), e]; simp
              · rw [decide_eq_false (fun h => e (H4'.1 h))]
                have : ¬ (v : Int) = (x : Int) := fun h => e (Int.ofNat_inj.1 h)
                simp [this]
            clear r1 r2 H4' H4 H5 H1 H2 H3 H6
            go_wp2
            go_quiet (fail)
            go_wp2
            go_ret
            refine ⟨?_, below_drewN hb3 _⟩
            rfl
end
end Go.Proofs.Ytmcbeikgdcgdcab
