/-
  CrcBursts: its walk.
-/
import Derived.Test.YtmpccpcnbenpfabLd
import Derived.Test.YtmpccpcnbenpfabCz1
import Derived.Test.YtmpccpcnbenpfabLcW
namespace Go.Proofs.Ytmpccpcnbenpfab
open Go.RowKit Go.Great
theorem rg_tb1 (r : BitVec 32) (k : Nat) (h : r.getLsbD k = true) : bits .and .u32 (rg r / 2 ^ k) 1 = 1 := by
  rw [rg_shr, show (1 : Int) = rg 1#32 from rfl, rg_and]
  congr 1
  apply BitVec.eq_of_getLsbD_eq; intro j hj
  rw [BitVec.getLsbD_and, BitVec.getLsbD_ushiftRight, BitVec.getLsbD_one]
  by_cases e : j = 0
  · subst e; simp [h]
  · simp [e]
theorem rg_tb0 (r : BitVec 32) (k : Nat) (h : r.getLsbD k = false) : bits .and .u32 (rg r / 2 ^ k) 1 = 0 := by
  rw [rg_shr, show (1 : Int) = rg 1#32 from rfl, rg_and, show (0 : Int) = rg 0#32 from rfl]
  congr 1
  apply BitVec.eq_of_getLsbD_eq; intro j hj
  rw [BitVec.getLsbD_and, BitVec.getLsbD_ushiftRight, BitVec.getLsbD_one]
  by_cases e : j = 0
  · subst e; simp [h]
  · simp [e]
/-- What has been turned: L is the text with the word W laid on. -/
structure Tn (xs L : List (BitVec 8)) (d : Nat) (W : BitVec 32) (k : Nat) : Prop where
  len : L.length = xs.length
  ov : ∀ r, ov r L = ov r xs ^^^ stps d W
  top : ∀ i, k ≤ i → W.getLsbD i = false
theorem Tn.next {xs L : List (BitVec 8)} {d k : Nat} {W : BitVec 32} (h : Tn xs L d W k) (F : Nat) (hd : d = 8 * xs.length - F) (hk : k < 32) (hF : F + k < 8 * xs.length) : Tn xs (tb L (F + k)) d (W ^^^ 1#32 <<< k) (k + 1) ∧ W ^^^ 1#32 <<< k ≠ 0#32 := by
  refine ⟨⟨by rw [tb_len]; exact h.len, fun r => ?_, fun i hi => ?_⟩, fun e => ?_⟩
  · rw [ov_tb L (F + k) (by rw [h.len]; exact hF), h.ov, Lin.stps d W, BitVec.xor_assoc]
    congr 2
    rw [stps_bit k d hk (by omega), h.len]; congr 1; omega
  · by_cases h32 : i < 32
    · rw [BitVec.getLsbD_xor, h.top i (by omega), one_shl k i h32]; simp; omega
    · exact BitVec.getLsbD_of_ge _ _ (by omega)
  · have : (W ^^^ 1#32 <<< k).getLsbD k = true := by rw [BitVec.getLsbD_xor, h.top k (Nat.le_refl _), one_shl k k hk]; simp
    rw [e] at this; simp at this
theorem Tn.skip {xs L : List (BitVec 8)} {d k : Nat} {W : BitVec 32} (h : Tn xs L d W k) : Tn xs L d W (k + 1) := ⟨h.len, h.ov, fun i hi => h.top i (by omega)⟩
theorem Tn.same {xs L : List (BitVec 8)} {d k : Nat} (h : Tn xs L d 0#32 k) : cmo 0#32 L = cmo 0#32 xs := by
  unfold cmo; rw [h.ov, (Lin.stps d).zero, BitVec.xor_zero]
theorem Tn.blind {xs L : List (BitVec 8)} {d k : Nat} {W : BitVec 32} (h : Tn xs L d W k) : Go.Proofs.Ytmpccpcnbenpfab.ov 0#32 (xl L xs) = stps d W := by
  have e := ov_xl L xs 0#32 0#32 h.len
  rw [BitVec.xor_self, h.ov, BitVec.xor_comm (Go.Proofs.Ytmpccpcnbenpfab.ov 0#32 xs), BitVec.xor_assoc, BitVec.xor_self, BitVec.xor_zero] at e
  exact e
section
attribute [local irreducible] Calls rg ov cmo el Ow xl Wr tb fn stps
set_option maxHeartbeats 4000000 in
set_option maxRecDepth 1000000 in
theorem crcBursts_pos {w : World} {q0 : Option Addr} {xs : List (BitVec 8)} (h0 : Rd w q0 xs) (n k0 : Nat) (hn : xs.length = n) (hm : n ≤ 140737488351232) (hp : 0 < n) (at_ : Int) (pat : BitVec 32) :
    Calls Try.prog 6 #[.slice q0 n k0, .int .i64 at_, .int .u32 (rg pat)] w fun e w' => e = .returned (.bool true) ∧ Below w.heap.size w w' := by
  obtain ⟨F, hF⟩ : ∃ F : Nat, (F : Int) = at_ % (8 * (n : Int)) := ⟨(at_ % (8 * (n : Int))).toNat, by have := Int.emod_nonneg at_ (show (8 * (n : Int)) ≠ 0 by omega); omega⟩
  have hFb : F < 8 * n := by have := Int.emod_lt_of_pos at_ (show 0 < 8 * (n : Int) by omega); omega
  have hm2 : n ≤ 140737488355328 := by omega
  have hpl : Calls Try.prog 21 #[.int .i64 at_, .int .i64 (8 * (n : Int))] = Calls Try.prog 21 #[.int .i64 at_, .int .i64 (8 * (n : Int))] := rfl
  have pl : ∀ W : World, Calls Try.prog 21 #[.int .i64 at_, .int .i64 (8 * (n : Int))] W fun e w' => e = .returned (.int .i64 F) ∧ w' = W := fun W => by rw [hF]; exact place_any at_ (8 * (n : Int)) (by omega) (by omega) W
  clear hpl hF
  go_enter Try.func6, Try.ntmps6
  go_wp2_with (first | (go_at_call 13; refine (known_any _).mono ?_; rintro e w1 ⟨rfl, hb1⟩) | (go_at_call 16; refine (twin_any (h0.below hb1) n k0 hn hm2).mono ?_; rintro e w2 ⟨v2, rfl, ho2, hb2⟩; obtain ⟨g, c2, rfl, hg, hW⟩ := ho2.wr (by omega); clear ho2) | (go_at_call 21; refine (pl _).mono ?_; rintro e w' ⟨rfl, hw⟩; rw [hw]; clear hw))
  have hgb : w.heap.size ≤ g := Nat.le_trans hb1.size hg
  have hb := bt hb1 hb2
  clear hb1 hb2 hg pl
  go_loopw [9, 10] (fun t i wr => ∃ (k : Nat) (L : List (BitVec 8)) (W : BitVec 32), k ≤ 32 ∧ i = .int .i64 k ∧ t = .bool (W != 0#32) ∧ Hid (Tn xs L (8 * n - F) W k) ∧ Wr wr g L ∧ Below w.heap.size w wr) (fun _ i _ => 32 - (intOf i).toNat)
  case atStart => exact ⟨0, xs, 0#32, Nat.zero_le _, rfl, by simp, ⟨rfl, fun r => by rw [(Lin.stps _).zero, BitVec.xor_zero], fun i _ => by simp⟩, hW, hb⟩
  case round =>
    clear hW hb
    obtain ⟨k, L, W, hk, rfl, rfl, HT, hW, hb⟩ := hrel
    have hL : L.length = n := by rw [HT.out.len, hn]
    by_cases hlt : k < 32
    · have hi : (k : Int) < 32 := by omega
      by_cases hbit : pat.getLsbD k = true
      · have q1 := rg_tb1 pat k hbit
        clear hbit
        by_cases hin : F + k < 8 * n
        · have q2 : ((F : Int) + (k : Int)) / 8 < (n : Int) := by omega
          have cst : ((F : Int) + (k : Int)) = ((F + k : Nat) : Int) := by omega
          have hN := HT.out.next F (by rw [hn]) hlt (by rw [hn]; exact hin)
          have hn1 : (W ^^^ 1#32 <<< k != 0#32) = true := by simpa using hN.2
          have la : ∀ X : World, Wr X g L → Calls Try.prog 20 #[.slice (some ⟨g, 0, none⟩) n c2, .int .i64 ((F : Int) + (k : Int))] X fun e w' => e = .returned (.tuple #[]) ∧ w' = X.setCell ⟨g, (F + k) / 8, none⟩ (.int .u8 (el (fn L ((F + k) / 8) ^^^ 1#8 <<< ((F + k) % 8)))) := fun X hX => by rw [cst]; exact laid_in hX n c2 (F + k) hL hm2 hin
          clear cst
          go_wp2_with (go_at_call 20; refine (la _ hW).mono ?_; rintro e w' ⟨rfl, hw⟩; rw [hw]; clear hw)
          go_roundw
          case rel => exact ⟨k + 1, tb L (F + k), W ^^^ 1#32 <<< k, by omega, by go_num, by rw [hn1], hN.1, by unfold tb; exact hW.set (by omega) rfl, hb.setCell hgb _⟩
          case measure => simp [intOf]; omega
        · have q2 : ¬ ((F : Int) + (k : Int)) / 8 < (n : Int) := by omega
          go_wp2_with (fail)
          go_roundw
          case rel => exact ⟨k + 1, L, W, by omega, by go_num, rfl, HT.out.skip, hW, hb⟩
          case measure => simp [intOf]; omega
      · have q1 := rg_tb0 pat k (by simpa using hbit)
        clear hbit
        go_wp2_with (fail)
        go_roundw
        case rel => exact ⟨k + 1, L, W, by omega, by go_num, rfl, HT.out.skip, hW, hb⟩
        case measure => simp [intOf]; omega
    · obtain rfl : k = 32 := by omega
      by_cases hz : W = 0#32
      · subst hz
        have e1 := HT.out.same
        have b1 : ((0#32 : BitVec 32) != 0#32) = false := by simp
        rw [b1]
        clear b1
        go_wp2_with (first | (go_at_call 9; refine (csum_any hW.rd n c2 hL hm2).mono ?_; rw [e1]; rintro e w3 ⟨rfl, hb3⟩; have d3 := bt hb hb3) | (go_at_call 16; refine (twin_any (h0.below d3) n k0 hn hm2).mono ?_; rintro e w4 ⟨v4, rfl, ho4, hb4⟩; obtain ⟨p4, c4, rfl, _, r4⟩ := ho4.rd; have d4 := bt d3 hb4; clear ho4) | (go_at_call 9; refine (csum_any r4 n c4 hn hm2).mono ?_; rintro e w5 ⟨rfl, hb5⟩; have d5 := bt d4 hb5))
        go_ret
        exact ⟨rfl, d5⟩
      · have b1 : (W != 0#32) = true := by simpa using hz
        have hl2 : L.length = xs.length := by omega
        have e2 : (ov 0#32 (xl L xs) == 0#32) = false := by rw [HT.out.blind]; simpa using stps_ne (8 * n - F) hz
        have e3 : (rg (cmo 0#32 L) != rg (cmo 0#32 xs)) = true := by
          rw [rg_bne]; unfold bne; rw [cmo_same L xs hl2, e2]; rfl
        have hlx : (xl L xs).length = n := by rw [xl_len L xs hl2, hL]
        rw [b1]
        clear b1 hz HT
        go_wp2_with (first | (go_at_call 9; refine (csum_any hW.rd n c2 hL hm2).mono ?_; rintro e w3 ⟨rfl, hb3⟩; have d3 := bt hb hb3; have hW3 := hW.below hb3) | (go_at_call 16; refine (twin_any (h0.below d3) n k0 hn hm2).mono ?_; rintro e w4 ⟨v4, rfl, ho4, hb4⟩; obtain ⟨p4, c4, rfl, _, r4⟩ := ho4.rd; have d4 := bt d3 hb4; clear ho4) | (go_at_call 9; refine (csum_any r4 n c4 hn hm2).mono ?_; rintro e w5 ⟨rfl, hb5⟩; have d5 := bt d4 hb5) | (go_at_call 17; refine (both_any ((hW3.below hb4).below hb5).rd (h0.below d5) n c2 k0 hL hn hm2).mono ?_; rintro e w6 ⟨v6, rfl, ho6, hb6⟩; obtain ⟨p6, c6, rfl, _, r6⟩ := ho6.rd; have d6 := bt d5 hb6; clear ho6) | (go_at_call 18; refine (cblind_any r6 n c6 hlx hm2).mono ?_; rw [e2]; rintro e w7 ⟨rfl, hb7⟩; have d7 := bt d6 hb7))
        go_ret
        exact ⟨rfl, d7⟩
set_option maxHeartbeats 4000000 in
set_option maxRecDepth 1000000 in
theorem crcBursts_nil {w : World} {q0 : Option Addr} (h0 : Rd w q0 []) (k0 : Nat) (at_ : Int) (pat : BitVec 32) :
    Calls Try.prog 6 #[.slice q0 0 k0, .int .i64 at_, .int .u32 (rg pat)] w fun e w' => e = .returned (.bool true) ∧ Below w.heap.size w w' := by
  have hn : ([] : List (BitVec 8)).length = 0 := rfl
  go_enter Try.func6, Try.ntmps6
  go_wp2_with (first | (go_at_call 13; refine (known_any _).mono ?_; rintro e w1 ⟨rfl, hb1⟩) | (go_at_call 16; refine (twin_any (h0.below hb1) 0 k0 hn (by omega)).mono ?_; rintro e w2 ⟨v2, rfl, ho2, hb2⟩; obtain ⟨p2, c2, rfl, _, r2⟩ := ho2.rd; clear ho2) | (go_at_call 21; refine (place_none at_ 0 (by omega) _).mono ?_; rintro e w' ⟨rfl, hw⟩; rw [hw]; clear hw))
  have hb := bt hb1 hb2
  clear hb1 hb2
  go_loopw [9, 10] (fun t i wr => ∃ (k : Nat), k ≤ 32 ∧ i = .int .i64 k ∧ t = .bool false ∧ Rd wr p2 [] ∧ Below w.heap.size w wr) (fun _ i _ => 32 - (intOf i).toNat)
  case atStart => exact ⟨0, Nat.zero_le _, rfl, rfl, r2, hb⟩
  case round =>
    clear r2 hb
    obtain ⟨k, hk, rfl, rfl, r2, hb⟩ := hrel
    by_cases hlt : k < 32
    · have hi : (k : Int) < 32 := by omega
      have q2 : ¬ (k : Int) / 8 < 0 := by omega
      by_cases hbit : pat.getLsbD k = true
      · have q1 := rg_tb1 pat k hbit
        clear hbit
        go_wp2_with (fail)
        go_roundw
        case rel => exact ⟨k + 1, by omega, by go_num, rfl, r2, hb⟩
        case measure => simp [intOf]; omega
      · have q1 := rg_tb0 pat k (by simpa using hbit)
        clear hbit
        go_wp2_with (fail)
        go_roundw
        case rel => exact ⟨k + 1, by omega, by go_num, rfl, r2, hb⟩
        case measure => simp [intOf]; omega
    · obtain rfl : k = 32 := by omega
      go_wp2_with (first | (go_at_call 9; refine (csum_any r2 0 c2 hn (by omega)).mono ?_; rintro e w3 ⟨rfl, hb3⟩; have d3 := bt hb hb3) | (go_at_call 16; refine (twin_any (h0.below d3) 0 k0 hn (by omega)).mono ?_; rintro e w4 ⟨v4, rfl, ho4, hb4⟩; obtain ⟨p4, c4, rfl, _, r4⟩ := ho4.rd; have d4 := bt d3 hb4; clear ho4) | (go_at_call 9; refine (csum_any r4 0 c4 hn (by omega)).mono ?_; rintro e w5 ⟨rfl, hb5⟩; have d5 := bt d4 hb5))
      go_ret
      exact ⟨rfl, d5⟩
theorem crcBursts_walk {w : World} {q0 : Option Addr} {xs : List (BitVec 8)} (h0 : Rd w q0 xs) (n k0 : Nat) (hn : xs.length = n) (hm : n ≤ 140737488351232) (at_ : Int) (pat : BitVec 32) :
    Calls Try.prog 6 #[.slice q0 n k0, .int .i64 at_, .int .u32 (rg pat)] w fun e w' => e = .returned (.bool true) ∧ Below w.heap.size w w' := by
  by_cases hp : 0 < n
  · exact crcBursts_pos h0 n k0 hn hm hp at_ pat
  · obtain rfl : n = 0 := by omega
    have : xs = [] := List.length_eq_zero_iff.1 hn
    subst this
    exact crcBursts_nil h0 k0 at_ pat
end
end Go.Proofs.Ytmpccpcnbenpfab
