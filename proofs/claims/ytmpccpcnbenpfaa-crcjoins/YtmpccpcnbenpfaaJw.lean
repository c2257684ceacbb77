/-
  The document's Join; CrcJoins: its walk.
-/
import Derived.Test.YtmpccpcnbenpfaaJn
import Derived.Laws.Bits64
import Derived.Deep.RegionHeld3
namespace Go.Proofs.Ytmpccpcnbenpfaa
open Go.RowKit Go.Great
theorem rvk_low (a : BitVec 32) (k j : Nat) (hk : k ≤ 32) (hj : j < 32 - k) : (rvk a k).getLsbD j = false := by
  induction k with
  | zero => simp [rvk, sumOf]
  | succ k ih =>
    show (rvk a k ^^^ pck k (1#32 <<< (31 - k)) a).getLsbD j = false
    rw [BitVec.getLsbD_xor, ih (by omega) (by omega)]
    unfold pck
    by_cases h : a.getLsbD k
    · rw [if_pos h, one_shl _ j (by omega)]; simp; omega
    · rw [if_neg h]; simp
theorem rv_put (a : BitVec 32) (k : Nat) (hk : k < 32) : bits .or .u32 (rg (rvk a k)) (bi (a.getLsbD k) * 2 ^ (31 - k) % 4294967296) = rg (rvk a (k + 1)) := by
  have h1 : bi (a.getLsbD k) * 2 ^ (31 - k) % 4294967296 = rg (pck k (1#32 <<< (31 - k)) a) := by
    unfold pck bi
    cases a.getLsbD k
    · simp [rg]
    · rw [if_pos rfl, if_pos rfl, Int.one_mul, rg_bit]
  have h3 : rvk a (k + 1) = rvk a k ^^^ pck k (1#32 <<< (31 - k)) a := rfl
  rw [h1, h3]
  have h2 : rvk a k ||| pck k (1#32 <<< (31 - k)) a = rvk a k ^^^ pck k (1#32 <<< (31 - k)) a := by
    apply BitVec.eq_of_getLsbD_eq; intro i hi
    rw [BitVec.getLsbD_or, BitVec.getLsbD_xor]
    unfold pck
    by_cases hp : a.getLsbD k
    · rw [if_pos hp, one_shl _ i hi]
      by_cases e : i = 31 - k
      · rw [e, rvk_low a k (31 - k) (by omega) (by omega)]; simp
      · simp [e]
    · rw [if_neg hp]; simp
  rw [← h2]
  unfold rg
  rw [u32_or_nat _ _ (BitVec.isLt _) (BitVec.isLt _), BitVec.toNat_or]
section
attribute [local irreducible] Calls rg bi rvk stps xp val
set_option maxHeartbeats 1000000 in
set_option maxRecDepth 1000000 in
theorem turned_any (a : BitVec 32) (w : World) :
    Calls Try.prog 30 #[.int .u32 (rg a)] w fun e w' => e = .returned (.int .u32 (rg (rv a))) ∧ w' = w := by
  go_enter Try.func30, Try.ntmps30
  go_wp2
  go_loop [3, 4] (fun b i => ∃ k : Nat, k ≤ 32 ∧ i = .int .i64 k ∧ b = .int .u32 (rg (rvk a k))) (fun _ i => 32 - (intOf i).toNat)
  case atStart => exact ⟨0, Nat.zero_le _, rfl, by unfold rvk sumOf; rw [rg_zero]⟩
  case round =>
    obtain ⟨k, hk, rfl, rfl⟩ := hrel
    by_cases hlt : k < 32
    · have hi : (k : Int) < 32 := by omega
      have q1 := rg_tb a k
      have q2 := rv_put a k hlt
      obtain ⟨q, hq⟩ : ∃ q, q = a.getLsbD k := ⟨_, rfl⟩
      rw [← hq] at q1 q2
      clear hq
      go_wp2
      go_round
      case rel => exact ⟨k + 1, by omega, by go_num, rfl⟩
      case measure => simp [intOf]; omega
    · obtain rfl : k = 32 := by omega
      go_wp2
      go_ret
      exact ⟨rfl, rfl⟩
end
theorem bt6 {u v x : World} (h : Below u.heap.size u v) (k : Below v.heap.size v x) : Below u.heap.size u x := h.trans (k.mono h.size)
theorem rq_xor (a b : BitVec 64) : bits .xor .u64 (rq a) (rq b) = rq (a ^^^ b) := by
  unfold rq; rw [u64_xor_nat _ _ a.isLt b.isLt, BitVec.toNat_xor]
theorem sumOf_succ (t : Nat → BitVec 32) (a : BitVec 32) (n : Nat) : sumOf t a (n + 1) = sumOf t a n ^^^ pck n (t n) a := rfl
theorem cn_0 : cn 18 0 = true := by decide +kernel
theorem rq_zero : rq 0#64 = 0 := rfl
theorem rq_tb1 (p : BitVec 64) (k : Nat) (h : p.getLsbD k = true) : bits .and .u64 (rq p / 2 ^ k) 1 = 1 := by
  have e : rq p / (2 : Int) ^ k = rq (p >>> k) := by unfold rq; rw [BitVec.toNat_ushiftRight, Nat.shiftRight_eq_div_pow, Int.natCast_ediv]; simp
  rw [e, show (1 : Int) = rq 1#64 from rfl]
  unfold rq
  rw [u64_and_nat _ _ (BitVec.isLt _) (BitVec.isLt _), ← BitVec.toNat_and]
  congr 2
  apply BitVec.eq_of_getLsbD_eq; intro j hj
  rw [BitVec.getLsbD_and, BitVec.getLsbD_ushiftRight, BitVec.getLsbD_one]
  by_cases e : j = 0
  · subst e; simp [h]
  · simp [e]
theorem rq_tb0 (p : BitVec 64) (k : Nat) (h : p.getLsbD k = false) : bits .and .u64 (rq p / 2 ^ k) 1 = 0 := by
  have e : rq p / (2 : Int) ^ k = rq (p >>> k) := by unfold rq; rw [BitVec.toNat_ushiftRight, Nat.shiftRight_eq_div_pow, Int.natCast_ediv]; simp
  rw [e, show (1 : Int) = rq 1#64 from rfl, show (0 : Int) = rq 0#64 from rfl]
  unfold rq
  rw [u64_and_nat _ _ (BitVec.isLt _) (BitVec.isLt _), ← BitVec.toNat_and]
  congr 2
  apply BitVec.eq_of_getLsbD_eq; intro j hj
  rw [BitVec.getLsbD_and, BitVec.getLsbD_ushiftRight, BitVec.getLsbD_one]
  by_cases e : j = 0
  · subst e; simp [h]
  · simp [e]
theorem rq_shl (a : BitVec 32) (k : Nat) : IntKind.u64.wrap (IntKind.u64.wrap (rg a) * 2 ^ k) = rq (a.setWidth 64 <<< k) := by
  rw [IntKind.wrap_u64, IntKind.wrap_u64, show rg a % 18446744073709551616 = rg a by have := rg_bd a; omega]
  unfold rg rq; rw [BitVec.toNat_shiftLeft, Nat.shiftLeft_eq, BitVec.toNat_setWidth, Nat.mod_eq_of_lt (show a.toNat < 2 ^ 64 by have := a.isLt; omega), Int.natCast_emod]
  simp
theorem rq_bit (k : Nat) : IntKind.u64.wrap ((2 : Int) ^ k) = rq (1#64 <<< k) := by
  rw [IntKind.wrap_u64]
  unfold rq; rw [BitVec.toNat_shiftLeft, Nat.shiftLeft_eq, Int.natCast_emod]; simp
theorem rq_low (p : BitVec 64) : rq p % 4294967296 = rg (p.setWidth 32) := by
  unfold rq rg; rw [BitVec.toNat_setWidth]; omega
section
attribute [local irreducible] Calls rg bi rvk stps xp val rq sumOf fl cn tk
set_option maxHeartbeats 4000000 in
set_option maxRecDepth 1000000 in
theorem rtimes_any (a b : BitVec 32) (w : World) :
    Calls Try.prog 29 #[.int .u32 (rg a), .int .u32 (rg b)] w fun e w' => ∃ t, e = .returned (.int .u32 (rg t)) ∧ rv t = sumOf (fun i => stps i (rv a)) b 32 ∧ Below w.heap.size w w' := by
  go_enter Try.func29, Try.ntmps29
  go_wp2
  go_loopw [5, 6] (fun p i wr => ∃ (k : Nat) (P : BitVec 64), k ≤ 32 ∧ i = .int .i64 k ∧ p = .int .u64 (rq P) ∧ Hid (val P = sumOf (fun i => stps i (rv a)) b k ∧ P.getLsbD 63 = false) ∧ Below w.heap.size w wr) (fun _ i _ => 32 - (intOf i).toNat)
  case atStart => exact ⟨0, 0#64, Nat.zero_le _, rfl, by rw [rq_zero], ⟨by unfold sumOf val; decide +kernel, by simp⟩, Below.refl _ _⟩
  case round =>
    obtain ⟨k, P, hk, rfl, rfl, hP, hb⟩ := hrel
    by_cases hlt : k < 32
    · have hi : (k : Int) < 32 := by omega
      by_cases hbit : b.getLsbD k = true
      · have q1 : bits .and .u32 (rg b / 2 ^ k) 1 = 1 := by rw [rg_tb, hbit]; unfold bi; rfl
        have q2 := rq_shl a k
        have q3 := rq_xor P (a.setWidth 64 <<< k)
        have hv : val (P ^^^ a.setWidth 64 <<< k) = sumOf (fun i => stps i (rv a)) b (k + 1) := by
          rw [val_xor, hP.out.1, val_shl a k hlt]
          rw [sumOf_succ]
          unfold pck; rw [if_pos hbit]
        have h63 : (P ^^^ a.setWidth 64 <<< k).getLsbD 63 = false := by
          rw [BitVec.getLsbD_xor, hP.out.2, BitVec.getLsbD_shiftLeft, BitVec.getLsbD_setWidth, BitVec.getLsbD_of_ge a (63 - k) (by omega)]; simp
        clear hbit
        go_wp2_with (fail)
        go_roundw
        case rel => exact ⟨k + 1, P ^^^ a.setWidth 64 <<< k, by omega, by go_num, rfl, ⟨hv, h63⟩, hb⟩
        case measure => simp [intOf]; omega
      · have q1 : bits .and .u32 (rg b / 2 ^ k) 1 = 0 := by rw [rg_tb, show b.getLsbD k = false by simpa using hbit]; unfold bi; rfl
        have hv : val P = sumOf (fun i => stps i (rv a)) b (k + 1) := by
          rw [hP.out.1]
          rw [sumOf_succ]
          unfold pck; rw [if_neg hbit, BitVec.xor_zero]
        clear hbit
        go_wp2_with (fail)
        go_roundw
        case rel => exact ⟨k + 1, P, by omega, by go_num, rfl, ⟨hv, hP.out.2⟩, hb⟩
        case measure => simp [intOf]; omega
    · obtain rfl : k = 32 := by omega
      go_wp2_with (go_at_call 36; refine (terms_any _).mono ?_; rintro e w4 ⟨rfl, ht4, hb4⟩)
      have hT4 : Hid (∀ k, k < 18 → w4.cell? ⟨wr.heap.size, k, none⟩ = some (.int .i64 (tk k : Nat))) := ht4
      have hbb := bt6 hb hb4
      have hP2 : Hid (val P = sumOf (fun i => stps i (rv a)) b 32 ∧ ∀ j, 62 < j → P.getLsbD j = false) := ⟨hP.out.1, fun j hj => by
        by_cases h : j = 63
        · rw [h]; exact hP.out.2
        · exact BitVec.getLsbD_of_ge P j (by omega)⟩
      clear ht4 hP hb4 hb
      generalize wr.heap.size = gt at *
      go_loopw [5, 8, 9] (fun p i _ wr => ∃ (k : Nat) (P : BitVec 64), 31 ≤ k ∧ k ≤ 62 ∧ i = .int .i64 k ∧ p = .int .u64 (rq P) ∧ Hid (val P = sumOf (fun i => stps i (rv a)) b 32 ∧ ∀ j, k < j → P.getLsbD j = false) ∧ Hid (∀ k, k < 18 → wr.cell? ⟨gt, k, none⟩ = some (.int .i64 (tk k : Nat))) ∧ Below w.heap.size w wr) (fun _ i _ _ => (intOf i).toNat)
      case atStart => exact ⟨62, P, by omega, Nat.le_refl _, rfl, rfl, hP2, hT4, hbb⟩
      case round =>
        clear hP2 hT4 hbb
        obtain ⟨k, P, hk1, hk2, rfl, rfl, hP, hT, hb⟩ := hrel
        by_cases hlt : 32 ≤ k
        · have hi : (32 : Int) ≤ (k : Int) := by omega
          by_cases hbit : P.getLsbD k = true
          · have q1 := rq_tb1 P k hbit
            have HB : Hid (P.getLsbD k = true) := hbit
            clear hbit
            go_wp2_with (fail)
            clear q1
            go_loopw [5, 9] (fun p i wr => ∃ c : Nat, c ≤ 18 ∧ i = .int .i64 c ∧ p = .int .u64 (rq (P ^^^ fl k c)) ∧ Hid (∀ k, k < 18 → wr.cell? ⟨gt, k, none⟩ = some (.int .i64 (tk k : Nat))) ∧ Below w.heap.size w wr) (fun _ i _ => 18 - (intOf i).toNat)
            case atStart => exact ⟨0, Nat.zero_le _, rfl, by unfold fl; rw [BitVec.xor_zero], hT, hb⟩
            case round =>
              clear hT hb
              obtain ⟨c, hc, rfl, rfl, hT, hb⟩ := hrel
              by_cases hlc : c < 18
              · have hi3 : (c : Int) < 18 := by omega
                have g1 := hT.out c hlc
                have ht := tk_le c hlc
                obtain ⟨t, hte⟩ : ∃ t, t = tk c := ⟨_, rfl⟩
                rw [← hte] at g1 ht
                have q2 := rq_bit (k - t)
                have q3 : bits .xor .u64 (rq (P ^^^ fl k c)) (rq (1#64 <<< (k - t))) = rq (P ^^^ fl k (c + 1)) := by
                  rw [rq_xor, fl_succ, ← hte, BitVec.xor_assoc]
                have q4 : (k : Int) - (t : Int) = ((k - t : Nat) : Int) := by omega
                clear hte
                go_wp2_with (fail)
                go_roundw
                case rel => exact ⟨c + 1, by omega, by go_num, rfl, hT, hb⟩
                case measure => simp [intOf]; omega
              · obtain rfl : c = 18 := by omega
                have hv : val (P ^^^ fl k 18) = sumOf (fun i => stps i (rv a)) b 32 := by rw [val_xor, val_fl18 k hlt (by omega), BitVec.xor_zero, hP.out.1]
                have hbits : ∀ j, k - 1 < j → (P ^^^ fl k 18).getLsbD j = false := fun j hj => by
                  rw [BitVec.getLsbD_xor]
                  by_cases e : j = k
                  · rw [e, HB.out, fl_get k 18 k (Nat.le_refl _) hlt (by omega) (Nat.le_refl _), Nat.sub_self, cn_0]; rfl
                  · rw [hP.out.2 j (by omega), fl_top k 18 j (Nat.le_refl _) (by omega)]; rfl
                generalize P ^^^ fl k 18 = P2 at *
                go_wp2_with (fail)
                go_roundw
                case rel => exact ⟨k - 1, P2, by omega, by omega, by rw [show ((k - 1 : Nat) : Int) = (k : Int) - 1 by omega], rfl, ⟨hv, hbits⟩, hT, hb⟩
                case measure => simp [intOf]; omega
          · have q1 := rq_tb0 P k (by simpa using hbit)
            have hbits : ∀ j, k - 1 < j → P.getLsbD j = false := fun j hj => by
              by_cases e : j = k
              · rw [e]; simpa using hbit
              · exact hP.out.2 j (by omega)
            clear hbit
            go_wp2_with (fail)
            go_roundw
            case rel => exact ⟨k - 1, P, by omega, by omega, by rw [show ((k - 1 : Nat) : Int) = (k : Int) - 1 by omega], rfl, ⟨hP.out.1, hbits⟩, hT, hb⟩
            case measure => simp [intOf]; omega
        · obtain rfl : k = 31 := by omega
          have q1 := rq_low P
          have hv : rv (P.setWidth 32) = sumOf (fun i => stps i (rv a)) b 32 := by rw [← val_low P (fun j hj => hP.out.2 j (by omega)), hP.out.1]
          go_wp2_with (fail)
          go_ret
          exact ⟨P.setWidth 32, ret_int q1, hv, hb⟩
end
theorem xp_add (m n : Nat) : stps m (xp n) = xp (n + m) := by unfold xp; rw [← stps_add]
theorem rv_1 : rv 1#32 = xp (8 * 0) := by decide +kernel
theorem rv_256 : rv 256#32 = xp (8 * 2 ^ 0) := by decide +kernel
theorem rg_1 : rg 1#32 = 1 := rfl
theorem rg_256 : rg 256#32 = 256 := rfl
section
attribute [local irreducible] Calls rg rv stps xp sumOf
set_option maxHeartbeats 4000000 in
set_option maxRecDepth 1000000 in
theorem refJoin_any (a b : BitVec 32) (n : Int) (hnb : n ≤ 9223372036854775807) (w : World) :
    Calls Try.prog 21 #[.int .u32 (rg a), .int .u32 (rg b), .int .i64 n] w fun e w' => e = .returned (.int .u32 (rg (stps (8 * n.toNat) a ^^^ b))) ∧ Below w.heap.size w w' := by
  obtain ⟨N, hN⟩ : ∃ N, N = n.toNat := ⟨_, rfl⟩
  go_enter Try.func21, Try.ntmps21
  go_wp2_with (fail)
  go_loopw [2, 7, 8] (fun m p s wr => ∃ (k : Nat) (M : Int) (p' s' : BitVec 32), M ≤ 9223372036854775807 ∧ m = .int .i64 M ∧ p = .int .u32 (rg p') ∧ s = .int .u32 (rg s') ∧ Hid (M.toNat = N / 2 ^ k ∧ rv p' = xp (8 * (N % 2 ^ k)) ∧ rv s' = xp (8 * 2 ^ k)) ∧ Below w.heap.size w wr) (fun m _ _ _ => (intOf m).toNat)
  case atStart => exact ⟨0, n, 1#32, 256#32, hnb, rfl, by rw [rg_1], by rw [rg_256], ⟨by rw [hN]; simp, by rw [Nat.pow_zero, Nat.mod_one]; exact rv_1, rv_256⟩, Below.refl _ _⟩
  case round =>
    obtain ⟨k, M, p', s', hMb, rfl, rfl, rfl, hI, hb⟩ := hrel
    by_cases hlt : 0 < M
    · obtain ⟨m, rfl⟩ : ∃ m : Nat, M = m := ⟨M.toNat, by omega⟩
      have hm0 : 0 < m := by omega
      have hI1 : m = N / 2 ^ k := by have := hI.out.1; simpa using this
      have hh : m / 2 = N / 2 ^ (k + 1) := by rw [hI1, Nat.div_div_eq_div_mul, Nat.pow_succ]
      have Ts : ∀ W : World, Calls Try.prog 29 #[.int .u32 (rg s'), .int .u32 (rg s')] W fun e w' => ∃ t, e = .returned (.int .u32 (rg t)) ∧ rv t = xp (8 * 2 ^ (k + 1)) ∧ Below W.heap.size W w' := fun W => (rtimes_any s' s' W).mono fun e w' ⟨t, h1, h2, h3⟩ => ⟨t, h1, by rw [h2, sum_xp _ _ _ hI.out.2.2, hI.out.2.2, xp_add, Nat.pow_succ, ← Nat.mul_two, Nat.mul_assoc], h3⟩
      have hpar : m % 2 = 0 ∨ m % 2 = 1 := by omega
      rcases hpar with hp | hp
      · have q1 : (m : Int) % 2 = 0 := by omega
        have hpp : rv p' = xp (8 * (N % 2 ^ (k + 1))) := by rw [hI.out.2.1, Nat.mod_pow_succ, ← hI1, hp, Nat.mul_zero, Nat.add_zero]
        clear hI hI1
        go_wp2_with (go_at_call 29; refine (Ts _).mono ?_; rintro e w2 ⟨t, rfl, ht, hb2⟩)
        go_roundw
        case rel => exact ⟨k + 1, (m : Int) / 2, p', t, by omega, rfl, rfl, rfl, ⟨by rw [← hh]; omega, hpp, ht⟩, bt6 hb hb2⟩
        case measure => simp [intOf]; omega
      · have q1 : (m : Int) % 2 = 1 := by omega
        have Tp : ∀ W : World, Calls Try.prog 29 #[.int .u32 (rg p'), .int .u32 (rg s')] W fun e w' => ∃ t, e = .returned (.int .u32 (rg t)) ∧ rv t = xp (8 * (N % 2 ^ (k + 1))) ∧ Below W.heap.size W w' := fun W => (rtimes_any p' s' W).mono fun e w' ⟨t, h1, h2, h3⟩ => ⟨t, h1, by rw [h2, sum_xp _ _ _ hI.out.2.2, hI.out.2.1, xp_add, Nat.mod_pow_succ, ← hI1, hp, Nat.mul_one, Nat.mul_add], h3⟩
        clear hI hI1
        go_wp2_with (first | (go_at_call 29; refine (Ts _).mono ?_; rintro e w3 ⟨t3, rfl, ht3, hb3⟩) | (go_at_call 29; refine (Tp _).mono ?_; rintro e w2 ⟨t2, rfl, ht2, hb2⟩))
        go_roundw
        case rel => exact ⟨k + 1, (m : Int) / 2, t2, t3, by omega, rfl, rfl, rfl, ⟨by rw [← hh]; omega, ht2, ht3⟩, bt6 (bt6 hb hb2) hb3⟩
        case measure => simp [intOf]; omega
    · have hNk : N % 2 ^ k = N := by
        have h1 := Nat.div_add_mod N (2 ^ k)
        have h2 := hI.out.1
        rw [← h2, show M.toNat = 0 by omega] at h1; omega
      have Tf : ∀ W : World, Calls Try.prog 29 #[.int .u32 (rg (rv a)), .int .u32 (rg p')] W fun e w' => ∃ t, e = .returned (.int .u32 (rg t)) ∧ rv t = stps (8 * N) a ∧ Below W.heap.size W w' := fun W => (rtimes_any (rv a) p' W).mono fun e w' ⟨t, h1, h2, h3⟩ => ⟨t, h1, by rw [h2, rv_rv, sum_xp _ _ _ hI.out.2.1, hNk], h3⟩
      have hx := rg_xor (stps (8 * N) a) b
      have HNN : Hid (N = n.toNat) := hN
      clear hI hN
      go_wp2_with (first | (go_at_call 30; refine (turned_any a _).mono ?_; rintro e w' ⟨rfl, hw⟩; rw [hw]; clear hw) | (go_at_call 29; refine (Tf _).mono ?_; rintro e w2 ⟨t, rfl, ht, hb2⟩) | (go_at_call 30; refine (turned_any t _).mono ?_; rw [ht]; rintro e w' ⟨rfl, hw⟩; rw [hw]; clear hw))
      go_ret
      exact ⟨ret_int (by rw [← HNN.out]), bt6 hb hb2⟩
set_option maxHeartbeats 4000000 in
set_option maxRecDepth 1000000 in
theorem crcJoins_walk (a b : BitVec 32) (n : Int) (hn : -9223372036854775808 ≤ n ∧ n ≤ 9223372036854775807) (w : World) :
    Calls Try.prog 6 #[.agg #[.int .u32 (rg a), .int .u32 (rg b), .int .i64 n]] w fun e w' => e = .returned (.bool true) ∧ Below w.heap.size w w' := by
  have q0 := heap_alloc_new w (.cells #[.int .u32 (rg a), .int .u32 (rg b), .int .i64 n] 40)
  go_enter Try.func6, Try.ntmps6
  go_wp2_with (fail)
  have g0 : (w.alloc (.cells #[.int .u32 (rg a), .int .u32 (rg b), .int .i64 n] 40)).cell? ⟨w.heap.size, 0, none⟩ = some (.int .u32 (rg a)) := by rw [cell_of_row _ _ _ _ _ (0, 0) q0]; rfl
  have g1 : (w.alloc (.cells #[.int .u32 (rg a), .int .u32 (rg b), .int .i64 n] 40)).cell? ⟨w.heap.size, 1, none⟩ = some (.int .u32 (rg b)) := by rw [cell_of_row _ _ _ _ _ (0, 0) q0]; rfl
  have g2 : (w.alloc (.cells #[.int .u32 (rg a), .int .u32 (rg b), .int .i64 n] 40)).cell? ⟨w.heap.size, 2, none⟩ = some (.int .i64 n) := by rw [cell_of_row _ _ _ _ _ (0, 0) q0]; rfl
  have hW0 : Below w.heap.size w (w.alloc (.cells #[.int .u32 (rg a), .int .u32 (rg b), .int .i64 n] 40)) := (Below.refl _ _).alloc (Nat.le_refl _) _
  clear q0
  generalize w.alloc (.cells #[.int .u32 (rg a), .int .u32 (rg b), .int .i64 n] 40) = W1 at *
  have KS : Hid (W1.cell? ⟨w.heap.size, 0, none⟩ = some (.int .u32 (rg a)) ∧ W1.cell? ⟨w.heap.size, 1, none⟩ = some (.int .u32 (rg b)) ∧ W1.cell? ⟨w.heap.size, 2, none⟩ = some (.int .i64 n)) := ⟨g0, g1, g2⟩
  clear g0 g1 g2
  have B0 := (Below.refl W1.heap.size W1).drew
  have KH0 := (show Hid (_ ∧ _ ∧ _) from ⟨cell_below KS.out.1 B0, cell_below KS.out.2.1 B0, cell_below KS.out.2.2 B0⟩)
  go_region_held3 (fun X => X.cell? ⟨w.heap.size, 0, none⟩ = some (.int .u32 (rg a)) ∧ X.cell? ⟨w.heap.size, 1, none⟩ = some (.int .u32 (rg b)) ∧ X.cell? ⟨w.heap.size, 2, none⟩ = some (.int .i64 n)) (first | exact KH4.out | exact KH3.out | exact KH0.out | go_keep)
    (first
      | (go_at_call 14; refine (join_any a b n _).mono ?_; rintro e w3 ⟨rfl, hb3⟩; have B3 := bt6 B0 hb3; have KH3 := (show Hid (_ ∧ _ ∧ _) from ⟨cell_below KS.out.1 B3, cell_below KS.out.2.1 B3, cell_below KS.out.2.2 B3⟩))
      | (go_at_call 21; refine (refJoin_any a b n hn.2 _).mono ?_; rintro e w4 ⟨rfl, hb4⟩; have B4 := bt6 B3 hb4; have KH4 := (show Hid (_ ∧ _ ∧ _) from ⟨cell_below KS.out.1 B4, cell_below KS.out.2.1 B4, cell_below KS.out.2.2 B4⟩)))
  all_goals
    go_wp2
    go_ret
    exact ⟨rfl, bt6 hW0 B4⟩
end
end Go.Proofs.Ytmpccpcnbenpfaa
