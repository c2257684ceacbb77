/-
  CrcZeros: its walk.
-/
import Derived.Test.YtmpccpcnbenpfabBo
import Derived.Test.YtmpccpcnbenpfabCz1
import Derived.Deep.RegionHeld3
namespace Go.Proofs.Ytmpccpcnbenpfab
open Go.RowKit Go.Great
theorem i64_and61 (n : Int) : bits .and .i64 n 2305843009213693951 = n % 2305843009213693952 := by
  have h1 : (BitVec.ofInt 64 2305843009213693951).toNat = 2 ^ 61 - 1 := by decide
  have key : (BitVec.ofInt 64 n &&& BitVec.ofInt 64 2305843009213693951).toNat = (n % ((2 ^ 64 : Nat) : Int)).toNat % 2 ^ 61 := by
    rw [BitVec.toNat_and, BitVec.toNat_ofInt, h1, Nat.and_two_pow_sub_one_eq_mod]
  show IntKind.i64.wrap ((BitVec.ofInt 64 n &&& BitVec.ofInt 64 2305843009213693951).toNat : Nat) = n % 2305843009213693952
  rw [key, IntKind.wrap_i64]
  omega
theorem zw_p (A : Nat) : 8 * ((A : Int) + 2147483647).toNat = 2147483647 * 8 + 8 * A := by omega
theorem zw_1 (A B : Nat) (h : A < 2305843009213693952) (k : B < 2305843009213693952) : IntKind.i64.wrap ((A : Int) + (B : Int)) = (A : Int) + (B : Int) := by rw [IntKind.wrap_i64]; omega
theorem zw_2 (A : Nat) (h : A < 2305843009213693952) : IntKind.i64.wrap ((A : Int) + 2147483648) = (A : Int) + 2147483648 := by rw [IntKind.wrap_i64]; omega
theorem zw_3 (A : Nat) (h : A < 2305843009213693952) : IntKind.i64.wrap ((A : Int) + 2147483648 - 1) = (A : Int) + 2147483647 := by rw [IntKind.wrap_i64]; omega
section
attribute [local irreducible] Calls rg ov cmo el Ow stps Rd kz
set_option maxHeartbeats 8000000 in
set_option maxRecDepth 1000000 in
theorem crcZeros_walk (a b : BitVec 32) (n : Int) (_ : -9223372036854775808 ≤ n ∧ n ≤ 9223372036854775807) (m : Int) (_ : -9223372036854775808 ≤ m ∧ m ≤ 9223372036854775807) (w : World) :
    Calls Try.prog 8 #[.agg #[.int .u32 (rg a), .int .u32 (rg b), .int .i64 n], .int .i64 m] w fun e w' => e = .returned (.bool true) ∧ Below w.heap.size w w' := by
  obtain ⟨N, hN⟩ : ∃ N : Nat, (N : Int) = n % 301 := ⟨(n % 301).toNat, by omega⟩
  have hNb : N < 301 := by omega
  have pl : ∀ W : World, Calls Try.prog 21 #[.int .i64 n, .int .i64 301] W fun e w' => e = .returned (.int .i64 N) ∧ w' = W := fun W => by rw [hN]; exact place_any n 301 (by omega) (by omega) W
  clear hN
  have al : ∀ (W : World) (o : Obj), Below W.heap.size W (W.alloc o) := fun W o => (Below.refl _ _).alloc (Nat.le_refl _) o
  have q0 := heap_alloc_new w (.cells #[.int .u32 (rg a), .int .u32 (rg b), .int .i64 n] 50)
  go_enter Try.func8, Try.ntmps8
  go_wp2_with (first | (go_at_call 21; refine (pl _).mono ?_; rintro e w' ⟨rfl, hw⟩; rw [hw]; clear hw))
  have g0 : (w.alloc (.cells #[.int .u32 (rg a), .int .u32 (rg b), .int .i64 n] 50)).cell? ⟨w.heap.size, 0, none⟩ = some (.int .u32 (rg a)) := by rw [cell_of_row _ _ _ _ _ (0, 0) q0]; rfl
  have g1 : (w.alloc (.cells #[.int .u32 (rg a), .int .u32 (rg b), .int .i64 n] 50)).cell? ⟨w.heap.size, 1, none⟩ = some (.int .u32 (rg b)) := by rw [cell_of_row _ _ _ _ _ (0, 0) q0]; rfl
  have g2 : (w.alloc (.cells #[.int .u32 (rg a), .int .u32 (rg b), .int .i64 n] 50)).cell? ⟨w.heap.size, 2, none⟩ = some (.int .i64 n) := by rw [cell_of_row _ _ _ _ _ (0, 0) q0]; rfl
  have hW0 := al w (.cells #[.int .u32 (rg a), .int .u32 (rg b), .int .i64 n] 50)
  clear q0 pl
  generalize w.alloc (.cells #[.int .u32 (rg a), .int .u32 (rg b), .int .i64 n] 50) = W1 at *
  have G0 : Hid (W1.cell? ⟨w.heap.size, 0, none⟩ = some (.int .u32 (rg a)) ∧ W1.cell? ⟨w.heap.size, 1, none⟩ = some (.int .u32 (rg b)) ∧ W1.cell? ⟨w.heap.size, 2, none⟩ = some (.int .i64 n)) := ⟨g0, g1, g2⟩
  clear g0 g1 g2
  go_loopw [6, 7] (fun v i wr => ∃ k : Nat, k ≤ N ∧ i = .int .i64 k ∧ Ow wr W1.heap.size v (kz k) ∧ Below W1.heap.size W1 wr) (fun _ i _ => N - (intOf i).toNat)
  case atStart => exact ⟨0, Nat.zero_le _, rfl, by unfold kz; exact Ow.nil _ _, Below.refl _ _⟩
  case round =>
    obtain ⟨k, hk, rfl, hA, hb⟩ := hrel
    by_cases hlt : k < N
    · have hi : (k : Int) < (N : Int) := by omega
      have e0 : ∀ W : World, Rd (W.alloc (.cells #[.int .u8 0] 5)) (some ⟨W.heap.size, 0, none⟩) [0#8] := fun W => rd_z W
      go_wp2_with (first | (at_builtin; refine wpList_app rfl (.tmp 18) (.tmp 19) rfl W1.heap.size u6 (kz k) rfl (hA.below (al _ _)) ⟨wr.heap.size, 0, none⟩ 1 1 [0#8] rfl (e0 wr) rfl (by rw [kz_len]; omega) ((balloc hb _).size) ?_; intro v1 w1 ho1 hg1 hk1; have hb1 := (hA.below (al _ _)).below_append (balloc hb _) (balloc hb _).size hg1 (Nat.le_refl _); rw [← kz_succ] at ho1))
      go_roundw
      case rel => exact ⟨k + 1, by omega, by go_num, ho1, hb1⟩
      case measure => simp [intOf]; omega
    · obtain rfl : k = N := by omega
      obtain ⟨pz, cz, rfl, _, rz⟩ := hA.rd
      rw [kz_len]
      have hbw := bt hW0 hb
      have KS : Hid (wr.cell? ⟨w.heap.size, 0, none⟩ = some (.int .u32 (rg a)) ∧ wr.cell? ⟨w.heap.size, 1, none⟩ = some (.int .u32 (rg b)) ∧ wr.cell? ⟨w.heap.size, 2, none⟩ = some (.int .i64 n) ∧ Rd wr pz (kz k) ∧ Below w.heap.size w wr) := ⟨cell_below G0.out.1 hb, cell_below G0.out.2.1 hb, cell_below G0.out.2.2 hb, rz, hbw⟩
      clear hA rz hbw hb G0 hW0
      have fz : ov a (kz k) = stps (8 * k) a := by unfold kz; exact ov_zeros a k
      have f0 : bits .xor .u32 (rg a) 4294967295 = rg (~~~ a) := by
        rw [show (4294967295 : Int) = rg 4294967295#32 by unfold rg; rfl, rg_xor, BitVec.xor_comm, ones_xor]
      have f1 : bits .xor .u32 (bits .xor .u32 (rg (cmo (~~~ a) (kz k))) 4294967295) (rg b) = rg (stps (8 * (k : Int).toNat) a ^^^ b) := by
        rw [show (4294967295 : Int) = rg 4294967295#32 by unfold rg; rfl, rg_xor, BitVec.xor_comm _ 4294967295#32, ones_xor, rg_xor]
        unfold cmo; rw [BitVec.not_not, BitVec.not_not, fz, Int.toNat_natCast]
      have n1 : (rg (stps (8 * (k : Int).toNat) a ^^^ b) != rg (stps (8 * (k : Int).toNat) a ^^^ b)) = false := by simp
      have B0 := (Below.refl wr.heap.size wr).drew
      have KH0 := (show Hid (_ ∧ _) from ⟨cell_below KS.out.1 B0, cell_below KS.out.2.1 B0⟩)
      go_wp2
      go_region_held3 (fun X => X.cell? ⟨w.heap.size, 0, none⟩ = some (.int .u32 (rg a)) ∧ X.cell? ⟨w.heap.size, 1, none⟩ = some (.int .u32 (rg b))) (first | exact KH5.out | exact KH4.out | exact KH3.out | exact KH0.out | go_keep)
        (first
          | (go_at_call 13; refine (known_any _).mono ?_; rintro e w3 ⟨rfl, hb3⟩; have B3 := bt B0 hb3; have KH3 := (show Hid (_ ∧ _) from ⟨cell_below KS.out.1 B3, cell_below KS.out.2.1 B3⟩))
          | (go_at_call 11; refine (join_any a b (k : Int) _).mono ?_; rintro e w4 ⟨rfl, hb4⟩; have B4 := bt B3 hb4; have KH4 := (show Hid (_ ∧ _) from ⟨cell_below KS.out.1 B4, cell_below KS.out.2.1 B4⟩))
          | (go_at_call 10; refine (cmore_any (Rd.below KS.out.2.2.2.1 B4) (~~~ a) k cz (kz_len k) (by omega)).mono ?_; rintro e w5 ⟨rfl, hb5⟩; have B5 := bt B4 hb5; have KH5 := (show Hid (_ ∧ _) from ⟨cell_below KS.out.1 B5, cell_below KS.out.2.1 B5⟩)))
      have g2 := cell_below KS.out.2.2.1 B5
      obtain ⟨A1, hA1⟩ : ∃ A1 : Nat, (A1 : Int) = n % 2305843009213693952 := ⟨(n % 2305843009213693952).toNat, by omega⟩
      obtain ⟨A2, hA2⟩ : ∃ A2 : Nat, (A2 : Int) = m % 2305843009213693952 := ⟨(m % 2305843009213693952).toNat, by omega⟩
      have a1 : bits .and .i64 n 2305843009213693951 = (A1 : Int) := by rw [i64_and61, hA1]
      have a2 : bits .and .i64 m 2305843009213693951 = (A2 : Int) := by rw [i64_and61, hA2]
      have c1 : A1 < 2305843009213693952 := by omega
      have c2 : A2 < 2305843009213693952 := by omega
      have J0 : ∀ W : World, Calls Try.prog 11 #[.int .u32 (rg a), .int .u32 0, .int .i64 (A1 : Int)] W fun e w' => e = .returned (.int .u32 (rg (stps (8 * A1) a))) ∧ Below W.heap.size W w' := fun W => by
        have h := join_any a 0#32 (A1 : Int) W
        rwa [rg_zero, BitVec.xor_zero, Int.toNat_natCast] at h
      have J1 : ∀ W : World, Calls Try.prog 11 #[.int .u32 (rg (stps (8 * A1) a)), .int .u32 (rg b), .int .i64 (A2 : Int)] W fun e w' => e = .returned (.int .u32 (rg (stps (8 * (A1 + A2)) a ^^^ b))) ∧ Below W.heap.size W w' := fun W => by
        have h := join_any (stps (8 * A1) a) b (A2 : Int) W
        rwa [Int.toNat_natCast, ← stps_add, ← Nat.mul_add] at h
      have J2 : ∀ W : World, Calls Try.prog 11 #[.int .u32 (rg a), .int .u32 (rg b), .int .i64 ((A1 : Int) + (A2 : Int))] W fun e w' => e = .returned (.int .u32 (rg (stps (8 * (A1 + A2)) a ^^^ b))) ∧ Below W.heap.size W w' := fun W => by
        have h := join_any a b ((A1 : Int) + (A2 : Int)) W
        rwa [show ((A1 : Int) + (A2 : Int)).toNat = A1 + A2 by omega] at h
      have J3 : ∀ W : World, Calls Try.prog 11 #[.int .u32 (rg a), .int .u32 (rg b), .int .i64 ((A1 : Int) + 2147483647)] W fun e w' => e = .returned (.int .u32 (rg (stps (8 * A1) a ^^^ b))) ∧ Below W.heap.size W w' := fun W => by
        have h := join_any a b ((A1 : Int) + 2147483647) W
        rwa [zw_p A1, stps_add, period_mul] at h
      have J4 : ∀ W : World, Calls Try.prog 11 #[.int .u32 (rg a), .int .u32 (rg b), .int .i64 (A1 : Int)] W fun e w' => e = .returned (.int .u32 (rg (stps (8 * A1) a ^^^ b))) ∧ Below W.heap.size W w' := fun W => by
        have h := join_any a b (A1 : Int) W
        rwa [Int.toNat_natCast] at h
      have J5 : ∀ W : World, Calls Try.prog 11 #[.int .u32 (rg a), .int .u32 (rg b), .int .i64 2147483647] W fun e w' => e = .returned (.int .u32 (rg (a ^^^ b))) ∧ Below W.heap.size W w' := fun W => by
        have h := join_any a b 2147483647 W
        rwa [show 8 * (2147483647 : Int).toNat = 2147483647 * 8 by decide, period_mul] at h
      have fx := rg_xor a b
      have w1 : IntKind.i64.wrap ((A1 : Int) + (A2 : Int)) = (A1 : Int) + (A2 : Int) := zw_1 A1 A2 c1 c2
      have w2 : IntKind.i64.wrap ((A1 : Int) + 2147483648) = (A1 : Int) + 2147483648 := zw_2 A1 c1
      have w3' : IntKind.i64.wrap ((A1 : Int) + 2147483648 - 1) = (A1 : Int) + 2147483647 := zw_3 A1 c1
      clear hA1 hA2 f1 f0 fz n1
      have B5d := B5.drew
      have KH5d := (show Hid (_ ∧ _) from ⟨cell_below KS.out.1 B5d, cell_below KS.out.2.1 B5d⟩)
      go_wp2_with (fail)
      go_region_held3 (fun X => X.cell? ⟨w.heap.size, 0, none⟩ = some (.int .u32 (rg a)) ∧ X.cell? ⟨w.heap.size, 1, none⟩ = some (.int .u32 (rg b))) (first | exact KH8.out | exact KH7.out | exact KH6.out | exact KH5d.out | go_keep)
        (first
          | (go_at_call 11; refine (J0 _).mono ?_; rintro e w6 ⟨rfl, hb6⟩; have B6 := bt B5d hb6; have KH6 := (show Hid (_ ∧ _) from ⟨cell_below KS.out.1 B6, cell_below KS.out.2.1 B6⟩))
          | (go_at_call 11; refine (J1 _).mono ?_; rintro e w7 ⟨rfl, hb7⟩; have B7 := bt B6 hb7; have KH7 := (show Hid (_ ∧ _) from ⟨cell_below KS.out.1 B7, cell_below KS.out.2.1 B7⟩))
          | (go_at_call 11; refine (J2 _).mono ?_; rintro e w8 ⟨rfl, hb8⟩; have B8 := bt B7 hb8; have KH8 := (show Hid (_ ∧ _) from ⟨cell_below KS.out.1 B8, cell_below KS.out.2.1 B8⟩)))
      have B8d := B8.drew
      have KH8d := (show Hid (_ ∧ _) from ⟨cell_below KS.out.1 B8d, cell_below KS.out.2.1 B8d⟩)
      go_wp2_with (fail)
      go_region_held3 (fun X => X.cell? ⟨w.heap.size, 0, none⟩ = some (.int .u32 (rg a)) ∧ X.cell? ⟨w.heap.size, 1, none⟩ = some (.int .u32 (rg b))) (first | exact KH11.out | exact KH10.out | exact KH9.out | exact KH8d.out | go_keep)
        (first
          | (go_at_call 11; refine (J3 _).mono ?_; rintro e w9 ⟨rfl, hb9⟩; have B9 := bt B8d hb9; have KH9 := (show Hid (_ ∧ _) from ⟨cell_below KS.out.1 B9, cell_below KS.out.2.1 B9⟩))
          | (go_at_call 11; refine (J4 _).mono ?_; rintro e w10 ⟨rfl, hb10⟩; have B10 := bt B9 hb10; have KH10 := (show Hid (_ ∧ _) from ⟨cell_below KS.out.1 B10, cell_below KS.out.2.1 B10⟩))
          | (go_at_call 11; refine (J5 _).mono ?_; rintro e w11 ⟨rfl, hb11⟩; have B11 := bt B10 hb11; have KH11 := (show Hid (_ ∧ _) from ⟨cell_below KS.out.1 B11, cell_below KS.out.2.1 B11⟩)))
      go_wp2
      go_ret
      exact ⟨rfl, bt KS.out.2.2.2.2 B11⟩
end
end Go.Proofs.Ytmpccpcnbenpfab
