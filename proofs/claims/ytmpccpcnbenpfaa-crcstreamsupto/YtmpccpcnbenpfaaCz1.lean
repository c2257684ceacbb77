/-
  Package crc: strides, and 'Join'.
-/
import Derived.Test.YtmpccpcnbenpfaaCt1
namespace Go.Proofs.Ytmpccpcnbenpfaa
open Go.RowKit Go.Great
theorem info60 : (Try.prog.info? 60).map (fun i => (i.zero, i.size)) = some (some (.agg (Array.replicate 32 (.int .u32 0))), 32) := by kernel_rfl
theorem zero60 : ∀ w, (zeroValue 60).run Try.prog w = .ok (.agg (Array.replicate 32 (.int .u32 0))) w := (zero_of_info info60).1
theorem size60 : (Try.prog.info? 60).map (·.size) = some 32 := (zero_of_info info60).2
theorem ar_box (w : World) (f : Nat → BitVec 32) (n : Nat) (t : TypeId) : Ar (w.alloc (.cells (arC f n) t)) t w.heap.size f n := by
  unfold Ar; rw [heap_alloc_new]
theorem bdn {B : Nat} {a w : World} (h : Below B a w) (n : Nat) : Below B a (w.drewN n) := ⟨h.os, h.tape, h.output, h.size, h.block⟩
/-- A world that has one block more. -/
def Grew (w w' : World) : Prop := w'.heap.size = w.heap.size + 1 ∧ Below w.heap.size w w'
theorem Grew.below {w w' : World} (h : Grew w w') {B : Nat} {w0 : World} (hb : Below B w0 w) (hB : B ≤ w.heap.size) : Below B w0 w' := hb.trans (h.2.mono hB)
theorem Grew.ar {w w' : World} (h : Grew w w') {t : TypeId} {b n : Nat} {f : Nat → BitVec 32} (ha : Ar w t b f n) : Ar w' t b f n := ha.below h.2
theorem wpList_allocAr {P : Program} {w : World} {ops : Array Oper} {rest : List Oper} {o : Oper} {a : Act} {Q : Exit → Act → World → Prop} (hgd : o.guard = none) (ty : TypeId) (ho : o.op = .alloc ty)
    (dst : Option Tmp) (hdst : o.dst = dst) (n : Nat) (hz : ∀ w, (zeroValue ty).run P w = .ok (.agg (Array.replicate n (.int .u32 0))) w)
    (h : ∀ w', Ar w' ty w.heap.size (fun _ => 0#32) n → Grew w w' → wpList P ops Q rest (a.put dst (.pointer (some ⟨w.heap.size, 0, none⟩))) w') : wpList P ops Q (o :: rest) a w := by
  subst hdst
  refine wpList_plain hgd fun K hK => ?_
  have h2 := h _ (ar_new w n ty) ⟨by simp, (Below.refl _ _).alloc (Nat.le_refl _) _⟩
  unfold Oper.wp execOp
  simp only [ho, Sem.run_bind, Instr.alloc, newVar, newRow, hz, run_newObj_alloc, Sem.run_pure, Result.andThen_ok, Value.cells]
  exact hK _ _ h2
theorem wpList_boxAr {P : Program} {w : World} {ops : Array Oper} {rest : List Oper} {o : Oper} {a : Act} {Q : Exit → Act → World → Prop} (hgd : o.guard = none) (ty : TypeId) (x : Operand) (ho : o.op = .box ty x)
    (dst : Option Tmp) (hdst : o.dst = dst) (f : Nat → BitVec 32) (n : Nat) (hx : a.eval x = .agg (arC f n))
    (h : ∀ w', Ar w' ty w.heap.size f n → Grew w w' → wpList P ops Q rest (a.put dst (.pointer (some ⟨w.heap.size, 0, none⟩))) w') : wpList P ops Q (o :: rest) a w :=
  wpList_boxTo hgd ty x ho dst hdst w.heap.size rfl (arC f n) (by rw [hx]; rfl) (h _ (ar_box w f n ty) ⟨by simp, (Below.refl _ _).alloc (Nat.le_refl _) _⟩)
theorem rg_shr (a : BitVec 32) (n : Nat) : rg a / (2 : Int) ^ n = rg (a >>> n) := by
  unfold rg; rw [BitVec.toNat_ushiftRight, Nat.shiftRight_eq_div_pow, Int.natCast_ediv]; simp
theorem rg_mask (a b c : BitVec 32) (k : Nat) : bits .xor .u32 (rg a) (bits .and .u32 (rg b) (-bits .and .u32 (rg c / 2 ^ k) 1 % 4294967296)) = rg (a ^^^ pck k b c) := by
  rw [rg_shr, show (1 : Int) = rg 1#32 from rfl, rg_and, rg_neg, rg_and, rg_xor, and_mask]
theorem rg_bit (k : Nat) : (2 : Int) ^ k % 4294967296 = rg (1#32 <<< k) := by
  unfold rg; rw [BitVec.toNat_shiftLeft, Nat.shiftLeft_eq, Int.natCast_emod]; simp
theorem sumOf_stps (a : Nat) (r : BitVec 32) : sumOf (fun i => stps a (1#32 <<< i)) r 32 = stps a r := sumOf_all (Lin.stps a) r
theorem stps_odd (N k : Nat) (r : BitVec 32) (h : N / 2 ^ k % 2 = 1) : stps (8 * 2 ^ k) (stps (8 * (N % 2 ^ k)) r) = stps (8 * (N % 2 ^ (k + 1))) r := by
  rw [← stps_add, Nat.mod_pow_succ, h, Nat.mul_one, Nat.mul_add]
theorem stps_even (N k : Nat) (r : BitVec 32) (h : N / 2 ^ k % 2 = 0) : stps (8 * (N % 2 ^ k)) r = stps (8 * (N % 2 ^ (k + 1))) r := by
  rw [Nat.mod_pow_succ, h, Nat.mul_zero, Nat.add_zero]
theorem stps_twice (k : Nat) (i : Nat) : sumOf (fun i => stps (8 * 2 ^ k) (1#32 <<< i)) (stps (8 * 2 ^ k) (1#32 <<< i)) 32 = stps (8 * 2 ^ (k + 1)) (1#32 <<< i) := by
  rw [sumOf_stps, ← stps_add, Nat.pow_succ, ← Nat.mul_two, Nat.mul_assoc]
theorem i64_and1 (n : Int) : bits .and .i64 n 1 = n % 2 := by
  have h1 : (BitVec.ofInt 64 1).toNat = 2 ^ 1 - 1 := by decide
  have key : (BitVec.ofInt 64 n &&& BitVec.ofInt 64 1).toNat = (n % ((2 ^ 64 : Nat) : Int)).toNat % 2 ^ 1 := by
    rw [BitVec.toNat_and, BitVec.toNat_ofInt, h1, Nat.and_two_pow_sub_one_eq_mod]
  show IntKind.i64.wrap ((BitVec.ofInt 64 n &&& BitVec.ofInt 64 1).toNat : Nat) = n % 2
  rw [key, IntKind.wrap_i64]
  omega
theorem half_N (N k M : Nat) (h : M = N / 2 ^ k) : M / 2 = N / 2 ^ (k + 1) := by rw [h, Nat.div_div_eq_div_mul, Nat.pow_succ]
section
attribute [local irreducible] Calls rg stps Ar arC
set_option maxHeartbeats 1000000 in
set_option maxRecDepth 1000000 in
theorem of_any (f : Nat → BitVec 32) (r : BitVec 32) (w : World) :
    Calls Try.prog 32 #[.agg (arC f 32), .int .u32 (rg r)] w fun e w' => e = .returned (.int .u32 (rg (sumOf f r 32))) ∧ Below w.heap.size w w' := by
  go_enter Try.func32, Try.ntmps32
  go_wp2_with (refine wpList_boxTo rfl 60 _ rfl (some 2) rfl w.heap.size rfl (arC f 32) rfl ?_)
  have hA0 := ar_box w f 32 60
  have hb0 := (Below.refl w.heap.size w).alloc (Nat.le_refl _) (.cells (arC f 32) 60)
  go_loopw [5, 6, 7, 8] (fun m _ _ i wr => ∃ k : Nat, k ≤ 32 ∧ i = .int .i64 k ∧ m = .int .u32 (rg (sumOf f r k)) ∧ Ar wr 60 w.heap.size f 32 ∧ Below w.heap.size w wr) (fun _ _ _ i _ => 32 - (intOf i).toNat)
  case atStart => exact ⟨0, Nat.zero_le _, rfl, by unfold sumOf; rw [rg_zero], hA0, hb0⟩
  case round =>
    clear hA0 hb0
    obtain ⟨k, hk, rfl, rfl, hA, hb⟩ := hrel
    by_cases hlt : k < 32
    · have g1 := hA.cell hlt
      have hi : (k : Int) < 32 := by omega
      go_wp2
      go_quiet (fail)
      go_wp2
      go_roundw
      case rel => exact ⟨k + 1, by omega, by go_num, by rw [rg_mask]; rfl, hA.below (bdn (Below.refl _ _) _), bdn hb _⟩
      case measure => simp [intOf]; omega
    · obtain rfl : k = 32 := by omega
      go_wp2
      go_ret
      exact ⟨rfl, hb⟩
set_option maxHeartbeats 2000000 in
set_option maxRecDepth 1000000 in
theorem doubled_any (f : Nat → BitVec 32) (w : World) :
    Calls Try.prog 33 #[.agg (arC f 32)] w fun e w' => e = .returned (.agg (arC (fun i => sumOf f (f i) 32) 32)) ∧ Below w.heap.size w w' := by
  go_enter Try.func33, Try.ntmps33
  go_wp2_with (first | (refine wpList_boxAr rfl 60 _ rfl (some 1) rfl f 32 rfl ?_; intro w1 hA1 hG1) | (refine wpList_allocAr rfl 60 rfl (some 2) rfl 32 zero60 ?_; intro w2 hB2 hG2) | (refine wpList_loadAr rfl 60 _ rfl w.heap.size rfl 60 f 32 54 (hG2.ar hA1) (by kernel_rfl) size60 ?_) | (refine wpList_allocAr rfl 60 rfl (some 3) rfl 32 zero60 ?_; intro w3 hC3 hG3) | (refine wpList_storeAr rfl 60 _ _ rfl rfl w2.heap.size f _ 32 rfl rfl 60 hC3 size60 ?_; intro w4 hC4 hT4))
  have s1 := hG1.1
  have s2 := hG2.1
  have hb4 : Below w.heap.size w w4 := hT4.2.1 _ _ (hG3.below (hG2.below hG1.2 (by omega)) (by omega)) (by omega)
  have hA4 : Ar w4 60 w.heap.size f 32 := hT4.ar (hG3.ar (hG2.ar hA1)) (by omega)
  have hB4 : Ar w4 60 w1.heap.size (fun _ => 0#32) 32 := hT4.ar (hG3.ar hB2) (by omega)
  have S1 : Hid (w1.heap.size = w.heap.size + 1) := s1
  have S2 : Hid (w2.heap.size = w1.heap.size + 1) := s2
  clear hA1 hB2 hC3 hG1 hG2 hG3 hT4 s1 s2
  go_loopw [4, 5, 7] (fun _ _ i wr => ∃ k : Nat, k ≤ 32 ∧ i = .int .i64 k ∧ Ar wr 60 w.heap.size (fun i => if i < k then sumOf f (f i) 32 else f i) 32 ∧ Ar wr 60 w1.heap.size (fun _ => 0#32) 32 ∧ Ar wr 60 w2.heap.size f 32 ∧ Below w.heap.size w wr) (fun _ _ i _ => 32 - (intOf i).toNat)
  case atStart => exact ⟨0, Nat.zero_le _, rfl, hA4.congr (fun i hi => by rw [if_neg (by omega)]), hB4, hC4, hb4⟩
  case round =>
    clear hA4 hB4 hC4 hb4
    obtain ⟨k, hk, rfl, hA, hB, hC, hb⟩ := hrel
    by_cases hlt : k < 32
    · have g1 := hC.cell hlt
      have hi : (k : Int) < 32 := by omega
      go_wp2
      go_quiet (fail)
      have hA5 := hA.below (bdn (Below.refl _ _) nq)
      have hB5 := hB.below (bdn (Below.refl _ _) nq)
      have hC5 := hC.below (bdn (Below.refl _ _) nq)
      have hb5 := bdn hb nq
      generalize wr.drewN nq = wd at *
      clear hA hB hC hb g1
      go_wp2_with (first | (refine wpList_loadAr rfl 60 _ rfl w2.heap.size rfl 60 f 32 54 hC5 (by kernel_rfl) size60 ?_) | (go_at_call 32; refine (of_any f (f k) _).mono ?_; rintro e w6 ⟨rfl, hb6⟩; have g3 := (hA5.below hb6).cell hlt; have g4 := (hA5.below hb6).frozen k))
      have z6 := hb6.size
      have z5 := hb5.size
      go_roundw
      case rel => exact ⟨k + 1, by omega, by go_num, ((hA5.below hb6).set hlt _).congr (fun i hi => by
          by_cases e : i = k
          · subst e; simp
          · by_cases h2 : i < k
            · rw [if_neg e, if_pos h2, if_pos (by omega)]
            · rw [if_neg e, if_neg h2, if_neg (by omega)]), (hB5.below hb6).other (p := ⟨w.heap.size, k, none⟩) (by have := S1.out; show w1.heap.size ≠ w.heap.size; omega) rfl, (hC5.below hb6).other (p := ⟨w.heap.size, k, none⟩) (by have := S1.out; have := S2.out; show w2.heap.size ≠ w.heap.size; omega) rfl, (hb5.trans (hb6.mono z5)).setCell (Nat.le_refl _) _⟩
      case measure => simp [intOf]; omega
    · obtain rfl : k = 32 := by omega
      have hA2 : Ar wr 60 w.heap.size (fun i => sumOf f (f i) 32) 32 := hA.congr (fun i hi => by rw [if_pos hi])
      clear hA
      go_wp2_with (first | (refine wpList_loadAr rfl 60 _ rfl w.heap.size rfl 60 (fun i => sumOf f (f i) 32) 32 54 hA2 (by kernel_rfl) size60 ?_) | (refine wpList_storeAr rfl 60 _ _ rfl rfl w1.heap.size (fun i => sumOf f (f i) 32) _ 32 rfl rfl 60 hB size60 ?_; intro w5 hB5 hT5))
      refine bodyPost_ret (v := .agg (arC (fun i => sumOf f (f i) 32) 32)) ?_ rfl ⟨rfl, hT5.2.1 _ _ hb (by have := S1.out; omega)⟩
      unfold Ar at hB5
      exact results_cell_row rfl _ _ w1.heap.size 60 (arC (fun i => sumOf f (f i) 32) 32) (0, 0) (.array 32 54) (by kernel_rfl) hB5 (by kernel_rfl) rfl (by rw [arC_size]; exact size60)
set_option maxHeartbeats 1000000 in
set_option maxRecDepth 1000000 in
theorem oneByte_any (w : World) :
    Calls Try.prog 31 #[] w fun e w' => e = .returned (.agg (arC (fun i => stps 8 (1#32 <<< i)) 32)) ∧ Below w.heap.size w w' := by
  obtain ⟨tf, htf⟩ : ∃ tf : Nat → BitVec 32, tf = fun i => stps 8 (1#32 <<< i) := ⟨_, rfl⟩
  rw [← htf]
  go_enter Try.func31, Try.ntmps31
  go_wp2_with (first | (refine wpList_allocAr rfl 60 rfl (some 0) rfl 32 zero60 ?_; intro w1 hA1 hG1) | (refine wpList_allocAr rfl 60 rfl (some 1) rfl 32 zero60 ?_; intro w2 hB2 hG2))
  have s1 := hG1.1
  have hb2 : Below w.heap.size w w2 := hG2.below hG1.2 (by omega)
  have hA2 := hG2.ar hA1
  have S1 : Hid (w1.heap.size = w.heap.size + 1) := s1
  clear s1 hA1 hG1 hG2
  go_loopw [2, 3] (fun _ i wr => ∃ k : Nat, k ≤ 32 ∧ i = .int .i64 k ∧ Ar wr 60 w.heap.size (fun _ => 0#32) 32 ∧ Ar wr 60 w1.heap.size (fun i => if i < k then tf i else 0#32) 32 ∧ Below w.heap.size w wr) (fun _ i _ => 32 - (intOf i).toNat)
  case atStart => exact ⟨0, Nat.zero_le _, rfl, hA2, hB2, hb2⟩
  case round =>
    clear hA2 hB2 hb2
    obtain ⟨k, hk, rfl, hA, hO, hb⟩ := hrel
    by_cases hlt : k < 32
    · have hi : (k : Int) < 32 := by omega
      have g3 := hO.cell hlt
      have g4 := hO.frozen k
      have hst : ∀ w, Calls Try.prog 37 #[.int .u32 (2 ^ k % 4294967296), .int .i64 8] w fun e w' => e = .returned (.int .u32 (rg (tf k))) ∧ w' = w := fun w => by
        rw [rg_bit, htf]; exact steps_any _ 8 (by omega) w
      clear htf
      go_wp2_with (go_at_call 37; refine (hst _).mono ?_; rintro e w' ⟨rfl, rfl⟩)
      go_roundw
      case rel => exact ⟨k + 1, by omega, by go_num, hA.other (p := ⟨w1.heap.size, k, none⟩) (by have := S1.out; show w.heap.size ≠ w1.heap.size; omega) rfl, hO.fill hlt rfl, hb.setCell (by have := S1.out; show w.heap.size ≤ w1.heap.size; omega) _⟩
      case measure => simp [intOf]; omega
    · obtain rfl : k = 32 := by omega
      have hO2 : Ar wr 60 w1.heap.size tf 32 := hO.congr (fun i hi => by rw [if_pos hi])
      clear hO
      go_wp2_with (first | (refine wpList_loadAr rfl 60 _ rfl w1.heap.size rfl 60 tf 32 54 hO2 (by kernel_rfl) size60 ?_) | (refine wpList_storeAr rfl 60 _ _ rfl rfl w.heap.size tf _ 32 rfl rfl 60 hA size60 ?_; intro w3 hA3 hT3))
      refine bodyPost_ret (v := .agg (arC tf 32)) ?_ rfl ⟨rfl, hT3.2.1 _ _ hb (Nat.le_refl _)⟩
      unfold Ar at hA3
      exact results_cell_row rfl _ _ w.heap.size 60 (arC tf 32) (0, 0) (.array 32 54) (by kernel_rfl) hA3 (by kernel_rfl) rfl (by rw [arC_size]; exact size60)
set_option maxHeartbeats 1000000 in
set_option maxRecDepth 1000000 in
theorem zeros_core (r : BitVec 32) (N : Nat) (w : World) :
    Calls Try.prog 26 #[.int .u32 (rg r), .int .i64 N] w fun e w' => e = .returned (.int .u32 (rg (stps (8 * N) r))) ∧ Below w.heap.size w w' := by
  have h0 : arC (fun i => stps 8 (1#32 <<< i)) 32 = arC (fun i => stps (8 * 2 ^ 0) (1#32 <<< i)) 32 := rfl
  go_enter Try.func26, Try.ntmps26
  go_wp2_with (first | (go_at_call 31; refine (oneByte_any _).mono ?_; rw [h0]; rintro e w1 ⟨rfl, hb1⟩) | (refine wpList_allocAr rfl 60 rfl (some 5) rfl 32 zero60 ?_; intro w2 hA2 hG2) | (refine wpList_storeAr rfl 60 _ _ rfl rfl w1.heap.size (fun i => stps (8 * 2 ^ 0) (1#32 <<< i)) _ 32 rfl rfl 60 hA2 size60 ?_; intro w3 hA3 hT3))
  go_simp
  have hb3 : Below w.heap.size w w3 := hT3.2.1 _ _ (hG2.below hb1 hb1.size) hb1.size
  have z1 := hb1.size
  go_loopw [0, 1, 5] (fun y m s wr => ∃ (k g M : Nat), y = .int .u32 (rg (stps (8 * (N % 2 ^ k)) r)) ∧ m = .int .i64 M ∧ s = .pointer (some ⟨g, 0, none⟩) ∧ Hid (M = N / 2 ^ k) ∧ Ar wr 60 g (fun i => stps (8 * 2 ^ k) (1#32 <<< i)) 32 ∧ w.heap.size ≤ g ∧ Below w.heap.size w wr) (fun _ m _ _ => (intOf m).toNat)
  case atStart => exact ⟨0, w1.heap.size, N, by rw [Nat.pow_zero, Nat.mod_one]; unfold stps; rfl, rfl, rfl, (by show N = _; simp), hA3, z1, hb3⟩
  case round =>
    clear hA3 hb3 hT3 hG2 hA2 hb1 h0 z1
    obtain ⟨k, g, M, rfl, rfl, rfl, HM, hA, hg, hb⟩ := hrel
    by_cases hlt : 0 < M
    · have hi : (0 : Int) < (M : Int) := by omega
      have hpar : M % 2 = 0 ∨ M % 2 = 1 := by omega
      have hdd : arC (fun i => sumOf (fun i => stps (8 * 2 ^ k) (1#32 <<< i)) ((fun i => stps (8 * 2 ^ k) (1#32 <<< i)) i) 32) 32 = arC (fun i => stps (8 * 2 ^ (k + 1)) (1#32 <<< i)) 32 := arC_congr (fun i _ => stps_twice k i)
      rcases hpar with hp | hp
      · have q1 : bits .and .i64 (M : Int) 1 = 0 := by rw [i64_and1]; omega
        have q2 : N / 2 ^ k % 2 = 0 := by rw [← HM.out]; exact hp
        go_wp2_with (first | (refine wpList_loadAr rfl 60 _ rfl g rfl 60 _ 32 54 hA (by kernel_rfl) size60 ?_) | (go_at_call 33; refine (doubled_any _ _).mono ?_; rw [hdd]; rintro e w5 ⟨rfl, hb5⟩; have hA5 := hA.below hb5) | (refine wpList_storeAr rfl 60 _ _ rfl rfl g (fun i => stps (8 * 2 ^ (k + 1)) (1#32 <<< i)) _ 32 rfl rfl 60 hA5 size60 ?_; intro w6 hA6 hT6) | (refine wpList_loadAr rfl 60 _ rfl g rfl 60 (fun i => stps (8 * 2 ^ (k + 1)) (1#32 <<< i)) 32 54 hA6 (by kernel_rfl) size60 ?_) | (refine wpList_allocAr rfl 60 rfl (some 5) rfl 32 zero60 ?_; intro w7 hA7 hG7) | (refine wpList_storeAr rfl 60 _ _ rfl rfl w6.heap.size (fun i => stps (8 * 2 ^ (k + 1)) (1#32 <<< i)) _ 32 rfl rfl 60 hA7 size60 ?_; intro w8 hA8 hT8))
        have hbx : Below w.heap.size w wr := hb
        have hb6 := hT6.2.1 _ _ (hbx.trans (hb5.mono hbx.size)) hg
        have hb8 := hT8.2.1 _ _ (hG7.below hb6 hb6.size) hb6.size
        go_roundw
        case rel => exact ⟨k + 1, w6.heap.size, M / 2, by rw [stps_even N k r q2], by go_num, rfl, half_N N k M HM.out, hA8, hb6.size, hb8⟩
        case measure => simp [intOf]; omega
      · have q1 : bits .and .i64 (M : Int) 1 = 1 := by rw [i64_and1]; omega
        have q2 : N / 2 ^ k % 2 = 1 := by rw [← HM.out]; exact hp
        go_wp2_with (first | (refine wpList_loadAr rfl 60 _ rfl g rfl 60 _ 32 54 hA (by kernel_rfl) size60 ?_) | (go_at_call 32; refine (of_any _ _ _).mono ?_; rw [sumOf_stps, stps_odd N k r q2]; rintro e w4 ⟨rfl, hb4⟩; have hA4 := hA.below hb4) | (refine wpList_loadAr rfl 60 _ rfl g rfl 60 _ 32 54 hA4 (by kernel_rfl) size60 ?_) | (go_at_call 33; refine (doubled_any _ _).mono ?_; rw [hdd]; rintro e w5 ⟨rfl, hb5⟩; have hA5 := hA4.below hb5) | (refine wpList_storeAr rfl 60 _ _ rfl rfl g (fun i => stps (8 * 2 ^ (k + 1)) (1#32 <<< i)) _ 32 rfl rfl 60 hA5 size60 ?_; intro w6 hA6 hT6) | (refine wpList_loadAr rfl 60 _ rfl g rfl 60 (fun i => stps (8 * 2 ^ (k + 1)) (1#32 <<< i)) 32 54 hA6 (by kernel_rfl) size60 ?_) | (refine wpList_allocAr rfl 60 rfl (some 5) rfl 32 zero60 ?_; intro w7 hA7 hG7) | (refine wpList_storeAr rfl 60 _ _ rfl rfl w6.heap.size (fun i => stps (8 * 2 ^ (k + 1)) (1#32 <<< i)) _ 32 rfl rfl 60 hA7 size60 ?_; intro w8 hA8 hT8))
        have hbx : Below w.heap.size w w4 := (hb.trans (hb4.mono hb.size))
        have hb6 := hT6.2.1 _ _ (hbx.trans (hb5.mono hbx.size)) hg
        have hb8 := hT8.2.1 _ _ (hG7.below hb6 hb6.size) hb6.size
        go_roundw
        case rel => exact ⟨k + 1, w6.heap.size, M / 2, rfl, by go_num, rfl, half_N N k M HM.out, hA8, hb6.size, hb8⟩
        case measure => simp [intOf]; omega
    · obtain rfl : M = 0 := by omega
      have e : N % 2 ^ k = N := by
        have h1 := Nat.div_add_mod N (2 ^ k)
        rw [← HM.out] at h1; omega
      rw [e]
      clear hA
      go_wp2
      go_ret
      exact ⟨rfl, hb⟩
set_option maxRecDepth 1000000 in
theorem zeros_neg (r : BitVec 32) (n : Int) (hn : n < 0) (w : World) :
    Calls Try.prog 26 #[.int .u32 (rg r), .int .i64 n] w fun e w' => e = .returned (.int .u32 (rg r)) ∧ Below w.heap.size w w' := by
  have q : decide ((0 : Int) < n) = false := by simp; omega
  go_enter Try.func26, Try.ntmps26
  go_wp2_with (first | (go_at_call 31; refine (oneByte_any _).mono ?_; rintro e w1 ⟨rfl, hb1⟩) | (refine wpList_allocAr rfl 60 rfl (some 5) rfl 32 zero60 ?_; intro w2 hA2 hG2) | (refine wpList_storeAr rfl 60 _ _ rfl rfl w1.heap.size (fun i => stps 8 (1#32 <<< i)) _ 32 rfl rfl 60 hA2 size60 ?_; intro w3 hA3 hT3))
  go_simp
  have hb3 : Below w.heap.size w w3 := hT3.2.1 _ _ (hG2.below hb1 hb1.size) hb1.size
  refine wp_loop_rounds 1 ?_
  rw [rounds_succ]
  go_wp2
  go_ret
  exact ⟨rfl, hb3⟩
theorem zeros_any (r : BitVec 32) (n : Int) (w : World) :
    Calls Try.prog 26 #[.int .u32 (rg r), .int .i64 n] w fun e w' => e = .returned (.int .u32 (rg (stps (8 * n.toNat) r))) ∧ Below w.heap.size w w' := by
  by_cases h : n < 0
  · have e : n.toNat = 0 := by omega
    have e2 : stps (8 * n.toNat) r = r := by rw [e]; unfold stps; rfl
    rw [e2]; exact zeros_neg r n h w
  · have h1 := zeros_core r n.toNat w
    rwa [show ((n.toNat : Nat) : Int) = n by omega] at h1
theorem join_any (a b : BitVec 32) (n : Int) (w : World) :
    Calls Try.prog 14 #[.int .u32 (rg a), .int .u32 (rg b), .int .i64 n] w fun e w' => e = .returned (.int .u32 (rg (stps (8 * n.toNat) a ^^^ b))) ∧ Below w.heap.size w w' := by
  have e1 := rg_xor (stps (8 * n.toNat) a) b
  go_enter Try.func14, Try.ntmps14
  go_wp2_with (go_at_call 26; refine (zeros_any _ _ _).mono ?_; rintro e w1 ⟨rfl, hb1⟩)
  go_ret
  exact ⟨rfl, hb1⟩
end
end Go.Proofs.Ytmpccpcnbenpfaa
