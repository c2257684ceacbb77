/-
  Package crc: strides, and 'Join'.
-/
import Derived.Test.YtjobaeopokfekaaGreatCt1
namespace Go.Proofs.YtjobaeopokfekaaGreat
open Go.RowKit Go.Great
theorem ar_box (w : World) (f : Nat → BitVec 32) (n : Nat) (t : TypeId) : Ar (w.alloc (.cells (arC f n) t)) t w.heap.size f n := by
  unfold Ar; rw [heap_alloc_new]
theorem bdn {B : Nat} {a w : World} (h : Below B a w) (n : Nat) : Below B a (w.drewN n) := ⟨h.os, h.tape, h.output, h.size, h.block⟩
/-- A world that has one block more. -/
def Grew (w w' : World) : Prop := w'.heap.size = w.heap.size + 1 ∧ Below w.heap.size w w'
theorem Grew.below {w w' : World} (h : Grew w w') {B : Nat} {w0 : World} (hb : Below B w0 w) (hB : B ≤ w.heap.size) : Below B w0 w' := hb.trans (h.2.mono hB)
theorem Grew.ar {w w' : World} (h : Grew w w') {t : TypeId} {b n : Nat} {f : Nat → BitVec 32} (ha : Ar w t b f n) : Ar w' t b f n := ha.below h.2
theorem wpList_allocAr {P : Program} {w : World} {ops : Array Oper} {rest : List Oper} {o : Oper} {a : Act} {Q : Exit → Act → World → Prop} (hgd : o.guard = none) (ty : TypeId) (ho : o.op = .alloc ty)
    (dst : Option Tmp) (hdst : o.dst = dst) (n : Nat) (hz : ∀ w, (zeroValue ty).run P w = .ok (.agg (Array.replicate n (.int .u32 0))) w)
    (h : ∀ w', Ar w' ty w.heap.size (fun _ => 0#32) n → Grew w w' → wpList P ops Q rest (a.put dst (.pointer (some ⟨w.heap.size, 0, none⟩))) w') : wpList P ops Q (o :: rest) a w := by
  subst hdst
  refine wpList_plain hgd fun K hK => ?_
  have h2 := h _ (ar_new w n ty) ⟨by simp, (Below.refl _ _).alloc (Nat.le_refl _) _⟩
  unfold Oper.wp execOp
  simp only [ho, Sem.run_bind, Instr.alloc, newVar, newRow, hz, run_newObj_alloc, Sem.run_pure, Result.andThen_ok, Value.cells]
  exact hK _ _ h2
theorem wpList_boxAr {P : Program} {w : World} {ops : Array Oper} {rest : List Oper} {o : Oper} {a : Act} {Q : Exit → Act → World → Prop} (hgd : o.guard = none) (ty : TypeId) (x : Operand) (ho : o.op = .box ty x)
    (dst : Option Tmp) (hdst : o.dst = dst) (f : Nat → BitVec 32) (n : Nat) (hx : a.eval x = .agg (arC f n))
    (h : ∀ w', Ar w' ty w.heap.size f n → Grew w w' → wpList P ops Q rest (a.put dst (.pointer (some ⟨w.heap.size, 0, none⟩))) w') : wpList P ops Q (o :: rest) a w :=
  wpList_boxTo hgd ty x ho dst hdst w.heap.size rfl (arC f n) (by rw [hx]; rfl) (h _ (ar_box w f n ty) ⟨by simp, (Below.refl _ _).alloc (Nat.le_refl _) _⟩)
theorem rg_shr (a : BitVec 32) (n : Nat) : rg a / (2 : Int) ^ n = rg (a >>> n) := by
  unfold rg; rw [BitVec.toNat_ushiftRight, Nat.shiftRight_eq_div_pow, Int.natCast_ediv]; simp
theorem rg_mask (a b c : BitVec 32) (k : Nat) : bits .xor .u32 (rg a) (bits .and .u32 (rg b) (-bits .and .u32 (rg c / 2 ^ k) 1 % 4294967296)) = rg (a ^^^ pck k b c) := by
  rw [rg_shr, show (1 : Int) = rg 1#32 from rfl, rg_and, rg_neg, rg_and, rg_xor, and_mask]
theorem rg_bit (k : Nat) : (2 : Int) ^ k % 4294967296 = rg (1#32 <<< k) := by
  unfold rg; rw [BitVec.toNat_shiftLeft, Nat.shiftLeft_eq, Int.natCast_emod]; simp
theorem sumOf_stps (a : Nat) (r : BitVec 32) : sumOf (fun i => stps a (1#32 <<< i)) r 32 = stps a r := sumOf_all (Lin.stps a) r
theorem stps_odd (N k : Nat) (r : BitVec 32) (h : N / 2 ^ k % 2 = 1) : stps (8 * 2 ^ k) (stps (8 * (N % 2 ^ k)) r) = stps (8 * (N % 2 ^ (k + 1))) r := by
  rw [← stps_add, Nat.mod_pow_succ, h, Nat.mul_one, Nat.mul_add]
theorem stps_even (N k : Nat) (r : BitVec 32) (h : N / 2 ^ k % 2 = 0) : stps (8 * (N % 2 ^ k)) r = stps (8 * (N % 2 ^ (k + 1))) r := by
  rw [Nat.mod_pow_succ, h, Nat.mul_zero, Nat.add_zero]
theorem stps_twice (k : Nat) (i : Nat) : sumOf (fun i => stps (8 * 2 ^ k) (1#32 <<< i)) (stps (8 * 2 ^ k) (1#32 <<< i)) 32 = stps (8 * 2 ^ (k + 1)) (1#32 <<< i) := by
  rw [sumOf_stps, ← stps_add, Nat.pow_succ, ← Nat.mul_two, Nat.mul_assoc]
theorem i64_and1 (n : Int) : bits .and .i64 n 1 = n % 2 := by
  have h1 : (BitVec.ofInt 64 1).toNat = 2 ^ 1 - 1 := by decide
  have key : (BitVec.ofInt 64 n &&& BitVec.ofInt 64 1).toNat = (n % ((2 ^ 64 : Nat) : Int)).toNat % 2 ^ 1 := by
    rw [BitVec.toNat_and, BitVec.toNat_ofInt, h1, Nat.and_two_pow_sub_one_eq_mod]
  show IntKind.i64.wrap ((BitVec.ofInt 64 n &&& BitVec.ofInt 64 1).toNat : Nat) = n % 2
  rw [key, IntKind.wrap_i64]
  omega
theorem half_N (N k M : Nat) (h : M = N / 2 ^ k) : M / 2 = N / 2 ^ (k + 1) := by rw [h, Nat.div_div_eq_div_mul, Nat.pow_succ]
section
attribute [local irreducible] Calls rg stps Ar arC
end
end Go.Proofs.YtjobaeopokfekaaGreat
