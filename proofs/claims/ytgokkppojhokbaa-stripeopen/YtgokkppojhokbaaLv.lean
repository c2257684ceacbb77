/-
  Numbers of a width, the lowest byte first: mathematics.
-/
namespace Go.Proofs.Ytgokkppojhokbaa
/-- The number whose bytes these are, the lowest first. -/
def lvN : List (BitVec 8) → Nat
  | [] => 0
  | x :: xs => x.toNat + 256 * lvN xs
/-- A number's bytes, the lowest first. -/
def lb : Nat → Nat → List (BitVec 8)
  | 0, _ => []
  | n + 1, v => BitVec.ofNat 8 v :: lb n (v / 256)
theorem lb_len (n v : Nat) : (lb n v).length = n := by
  induction n generalizing v with
  | zero => rfl
  | succ n ih => show (lb n (v / 256)).length + 1 = _; rw [ih]
theorem lv_lt (xs : List (BitVec 8)) : lvN xs < 256 ^ xs.length := by
  induction xs with
  | nil => exact Nat.one_pos
  | cons x xs ih =>
    have := x.isLt
    show x.toNat + 256 * lvN xs < 256 ^ (xs.length + 1)
    rw [Nat.pow_succ]
    omega
theorem lv_lb (n v : Nat) (h : v < 256 ^ n) : lvN (lb n v) = v := by
  induction n generalizing v with
  | zero => simp at h; subst h; rfl
  | succ n ih =>
    show (BitVec.ofNat 8 v).toNat + 256 * lvN (lb n (v / 256)) = v
    rw [ih (v / 256) (by rw [Nat.pow_succ] at h; omega), BitVec.toNat_ofNat]
    omega
theorem lb_lv (xs : List (BitVec 8)) : lb xs.length (lvN xs) = xs := by
  induction xs with
  | nil => rfl
  | cons x xs ih =>
    have hx := x.isLt
    show BitVec.ofNat 8 (x.toNat + 256 * lvN xs) :: lb xs.length ((x.toNat + 256 * lvN xs) / 256) = _
    rw [show (x.toNat + 256 * lvN xs) / 256 = lvN xs by omega, ih]
    congr 1
    apply BitVec.eq_of_toNat_eq
    rw [BitVec.toNat_ofNat]; omega
theorem lv_snoc (xs : List (BitVec 8)) (x : BitVec 8) : lvN (xs ++ [x]) = lvN xs + x.toNat * 256 ^ xs.length := by
  induction xs with
  | nil => show x.toNat + 256 * 0 = 0 + _; simp
  | cons y xs ih =>
    show y.toNat + 256 * lvN (xs ++ [x]) = y.toNat + 256 * lvN xs + x.toNat * 256 ^ (xs.length + 1)
    rw [ih, Nat.mul_add, Nat.pow_succ, Nat.mul_comm (256 ^ xs.length) 256, Nat.mul_left_comm]
    omega
theorem lb_snoc (n v : Nat) : lb (n + 1) v = lb n v ++ [BitVec.ofNat 8 (v / 256 ^ n)] := by
  induction n generalizing v with
  | zero => simp [lb]
  | succ n ih =>
    show BitVec.ofNat 8 v :: lb (n + 1) (v / 256) = BitVec.ofNat 8 v :: (lb n (v / 256) ++ _)
    rw [ih (v / 256), Nat.div_div_eq_div_mul, Nat.pow_succ, Nat.mul_comm 256]
end Go.Proofs.Ytgokkppojhokbaa
