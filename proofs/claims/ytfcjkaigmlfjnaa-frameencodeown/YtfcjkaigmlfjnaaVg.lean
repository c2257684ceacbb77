/-
  A reading of a short form, byte by byte; blocks and texts: mathematics alone.
-/
import Derived.Test.YtfcjkaigmlfjnaaSh7
namespace Go.Proofs.Ytfcjkaigmlfjnaa
/-- A reading that goes on behind i bytes whose groups are s. -/
def comb (s i : Nat) : Rs → Rs
  | .ok (v, n) => .ok (s + v * 128 ^ i, i + n)
  | .error e => .error e
theorem comb_start (R : Rs) : comb 0 0 R = R := by
  cases R with
  | error e => rfl
  | ok vn => simp [comb]
theorem step_on (s i k c : Nat) (l : List Nat) (h : 128 ≤ c) : comb s i (rsk (k + 1) (c :: l)) = comb (s + (c % 128) * 128 ^ i) (i + 1) (rsk k l) := by
  show comb s i (if c < 128 then _ else match rsk k l with
    | .ok (v, n) => (.ok (c % 128 + 128 * v, n + 1) : Rs)
    | .error e => .error e) = _
  rw [if_neg (by omega)]
  cases rsk k l with
  | error e => rfl
  | ok vn =>
    obtain ⟨v, n⟩ := vn
    simp only [comb]
    rw [Nat.pow_succ, Nat.add_mul, show 128 * v * 128 ^ i = v * (128 ^ i * 128) by rw [Nat.mul_comm 128 v, Nat.mul_assoc, Nat.mul_comm 128], Nat.add_assoc]
    congr 2; omega
theorem step_last (c : Nat) (l : List Nat) (h : 1 < c) : rsk 0 (c :: l) = .error true := by
  show (if 1 < c then (.error true : Rs) else _) = _
  rw [if_pos h]
theorem step_zero (k : Nat) (l : List Nat) (h : k < 9) : rsk k (0 :: l) = .error true := by
  cases k with
  | zero => rfl
  | succ k =>
    show (if 0 < 128 then (if 0 = 0 ∧ k + 1 < 9 then (.error true : Rs) else _) else _) = _
    rw [if_pos (by omega), if_pos ⟨rfl, h⟩]
theorem step_end (k c : Nat) (l : List Nat) (h : c < 128) (h0 : c ≠ 0 ∨ k = 9) (h1 : k = 0 → c ≤ 1) : rsk k (c :: l) = .ok (c, 1) := by
  cases k with
  | zero =>
    show (if 1 < c then (.error true : Rs) else if c = 0 then .error true else .ok (c, 1)) = _
    have := h1 rfl
    rw [if_neg (by omega), if_neg (by omega)]
  | succ k =>
    show (if c < 128 then (if c = 0 ∧ k + 1 < 9 then (.error true : Rs) else .ok (c, 1)) else _) = _
    rw [if_pos h, if_neg (by omega)]
/-- The bytes as numbers. -/
def nt (bs : List (BitVec 8)) : List Nat := bs.map BitVec.toNat
theorem nt_len (bs : List (BitVec 8)) : (nt bs).length = bs.length := by simp [nt]
theorem nt_byte (bs : List (BitVec 8)) : ∀ c ∈ nt bs, c < 256 := by
  intro c hc
  obtain ⟨b, _, rfl⟩ := List.mem_map.1 hc
  exact b.isLt
/-- What a walk's step comes to: an error's number, or an answer and what is left. -/
abbrev Ans (α : Type) := Except Int (α × List (BitVec 8))
/-- A short form. -/
def uv (bs : List (BitVec 8)) : Ans Nat := match rsk 9 (nt bs) with
  | .ok (v, n) => .ok (v, bs.drop n)
  | .error false => .error 70
  | .error true => .error 71
/-- So many bytes. -/
def tk (n : Nat) (bs : List (BitVec 8)) : Ans (List (BitVec 8)) := if bs.length < n then .error 70 else .ok (bs.take n, bs.drop n)
/-- A short form that is at most so much. -/
def ct (most : Nat) (bs : List (BitVec 8)) : Ans Nat := match uv bs with
  | .error e => .error e
  | .ok (v, l) => if most < v then .error 71 else .ok (v, l)
/-- A block. -/
def bk (most : Nat) (bs : List (BitVec 8)) : Ans (List (BitVec 8)) := match ct most bs with
  | .error e => .error e
  | .ok (v, l) => tk v l
theorem uv_lt {bs l : List (BitVec 8)} {v : Nat} (h : uv bs = .ok (v, l)) : v < 18446744073709551616 := by
  unfold uv at h
  cases hr : rsk 9 (nt bs) with
  | error e => rw [hr] at h; cases e <;> cases h
  | ok un =>
    obtain ⟨u, n⟩ := un
    rw [hr] at h
    injection h with h
    injection h with h1 h2
    subst h1
    exact (sfk_rsk 9 _ u n (Nat.le_refl _) (nt_byte bs) hr).1
theorem or_disj (s d i : Nat) (h : s < 128 ^ i) : s ||| d * 128 ^ i = s + d * 128 ^ i := by
  have e : 128 ^ i = 2 ^ (7 * i) := by rw [Nat.pow_mul]
  rw [e] at h ⊢
  rw [← Nat.shiftLeft_eq, Nat.or_comm, ← Nat.shiftLeft_add_eq_or_of_lt h, Nat.add_comm]
end Go.Proofs.Ytfcjkaigmlfjnaa
