/-
  The document's product (cairnref03.Mul), of three fields.
-/
import Derived.Test.YtgokkppojhokbaaKf
import Derived.Test.YtgokkppojhokbaaKn
namespace Go.Proofs.Ytgokkppojhokbaa
open Go.RowKit

def e16 (p : BitVec 16) : Int := (p.toNat : Int)
theorem e16_bd (p : BitVec 16) : 0 ≤ e16 p ∧ e16 p < 65536 := by unfold e16; have := p.isLt; omega
theorem ofInt_i64 (a : Nat) (ha : a < 4294967296) : (BitVec.ofInt 64 (a : Int)).toNat = a := by
  rw [BitVec.ofInt_natCast, BitVec.toNat_ofNat]; exact Nat.mod_eq_of_lt (by omega)
theorem wrap_i64_small (n : Nat) (h : n < 4294967296) : IntKind.i64.wrap (n : Int) = (n : Int) := by
  rw [IntKind.wrap_i64]; omega
theorem i64_xor_nat (a b : Nat) (ha : a < 4294967296) (hb : b < 4294967296) : bits .xor .i64 (a : Int) (b : Int) = ((a ^^^ b : Nat) : Int) := by
  have hx : a ^^^ b < 2 ^ 32 := Nat.xor_lt_two_pow (by omega) (by omega)
  show IntKind.i64.wrap ((BitVec.ofInt 64 (a : Int) ^^^ BitVec.ofInt 64 (b : Int)).toNat : Int) = _
  rw [BitVec.toNat_xor, ofInt_i64 a ha, ofInt_i64 b hb, wrap_i64_small _ hx]
theorem i64_and_nat (a b : Nat) (ha : a < 4294967296) (hb : b < 4294967296) : bits .and .i64 (a : Int) (b : Int) = ((a &&& b : Nat) : Int) := by
  have hx : a &&& b < 2 ^ 32 := Nat.and_lt_two_pow _ (by omega)
  show IntKind.i64.wrap ((BitVec.ofInt 64 (a : Int) &&& BitVec.ofInt 64 (b : Int)).toNat : Int) = _
  rw [BitVec.toNat_and, ofInt_i64 a ha, ofInt_i64 b hb, wrap_i64_small _ hx]
theorem e16_xor (p q : BitVec 16) : bits .xor .i64 (e16 p) (e16 q) = e16 (p ^^^ q) := by
  unfold e16; rw [i64_xor_nat _ _ (by have := p.isLt; omega) (by have := q.isLt; omega), BitVec.toNat_xor]
theorem bit_num (n k : Nat) (h : n < 65536) : (bits .and .i64 ((n : Int) / 2 ^ k) 1 == 1) = n.testBit k := by
  have e : (n : Int) / 2 ^ k = ((n / 2 ^ k : Nat) : Int) := by simp
  have hl : n / 2 ^ k ≤ n := Nat.div_le_self _ _
  rw [e, show (1 : Int) = ((1 : Nat) : Int) from rfl, i64_and_nat _ _ (by omega) (by omega)]
  rw [Nat.testBit, Nat.and_comm, Nat.shiftRight_eq_div_pow, Nat.and_comm]
  have h2 : n / 2 ^ k &&& 1 = 0 ∨ n / 2 ^ k &&& 1 = 1 := by rw [Nat.and_one_is_mod]; omega
  rcases h2 with h2 | h2 <;> rw [h2] <;> rfl
theorem bit8 (b : BitVec 8) (k : Nat) : (bits .and .i64 (el b / 2 ^ k) 1 == 1) = b.getLsbD k := by
  unfold el; rw [bit_num _ _ (by have := b.isLt; omega)]; rfl
theorem bit16 (b : BitVec 16) (k : Nat) : (bits .and .i64 (e16 b / 2 ^ k) 1 == 1) = b.getLsbD k := by
  unfold e16; rw [bit_num _ _ b.isLt]; rfl

/-- Partial products without a remainder taken. -/
def c16 (a : BitVec 16) (b : BitVec 8) : Nat → BitVec 16
  | 0 => 0#16
  | k + 1 => c16 a b k ^^^ (if b.getLsbD k then a <<< k else 0#16)
def red1 (d : Nat) (m : BitVec 16) (p : BitVec 16) (j : Nat) : BitVec 16 := p ^^^ (if p.getLsbD j then m <<< (j - d) else 0#16)
def redn (d : Nat) (m : BitVec 16) : Nat → BitVec 16 → BitVec 16
  | 0, p => p
  | n + 1, p => red1 d m (redn d m n p) (15 - n)
def refM (d : Nat) (m : BitVec 16) (a b : BitVec 8) : BitVec 16 := redn d m (16 - d) (c16 (a.setWidth 16) b 8)
def refT (a b : BitVec 8) : BitVec 16 := refM 8 285#16 a b

theorem xor16 (a b c d : BitVec 16) : (a ^^^ b) ^^^ (c ^^^ d) = (a ^^^ c) ^^^ (b ^^^ d) := by
  rw [BitVec.xor_assoc, BitVec.xor_assoc, ← BitVec.xor_assoc b, ← BitVec.xor_assoc c, BitVec.xor_comm b c]
theorem pick_xor (x y : Bool) (m : BitVec 16) : (if (x ^^ y) = true then m else 0#16) = (if x = true then m else 0#16) ^^^ (if y = true then m else 0#16) := by
  cases x <;> cases y <;> simp
theorem c16_succ (a : BitVec 16) (b : BitVec 8) (k : Nat) : c16 a b (k + 1) = c16 a b k ^^^ (if b.getLsbD k then a <<< k else 0#16) := rfl
theorem c16_xor (a : BitVec 16) (b c : BitVec 8) (k : Nat) : c16 a (b ^^^ c) k = c16 a b k ^^^ c16 a c k := by
  induction k with
  | zero => simp [c16]
  | succ k ih => rw [c16_succ, c16_succ, c16_succ, ih, BitVec.getLsbD_xor, pick_xor, xor16]
theorem red1_xor (d : Nat) (m : BitVec 16) (p q : BitVec 16) (j : Nat) : red1 d m (p ^^^ q) j = red1 d m p j ^^^ red1 d m q j := by
  unfold red1; rw [BitVec.getLsbD_xor, pick_xor, xor16]
theorem redn_xor (d : Nat) (m : BitVec 16) (n : Nat) (p q : BitVec 16) : redn d m n (p ^^^ q) = redn d m n p ^^^ redn d m n q := by
  induction n with
  | zero => rfl
  | succ n ih => unfold redn; rw [ih, red1_xor]
theorem refT_xor (a b c : BitVec 8) : refT a (b ^^^ c) = refT a b ^^^ refT a c := by
  unfold refT refM; rw [c16_xor, redn_xor]
def dif (a b : BitVec 8) : BitVec 16 := refT a b ^^^ (gm a b).setWidth 16
theorem dif_xor (a b c : BitVec 8) : dif a (b ^^^ c) = dif a b ^^^ dif a c := by
  unfold dif
  rw [refT_xor, gm_xor_r, BitVec.setWidth_xor, xor16]
theorem dif_basis : ∀ a : BitVec 8, (dif a 0#8 == 0#16 && dif a 1#8 == 0#16 && dif a 2#8 == 0#16 && dif a 4#8 == 0#16 && dif a 8#8 == 0#16 && dif a 16#8 == 0#16 && dif a 32#8 == 0#16 && dif a 64#8 == 0#16 && dif a 128#8 == 0#16) = true := by decide +kernel
theorem split8 : ∀ b : BitVec 8, b = (b &&& 1#8) ^^^ (b &&& 2#8) ^^^ (b &&& 4#8) ^^^ (b &&& 8#8) ^^^ (b &&& 16#8) ^^^ (b &&& 32#8) ^^^ (b &&& 64#8) ^^^ (b &&& 128#8) := by decide +kernel
theorem part8 : ∀ b : BitVec 8, (b &&& 1#8 = 0#8 ∨ b &&& 1#8 = 1#8) ∧ (b &&& 2#8 = 0#8 ∨ b &&& 2#8 = 2#8) ∧ (b &&& 4#8 = 0#8 ∨ b &&& 4#8 = 4#8) ∧ (b &&& 8#8 = 0#8 ∨ b &&& 8#8 = 8#8) ∧ (b &&& 16#8 = 0#8 ∨ b &&& 16#8 = 16#8) ∧ (b &&& 32#8 = 0#8 ∨ b &&& 32#8 = 32#8) ∧ (b &&& 64#8 = 0#8 ∨ b &&& 64#8 = 64#8) ∧ (b &&& 128#8 = 0#8 ∨ b &&& 128#8 = 128#8) := by decide +kernel
theorem dif_zero (a b : BitVec 8) : dif a b = 0#16 := by
  have h := dif_basis a
  simp only [Bool.and_eq_true, beq_iff_eq] at h
  obtain ⟨⟨⟨⟨⟨⟨⟨⟨h0, h1⟩, h2⟩, h4⟩, h8⟩, h16⟩, h32⟩, h64⟩, h128⟩ := h
  obtain ⟨p1, p2, p4, p8, p16, p32, p64, p128⟩ := part8 b
  have z : ∀ x m : BitVec 8, dif a m = 0#16 → (x = 0#8 ∨ x = m) → dif a x = 0#16 := by
    intro x m hm hx; rcases hx with rfl | rfl
    · exact h0
    · exact hm
  rw [split8 b, dif_xor, dif_xor, dif_xor, dif_xor, dif_xor, dif_xor, dif_xor, z _ _ h1 p1, z _ _ h2 p2, z _ _ h4 p4, z _ _ h8 p8, z _ _ h16 p16, z _ _ h32 p32, z _ _ h64 p64, z _ _ h128 p128]
  decide
theorem refT_eq (a b : BitVec 8) : e16 (refT a b) = el (gm a b) := by
  have h := dif_zero a b
  unfold dif at h
  have h2 : refT a b = (gm a b).setWidth 16 := by
    have h3 : (refT a b ^^^ (gm a b).setWidth 16) ^^^ (gm a b).setWidth 16 = 0#16 ^^^ (gm a b).setWidth 16 := by rw [h]
    rwa [BitVec.xor_assoc, BitVec.xor_self, BitVec.xor_zero, BitVec.zero_xor] at h3
  unfold e16 el; rw [h2, BitVec.toNat_setWidth]
  have := (gm a b).isLt; omega
theorem shl_wrap (a : BitVec 8) (k : Nat) (hk : k < 8) : wrap64 (el a * 2 ^ k) = e16 (a.setWidth 16 <<< k) := by
  unfold e16 el
  rw [BitVec.toNat_shiftLeft, BitVec.toNat_setWidth, Nat.shiftLeft_eq]
  have h := a.isLt
  have hp : 2 ^ k ≤ 2 ^ 7 := Nat.pow_le_pow_right (by omega) (by omega)
  have h1 : a.toNat * 2 ^ k ≤ 255 * 2 ^ 7 := Nat.mul_le_mul (by omega) hp
  rw [Nat.mod_eq_of_lt (show a.toNat < 2 ^ 16 by omega), Nat.mod_eq_of_lt (show a.toNat * 2 ^ k < 2 ^ 16 by omega)]
  have e : (a.toNat : Int) * 2 ^ k = ((a.toNat * 2 ^ k : Nat) : Int) := by simp
  rw [e]
  unfold wrap64; omega

theorem redn_t {d : Nat} {m : BitVec 16} {n : Nat} {p : BitVec 16} (h : (redn d m n p).getLsbD (15 - n) = true) : redn d m (n + 1) p = redn d m n p ^^^ (m <<< (15 - n - d)) := by
  show red1 d m (redn d m n p) (15 - n) = _
  unfold red1; rw [if_pos h]
theorem redn_f {d : Nat} {m : BitVec 16} {n : Nat} {p : BitVec 16} (h : (redn d m n p).getLsbD (15 - n) = false) : redn d m (n + 1) p = redn d m n p := by
  show red1 d m (redn d m n p) (15 - n) = _
  unfold red1; rw [h]; simp
/-- The three fields: the size, the modulus' degree, its bits. -/
def Szs (s : Int) (d : Nat) (m : Nat) : Prop := (s = 256 ∧ d = 8 ∧ m = 285) ∨ (s = 4 ∧ d = 2 ∧ m = 7) ∨ (s = 2 ∧ d = 1 ∧ m = 2)
theorem mod_all8 : ∀ n, n < 8 → wrap64 (285 * 2 ^ (15 - n - 8)) = e16 (285#16 <<< (15 - n - 8)) := by decide +kernel
theorem mod_all2 : ∀ n, n < 14 → wrap64 (7 * 2 ^ (15 - n - 2)) = e16 (7#16 <<< (15 - n - 2)) := by decide +kernel
theorem mod_all1 : ∀ n, n < 15 → wrap64 (2 * 2 ^ (15 - n - 1)) = e16 (2#16 <<< (15 - n - 1)) := by decide +kernel
theorem mod_wrap {s : Int} {d m : Nat} (h : Szs s d m) (n : Nat) (hn : n < 16 - d) : wrap64 ((m : Int) * 2 ^ (15 - n - d)) = e16 ((BitVec.ofNat 16 m) <<< (15 - n - d)) := by
  rcases h with ⟨_, rfl, rfl⟩ | ⟨_, rfl, rfl⟩ | ⟨_, rfl, rfl⟩
  · exact mod_all8 n hn
  · exact mod_all2 n hn
  · exact mod_all1 n hn
end Go.Proofs.Ytgokkppojhokbaa
/-
  The numbers' own calls: Plus, Times, IsZero; the document's product is the program's.
-/
namespace Go.Proofs.Ytgokkppojhokbaa
open Go.RowKit
def tiE (a b : BitVec 8) : BitVec 8 := gm a b
def tiB (a b : Bool) : Bool := a && b
def tiF (a b : Bool × Bool) : Bool × Bool := ((a.1 && b.1) != (a.2 && b.2), ((a.1 && b.2) != (a.2 && b.1)) != (a.2 && b.2))
/-- A number as a byte. -/
def emE (x : BitVec 8) : BitVec 8 := x
def emB (x : Bool) : BitVec 8 := if x then 1#8 else 0#8
def emF (x : Bool × Bool) : BitVec 8 := (if x.1 then 1#8 else 0#8) ^^^ (if x.2 then 2#8 else 0#8)
theorem nuE_em (x : BitVec 8) : el (emE x) = nuE x := rfl
theorem nuB_em (x : Bool) : el (emB x) = nuB x := by cases x <;> rfl
theorem nuF_em (x : Bool × Bool) : el (emF x) = nuF x := by obtain ⟨a, b⟩ := x; cases a <;> cases b <;> rfl
theorem refM_E (x y : BitVec 8) : e16 (refM 8 (BitVec.ofNat 16 285) (emE x) (emE y)) = nuE (tiE x y) := refT_eq x y
theorem refM_B (x y : Bool) : e16 (refM 1 (BitVec.ofNat 16 2) (emB x) (emB y)) = nuB (tiB x y) := by cases x <;> cases y <;> decide +kernel
theorem refM_F (x y : Bool × Bool) : e16 (refM 2 (BitVec.ofNat 16 7) (emF x) (emF y)) = nuF (tiF x y) := by
  obtain ⟨a, b⟩ := x
  obtain ⟨c, d⟩ := y
  cases a <;> cases b <;> cases c <;> cases d <;> decide +kernel
theorem timesE (x y : BitVec 8) (w : World) : Calls Try.prog 65 #[.int .u8 (el x), .int .u8 (el y)] w fun e w' => e = .returned (.int .u8 (el (tiE x y))) ∧ w' = w := times_any x y w
theorem three_allocs (w : World) (o1 o2 o3 : Obj) : Below w.heap.size w (((w.alloc o1).alloc o2).alloc o3) := (((Below.refl _ _).alloc (Nat.le_refl _) _).alloc (by simp) _).alloc (by simp; omega) _
end Go.Proofs.Ytgokkppojhokbaa
/-
  The document's 'Powers'.
-/
namespace Go.Proofs.Ytgokkppojhokbaa
open Go.RowKit
/-- x, x times p, .. -/
def pwk {K : Type} (ti : K → K → K) (p x : K) : Nat → K
  | 0 => x
  | j + 1 => ti (pwk ti p x j) p
theorem pwk_succ {K : Type} (ti : K → K → K) (p x : K) (j : Nat) : pwk ti p x (j + 1) = ti (pwk ti p x j) p := rfl
def pc (cols : Int) (n : Nat) : Int := if cols < 0 then 2 else if 255 < cols then 3 else if 255 < n then 3 else 0
theorem own_ir {w : World} {base n : Nat} {v : Value} {f : Nat → Int} (h : w.ownsRow base 3 1 v n (lv (fun j => .int .i64 (f j)) n)) : Ir w v n f := owns_st1 h
section
attribute [local irreducible] Calls lv Ir pwk
end
/-- How many rows, and how long, are answered. -/
def pn (cols : Int) (n : Nat) : Nat := if pc cols n = 0 then n else 0
end Go.Proofs.Ytgokkppojhokbaa
/-
  All old blocks but one are as they were.
-/
namespace Go.Proofs.Ytgokkppojhokbaa
open Go.RowKit
theorem bdr (w : World) : Below w.heap.size w w.drew := (Below.refl _ _).drew
/-- All old blocks but g are as they were. -/
structure But (g : Nat) (w w' : World) : Prop where
  bl : Below g w w'
  ot : ∀ k, k < w.heap.size → k ≠ g → w'.heap[k]? = w.heap[k]?
  sz : w.heap.size ≤ w'.heap.size
theorem But.refl (g : Nat) (w : World) : But g w w := ⟨Below.refl _ _, fun _ _ _ => rfl, Nat.le_refl _⟩
theorem But.trans {g : Nat} {w w1 w2 : World} (h : But g w w1) (h' : But g w1 w2) : But g w w2 :=
  ⟨h.bl.trans h'.bl, fun k hk hne => by rw [h'.ot k (Nat.lt_of_lt_of_le hk h.sz) hne, h.ot k hk hne], Nat.le_trans h.sz h'.sz⟩
theorem But.set {g : Nat} {w w1 : World} (h : But g w w1) (j : Nat) (v : Value) : But g w (w1.setCell ⟨g, j, none⟩ v) :=
  ⟨h.bl.setCell (Nat.le_refl _) _, fun k hk hne => by rw [heap_setCell_other _ _ _ _ hne, h.ot k hk hne], by simpa using h.sz⟩
theorem But.below {g : Nat} {w w1 w2 : World} (h : But g w w1) (hg : g ≤ w1.heap.size) (hb : Below w1.heap.size w1 w2) : But g w w2 :=
  ⟨h.bl.trans (hb.mono hg), fun k hk hne => by rw [hb.block k (Nat.lt_of_lt_of_le hk h.sz), h.ot k hk hne], Nat.le_trans h.sz hb.size⟩
theorem But.ov {g : Nat} {w w' : World} (h : But g w w') {t : TypeId} {k n : Nat} {f : Nat → Value} (ho : Ov w t k f n) (hne : k ≠ g) : Ov w' t k f n := by
  unfold Ov; rw [h.ot k ho.lt hne]; exact ho
theorem But.cell {g : Nat} {w w' : World} (h : But g w w') {p : Addr} {v : Value} (hc : w.cell? p = some v) (hne : p.block ≠ g) : w'.cell? p = some v := by
  rw [World.cell?_of_block (h.ot p.block (block_lt_of_cell hc) hne)]; exact hc
end Go.Proofs.Ytgokkppojhokbaa
