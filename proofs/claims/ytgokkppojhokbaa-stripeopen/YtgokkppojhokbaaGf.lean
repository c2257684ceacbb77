/-
  The field of 256, as plain mathematics over BitVec 8: no Go in sight.
-/
import Derived.Laws.BitsAllLaws
import Derived.KernelRfl
namespace Go.Proofs.Ytgokkppojhokbaa

/-- An element's number. -/
def el (a : BitVec 8) : Int := (a.toNat : Int)
theorem el_bd (a : BitVec 8) : 0 ≤ el a ∧ el a < 256 := by unfold el; have := a.isLt; omega
theorem el_inj {a b : BitVec 8} (h : el a = el b) : a = b := by
  unfold el at h; exact BitVec.eq_of_toNat_eq (by omega)
theorem el_beq (a b : BitVec 8) : (el a == el b) = (a == b) := by
  rw [Bool.eq_iff_iff]; simp only [beq_iff_eq]; exact ⟨el_inj, fun h => by rw [h]⟩
theorem el_bne (a b : BitVec 8) : (el a != el b) = (a != b) := by unfold bne; rw [el_beq]
theorem el_of (n : Int) (h0 : 0 ≤ n) (h1 : n < 256) : ∃ a : BitVec 8, n = el a := by
  refine ⟨BitVec.ofNat 8 n.toNat, ?_⟩
  unfold el; rw [BitVec.toNat_ofNat, Nat.mod_eq_of_lt (by omega)]; omega
theorem el_xor (a b : BitVec 8) : bits .xor .u8 (el a) (el b) = el (a ^^^ b) := by
  unfold el; rw [u8_xor_nat _ _ a.isLt b.isLt, BitVec.toNat_xor]
theorem el_and (a b : BitVec 8) : bits .and .u8 (el a) (el b) = el (a &&& b) := by
  unfold el; rw [u8_and_nat _ _ a.isLt b.isLt, BitVec.toNat_and]

/-- The product with x. -/
def dbl (a : BitVec 8) : BitVec 8 := (a <<< 1) ^^^ (29#8 &&& -(a >>> 7))
def rnds : Nat → BitVec 8 → BitVec 8 → BitVec 8 → BitVec 8
  | 0, p, _, _ => p
  | n + 1, p, a, b => rnds n (p ^^^ (a &&& -(b &&& 1#8))) (dbl a) (b >>> 1)
/-- The product. -/
def gm (a b : BitVec 8) : BitVec 8 := rnds 8 0#8 a b

theorem msk (b : BitVec 8) : -(b &&& 1#8) = 0#8 ∨ -(b &&& 1#8) = 255#8 := by revert b; decide +kernel
theorem and_ff (a : BitVec 8) : a &&& 255#8 = a := by revert a; decide +kernel
theorem and_00 (a : BitVec 8) : a &&& 0#8 = 0#8 := by simp
theorem msk_xor (a b : BitVec 8) : -((a ^^^ b) &&& 1#8) = -(a &&& 1#8) ^^^ -(b &&& 1#8) := by
  have h : ∀ x : BitVec 8, -(x &&& 1#8) = if x.getLsbD 0 then 255#8 else 0#8 := by decide +kernel
  rw [h, h, h, BitVec.getLsbD_xor]
  cases a.getLsbD 0 <;> cases b.getLsbD 0 <;> decide
theorem msk7_xor (a b : BitVec 8) : -((a ^^^ b) >>> 7) = -(a >>> 7) ^^^ -(b >>> 7) := by
  have h : ∀ x : BitVec 8, -(x >>> 7) = if x.getLsbD 7 then 255#8 else 0#8 := by decide +kernel
  rw [h, h, h, BitVec.getLsbD_xor]
  cases a.getLsbD 7 <;> cases b.getLsbD 7 <;> decide
theorem xor4 (a b c d : BitVec 8) : (a ^^^ b) ^^^ (c ^^^ d) = (a ^^^ c) ^^^ (b ^^^ d) := by
  rw [BitVec.xor_assoc, BitVec.xor_assoc, ← BitVec.xor_assoc b, ← BitVec.xor_assoc c, BitVec.xor_comm b c]
theorem and_xor_l (a b m : BitVec 8) : (a ^^^ b) &&& m = (a &&& m) ^^^ (b &&& m) := by
  apply BitVec.eq_of_getLsbD_eq; intro i hi
  simp only [BitVec.getLsbD_and, BitVec.getLsbD_xor]
  cases a.getLsbD i <;> cases b.getLsbD i <;> cases m.getLsbD i <;> rfl
theorem and_xor_r (m a b : BitVec 8) : m &&& (a ^^^ b) = (m &&& a) ^^^ (m &&& b) := by
  rw [BitVec.and_comm, and_xor_l, BitVec.and_comm a, BitVec.and_comm b]
theorem shl_xor (a b : BitVec 8) : (a ^^^ b) <<< 1 = (a <<< 1) ^^^ (b <<< 1) := by
  apply BitVec.eq_of_getLsbD_eq; intro i hi
  simp only [BitVec.getLsbD_xor, BitVec.getLsbD_shiftLeft]
  cases a.getLsbD (i - 1) <;> cases b.getLsbD (i - 1) <;> simp
theorem shr_xor (a b : BitVec 8) : (a ^^^ b) >>> 1 = (a >>> 1) ^^^ (b >>> 1) := by
  apply BitVec.eq_of_getLsbD_eq; intro i hi
  simp only [BitVec.getLsbD_xor, BitVec.getLsbD_ushiftRight]
theorem dbl_xor (a b : BitVec 8) : dbl (a ^^^ b) = dbl a ^^^ dbl b := by
  unfold dbl; rw [shl_xor, msk7_xor, and_xor_r, xor4]
theorem dbl_zero : dbl 0#8 = 0#8 := by decide
theorem dbl_and (a : BitVec 8) {m : BitVec 8} (h : m = 0#8 ∨ m = 255#8) : dbl (a &&& m) = dbl a &&& m := by
  rcases h with rfl | rfl
  · rw [and_00, and_00, dbl_zero]
  · rw [and_ff, and_ff]
theorem rnds_xor_l (n : Nat) : ∀ (p q a c b : BitVec 8), rnds n (p ^^^ q) (a ^^^ c) b = rnds n p a b ^^^ rnds n q c b := by
  induction n with
  | zero => intros; rfl
  | succ n ih => intro p q a c b; unfold rnds; rw [← ih, dbl_xor, and_xor_l, xor4]
theorem rnds_xor_r (n : Nat) : ∀ (p q a b c : BitVec 8), rnds n (p ^^^ q) a (b ^^^ c) = rnds n p a b ^^^ rnds n q a c := by
  induction n with
  | zero => intros; rfl
  | succ n ih => intro p q a b c; unfold rnds; rw [← ih, shr_xor, msk_xor, and_xor_r, xor4]
theorem rnds_dbl (n : Nat) : ∀ (p a b : BitVec 8), rnds n (dbl p) (dbl a) b = dbl (rnds n p a b) := by
  induction n with
  | zero => intros; rfl
  | succ n ih => intro p a b; unfold rnds; rw [← ih, dbl_xor, dbl_and a (msk b)]
theorem gm_xor_l (a c b : BitVec 8) : gm (a ^^^ c) b = gm a b ^^^ gm c b := by
  have h := rnds_xor_l 8 0#8 0#8 a c b; simpa [gm] using h
theorem gm_xor_r (a b c : BitVec 8) : gm a (b ^^^ c) = gm a b ^^^ gm a c := by
  have h := rnds_xor_r 8 0#8 0#8 a b c; simpa [gm] using h
theorem gm_dbl (a b : BitVec 8) : gm (dbl a) b = dbl (gm a b) := by
  have h := rnds_dbl 8 0#8 a b; rw [dbl_zero] at h; exact h
theorem gm_zero_l (b : BitVec 8) : gm 0#8 b = 0#8 := by
  have h := gm_xor_l 0#8 0#8 b; simpa using h
theorem gm_and (a b : BitVec 8) {m : BitVec 8} (h : m = 0#8 ∨ m = 255#8) : gm (a &&& m) b = gm a b &&& m := by
  rcases h with rfl | rfl
  · rw [and_00, and_00, gm_zero_l]
  · rw [and_ff, and_ff]
theorem gm_rnds (n : Nat) : ∀ (p x b c : BitVec 8), gm (rnds n p x b) c = rnds n (gm p c) (gm x c) b := by
  induction n with
  | zero => intros; rfl
  | succ n ih => intro p x b c; unfold rnds; rw [ih, gm_xor_l, gm_dbl, gm_and x c (msk b)]
theorem gm_swap (a b c : BitVec 8) : gm (gm a b) c = gm (gm a c) b := by
  have h := gm_rnds 8 0#8 a b c; rw [gm_zero_l] at h; exact h
theorem gm_one_l (b : BitVec 8) : gm 1#8 b = b := by revert b; decide +kernel
theorem gm_comm (a b : BitVec 8) : gm a b = gm b a := by
  have h := gm_swap 1#8 a b; rwa [gm_one_l, gm_one_l] at h
theorem gm_assoc (a b c : BitVec 8) : gm (gm a b) c = gm a (gm b c) := by
  rw [gm_comm a b, gm_swap, gm_comm]
theorem gm_one (a : BitVec 8) : gm a 1#8 = a := by rw [gm_comm, gm_one_l]
theorem gm_zero (a : BitVec 8) : gm a 0#8 = 0#8 := by rw [gm_comm, gm_zero_l]

/-- The generator's powers. -/
def pw : Nat → BitVec 8
  | 0 => 1#8
  | n + 1 => dbl (pw n)
def pwsFrom : Nat → BitVec 8 → List (BitVec 8)
  | 0, _ => []
  | n + 1, a => a :: pwsFrom n (dbl a)
def pws : List (BitVec 8) := [1, 2, 4, 8, 16, 32, 64, 128, 29, 58, 116, 232, 205, 135, 19, 38, 76, 152, 45, 90, 180, 117, 234, 201, 143, 3, 6, 12, 24, 48, 96, 192, 157, 39, 78, 156, 37, 74, 148, 53, 106, 212, 181, 119, 238, 193, 159, 35, 70, 140, 5, 10, 20, 40, 80, 160, 93, 186, 105, 210, 185, 111, 222, 161, 95, 190, 97, 194, 153, 47, 94, 188, 101, 202, 137, 15, 30, 60, 120, 240, 253, 231, 211, 187, 107, 214, 177, 127, 254, 225, 223, 163, 91, 182, 113, 226, 217, 175, 67, 134, 17, 34, 68, 136, 13, 26, 52, 104, 208, 189, 103, 206, 129, 31, 62, 124, 248, 237, 199, 147, 59, 118, 236, 197, 151, 51, 102, 204, 133, 23, 46, 92, 184, 109, 218, 169, 79, 158, 33, 66, 132, 21, 42, 84, 168, 77, 154, 41, 82, 164, 85, 170, 73, 146, 57, 114, 228, 213, 183, 115, 230, 209, 191, 99, 198, 145, 63, 126, 252, 229, 215, 179, 123, 246, 241, 255, 227, 219, 171, 75, 150, 49, 98, 196, 149, 55, 110, 220, 165, 87, 174, 65, 130, 25, 50, 100, 200, 141, 7, 14, 28, 56, 112, 224, 221, 167, 83, 166, 81, 162, 89, 178, 121, 242, 249, 239, 195, 155, 43, 86, 172, 69, 138, 9, 18, 36, 72, 144, 61, 122, 244, 245, 247, 243, 251, 235, 203, 139, 11, 22, 44, 88, 176, 125, 250, 233, 207, 131, 27, 54, 108, 216, 173, 71, 142]
theorem pws_from : pws = pwsFrom 255 1#8 := by decide +kernel
theorem pwsFrom_get (n : Nat) : ∀ (m k : Nat), k < n → (pwsFrom n (pw m))[k]? = some (pw (m + k)) := by
  induction n with
  | zero => intro m k h; omega
  | succ n ih =>
    intro m k h
    unfold pwsFrom
    cases k with
    | zero => rfl
    | succ k => rw [List.getElem?_cons_succ]; have := ih (m + 1) k (by omega); rw [show m + (k + 1) = m + 1 + k by omega]; exact this
theorem pws_get (k : Nat) (h : k < 255) : pws[k]? = some (pw k) := by
  rw [pws_from]; have := pwsFrom_get 255 0 k h; rw [Nat.zero_add] at this; exact this
theorem pws_len : pws.length = 255 := by decide +kernel

/-- The logarithm: the least place of the element among the powers (255 of zero). -/
def lg (a : BitVec 8) : Nat := pws.findIdx (· == a)
theorem lg_zero : lg 0#8 = 255 := by decide +kernel
theorem lg_all : ∀ a : BitVec 8, a ≠ 0#8 → lg a < 255 ∧ pws[lg a]? = some a := by decide +kernel
theorem lg_lt {a : BitVec 8} (h : a ≠ 0#8) : lg a < 255 := (lg_all a h).1
theorem pw_lg {a : BitVec 8} (h : a ≠ 0#8) : pw (lg a) = a := by
  have h1 := (lg_all a h).2; rw [pws_get _ (lg_lt h)] at h1; exact Option.some.inj h1
theorem pw_255 : pw 255 = 1#8 := by decide +kernel
theorem gm_pw (m : Nat) : ∀ n, gm (pw m) (pw n) = pw (m + n) := by
  induction m with
  | zero => intro n; show gm 1#8 _ = _; rw [gm_one_l]; congr 1; omega
  | succ m ih => intro n; show gm (dbl (pw m)) _ = _; rw [gm_dbl, ih, show m + 1 + n = (m + n) + 1 by omega]; rfl
theorem pw_add (m n : Nat) : pw (m + n) = gm (pw m) (pw n) := (gm_pw m n).symm
theorem pw_mul255 (k n : Nat) : pw (255 * k + n) = pw n := by
  induction k with
  | zero => simp
  | succ k ih => rw [show 255 * (k + 1) + n = 255 + (255 * k + n) by omega, pw_add, pw_255, gm_one_l, ih]
theorem pw_mod (n : Nat) : pw (n % 255) = pw n := by
  have h := pw_mul255 (n / 255) (n % 255)
  rw [← h]; congr 1; omega
theorem lg_pw_all : ∀ n, n < 255 → (pws[n]?).map lg = some n := by
  have h : (List.range 255).all (fun n => (pws[n]?).map lg == some n) = true := by decide +kernel
  intro n hn
  have h2 := List.all_eq_true.1 h n (List.mem_range.2 hn)
  exact eq_of_beq h2
theorem lg_pw (n : Nat) (h : n < 255) : lg (pw n) = n := by
  have h1 := lg_pw_all n h; rw [pws_get n h] at h1; exact Option.some.inj h1
theorem pw_ne (n : Nat) : pw n ≠ 0#8 := by
  rw [← pw_mod]
  intro h
  have h1 := lg_pw (n % 255) (Nat.mod_lt _ (by omega))
  rw [h, lg_zero] at h1; omega
theorem pw_inj {m n : Nat} (h : pw m = pw n) : m % 255 = n % 255 := by
  rw [← pw_mod m, ← pw_mod n] at h
  have h1 := lg_pw (m % 255) (Nat.mod_lt _ (by omega)); have h2 := lg_pw (n % 255) (Nat.mod_lt _ (by omega))
  rw [h] at h1; omega
/-- The inverse, as the program reckons it. -/
def inv (a : BitVec 8) : BitVec 8 := pw (lg a * 254)
theorem gm_inv {a : BitVec 8} (h : a ≠ 0#8) : gm a (inv a) = 1#8 := by
  have h1 := pw_lg h
  unfold inv
  conv => lhs; arg 1; rw [← h1]
  rw [gm_pw, show lg a + lg a * 254 = 255 * lg a + 0 by omega, pw_mul255]; rfl
theorem gm_ne {a b : BitVec 8} (ha : a ≠ 0#8) (hb : b ≠ 0#8) : gm a b ≠ 0#8 := by
  rw [← pw_lg ha, ← pw_lg hb, gm_pw]; exact pw_ne _
theorem gm_cancel {a b c : BitVec 8} (hb : b ≠ 0#8) (h : gm a b = gm c b) : a = c := by
  have h1 : gm (gm a b) (inv b) = gm (gm c b) (inv b) := by rw [h]
  rwa [gm_assoc, gm_assoc, gm_inv hb, gm_one, gm_one] at h1
theorem gm_sq (a b : BitVec 8) : gm (a ^^^ b) (a ^^^ b) = gm a a ^^^ gm b b := by
  rw [gm_xor_l, gm_xor_r, gm_xor_r, gm_comm b a, BitVec.xor_assoc, ← BitVec.xor_assoc (gm a b), BitVec.xor_self, BitVec.zero_xor]
end Go.Proofs.Ytgokkppojhokbaa
