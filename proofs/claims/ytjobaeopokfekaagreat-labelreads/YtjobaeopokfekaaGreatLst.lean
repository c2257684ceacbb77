/-
  The field of 256, as plain mathematics over BitVec 8: no Go in sight.
-/
import Derived.Laws.BitsAllLaws
import Derived.KernelRfl
import Derived.Test.YtjobaeopokfekaaGreatRows
import Derived.WalkKit
import Derived.WalkLawsBesides
import Derived.Outline
import Derived.Deep.QuietTactic
import Derived.BigQuiet
import Derived.Deep.RegionWith
import Derived.Deep.RegionLaw
namespace Go.Proofs.YtjobaeopokfekaaGreat

/-- An element's number. -/
def el (a : BitVec 8) : Int := (a.toNat : Int)
theorem el_bd (a : BitVec 8) : 0 ≤ el a ∧ el a < 256 := by unfold el; have := a.isLt; omega
theorem el_inj {a b : BitVec 8} (h : el a = el b) : a = b := by
  unfold el at h; exact BitVec.eq_of_toNat_eq (by omega)
theorem el_beq (a b : BitVec 8) : (el a == el b) = (a == b) := by
  rw [Bool.eq_iff_iff]; simp only [beq_iff_eq]; exact ⟨el_inj, fun h => by rw [h]⟩
theorem el_bne (a b : BitVec 8) : (el a != el b) = (a != b) := by unfold bne; rw [el_beq]
theorem el_of (n : Int) (h0 : 0 ≤ n) (h1 : n < 256) : ∃ a : BitVec 8, n = el a := by
  refine ⟨BitVec.ofNat 8 n.toNat, ?_⟩
  unfold el; rw [BitVec.toNat_ofNat, Nat.mod_eq_of_lt (by omega)]; omega
theorem el_xor (a b : BitVec 8) : bits .xor .u8 (el a) (el b) = el (a ^^^ b) := by
  unfold el; rw [u8_xor_nat _ _ a.isLt b.isLt, BitVec.toNat_xor]
theorem el_and (a b : BitVec 8) : bits .and .u8 (el a) (el b) = el (a &&& b) := by
  unfold el; rw [u8_and_nat _ _ a.isLt b.isLt, BitVec.toNat_and]

/-- The product with x. -/
def dbl (a : BitVec 8) : BitVec 8 := (a <<< 1) ^^^ (29#8 &&& -(a >>> 7))
def rnds : Nat → BitVec 8 → BitVec 8 → BitVec 8 → BitVec 8
  | 0, p, _, _ => p
  | n + 1, p, a, b => rnds n (p ^^^ (a &&& -(b &&& 1#8))) (dbl a) (b >>> 1)
/-- The product. -/
def gm (a b : BitVec 8) : BitVec 8 := rnds 8 0#8 a b

theorem msk (b : BitVec 8) : -(b &&& 1#8) = 0#8 ∨ -(b &&& 1#8) = 255#8 := by revert b; decide +kernel
theorem and_ff (a : BitVec 8) : a &&& 255#8 = a := by revert a; decide +kernel
theorem and_00 (a : BitVec 8) : a &&& 0#8 = 0#8 := by simp
theorem msk_xor (a b : BitVec 8) : -((a ^^^ b) &&& 1#8) = -(a &&& 1#8) ^^^ -(b &&& 1#8) := by
  have h : ∀ x : BitVec 8, -(x &&& 1#8) = if x.getLsbD 0 then 255#8 else 0#8 := by decide +kernel
  rw [h, h, h, BitVec.getLsbD_xor]
  cases a.getLsbD 0 <;> cases b.getLsbD 0 <;> decide
theorem msk7_xor (a b : BitVec 8) : -((a ^^^ b) >>> 7) = -(a >>> 7) ^^^ -(b >>> 7) := by
  have h : ∀ x : BitVec 8, -(x >>> 7) = if x.getLsbD 7 then 255#8 else 0#8 := by decide +kernel
  rw [h, h, h, BitVec.getLsbD_xor]
  cases a.getLsbD 7 <;> cases b.getLsbD 7 <;> decide
theorem xor4 (a b c d : BitVec 8) : (a ^^^ b) ^^^ (c ^^^ d) = (a ^^^ c) ^^^ (b ^^^ d) := by
  rw [BitVec.xor_assoc, BitVec.xor_assoc, ← BitVec.xor_assoc b, ← BitVec.xor_assoc c, BitVec.xor_comm b c]
theorem and_xor_l (a b m : BitVec 8) : (a ^^^ b) &&& m = (a &&& m) ^^^ (b &&& m) := by
  apply BitVec.eq_of_getLsbD_eq; intro i hi
  simp only [BitVec.getLsbD_and, BitVec.getLsbD_xor]
  cases a.getLsbD i <;> cases b.getLsbD i <;> cases m.getLsbD i <;> rfl
theorem and_xor_r (m a b : BitVec 8) : m &&& (a ^^^ b) = (m &&& a) ^^^ (m &&& b) := by
  rw [BitVec.and_comm, and_xor_l, BitVec.and_comm a, BitVec.and_comm b]
theorem shl_xor (a b : BitVec 8) : (a ^^^ b) <<< 1 = (a <<< 1) ^^^ (b <<< 1) := by
  apply BitVec.eq_of_getLsbD_eq; intro i hi
  simp only [BitVec.getLsbD_xor, BitVec.getLsbD_shiftLeft]
  cases a.getLsbD (i - 1) <;> cases b.getLsbD (i - 1) <;> simp
theorem shr_xor (a b : BitVec 8) : (a ^^^ b) >>> 1 = (a >>> 1) ^^^ (b >>> 1) := by
  apply BitVec.eq_of_getLsbD_eq; intro i hi
  simp only [BitVec.getLsbD_xor, BitVec.getLsbD_ushiftRight]
theorem dbl_xor (a b : BitVec 8) : dbl (a ^^^ b) = dbl a ^^^ dbl b := by
  unfold dbl; rw [shl_xor, msk7_xor, and_xor_r, xor4]
theorem dbl_zero : dbl 0#8 = 0#8 := by decide
theorem dbl_and (a : BitVec 8) {m : BitVec 8} (h : m = 0#8 ∨ m = 255#8) : dbl (a &&& m) = dbl a &&& m := by
  rcases h with rfl | rfl
  · rw [and_00, and_00, dbl_zero]
  · rw [and_ff, and_ff]
theorem rnds_xor_l (n : Nat) : ∀ (p q a c b : BitVec 8), rnds n (p ^^^ q) (a ^^^ c) b = rnds n p a b ^^^ rnds n q c b := by
  induction n with
  | zero => intros; rfl
  | succ n ih => intro p q a c b; unfold rnds; rw [← ih, dbl_xor, and_xor_l, xor4]
theorem rnds_xor_r (n : Nat) : ∀ (p q a b c : BitVec 8), rnds n (p ^^^ q) a (b ^^^ c) = rnds n p a b ^^^ rnds n q a c := by
  induction n with
  | zero => intros; rfl
  | succ n ih => intro p q a b c; unfold rnds; rw [← ih, shr_xor, msk_xor, and_xor_r, xor4]
theorem rnds_dbl (n : Nat) : ∀ (p a b : BitVec 8), rnds n (dbl p) (dbl a) b = dbl (rnds n p a b) := by
  induction n with
  | zero => intros; rfl
  | succ n ih => intro p a b; unfold rnds; rw [← ih, dbl_xor, dbl_and a (msk b)]
theorem gm_xor_l (a c b : BitVec 8) : gm (a ^^^ c) b = gm a b ^^^ gm c b := by
  have h := rnds_xor_l 8 0#8 0#8 a c b; simpa [gm] using h
theorem gm_xor_r (a b c : BitVec 8) : gm a (b ^^^ c) = gm a b ^^^ gm a c := by
  have h := rnds_xor_r 8 0#8 0#8 a b c; simpa [gm] using h
theorem gm_dbl (a b : BitVec 8) : gm (dbl a) b = dbl (gm a b) := by
  have h := rnds_dbl 8 0#8 a b; rw [dbl_zero] at h; exact h
theorem gm_zero_l (b : BitVec 8) : gm 0#8 b = 0#8 := by
  have h := gm_xor_l 0#8 0#8 b; simpa using h
theorem gm_and (a b : BitVec 8) {m : BitVec 8} (h : m = 0#8 ∨ m = 255#8) : gm (a &&& m) b = gm a b &&& m := by
  rcases h with rfl | rfl
  · rw [and_00, and_00, gm_zero_l]
  · rw [and_ff, and_ff]
theorem gm_rnds (n : Nat) : ∀ (p x b c : BitVec 8), gm (rnds n p x b) c = rnds n (gm p c) (gm x c) b := by
  induction n with
  | zero => intros; rfl
  | succ n ih => intro p x b c; unfold rnds; rw [ih, gm_xor_l, gm_dbl, gm_and x c (msk b)]
theorem gm_swap (a b c : BitVec 8) : gm (gm a b) c = gm (gm a c) b := by
  have h := gm_rnds 8 0#8 a b c; rw [gm_zero_l] at h; exact h
theorem gm_one_l (b : BitVec 8) : gm 1#8 b = b := by revert b; decide +kernel
theorem gm_comm (a b : BitVec 8) : gm a b = gm b a := by
  have h := gm_swap 1#8 a b; rwa [gm_one_l, gm_one_l] at h
theorem gm_assoc (a b c : BitVec 8) : gm (gm a b) c = gm a (gm b c) := by
  rw [gm_comm a b, gm_swap, gm_comm]
theorem gm_one (a : BitVec 8) : gm a 1#8 = a := by rw [gm_comm, gm_one_l]
theorem gm_zero (a : BitVec 8) : gm a 0#8 = 0#8 := by rw [gm_comm, gm_zero_l]

/-- The generator's powers. -/
def pw : Nat → BitVec 8
  | 0 => 1#8
  | n + 1 => dbl (pw n)
def pwsFrom : Nat → BitVec 8 → List (BitVec 8)
  | 0, _ => []
  | n + 1, a => a :: pwsFrom n (dbl a)
def pws : List (BitVec 8) := [1, 2, 4, 8, 16, 32, 64, 128, 29, 58, 116, 232, 205, 135, 19, 38, 76, 152, 45, 90, 180, 117, 234, 201, 143, 3, 6, 12, 24, 48, 96, 192, 157, 39, 78, 156, 37, 74, 148, 53, 106, 212, 181, 119, 238, 193, 159, 35, 70, 140, 5, 10, 20, 40, 80, 160, 93, 186, 105, 210, 185, 111, 222, 161, 95, 190, 97, 194, 153, 47, 94, 188, 101, 202, 137, 15, 30, 60, 120, 240, 253, 231, 211, 187, 107, 214, 177, 127, 254, 225, 223, 163, 91, 182, 113, 226, 217, 175, 67, 134, 17, 34, 68, 136, 13, 26, 52, 104, 208, 189, 103, 206, 129, 31, 62, 124, 248, 237, 199, 147, 59, 118, 236, 197, 151, 51, 102, 204, 133, 23, 46, 92, 184, 109, 218, 169, 79, 158, 33, 66, 132, 21, 42, 84, 168, 77, 154, 41, 82, 164, 85, 170, 73, 146, 57, 114, 228, 213, 183, 115, 230, 209, 191, 99, 198, 145, 63, 126, 252, 229, 215, 179, 123, 246, 241, 255, 227, 219, 171, 75, 150, 49, 98, 196, 149, 55, 110, 220, 165, 87, 174, 65, 130, 25, 50, 100, 200, 141, 7, 14, 28, 56, 112, 224, 221, 167, 83, 166, 81, 162, 89, 178, 121, 242, 249, 239, 195, 155, 43, 86, 172, 69, 138, 9, 18, 36, 72, 144, 61, 122, 244, 245, 247, 243, 251, 235, 203, 139, 11, 22, 44, 88, 176, 125, 250, 233, 207, 131, 27, 54, 108, 216, 173, 71, 142]
theorem pws_from : pws = pwsFrom 255 1#8 := by decide +kernel
theorem pwsFrom_get (n : Nat) : ∀ (m k : Nat), k < n → (pwsFrom n (pw m))[k]? = some (pw (m + k)) := by
  induction n with
  | zero => intro m k h; omega
  | succ n ih =>
    intro m k h
    unfold pwsFrom
    cases k with
    | zero => rfl
    | succ k => rw [List.getElem?_cons_succ]; have := ih (m + 1) k (by omega); rw [show m + (k + 1) = m + 1 + k by omega]; exact this
theorem pws_get (k : Nat) (h : k < 255) : pws[k]? = some (pw k) := by
  rw [pws_from]; have := pwsFrom_get 255 0 k h; rw [Nat.zero_add] at this; exact this
theorem pws_len : pws.length = 255 := by decide +kernel

/-- The logarithm: the least place of the element among the powers (255 of zero). -/
def lg (a : BitVec 8) : Nat := pws.findIdx (· == a)
theorem lg_zero : lg 0#8 = 255 := by decide +kernel
theorem lg_all : ∀ a : BitVec 8, a ≠ 0#8 → lg a < 255 ∧ pws[lg a]? = some a := by decide +kernel
theorem lg_lt {a : BitVec 8} (h : a ≠ 0#8) : lg a < 255 := (lg_all a h).1
theorem pw_lg {a : BitVec 8} (h : a ≠ 0#8) : pw (lg a) = a := by
  have h1 := (lg_all a h).2; rw [pws_get _ (lg_lt h)] at h1; exact Option.some.inj h1
theorem pw_255 : pw 255 = 1#8 := by decide +kernel
theorem gm_pw (m : Nat) : ∀ n, gm (pw m) (pw n) = pw (m + n) := by
  induction m with
  | zero => intro n; show gm 1#8 _ = _; rw [gm_one_l]; congr 1; omega
  | succ m ih => intro n; show gm (dbl (pw m)) _ = _; rw [gm_dbl, ih, show m + 1 + n = (m + n) + 1 by omega]; rfl
theorem pw_add (m n : Nat) : pw (m + n) = gm (pw m) (pw n) := (gm_pw m n).symm
theorem pw_mul255 (k n : Nat) : pw (255 * k + n) = pw n := by
  induction k with
  | zero => simp
  | succ k ih => rw [show 255 * (k + 1) + n = 255 + (255 * k + n) by omega, pw_add, pw_255, gm_one_l, ih]
theorem pw_mod (n : Nat) : pw (n % 255) = pw n := by
  have h := pw_mul255 (n / 255) (n % 255)
  rw [← h]; congr 1; omega
theorem lg_pw_all : ∀ n, n < 255 → (pws[n]?).map lg = some n := by
  have h : (List.range 255).all (fun n => (pws[n]?).map lg == some n) = true := by decide +kernel
  intro n hn
  have h2 := List.all_eq_true.1 h n (List.mem_range.2 hn)
  exact eq_of_beq h2
theorem lg_pw (n : Nat) (h : n < 255) : lg (pw n) = n := by
  have h1 := lg_pw_all n h; rw [pws_get n h] at h1; exact Option.some.inj h1
theorem pw_ne (n : Nat) : pw n ≠ 0#8 := by
  rw [← pw_mod]
  intro h
  have h1 := lg_pw (n % 255) (Nat.mod_lt _ (by omega))
  rw [h, lg_zero] at h1; omega
theorem pw_inj {m n : Nat} (h : pw m = pw n) : m % 255 = n % 255 := by
  rw [← pw_mod m, ← pw_mod n] at h
  have h1 := lg_pw (m % 255) (Nat.mod_lt _ (by omega)); have h2 := lg_pw (n % 255) (Nat.mod_lt _ (by omega))
  rw [h] at h1; omega
/-- The inverse, as the program reckons it. -/
def inv (a : BitVec 8) : BitVec 8 := pw (lg a * 254)
theorem gm_inv {a : BitVec 8} (h : a ≠ 0#8) : gm a (inv a) = 1#8 := by
  have h1 := pw_lg h
  unfold inv
  conv => lhs; arg 1; rw [← h1]
  rw [gm_pw, show lg a + lg a * 254 = 255 * lg a + 0 by omega, pw_mul255]; rfl
theorem gm_ne {a b : BitVec 8} (ha : a ≠ 0#8) (hb : b ≠ 0#8) : gm a b ≠ 0#8 := by
  rw [← pw_lg ha, ← pw_lg hb, gm_pw]; exact pw_ne _
theorem gm_cancel {a b c : BitVec 8} (hb : b ≠ 0#8) (h : gm a b = gm c b) : a = c := by
  have h1 : gm (gm a b) (inv b) = gm (gm c b) (inv b) := by rw [h]
  rwa [gm_assoc, gm_assoc, gm_inv hb, gm_one, gm_one] at h1
theorem gm_sq (a b : BitVec 8) : gm (a ^^^ b) (a ^^^ b) = gm a a ^^^ gm b b := by
  rw [gm_xor_l, gm_xor_r, gm_xor_r, gm_comm b a, BitVec.xor_assoc, ← BitVec.xor_assoc (gm a b), BitVec.xor_self, BitVec.zero_xor]
end Go.Proofs.YtjobaeopokfekaaGreat
/-
  Contracts of package field's element calls: sum, product, residue.
-/
namespace Go.Proofs.YtjobaeopokfekaaGreat
open Go.RowKit

theorem ret_int {k : IntKind} {a b : Int} (h : a = b) : Ending.returned (.int k a) = .returned (.int k b) := by rw [h]

theorem el_shl (a : BitVec 8) : el a * (2 : Int) % (256 : Int) = el (a <<< 1) := by
  unfold el; rw [BitVec.toNat_shiftLeft, Nat.shiftLeft_eq]; omega
theorem el_shr1 (a : BitVec 8) : el a / (2 : Int) = el (a >>> 1) := by
  unfold el; rw [BitVec.toNat_ushiftRight, Nat.shiftRight_eq_div_pow]; omega
theorem el_shr7 (a : BitVec 8) : el a / (128 : Int) = el (a >>> 7) := by
  unfold el; rw [BitVec.toNat_ushiftRight, Nat.shiftRight_eq_div_pow]; omega
theorem el_neg (a : BitVec 8) : (-(el a)) % (256 : Int) = el (-a) := by
  unfold el; rw [BitVec.toNat_neg]; have := a.isLt; omega

theorem residue_num (n : Int) : (wrap64 (n.tmod 255 + 255)).tmod 255 = n % 255 := by
  have h1 : -255 < n.tmod 255 ∧ n.tmod 255 < 255 := by
    have := Int.tmod_lt_of_pos n (show (0 : Int) < 255 by omega)
    have h2 := Int.tmod_lt_of_pos (-n) (show (0 : Int) < 255 by omega)
    rw [Int.neg_tmod] at h2
    omega
  have hw : wrap64 (n.tmod 255 + 255) = n.tmod 255 + 255 := by unfold wrap64; omega
  rw [hw, Int.tmod_eq_emod_of_nonneg (by omega)]
  have h3 : n = 255 * n.tdiv 255 + n.tmod 255 := (Int.mul_tdiv_add_tmod n 255).symm
  omega
end Go.Proofs.YtjobaeopokfekaaGreat
/-
  Rows that are read: 'same', 'Dot'.
-/
namespace Go.Proofs.YtjobaeopokfekaaGreat
open Go.RowKit

/-- The slice at this address reads as these elements. -/
def Rd (w : World) (a : Option Addr) (xs : List (BitVec 8)) : Prop :=
  xs = [] ∨ ∃ b off, a = some ⟨b, off, none⟩ ∧ ∀ i, i < xs.length → w.cell? ⟨b, off + i, none⟩ = some (.int .u8 (el (xs.getD i 0#8)))
theorem cell_below {w w' : World} {p : Addr} {v : Value} (h : w.cell? p = some v) (hb : Below w.heap.size w w') : w'.cell? p = some v := by
  rw [hb.cell (p := p) (block_lt_of_cell h)]; exact h
theorem Rd.below {w w' : World} {a : Option Addr} {xs : List (BitVec 8)} (h : Rd w a xs) (hb : Below w.heap.size w w') : Rd w' a xs := by
  rcases h with h | ⟨b, off, ha, hc⟩
  · exact .inl h
  · exact .inr ⟨b, off, ha, fun i hi => cell_below (hc i hi) hb⟩

/-- The sum of f 0 to f (k - 1). -/
def xs0 (f : Nat → BitVec 8) : Nat → BitVec 8
  | 0 => 0#8
  | k + 1 => xs0 f k ^^^ f k
theorem xs0_congr {f g : Nat → BitVec 8} {n : Nat} (h : ∀ i, i < n → f i = g i) : xs0 f n = xs0 g n := by
  induction n with
  | zero => rfl
  | succ n ih => unfold xs0; rw [ih (fun i hi => h i (by omega)), h n (by omega)]
theorem xs0_xor (f g : Nat → BitVec 8) (n : Nat) : xs0 (fun i => f i ^^^ g i) n = xs0 f n ^^^ xs0 g n := by
  induction n with
  | zero => simp [xs0]
  | succ n ih => unfold xs0; rw [ih, xor4]
end Go.Proofs.YtjobaeopokfekaaGreat
/-
  Rows that a call makes: 'Sum'.
-/
namespace Go.Proofs.YtjobaeopokfekaaGreat
open Go.RowKit

def rowC (f : Nat → BitVec 8) (n : Nat) : Array Value := ((List.range n).map fun i => Value.int .u8 (el (f i))).toArray
theorem rowC_size (f : Nat → BitVec 8) (n : Nat) : (rowC f n).size = n := by simp [rowC]
theorem rowC_get (f : Nat → BitVec 8) (n i : Nat) (h : i < n) : (rowC f n)[i]? = some (.int .u8 (el (f i))) := by
  unfold rowC; rw [List.getElem?_toArray, List.getElem?_map, List.getElem?_range h]; rfl
theorem rowC_congr {f g : Nat → BitVec 8} {n : Nat} (h : ∀ i, i < n → f i = g i) : rowC f n = rowC g n := by
  unfold rowC; congr 1
  apply List.map_congr_left
  intro i hi; rw [h i (List.mem_range.1 hi)]
theorem rowC_set (f : Nat → BitVec 8) (n k : Nat) (v : BitVec 8) (hk : k < n) : (rowC f n).setIfInBounds k (.int .u8 (el v)) = rowC (fun i => if i = k then v else f i) n := by
  apply Array.ext_getElem?
  intro i
  rw [Array.getElem?_setIfInBounds, rowC_size]
  by_cases hi : i < n
  · rw [rowC_get (fun i => if i = k then v else f i) n i hi]
    by_cases e : k = i
    · subst e; simp [hk]
    · rw [if_neg e, rowC_get f n i hi, if_neg (fun h => e h.symm)]
  · have h1 : (rowC f n)[i]? = none := by rw [Array.getElem?_eq_none]; rw [rowC_size]; omega
    have h2 : (rowC (fun i => if i = k then v else f i) n)[i]? = none := by rw [Array.getElem?_eq_none]; rw [rowC_size]; omega
    rw [h1, h2, if_neg (by omega)]
theorem rowC_zero (n : Nat) : rowC (fun _ => 0#8) n = Array.replicate n (.int .u8 0) := by
  apply Array.ext_getElem?
  intro i
  by_cases hi : i < n
  · rw [rowC_get _ n i hi]; simp [hi]; rfl
  · rw [Array.getElem?_eq_none (by rw [rowC_size]; omega), Array.getElem?_eq_none (by simp; omega)]

/-- The block g is a row of the call's own: these elements and no more room. -/
def Own (w : World) (t : TypeId) (g : Nat) (f : Nat → BitVec 8) (n : Nat) : Prop := w.heap[g]? = some (.cells (rowC f n) t (0, 0))
theorem Own.cell {w : World} {t : TypeId} {g : Nat} {f : Nat → BitVec 8} {n : Nat} (h : Own w t g f n) {i : Nat} (hi : i < n) : w.cell? ⟨g, i, none⟩ = some (.int .u8 (el (f i))) := by
  rw [cell_of_row w g i _ _ _ h, rowC_get f n i hi]
theorem Own.frozen {w : World} {t : TypeId} {g : Nat} {f : Nat → BitVec 8} {n : Nat} (h : Own w t g f n) (i : Nat) : w.frozen? ⟨g, i, none⟩ = false := frozen_of_row w g i _ _ h
theorem Own.set {w : World} {t : TypeId} {g : Nat} {f : Nat → BitVec 8} {n : Nat} (h : Own w t g f n) {k : Nat} (hk : k < n) (v : BitVec 8) : Own (w.setCell ⟨g, k, none⟩ (.int .u8 (el v))) t g (fun i => if i = k then v else f i) n := by
  unfold Own; rw [heap_setCell_same w g k _ _ _ h, rowC_set f n k v hk]
theorem Own.congr {w : World} {t : TypeId} {g : Nat} {f f' : Nat → BitVec 8} {n : Nat} (h : Own w t g f n) (e : ∀ i, i < n → f i = f' i) : Own w t g f' n := by
  unfold Own; rw [← rowC_congr e]; exact h
theorem Own.lt {w : World} {t : TypeId} {g : Nat} {f : Nat → BitVec 8} {n : Nat} (h : Own w t g f n) : g < w.heap.size := by
  rcases Nat.lt_or_ge g w.heap.size with h1 | h1
  · exact h1
  · unfold Own at h; rw [Array.getElem?_eq_none h1] at h; cases h
theorem Own.below {w w' : World} {t : TypeId} {g : Nat} {f : Nat → BitVec 8} {n : Nat} (h : Own w t g f n) (hb : Below w.heap.size w w') : Own w' t g f n := by
  unfold Own; rw [hb.block g h.lt]; exact h
theorem Own.drewN {w : World} {t : TypeId} {g : Nat} {f : Nat → BitVec 8} {n : Nat} (h : Own w t g f n) (d : Nat) : Own (w.drewN d) t g f n := h
theorem Own.rd {w : World} {t : TypeId} {g : Nat} {f : Nat → BitVec 8} {n : Nat} (h : Own w t g f n) : Rd w (some ⟨g, 0, none⟩) ((List.range n).map f) := by
  refine .inr ⟨g, 0, rfl, fun i hi => ?_⟩
  have hi' : i < n := by simpa using hi
  rw [Nat.zero_add, h.cell hi']; simp [hi']
/-- A round that fills the next place. -/
theorem Own.fill {w W : World} {t : TypeId} {g n k : Nat} {f : Nat → BitVec 8} (h : Own w t g (fun i => if i < k then f i else 0#8) n) (hk : k < n) (e : W.heap = (w.setCell ⟨g, k, none⟩ (.int .u8 (el (f k)))).heap) : Own W t g (fun i => if i < k + 1 then f i else 0#8) n := by
  have h1 := (h.set hk (f k)).congr (f' := fun i => if i < k + 1 then f i else 0#8) (fun i hi => by
    by_cases e : i = k
    · subst e; simp
    · by_cases h2 : i < k
      · rw [if_neg e, if_pos h2, if_pos (by omega)]
      · rw [if_neg e, if_neg h2, if_neg (by omega)])
  unfold Own at h1 ⊢
  rw [e]; exact h1
theorem own_new (w : World) (n : Nat) : Own (w.alloc (.cells (Array.replicate n (.int .u8 0)) 5)) 5 w.heap.size (fun _ => 0#8) n := by
  unfold Own; rw [heap_alloc_new, rowC_zero]

theorem info5 : (Tryz.prog.info? 5).map (fun i => (i.zero, i.size, i.bytes)) = some (some (.int .u8 0), 1, 1) := by kernel_rfl
theorem make_bytes (n : Nat) (hn : n ≤ 140737488355328) (w : World) : (Instr.makeSlice 22 (.int .i64 (n : Int)) (.int .i64 (n : Int))).run Tryz.prog w = .ok (.slice (some ⟨w.heap.size, 0, none⟩) n n) (w.alloc (.cells (Array.replicate n (.int .u8 0)) 5)) := by
  obtain ⟨i0, hi, hz0, hz1, hz2⟩ := info_parts info5
  have h := run_make (P := Tryz.prog) w 22 5 i0 (.int .u8 0) Tryz.underlying22 hi hz0 .i64 .i64 (n : Int) (n : Int) (by omega) (by omega) (by rw [hz2]; omega) (by omega)
  rw [h, hz1]
  have e : madeCells (Value.int .u8 0).cells ((n : Int).toNat * 1) = Array.replicate n (.int .u8 0) := by
    apply Array.ext_getElem?
    intro i
    simp only [madeCells, Int.toNat_natCast, Nat.mul_one]
    by_cases hin : i < n
    · simp [hin, Value.cells]
      rw [Nat.mod_one]; rfl
    · rw [Array.getElem?_eq_none (by simp; omega), Array.getElem?_eq_none (by simp; omega)]
  rw [e, Int.toNat_natCast]

end Go.Proofs.YtjobaeopokfekaaGreat
/-
  Lists and rows of the call's own.
-/
namespace Go.Proofs.YtjobaeopokfekaaGreat
open Go.RowKit

/-- The list of n elements. -/
def ls (f : Nat → BitVec 8) (n : Nat) : List (BitVec 8) := (List.range n).map f
theorem ls_len (f : Nat → BitVec 8) (n : Nat) : (ls f n).length = n := by simp [ls]
theorem ls_get (f : Nat → BitVec 8) (n i : Nat) (h : i < n) : (ls f n).getD i 0#8 = f i := by simp [ls, List.getD, h]
theorem ls_congr {f g : Nat → BitVec 8} {n : Nat} (h : ∀ i, i < n → f i = g i) : ls f n = ls g n := by
  unfold ls; apply List.map_congr_left; intro i hi; exact h i (List.mem_range.1 hi)
theorem ls_self (xs : List (BitVec 8)) : ls (fun i => xs.getD i 0#8) xs.length = xs := by
  apply List.ext_getElem?
  intro i
  unfold ls
  rw [List.getElem?_map]
  by_cases hi : i < xs.length
  · rw [List.getElem?_range hi, List.getElem?_eq_getElem hi]
    simp [List.getElem?_eq_getElem hi]
  · rw [List.getElem?_eq_none (by simp; omega), List.getElem?_eq_none (by omega)]; rfl
theorem Own.rdl {w : World} {t : TypeId} {g : Nat} {f : Nat → BitVec 8} {n : Nat} (h : Own w t g f n) : Rd w (some ⟨g, 0, none⟩) (ls f n) := h.rd

def vs (x : Nat → BitVec 8) (m : Nat) : List Value := (List.range m).map fun i => Value.int .u8 (el (x i))
theorem vs_zero (x : Nat → BitVec 8) : vs x 0 = [] := rfl
theorem el_w (a : BitVec 8) : wrap64 (el a) = el a := by have := el_bd a; unfold wrap64; omega
theorem own_none (t : TypeId) (w : World) (base : Nat) (x : Nat → BitVec 8) : w.ownsRow base t 1 (.slice none 0 0) 0 (vs x 0) := World.ownsRow_nil _ _ _ _
theorem vs_succ (x : Nat → BitVec 8) (m : Nat) : vs x (m + 1) = vs x m ++ [.int .u8 (el (x m))] := by
  unfold vs; rw [List.range_succ, List.map_append]; rfl
theorem vs_at (x : Nat → BitVec 8) (m j : Nat) (h : j < m) : (vs x m)[j]? = some (.int .u8 (el (x j))) := by
  unfold vs; rw [List.getElem?_map, List.getElem?_range h]; rfl
theorem add_pl (b o j : Nat) : (⟨b, o, none⟩ : Addr).add j = ⟨b, o + j, none⟩ := by unfold Addr.add; split <;> simp_all
/-- What is owned reads so. -/
theorem rd_owns {t : TypeId} {w : World} {base n : Nat} {v : Value} {x : Nat → BitVec 8} (h : w.ownsRow base t 1 v n (vs x n)) : ∃ p cap, v = .slice p n cap ∧ n ≤ cap ∧ Rd w p (ls x n) := by
  rcases h.2 with ⟨hv, h0⟩ | ⟨g, cap, c, hv, hg, hh, hc, hm, hs, ht⟩
  · subst h0; exact ⟨none, 0, hv, Nat.le_refl _, .inl rfl⟩
  · refine ⟨some ⟨g, 0, none⟩, cap, hv, hc, .inr ⟨g, 0, rfl, fun i hi => ?_⟩⟩
    have hi' : i < n := by rwa [ls_len] at hi
    rw [Nat.zero_add, cell_of_row w g i _ _ _ hh, ls_get _ _ _ hi']
    rw [Nat.mul_one] at ht
    have h1 : (c.toList.take n)[i]? = some (.int .u8 (el (x i))) := by rw [ht, vs_at x n i hi']
    rw [List.getElem?_take_of_lt hi'] at h1
    simpa using h1
theorem below_append {t : TypeId} {w w' : World} {base n : Nat} {v : Value} {xs : List Value} {B : Nat} {a : World} (hb : Below B a w) (hB : B ≤ w.heap.size) (hg : w.grownBy w' v.ownBlock) (ho : w.ownsRow base t 1 v n xs) (hbase : B ≤ base) : Below B a w' :=
  hb.grown hg hB (fun k hk => Nat.le_trans hbase (ho.lt k hk).1)
theorem one_new (w : World) (v : Value) (t : TypeId) : ∀ j u, ([v] : List Value)[j]? = some u → (w.alloc (.cells #[v] t)).cell? ((⟨w.heap.size, 0, none⟩ : Addr).add j) = some u := by
  intro j u hj
  match j, hj with
  | 0, hj =>
    simp at hj; subst hj
    rw [add_pl, cell_of_row _ _ _ _ _ (0, 0) (heap_alloc_new w _)]; rfl
theorem one_cell (k : IntKind) (z : Int) : ∀ u ∈ ([.int k z] : List Value), u.oneCell' = true := by
  intro u hu; simp at hu; subst hu; rfl
theorem step_append_own {P : Program} {ops : Array Oper} {o : Oper} {a : Act} {w : World} {K : Act → World → Prop} {Q : Exit → Act → World → Prop} {E : Prop}
    (hg : o.guard = none) (s x : Operand) (t : TypeId) (ho : o.op = .call { callee := .builtin .append, args := #[s, x], argTypes := #[t, t] })
    (base : Nat) (e : TypeId) (i : TypeInfo) (z : Value) (size bytes : Nat) (ht : P.underlying t = some (.slice e)) (hi : P.info? e = some i) (hz : i.zero = some z)
    (hsize : i.size = size) (hby : i.bytes = bytes) (hzs : z.cells.size = size) (hsz : 0 < size)
    (v : Value) (n : Nat) (xs : List Value) (hs : a.eval s = v) (hown : w.ownsRow base e size v n xs)
    (ad : Addr) (m c : Nat) (news : List Value) (hx : a.eval x = .slice (some ad) m c) (hl : news.length = m * size) (hnews : ∀ j u, news[j]? = some u → w.cell? (ad.add j) = some u) (h1 : ∀ u ∈ news, u.oneCell' = true)
    (h63 : n + m ≤ maxLen) (hbytes : (n + m) * bytes ≤ 140737488355328) (hbase : base ≤ w.heap.size)
    (h : ∀ v' w', w'.ownsRow base e size v' (n + m) (xs ++ news) → w.grownBy w' v.ownBlock → K (a.put o.dst v') w') :
    if Region.wanted o (yielded ops a.tmps) = true then Oper.wp P o a w K Q else E := by
  have hw : Region.wanted o (yielded ops a.tmps) = true := by simp [Region.wanted, hg]
  rw [if_pos hw]
  exact wp_append_own w s x t ho base e i z size bytes ht hi hz hsize hby hzs hsz v n xs hs hown ad m c news hx hl hnews h1 h63 hbytes hbase (fun v' w' a b _ => h v' w' a b)

theorem vs_congr {f g : Nat → BitVec 8} {n : Nat} (h : ∀ i, i < n → f i = g i) : vs f n = vs g n := by
  unfold vs; apply List.map_congr_left; intro i hi; rw [h i (List.mem_range.1 hi)]
theorem vs_len (f : Nat → BitVec 8) (n : Nat) : (vs f n).length = n := by simp [vs]
theorem vs_one (x : Nat → BitVec 8) (m : Nat) : ∀ u ∈ vs x m, u.oneCell' = true := by
  intro u hu
  unfold vs at hu
  obtain ⟨i, _, rfl⟩ := List.mem_map.1 hu
  rfl
theorem vs_src {w : World} {b o n : Nat} {x : Nat → BitVec 8} (hc : ∀ i, i < n → w.cell? ⟨b, o + i, none⟩ = some (.int .u8 (el (x i)))) : ∀ j u, (vs x n)[j]? = some u → w.cell? ((⟨b, o, none⟩ : Addr).add j) = some u := by
  intro j u hu
  have hj : j < n := by
    rcases Nat.lt_or_ge j n with h | h
    · exact h
    · rw [List.getElem?_eq_none (by rw [vs_len]; exact h)] at hu; cases hu
  rw [vs_at x n j hj] at hu
  rw [add_pl, hc j hj]; exact hu

end Go.Proofs.YtjobaeopokfekaaGreat
