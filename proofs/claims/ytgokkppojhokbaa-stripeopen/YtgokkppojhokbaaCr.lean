/-
  The register of 32 bits, as plain mathematics over BitVec 32: no Go in sight.
-/
import Derived.Laws.BitsAllLaws
import Derived.KernelRfl
namespace Go.Proofs.Ytgokkppojhokbaa

/-- A register's number. -/
def rg (a : BitVec 32) : Int := (a.toNat : Int)
theorem rg_bd (a : BitVec 32) : 0 ≤ rg a ∧ rg a < 4294967296 := by unfold rg; have := a.isLt; omega
theorem rg_inj {a b : BitVec 32} (h : rg a = rg b) : a = b := by
  unfold rg at h; exact BitVec.eq_of_toNat_eq (by omega)
theorem rg_beq (a b : BitVec 32) : (rg a == rg b) = (a == b) := by
  rw [Bool.eq_iff_iff]; simp only [beq_iff_eq]; exact ⟨rg_inj, fun h => by rw [h]⟩
theorem rg_bne (a b : BitVec 32) : (rg a != rg b) = (a != b) := by unfold bne; rw [rg_beq]
theorem rg_of (n : Int) (h0 : 0 ≤ n) (h1 : n < 4294967296) : ∃ a : BitVec 32, n = rg a := by
  refine ⟨BitVec.ofNat 32 n.toNat, ?_⟩
  unfold rg; rw [BitVec.toNat_ofNat, Nat.mod_eq_of_lt (by omega)]; omega

theorem xx4 (a b c d : BitVec 32) : (a ^^^ b) ^^^ (c ^^^ d) = (a ^^^ c) ^^^ (b ^^^ d) := by
  rw [BitVec.xor_assoc, BitVec.xor_assoc, ← BitVec.xor_assoc b, ← BitVec.xor_assoc c, BitVec.xor_comm b c]
theorem xx_self (a b : BitVec 32) : a ^^^ b ^^^ b = a := by rw [BitVec.xor_assoc, BitVec.xor_self, BitVec.xor_zero]
theorem xx_eq {a b : BitVec 32} (h : a ^^^ b = 0#32) : a = b := by
  have := xx_self a b; rw [h, BitVec.zero_xor] at this; exact this.symm
theorem xx_left {a b c : BitVec 32} (h : a ^^^ b = a ^^^ c) : b = c := by
  have h1 : a ^^^ (a ^^^ b) = a ^^^ (a ^^^ c) := by rw [h]
  rwa [← BitVec.xor_assoc, ← BitVec.xor_assoc, BitVec.xor_self, BitVec.zero_xor, BitVec.zero_xor] at h1

/-- Linear. -/
def Lin (f : BitVec 32 → BitVec 32) : Prop := ∀ a b, f (a ^^^ b) = f a ^^^ f b
theorem Lin.zero {f : BitVec 32 → BitVec 32} (h : Lin f) : f 0#32 = 0#32 := by
  have := h 0#32 0#32
  rw [BitVec.xor_self] at this
  rw [BitVec.xor_self] at this; exact this
theorem Lin.id : Lin (fun a => a) := fun _ _ => rfl
theorem Lin.comp {f g : BitVec 32 → BitVec 32} (hf : Lin f) (hg : Lin g) : Lin (fun a => f (g a)) := fun a b => by show f (g _) = _; rw [hg, hf]
theorem Lin.xor {f g : BitVec 32 → BitVec 32} (hf : Lin f) (hg : Lin g) : Lin (fun a => f a ^^^ g a) := fun a b => by show f _ ^^^ g _ = _; rw [hf, hg, xx4]
theorem Lin.shr (n : Nat) : Lin (fun a => a >>> n) := fun a b => by
  apply BitVec.eq_of_getLsbD_eq; intro i hi
  simp only [BitVec.getLsbD_xor, BitVec.getLsbD_ushiftRight]
theorem Lin.shl (n : Nat) : Lin (fun a => a <<< n) := fun a b => by
  apply BitVec.eq_of_getLsbD_eq; intro i hi
  simp only [BitVec.getLsbD_xor, BitVec.getLsbD_shiftLeft]
  cases a.getLsbD (i - n) <;> cases b.getLsbD (i - n) <;> simp
theorem Lin.and (m : BitVec 32) : Lin (fun a => a &&& m) := fun a b => by
  apply BitVec.eq_of_getLsbD_eq; intro i hi
  simp only [BitVec.getLsbD_and, BitVec.getLsbD_xor]
  cases a.getLsbD i <;> cases b.getLsbD i <;> cases m.getLsbD i <;> rfl
/-- The number m where the bit i stands, 0 else. -/
def pck (i : Nat) (m a : BitVec 32) : BitVec 32 := if a.getLsbD i then m else 0#32
theorem Lin.pck (i : Nat) (m : BitVec 32) : Lin (pck i m) := fun a b => by
  unfold Go.Proofs.Ytgokkppojhokbaa.pck; rw [BitVec.getLsbD_xor]
  cases a.getLsbD i <;> cases b.getLsbD i <;> simp
/-- The lowest n bits, one by one. -/
def lows (a : BitVec 32) : Nat → BitVec 32
  | 0 => 0#32
  | n + 1 => lows a n ^^^ pck n (1#32 <<< n) a
theorem one_shl (n i : Nat) (hi : i < 32) : (1#32 <<< n).getLsbD i = decide (i = n) := by
  rw [BitVec.getLsbD_shiftLeft]
  by_cases h : i = n
  · subst h; simp [hi]
  · by_cases h2 : i < n
    · simp [h2, h]
    · have e : i - n ≠ 0 := by omega
      rw [BitVec.getLsbD_one]
      simp [h, e]
theorem lows_get (a : BitVec 32) (n i : Nat) (hi : i < 32) : (lows a n).getLsbD i = (decide (i < n) && a.getLsbD i) := by
  induction n with
  | zero => simp [lows]
  | succ n ih =>
    unfold lows; rw [BitVec.getLsbD_xor, ih]
    unfold pck
    by_cases hn : a.getLsbD n
    · rw [if_pos hn, one_shl n i hi]
      by_cases e : i = n
      · subst e; simp [hn]
      · by_cases h2 : i < n
        · simp [h2, e, show i < n + 1 by omega]
        · simp [h2, e, show ¬ i < n + 1 by omega]
    · rw [if_neg hn]
      by_cases e : i = n
      · subst e; simp at hn; simp [hn]
      · by_cases h2 : i < n
        · simp [h2, show i < n + 1 by omega]
        · simp [h2, show ¬ i < n + 1 by omega]
theorem lows_all (a : BitVec 32) : lows a 32 = a := by
  apply BitVec.eq_of_getLsbD_eq; intro i hi
  rw [lows_get a 32 i hi]; simp [hi]
theorem pck_cases {f : BitVec 32 → BitVec 32} (hf : Lin f) (i : Nat) (m a : BitVec 32) : f (pck i m a) = pck i (f m) a := by
  unfold pck; by_cases h : a.getLsbD i
  · rw [if_pos h, if_pos h]
  · rw [if_neg h, if_neg h, hf.zero]
/-- Two linear things that are alike at each bit are alike. -/
theorem lin_ext {f g : BitVec 32 → BitVec 32} (hf : Lin f) (hg : Lin g) (h : ∀ i, i < 32 → f (1#32 <<< i) = g (1#32 <<< i)) (a : BitVec 32) : f a = g a := by
  have key : ∀ n, n ≤ 32 → f (lows a n) = g (lows a n) := by
    intro n
    induction n with
    | zero => intro _; unfold lows; rw [hf.zero, hg.zero]
    | succ n ih =>
      intro hn
      unfold lows
      rw [hf, hg, ih (by omega), pck_cases hf, pck_cases hg, h n (by omega)]
  have := key 32 (Nat.le_refl _)
  rwa [lows_all] at this
/-- What a linear thing makes, put together of what it makes of each bit. -/
def sumOf (t : Nat → BitVec 32) (a : BitVec 32) : Nat → BitVec 32
  | 0 => 0#32
  | n + 1 => sumOf t a n ^^^ pck n (t n) a
theorem sumOf_lows {f : BitVec 32 → BitVec 32} (hf : Lin f) (a : BitVec 32) (n : Nat) : sumOf (fun i => f (1#32 <<< i)) a n = f (lows a n) := by
  induction n with
  | zero => unfold sumOf lows; rw [hf.zero]
  | succ n ih => unfold sumOf lows; rw [hf, ih, pck_cases hf]
theorem sumOf_all {f : BitVec 32 → BitVec 32} (hf : Lin f) (a : BitVec 32) : sumOf (fun i => f (1#32 <<< i)) a 32 = f a := by
  rw [sumOf_lows hf, lows_all]
theorem sumOf_congr {t u : Nat → BitVec 32} (a : BitVec 32) {n : Nat} (h : ∀ i, i < n → t i = u i) : sumOf t a n = sumOf u a n := by
  induction n with
  | zero => rfl
  | succ n ih => unfold sumOf; rw [ih (fun i hi => h i (by omega)), h n (by omega)]
theorem neg_one32 : -(1#32) = 4294967295#32 := by decide +kernel
theorem and_full (a : BitVec 32) : a &&& 4294967295#32 = a := by
  have h : (4294967295#32) = BitVec.allOnes 32 := by decide +kernel
  rw [h]; exact BitVec.and_allOnes
/-- The mask that the program puts on. -/
theorem and_mask (i : Nat) (m a : BitVec 32) : m &&& -(a >>> i &&& 1#32) = pck i m a := by
  have h : a >>> i &&& 1#32 = if a.getLsbD i then 1#32 else 0#32 := by
    apply BitVec.eq_of_getLsbD_eq; intro j hj
    rw [BitVec.getLsbD_and, BitVec.getLsbD_ushiftRight]
    by_cases e : j = 0
    · subst e; cases a.getLsbD i <;> simp_all
    · have : (1#32).getLsbD j = false := by rw [BitVec.getLsbD_one]; simp [e]
      rw [this]
      cases h : a.getLsbD i <;> simp_all
  unfold pck; rw [h]
  by_cases h : a.getLsbD i
  · rw [if_pos h, if_pos h, neg_one32, and_full]
  · rw [if_neg h, if_neg h]; simp

/-- The polynomial, in the register's order. -/
def P32 : BitVec 32 := 0x82F63B78#32
/-- One bit falls out. -/
def stp (r : BitVec 32) : BitVec 32 := r >>> 1 ^^^ pck 0 P32 r
theorem Lin.stp : Lin stp := Lin.xor (Lin.shr 1) (Lin.pck 0 P32)
theorem stp_mask (r : BitVec 32) : r >>> 1 ^^^ (P32 &&& -(r &&& 1#32)) = stp r := by
  unfold Go.Proofs.Ytgokkppojhokbaa.stp; rw [← and_mask 0 P32 r]; simp
def stps : Nat → BitVec 32 → BitVec 32
  | 0, r => r
  | n + 1, r => stps n (stp r)
theorem Lin.stps (n : Nat) : Lin (stps n) := by
  induction n with
  | zero => exact fun _ _ => rfl
  | succ n ih => exact fun a b => by show Go.Proofs.Ytgokkppojhokbaa.stps n (Go.Proofs.Ytgokkppojhokbaa.stp _) = _; rw [Lin.stp, ih]; rfl
theorem stps_add (m n : Nat) : ∀ r, stps (m + n) r = stps n (stps m r) := by
  induction m with
  | zero => intro r; rw [Nat.zero_add]; rfl
  | succ m ih => intro r; rw [Nat.add_right_comm]; exact ih (stp r)
theorem stps_succ (n : Nat) (r : BitVec 32) : stps (n + 1) r = stp (stps n r) := stps_add n 1 r
theorem stps_comm (m n : Nat) (r : BitVec 32) : stps m (stps n r) = stps n (stps m r) := by rw [← stps_add, ← stps_add, Nat.add_comm]
theorem stps_mul (m n : Nat) (h : ∀ r, stps m r = r) (r : BitVec 32) : stps (m * n) r = r := by
  induction n with
  | zero => rfl
  | succ n ih => rw [Nat.mul_succ, stps_add, ih, h]
/-- A step back. -/
def ups (r : BitVec 32) : BitVec 32 := r <<< 1 ^^^ pck 31 (P32 <<< 1 ^^^ 1#32) r
theorem Lin.ups : Lin ups := Lin.xor (Lin.shl 1) (Lin.pck 31 _)
theorem ups_stp (r : BitVec 32) : ups (stp r) = r :=
  lin_ext (Lin.comp Lin.ups Lin.stp) Lin.id (by decide +kernel) r
theorem stp_inj {a b : BitVec 32} (h : stp a = stp b) : a = b := by rw [← ups_stp a, ← ups_stp b, h]
theorem stps_inj (n : Nat) : ∀ {a b : BitVec 32}, stps n a = stps n b → a = b := by
  induction n with
  | zero => exact fun h => h
  | succ n ih => exact fun h => stp_inj (ih h)
theorem stps_ne (n : Nat) {a : BitVec 32} (h : a ≠ 0#32) : stps n a ≠ 0#32 := fun e => h (stps_inj n (by rw [e, (Lin.stps n).zero]))
/-- Half a byte at a time. -/
theorem half_step (r : BitVec 32) : r >>> 4 ^^^ stps 4 (r &&& 15#32) = stps 4 r :=
  lin_ext (f := fun r => r >>> 4 ^^^ stps 4 (r &&& 15#32)) (Lin.xor (Lin.shr 4) (Lin.comp (Lin.stps 4) (Lin.and 15#32))) (Lin.stps 4) (by decide +kernel) r

/-- The register goes over a byte; over bytes. -/
def ob (r : BitVec 32) (x : BitVec 8) : BitVec 32 := stps 8 (r ^^^ x.setWidth 32)
def ov (r : BitVec 32) (l : List (BitVec 8)) : BitVec 32 := l.foldl ob r
theorem ov_nil (r : BitVec 32) : ov r [] = r := rfl
theorem ov_cons (r : BitVec 32) (x : BitVec 8) (l : List (BitVec 8)) : ov r (x :: l) = ov (ob r x) l := rfl
theorem ov_append (r : BitVec 32) (l m : List (BitVec 8)) : ov r (l ++ m) = ov (ov r l) m := by unfold ov; rw [List.foldl_append]
theorem ov_snoc (r : BitVec 32) (l : List (BitVec 8)) (x : BitVec 8) : ov r (l ++ [x]) = ob (ov r l) x := by rw [ov_append]; rfl
theorem sw_xor (x y : BitVec 8) : (x ^^^ y).setWidth 32 = x.setWidth 32 ^^^ y.setWidth 32 := by
  apply BitVec.eq_of_getLsbD_eq; intro i hi
  simp only [BitVec.getLsbD_setWidth, BitVec.getLsbD_xor]
  simp [hi]
theorem ob_xor (r s : BitVec 32) (x y : BitVec 8) : ob (r ^^^ s) (x ^^^ y) = ob r x ^^^ ob s y := by
  unfold ob; rw [sw_xor, xx4, Lin.stps]
/-- Two texts put together. -/
def xl : List (BitVec 8) → List (BitVec 8) → List (BitVec 8)
  | x :: l, y :: m => (x ^^^ y) :: xl l m
  | _, _ => []
theorem ov_xl : ∀ (l m : List (BitVec 8)) (r s : BitVec 32), l.length = m.length → ov (r ^^^ s) (xl l m) = ov r l ^^^ ov s m
  | [], [], r, s, _ => rfl
  | x :: l, y :: m, r, s, h => by
    unfold xl; rw [ov_cons, ov_cons, ov_cons, ob_xor]
    exact ov_xl l m _ _ (by simpa using h)
/-- Beginning with r: what the text makes of 0, and r gone as far. -/
theorem ov_split (l : List (BitVec 8)) : ∀ r, ov r l = ov 0#32 l ^^^ stps (8 * l.length) r := by
  induction l with
  | nil => intro r; show r = 0#32 ^^^ r; rw [BitVec.zero_xor]
  | cons x l ih =>
    intro r
    rw [ov_cons, ov_cons, ih (ob r x), ih (ob 0#32 x)]
    unfold ob
    rw [BitVec.zero_xor, Lin.stps 8 r, BitVec.xor_comm (stps 8 r), Lin.stps, ← stps_add, ← stps_add, BitVec.xor_assoc]
    congr 3; rw [List.length_cons]; omega
theorem ov_zeros (r : BitVec 32) (n : Nat) : ov r (List.replicate n 0#8) = stps (8 * n) r := by
  induction n generalizing r with
  | zero => rfl
  | succ n ih =>
    rw [List.replicate_succ, ov_cons, ih]
    unfold ob
    have : (0#8).setWidth 32 = 0#32 := by decide +kernel
    rw [this, BitVec.xor_zero, ← stps_add]; congr 1; omega

/-- How many ones, odd or even: 1 or 0. -/
def fo (n : Nat) (a : BitVec 32) : BitVec 32 := a ^^^ a >>> n
def par (r : BitVec 32) : BitVec 32 := fo 1 (fo 2 (fo 4 (fo 8 (fo 16 r)))) &&& 1#32
theorem Lin.fo (n : Nat) : Lin (fo n) := Lin.xor Lin.id (Lin.shr n)
theorem Lin.par : Lin par := by
  have h := Lin.comp (Lin.and 1#32) (Lin.comp (Lin.fo 1) (Lin.comp (Lin.fo 2) (Lin.comp (Lin.fo 4) (Lin.comp (Lin.fo 8) (Lin.fo 16)))))
  exact h
theorem par_stp (r : BitVec 32) : par (stp r) = par r := lin_ext (Lin.comp Lin.par Lin.stp) Lin.par (by decide +kernel) r
theorem par_stps (n : Nat) : ∀ r, par (stps n r) = par r := by
  induction n with
  | zero => exact fun _ => rfl
  | succ n ih => intro r; show par (stps n (stp r)) = _; rw [ih, par_stp]

/-- A bit that stands d bits ahead of the end. -/
def e1 (d : Nat) : BitVec 32 := stps d 1#32
theorem e1_ne (d : Nat) : e1 d ≠ 0#32 := stps_ne d (by decide)
theorem par_e1 (d : Nat) : par (e1 d) = 1#32 := by unfold e1; rw [par_stps]; decide +kernel
theorem stps_bit (j d : Nat) (hj : j < 32) (h : j ≤ d) : stps d (1#32 <<< j) = e1 (d - j) := by
  have h1 : ∀ j, j < 32 → stps j (1#32 <<< j) = 1#32 := by decide +kernel
  rw [show d = j + (d - j) by omega, stps_add, h1 j hj, show j + (d - j) - j = d - j by omega]; rfl
/-- A text with one bit turned. -/
theorem ov_turn (l : List (BitVec 8)) (r : BitVec 32) (k j : Nat) (hk : k < l.length) (hj : j < 8) :
    ov r (l.set k (l.getD k 0#8 ^^^ 1#8 <<< j)) = ov r l ^^^ e1 (8 * l.length - (8 * k + j)) := by
  induction l generalizing r k with
  | nil => simp at hk
  | cons x l ih =>
    cases k with
    | zero =>
      simp only [List.set_cons_zero, List.getD_cons_zero, List.length_cons]
      rw [ov_cons, ov_cons, ov_split l (ob r _), ov_split l (ob r x), BitVec.xor_assoc]
      congr 1
      have e : (1#8 <<< j).setWidth 32 = 1#32 <<< j := by
        have : ∀ j, j < 8 → (1#8 <<< j).setWidth 32 = 1#32 <<< j := by decide +kernel
        exact this j hj
      have e2 : ob r (x ^^^ 1#8 <<< j) = ob r x ^^^ stps 8 (1#32 <<< j) := by
        unfold ob; rw [sw_xor, e, ← BitVec.xor_assoc, Lin.stps]
      rw [e2, Lin.stps, ← stps_add, stps_bit j _ (by omega) (by omega)]
      congr 2; omega
    | succ k =>
      simp only [List.set_cons_succ, List.getD_cons_succ, List.length_cons]
      rw [ov_cons, ov_cons, ih (ob r x) k (by simpa using hk)]
      congr 2; omega

/-! ### The period -/
/-- The product of two registers, the second one's lowest power first. -/
def mulS : Nat → BitVec 32 → BitVec 32 → BitVec 32
  | 0, _, _ => 0#32
  | n + 1, a, b => pck n a b ^^^ mulS n (stp a) b
/-- a times b, where the bit 31 is the power 0. -/
def tm (a b : BitVec 32) : BitVec 32 := mulS 32 a b
theorem mulS_lin_l (n : Nat) (b : BitVec 32) : Lin (fun a => mulS n a b) := by
  induction n with
  | zero => intro a c; show 0#32 = 0#32 ^^^ 0#32; rfl
  | succ n ih =>
    intro a c
    show pck n (a ^^^ c) b ^^^ mulS n (stp (a ^^^ c)) b = _
    rw [Lin.stp]
    have := ih (stp a) (stp c)
    simp only at this
    rw [this]
    have e : pck n (a ^^^ c) b = pck n a b ^^^ pck n c b := by unfold pck; cases b.getLsbD n <;> simp
    rw [e, xx4]; rfl
theorem mulS_lin_r (n : Nat) (a : BitVec 32) : Lin (mulS n a) := by
  induction n generalizing a with
  | zero => intro b c; show 0#32 = 0#32 ^^^ 0#32; rfl
  | succ n ih => exact Lin.xor (Lin.pck n a) (ih (stp a))
theorem tm_stp_l (a b : BitVec 32) : tm (stp a) b = stp (tm a b) := by
  have : ∀ n a, mulS n (stp a) b = stp (mulS n a b) := by
    intro n
    induction n with
    | zero => intro a; show 0#32 = stp 0#32; rw [Lin.stp.zero]
    | succ n ih =>
      intro a
      show pck n (stp a) b ^^^ mulS n (stp (stp a)) b = stp (pck n a b ^^^ mulS n (stp a) b)
      rw [ih, Lin.stp, pck_cases Lin.stp]
  exact this 32 a
theorem tm_stps_l (n : Nat) : ∀ a b, tm (stps n a) b = stps n (tm a b) := by
  induction n with
  | zero => exact fun _ _ => rfl
  | succ n ih => intro a b; show tm (stps n (stp a)) b = stps n (stp (tm a b)); rw [ih, tm_stp_l]
def X0 : BitVec 32 := 0x80000000#32
theorem tm_X0_l (b : BitVec 32) : tm X0 b = b := lin_ext (mulS_lin_r 32 X0) Lin.id (by decide +kernel) b
/-- x to the power n, in the register's order. -/
def xp (n : Nat) : BitVec 32 := stps n X0
theorem tm_xp (n : Nat) (b : BitVec 32) : tm (xp n) b = stps n b := by unfold xp; rw [tm_stps_l, tm_X0_l]
theorem tm_xp_xp (m n : Nat) : tm (xp m) (xp n) = xp (n + m) := by rw [tm_xp]; unfold xp; rw [← stps_add]
def sqs : Nat → BitVec 32 → BitVec 32
  | 0, a => a
  | n + 1, a => sqs n (tm a a)
theorem sqs_xp (n : Nat) : ∀ m, sqs n (xp m) = xp (m * 2 ^ n) := by
  induction n with
  | zero => intro m; rw [Nat.pow_zero, Nat.mul_one]; rfl
  | succ n ih => intro m; unfold sqs; rw [tm_xp_xp, ih, Nat.pow_succ]; congr 1; rw [← Nat.two_mul, Nat.mul_comm 2 m, Nat.mul_assoc, Nat.mul_comm 2]
theorem sq31 : sqs 31 (xp 1) = xp 1 := by decide +kernel
theorem period (r : BitVec 32) : stps 2147483647 r = r := by
  have h := sqs_xp 31 1
  rw [sq31] at h
  apply stp_inj
  rw [← stps_succ, ← tm_xp, show 2147483647 + 1 = 1 * 2 ^ 31 by rfl, ← h, tm_xp]; rfl
theorem period_mul (n : Nat) (r : BitVec 32) : stps (2147483647 * n) r = r := stps_mul _ _ period r
/-- No divisor from lo on, 2^k numbers. -/
def nodiv : Nat → Nat → Bool
  | 0, lo => 2147483647 % lo != 0
  | k + 1, lo => nodiv k lo && nodiv k (lo + 2 ^ k)
theorem nodiv_at (k : Nat) : ∀ lo, nodiv k lo = true → ∀ i, i < 2 ^ k → 2147483647 % (lo + i) ≠ 0 := by
  induction k with
  | zero => intro lo h i hi; have : i = 0 := by simpa using hi
            subst this; simpa [nodiv] using h
  | succ k ih =>
    intro lo h i hi
    simp only [nodiv, Bool.and_eq_true] at h
    by_cases e : i < 2 ^ k
    · exact ih lo h.1 i e
    · have := ih _ h.2 (i - 2 ^ k) (by rw [Nat.pow_succ] at hi; omega)
      rwa [show lo + 2 ^ k + (i - 2 ^ k) = lo + i by omega] at this
theorem nodiv_16 : nodiv 16 2 = true := by decide +kernel
theorem prime31 (d : Nat) (h : 2147483647 % d = 0) : d = 1 ∨ d = 2147483647 := by
  have hm : d * (2147483647 / d) = 2147483647 := by have := Nat.div_add_mod 2147483647 d; omega
  by_cases h1 : d ≤ 1
  · by_cases h0 : d = 0
    · subst h0; simp at h
    · exact .inl (by omega)
  · by_cases hs : d < 65538
    · exact absurd h (by have := nodiv_at 16 2 nodiv_16 (d - 2) (by simp; omega); rwa [show 2 + (d - 2) = d by omega] at this)
    · obtain ⟨q, hq⟩ : ∃ q, q = 2147483647 / d := ⟨_, rfl⟩
      rw [← hq] at hm
      have hq2 : q < 65538 := by
        rcases Nat.lt_or_ge q 65538 with h | h
        · exact h
        · have := Nat.mul_le_mul (show 65538 ≤ d by omega) h; omega
      by_cases hq1 : q ≤ 1
      · right
        have : q = 0 ∨ q = 1 := by omega
        rcases this with rfl | rfl <;> omega
      · have hd : 2147483647 % q = 0 := by rw [← hm]; exact Nat.mul_mod_left d q
        have := nodiv_at 16 2 nodiv_16 (q - 2) (by simp; omega)
        rw [show 2 + (q - 2) = q by omega] at this
        exact absurd hd this
/-- Steps that leave one register, taken by the greatest common divisor. -/
theorem stps_gcd (r : BitVec 32) (m n : Nat) (hm : stps m r = r) (hn : stps n r = r) : stps (Nat.gcd m n) r = r := by
  induction m, n using Nat.gcd.induction with
  | H0 n => simpa using hn
  | H1 m n h ih =>
    rw [Nat.gcd_rec]
    refine ih ?_ hm
    have key : ∀ q, stps (m * q) r = r := by
      intro q
      induction q with
      | zero => rfl
      | succ q iq => rw [Nat.mul_succ, stps_add, iq, hm]
    have h1 := hn
    rw [← Nat.div_add_mod n m, stps_add, key] at h1
    exact h1
theorem e1_turn (d : Nat) (h0 : 0 < d) (h1 : d < 2147483647) : e1 d ≠ 1#32 := by
  intro h
  have hg := stps_gcd 1#32 d 2147483647 h (period _)
  have hdv : Nat.gcd d 2147483647 ∣ 2147483647 := Nat.gcd_dvd_right _ _
  rcases prime31 _ (Nat.mod_eq_zero_of_dvd hdv) with e | e
  · rw [e] at hg; exact absurd hg (by decide +kernel)
  · have := Nat.le_of_dvd h0 (Nat.gcd_dvd_left d 2147483647)
    omega
theorem e1_apart (m n : Nat) (h : m < n) (h1 : n - m < 2147483647) : e1 m ≠ e1 n := by
  intro e
  unfold e1 at e
  rw [show n = (n - m) + m by omega, stps_add] at e
  exact e1_turn (n - m) (by omega) h1 (stps_inj m e).symm
/-- The sum that goes on. -/
def cmo (s : BitVec 32) (xs : List (BitVec 8)) : BitVec 32 := ~~~ ov (~~~ s) xs
end Go.Proofs.Ytgokkppojhokbaa
