/-
  The register of 32 bits, as plain mathematics over BitVec 32: no Go in sight.
-/
import Derived.Laws.BitsAllLaws
import Derived.KernelRfl
namespace Go.Proofs.YtjobaeopokfekaaGreat

/-- A register's number. -/
def rg (a : BitVec 32) : Int := (a.toNat : Int)
theorem rg_bd (a : BitVec 32) : 0 ≤ rg a ∧ rg a < 4294967296 := by unfold rg; have := a.isLt; omega
theorem rg_inj {a b : BitVec 32} (h : rg a = rg b) : a = b := by
  unfold rg at h; exact BitVec.eq_of_toNat_eq (by omega)
theorem rg_beq (a b : BitVec 32) : (rg a == rg b) = (a == b) := by
  rw [Bool.eq_iff_iff]; simp only [beq_iff_eq]; exact ⟨rg_inj, fun h => by rw [h]⟩
theorem rg_bne (a b : BitVec 32) : (rg a != rg b) = (a != b) := by unfold bne; rw [rg_beq]
theorem rg_of (n : Int) (h0 : 0 ≤ n) (h1 : n < 4294967296) : ∃ a : BitVec 32, n = rg a := by
  refine ⟨BitVec.ofNat 32 n.toNat, ?_⟩
  unfold rg; rw [BitVec.toNat_ofNat, Nat.mod_eq_of_lt (by omega)]; omega

theorem xx4 (a b c d : BitVec 32) : (a ^^^ b) ^^^ (c ^^^ d) = (a ^^^ c) ^^^ (b ^^^ d) := by
  rw [BitVec.xor_assoc, BitVec.xor_assoc, ← BitVec.xor_assoc b, ← BitVec.xor_assoc c, BitVec.xor_comm b c]
theorem xx_self (a b : BitVec 32) : a ^^^ b ^^^ b = a := by rw [BitVec.xor_assoc, BitVec.xor_self, BitVec.xor_zero]
theorem xx_eq {a b : BitVec 32} (h : a ^^^ b = 0#32) : a = b := by
  have := xx_self a b; rw [h, BitVec.zero_xor] at this; exact this.symm
theorem xx_left {a b c : BitVec 32} (h : a ^^^ b = a ^^^ c) : b = c := by
  have h1 : a ^^^ (a ^^^ b) = a ^^^ (a ^^^ c) := by rw [h]
  rwa [← BitVec.xor_assoc, ← BitVec.xor_assoc, BitVec.xor_self, BitVec.zero_xor, BitVec.zero_xor] at h1

/-- Linear. -/
def Lin (f : BitVec 32 → BitVec 32) : Prop := ∀ a b, f (a ^^^ b) = f a ^^^ f b
theorem Lin.zero {f : BitVec 32 → BitVec 32} (h : Lin f) : f 0#32 = 0#32 := by
  have := h 0#32 0#32
  rw [BitVec.xor_self] at this
  rw [BitVec.xor_self] at this; exact this
theorem Lin.id : Lin (fun a => a) := fun _ _ => rfl
theorem Lin.comp {f g : BitVec 32 → BitVec 32} (hf : Lin f) (hg : Lin g) : Lin (fun a => f (g a)) := fun a b => by show f (g _) = _; rw [hg, hf]
theorem Lin.xor {f g : BitVec 32 → BitVec 32} (hf : Lin f) (hg : Lin g) : Lin (fun a => f a ^^^ g a) := fun a b => by show f _ ^^^ g _ = _; rw [hf, hg, xx4]
theorem Lin.shr (n : Nat) : Lin (fun a => a >>> n) := fun a b => by
  apply BitVec.eq_of_getLsbD_eq; intro i hi
  simp only [BitVec.getLsbD_xor, BitVec.getLsbD_ushiftRight]
theorem Lin.shl (n : Nat) : Lin (fun a => a <<< n) := fun a b => by
  apply BitVec.eq_of_getLsbD_eq; intro i hi
  simp only [BitVec.getLsbD_xor, BitVec.getLsbD_shiftLeft]
  cases a.getLsbD (i - n) <;> cases b.getLsbD (i - n) <;> simp
theorem Lin.and (m : BitVec 32) : Lin (fun a => a &&& m) := fun a b => by
  apply BitVec.eq_of_getLsbD_eq; intro i hi
  simp only [BitVec.getLsbD_and, BitVec.getLsbD_xor]
  cases a.getLsbD i <;> cases b.getLsbD i <;> cases m.getLsbD i <;> rfl
/-- The number m where the bit i stands, 0 else. -/
def pck (i : Nat) (m a : BitVec 32) : BitVec 32 := if a.getLsbD i then m else 0#32
theorem Lin.pck (i : Nat) (m : BitVec 32) : Lin (pck i m) := fun a b => by
  unfold Go.Proofs.YtjobaeopokfekaaGreat.pck; rw [BitVec.getLsbD_xor]
  cases a.getLsbD i <;> cases b.getLsbD i <;> simp
/-- The lowest n bits, one by one. -/
def lows (a : BitVec 32) : Nat → BitVec 32
  | 0 => 0#32
  | n + 1 => lows a n ^^^ pck n (1#32 <<< n) a
theorem one_shl (n i : Nat) (hi : i < 32) : (1#32 <<< n).getLsbD i = decide (i = n) := by
  rw [BitVec.getLsbD_shiftLeft]
  by_cases h : i = n
  · subst h; simp [hi]
  · by_cases h2 : i < n
    · simp [h2, h]
    · have e : i - n ≠ 0 := by omega
      rw [BitVec.getLsbD_one]
      simp [h, e]
theorem lows_get (a : BitVec 32) (n i : Nat) (hi : i < 32) : (lows a n).getLsbD i = (decide (i < n) && a.getLsbD i) := by
  induction n with
  | zero => simp [lows]
  | succ n ih =>
    unfold lows; rw [BitVec.getLsbD_xor, ih]
    unfold pck
    by_cases hn : a.getLsbD n
    · rw [if_pos hn, one_shl n i hi]
      by_cases e : i = n
      · subst e; simp [hn]
      · by_cases h2 : i < n
        · simp [h2, e, show i < n + 1 by omega]
        · simp [h2, e, show ¬ i < n + 1 by omega]
    · rw [if_neg hn]
      by_cases e : i = n
      · subst e; simp at hn; simp [hn]
      · by_cases h2 : i < n
        · simp [h2, show i < n + 1 by omega]
        · simp [h2, show ¬ i < n + 1 by omega]
theorem lows_all (a : BitVec 32) : lows a 32 = a := by
  apply BitVec.eq_of_getLsbD_eq; intro i hi
  rw [lows_get a 32 i hi]; simp [hi]
theorem pck_cases {f : BitVec 32 → BitVec 32} (hf : Lin f) (i : Nat) (m a : BitVec 32) : f (pck i m a) = pck i (f m) a := by
  unfold pck; by_cases h : a.getLsbD i
  · rw [if_pos h, if_pos h]
  · rw [if_neg h, if_neg h, hf.zero]
/-- Two linear things that are alike at each bit are alike. -/
theorem lin_ext {f g : BitVec 32 → BitVec 32} (hf : Lin f) (hg : Lin g) (h : ∀ i, i < 32 → f (1#32 <<< i) = g (1#32 <<< i)) (a : BitVec 32) : f a = g a := by
  have key : ∀ n, n ≤ 32 → f (lows a n) = g (lows a n) := by
    intro n
    induction n with
    | zero => intro _; unfold lows; rw [hf.zero, hg.zero]
    | succ n ih =>
      intro hn
      unfold lows
      rw [hf, hg, ih (by omega), pck_cases hf, pck_cases hg, h n (by omega)]
  have := key 32 (Nat.le_refl _)
  rwa [lows_all] at this
/-- What a linear thing makes, put together of what it makes of each bit. -/
def sumOf (t : Nat → BitVec 32) (a : BitVec 32) : Nat → BitVec 32
  | 0 => 0#32
  | n + 1 => sumOf t a n ^^^ pck n (t n) a
theorem sumOf_lows {f : BitVec 32 → BitVec 32} (hf : Lin f) (a : BitVec 32) (n : Nat) : sumOf (fun i => f (1#32 <<< i)) a n = f (lows a n) := by
  induction n with
  | zero => unfold sumOf lows; rw [hf.zero]
  | succ n ih => unfold sumOf lows; rw [hf, ih, pck_cases hf]
theorem sumOf_all {f : BitVec 32 → BitVec 32} (hf : Lin f) (a : BitVec 32) : sumOf (fun i => f (1#32 <<< i)) a 32 = f a := by
  rw [sumOf_lows hf, lows_all]
theorem sumOf_congr {t u : Nat → BitVec 32} (a : BitVec 32) {n : Nat} (h : ∀ i, i < n → t i = u i) : sumOf t a n = sumOf u a n := by
  induction n with
  | zero => rfl
  | succ n ih => unfold sumOf; rw [ih (fun i hi => h i (by omega)), h n (by omega)]
theorem neg_one32 : -(1#32) = 4294967295#32 := by decide +kernel
theorem and_full (a : BitVec 32) : a &&& 4294967295#32 = a := by
  have h : (4294967295#32) = BitVec.allOnes 32 := by decide +kernel
  rw [h]; exact BitVec.and_allOnes
/-- The mask that the program puts on. -/
theorem and_mask (i : Nat) (m a : BitVec 32) : m &&& -(a >>> i &&& 1#32) = pck i m a := by
  have h : a >>> i &&& 1#32 = if a.getLsbD i then 1#32 else 0#32 := by
    apply BitVec.eq_of_getLsbD_eq; intro j hj
    rw [BitVec.getLsbD_and, BitVec.getLsbD_ushiftRight]
    by_cases e : j = 0
    · subst e; cases a.getLsbD i <;> simp_all
    · have : (1#32).getLsbD j = false := by rw [BitVec.getLsbD_one]; simp [e]
      rw [this]
      cases h : a.getLsbD i <;> simp_all
  unfold pck; rw [h]
  by_cases h : a.getLsbD i
  · rw [if_pos h, if_pos h, neg_one32, and_full]
  · rw [if_neg h, if_neg h]; simp

/-- The polynomial, in the register's order. -/
def P32 : BitVec 32 := 0x82F63B78#32
/-- One bit falls out. -/
def stp (r : BitVec 32) : BitVec 32 := r >>> 1 ^^^ pck 0 P32 r
theorem Lin.stp : Lin stp := Lin.xor (Lin.shr 1) (Lin.pck 0 P32)
theorem stp_mask (r : BitVec 32) : r >>> 1 ^^^ (P32 &&& -(r &&& 1#32)) = stp r := by
  unfold Go.Proofs.YtjobaeopokfekaaGreat.stp; rw [← and_mask 0 P32 r]; simp
def stps : Nat → BitVec 32 → BitVec 32
  | 0, r => r
  | n + 1, r => stps n (stp r)
theorem Lin.stps (n : Nat) : Lin (stps n) := by
  induction n with
  | zero => exact fun _ _ => rfl
  | succ n ih => exact fun a b => by show Go.Proofs.YtjobaeopokfekaaGreat.stps n (Go.Proofs.YtjobaeopokfekaaGreat.stp _) = _; rw [Lin.stp, ih]; rfl
theorem stps_add (m n : Nat) : ∀ r, stps (m + n) r = stps n (stps m r) := by
  induction m with
  | zero => intro r; rw [Nat.zero_add]; rfl
  | succ m ih => intro r; rw [Nat.add_right_comm]; exact ih (stp r)
theorem stps_succ (n : Nat) (r : BitVec 32) : stps (n + 1) r = stp (stps n r) := stps_add n 1 r
theorem stps_comm (m n : Nat) (r : BitVec 32) : stps m (stps n r) = stps n (stps m r) := by rw [← stps_add, ← stps_add, Nat.add_comm]
theorem stps_mul (m n : Nat) (h : ∀ r, stps m r = r) (r : BitVec 32) : stps (m * n) r = r := by
  induction n with
  | zero => rfl
  | succ n ih => rw [Nat.mul_succ, stps_add, ih, h]
/-- A step back. -/
def ups (r : BitVec 32) : BitVec 32 := r <<< 1 ^^^ pck 31 (P32 <<< 1 ^^^ 1#32) r
theorem Lin.ups : Lin ups := Lin.xor (Lin.shl 1) (Lin.pck 31 _)
theorem ups_stp (r : BitVec 32) : ups (stp r) = r :=
  lin_ext (Lin.comp Lin.ups Lin.stp) Lin.id (by decide +kernel) r
theorem stp_inj {a b : BitVec 32} (h : stp a = stp b) : a = b := by rw [← ups_stp a, ← ups_stp b, h]
theorem stps_inj (n : Nat) : ∀ {a b : BitVec 32}, stps n a = stps n b → a = b := by
  induction n with
  | zero => exact fun h => h
  | succ n ih => exact fun h => stp_inj (ih h)
theorem stps_ne (n : Nat) {a : BitVec 32} (h : a ≠ 0#32) : stps n a ≠ 0#32 := fun e => h (stps_inj n (by rw [e, (Lin.stps n).zero]))
/-- Half a byte at a time. -/
theorem half_step (r : BitVec 32) : r >>> 4 ^^^ stps 4 (r &&& 15#32) = stps 4 r :=
  lin_ext (f := fun r => r >>> 4 ^^^ stps 4 (r &&& 15#32)) (Lin.xor (Lin.shr 4) (Lin.comp (Lin.stps 4) (Lin.and 15#32))) (Lin.stps 4) (by decide +kernel) r

/-- The register goes over a byte; over bytes. -/
def ob (r : BitVec 32) (x : BitVec 8) : BitVec 32 := stps 8 (r ^^^ x.setWidth 32)
def ov (r : BitVec 32) (l : List (BitVec 8)) : BitVec 32 := l.foldl ob r
theorem ov_nil (r : BitVec 32) : ov r [] = r := rfl
theorem ov_cons (r : BitVec 32) (x : BitVec 8) (l : List (BitVec 8)) : ov r (x :: l) = ov (ob r x) l := rfl
theorem ov_append (r : BitVec 32) (l m : List (BitVec 8)) : ov r (l ++ m) = ov (ov r l) m := by unfold ov; rw [List.foldl_append]
theorem ov_snoc (r : BitVec 32) (l : List (BitVec 8)) (x : BitVec 8) : ov r (l ++ [x]) = ob (ov r l) x := by rw [ov_append]; rfl
theorem sw_xor (x y : BitVec 8) : (x ^^^ y).setWidth 32 = x.setWidth 32 ^^^ y.setWidth 32 := by
  apply BitVec.eq_of_getLsbD_eq; intro i hi
  simp only [BitVec.getLsbD_setWidth, BitVec.getLsbD_xor]
  simp [hi]
theorem ob_xor (r s : BitVec 32) (x y : BitVec 8) : ob (r ^^^ s) (x ^^^ y) = ob r x ^^^ ob s y := by
  unfold ob; rw [sw_xor, xx4, Lin.stps]
/-- Two texts put together. -/
def xl : List (BitVec 8) → List (BitVec 8) → List (BitVec 8)
  | x :: l, y :: m => (x ^^^ y) :: xl l m
  | _, _ => []
theorem ov_xl : ∀ (l m : List (BitVec 8)) (r s : BitVec 32), l.length = m.length → ov (r ^^^ s) (xl l m) = ov r l ^^^ ov s m
  | [], [], r, s, _ => rfl
  | x :: l, y :: m, r, s, h => by
    unfold xl; rw [ov_cons, ov_cons, ov_cons, ob_xor]
    exact ov_xl l m _ _ (by simpa using h)
/-- Beginning with r: what the text makes of 0, and r gone as far. -/
theorem ov_split (l : List (BitVec 8)) : ∀ r, ov r l = ov 0#32 l ^^^ stps (8 * l.length) r := by
  induction l with
  | nil => intro r; show r = 0#32 ^^^ r; rw [BitVec.zero_xor]
  | cons x l ih =>
    intro r
    rw [ov_cons, ov_cons, ih (ob r x), ih (ob 0#32 x)]
    unfold ob
    rw [BitVec.zero_xor, Lin.stps 8 r, BitVec.xor_comm (stps 8 r), Lin.stps, ← stps_add, ← stps_add, BitVec.xor_assoc]
    congr 3; rw [List.length_cons]; omega
theorem ov_zeros (r : BitVec 32) (n : Nat) : ov r (List.replicate n 0#8) = stps (8 * n) r := by
  induction n generalizing r with
  | zero => rfl
  | succ n ih =>
    rw [List.replicate_succ, ov_cons, ih]
    unfold ob
    have : (0#8).setWidth 32 = 0#32 := by decide +kernel
    rw [this, BitVec.xor_zero, ← stps_add]; congr 1; omega

/-- How many ones, odd or even: 1 or 0. -/
def fo (n : Nat) (a : BitVec 32) : BitVec 32 := a ^^^ a >>> n
def par (r : BitVec 32) : BitVec 32 := fo 1 (fo 2 (fo 4 (fo 8 (fo 16 r)))) &&& 1#32
theorem Lin.fo (n : Nat) : Lin (fo n) := Lin.xor Lin.id (Lin.shr n)
theorem Lin.par : Lin par := by
  have h := Lin.comp (Lin.and 1#32) (Lin.comp (Lin.fo 1) (Lin.comp (Lin.fo 2) (Lin.comp (Lin.fo 4) (Lin.comp (Lin.fo 8) (Lin.fo 16)))))
  exact h
theorem par_stp (r : BitVec 32) : par (stp r) = par r := lin_ext (Lin.comp Lin.par Lin.stp) Lin.par (by decide +kernel) r
theorem par_stps (n : Nat) : ∀ r, par (stps n r) = par r := by
  induction n with
  | zero => exact fun _ => rfl
  | succ n ih => intro r; show par (stps n (stp r)) = _; rw [ih, par_stp]

/-- A bit that stands d bits ahead of the end. -/
def e1 (d : Nat) : BitVec 32 := stps d 1#32
theorem e1_ne (d : Nat) : e1 d ≠ 0#32 := stps_ne d (by decide)
theorem par_e1 (d : Nat) : par (e1 d) = 1#32 := by unfold e1; rw [par_stps]; decide +kernel
theorem stps_bit (j d : Nat) (hj : j < 32) (h : j ≤ d) : stps d (1#32 <<< j) = e1 (d - j) := by
  have h1 : ∀ j, j < 32 → stps j (1#32 <<< j) = 1#32 := by decide +kernel
  rw [show d = j + (d - j) by omega, stps_add, h1 j hj, show j + (d - j) - j = d - j by omega]; rfl
/-- A text with one bit turned. -/
theorem ov_turn (l : List (BitVec 8)) (r : BitVec 32) (k j : Nat) (hk : k < l.length) (hj : j < 8) :
    ov r (l.set k (l.getD k 0#8 ^^^ 1#8 <<< j)) = ov r l ^^^ e1 (8 * l.length - (8 * k + j)) := by
  induction l generalizing r k with
  | nil => simp at hk
  | cons x l ih =>
    cases k with
    | zero =>
      simp only [List.set_cons_zero, List.getD_cons_zero, List.length_cons]
      rw [ov_cons, ov_cons, ov_split l (ob r _), ov_split l (ob r x), BitVec.xor_assoc]
      congr 1
      have e : (1#8 <<< j).setWidth 32 = 1#32 <<< j := by
        have : ∀ j, j < 8 → (1#8 <<< j).setWidth 32 = 1#32 <<< j := by decide +kernel
        exact this j hj
      have e2 : ob r (x ^^^ 1#8 <<< j) = ob r x ^^^ stps 8 (1#32 <<< j) := by
        unfold ob; rw [sw_xor, e, ← BitVec.xor_assoc, Lin.stps]
      rw [e2, Lin.stps, ← stps_add, stps_bit j _ (by omega) (by omega)]
      congr 2; omega
    | succ k =>
      simp only [List.set_cons_succ, List.getD_cons_succ, List.length_cons]
      rw [ov_cons, ov_cons, ih (ob r x) k (by simpa using hk)]
      congr 2; omega

/-! ### The period -/
/-- The product of two registers, the second one's lowest power first. -/
def mulS : Nat → BitVec 32 → BitVec 32 → BitVec 32
  | 0, _, _ => 0#32
  | n + 1, a, b => pck n a b ^^^ mulS n (stp a) b
/-- a times b, where the bit 31 is the power 0. -/
def tm (a b : BitVec 32) : BitVec 32 := mulS 32 a b
theorem mulS_lin_l (n : Nat) (b : BitVec 32) : Lin (fun a => mulS n a b) := by
  induction n with
  | zero => intro a c; show 0#32 = 0#32 ^^^ 0#32; rfl
  | succ n ih =>
    intro a c
    show pck n (a ^^^ c) b ^^^ mulS n (stp (a ^^^ c)) b = _
    rw [Lin.stp]
    have := ih (stp a) (stp c)
    simp only at this
    rw [this]
    have e : pck n (a ^^^ c) b = pck n a b ^^^ pck n c b := by unfold pck; cases b.getLsbD n <;> simp
    rw [e, xx4]; rfl
theorem mulS_lin_r (n : Nat) (a : BitVec 32) : Lin (mulS n a) := by
  induction n generalizing a with
  | zero => intro b c; show 0#32 = 0#32 ^^^ 0#32; rfl
  | succ n ih => exact Lin.xor (Lin.pck n a) (ih (stp a))
theorem tm_stp_l (a b : BitVec 32) : tm (stp a) b = stp (tm a b) := by
  have : ∀ n a, mulS n (stp a) b = stp (mulS n a b) := by
    intro n
    induction n with
    | zero => intro a; show 0#32 = stp 0#32; rw [Lin.stp.zero]
    | succ n ih =>
      intro a
      show pck n (stp a) b ^^^ mulS n (stp (stp a)) b = stp (pck n a b ^^^ mulS n (stp a) b)
      rw [ih, Lin.stp, pck_cases Lin.stp]
  exact this 32 a
theorem tm_stps_l (n : Nat) : ∀ a b, tm (stps n a) b = stps n (tm a b) := by
  induction n with
  | zero => exact fun _ _ => rfl
  | succ n ih => intro a b; show tm (stps n (stp a)) b = stps n (stp (tm a b)); rw [ih, tm_stp_l]
def X0 : BitVec 32 := 0x80000000#32
theorem tm_X0_l (b : BitVec 32) : tm X0 b = b := lin_ext (mulS_lin_r 32 X0) Lin.id (by decide +kernel) b
/-- x to the power n, in the register's order. -/
def xp (n : Nat) : BitVec 32 := stps n X0
theorem tm_xp (n : Nat) (b : BitVec 32) : tm (xp n) b = stps n b := by unfold xp; rw [tm_stps_l, tm_X0_l]
theorem tm_xp_xp (m n : Nat) : tm (xp m) (xp n) = xp (n + m) := by rw [tm_xp]; unfold xp; rw [← stps_add]
def sqs : Nat → BitVec 32 → BitVec 32
  | 0, a => a
  | n + 1, a => sqs n (tm a a)
theorem sqs_xp (n : Nat) : ∀ m, sqs n (xp m) = xp (m * 2 ^ n) := by
  induction n with
  | zero => intro m; rw [Nat.pow_zero, Nat.mul_one]; rfl
  | succ n ih => intro m; unfold sqs; rw [tm_xp_xp, ih, Nat.pow_succ]; congr 1; rw [← Nat.two_mul, Nat.mul_comm 2 m, Nat.mul_assoc, Nat.mul_comm 2]
theorem sq31 : sqs 31 (xp 1) = xp 1 := by decide +kernel
theorem period (r : BitVec 32) : stps 2147483647 r = r := by
  have h := sqs_xp 31 1
  rw [sq31] at h
  apply stp_inj
  rw [← stps_succ, ← tm_xp, show 2147483647 + 1 = 1 * 2 ^ 31 by rfl, ← h, tm_xp]; rfl
theorem period_mul (n : Nat) (r : BitVec 32) : stps (2147483647 * n) r = r := stps_mul _ _ period r
/-- No divisor from lo on, 2^k numbers. -/
def nodiv : Nat → Nat → Bool
  | 0, lo => 2147483647 % lo != 0
  | k + 1, lo => nodiv k lo && nodiv k (lo + 2 ^ k)
theorem nodiv_at (k : Nat) : ∀ lo, nodiv k lo = true → ∀ i, i < 2 ^ k → 2147483647 % (lo + i) ≠ 0 := by
  induction k with
  | zero => intro lo h i hi; have : i = 0 := by simpa using hi
            subst this; simpa [nodiv] using h
  | succ k ih =>
    intro lo h i hi
    simp only [nodiv, Bool.and_eq_true] at h
    by_cases e : i < 2 ^ k
    · exact ih lo h.1 i e
    · have := ih _ h.2 (i - 2 ^ k) (by rw [Nat.pow_succ] at hi; omega)
      rwa [show lo + 2 ^ k + (i - 2 ^ k) = lo + i by omega] at this
theorem nodiv_16 : nodiv 16 2 = true := by decide +kernel
theorem prime31 (d : Nat) (h : 2147483647 % d = 0) : d = 1 ∨ d = 2147483647 := by
  have hm : d * (2147483647 / d) = 2147483647 := by have := Nat.div_add_mod 2147483647 d; omega
  by_cases h1 : d ≤ 1
  · by_cases h0 : d = 0
    · subst h0; simp at h
    · exact .inl (by omega)
  · by_cases hs : d < 65538
    · exact absurd h (by have := nodiv_at 16 2 nodiv_16 (d - 2) (by simp; omega); rwa [show 2 + (d - 2) = d by omega] at this)
    · obtain ⟨q, hq⟩ : ∃ q, q = 2147483647 / d := ⟨_, rfl⟩
      rw [← hq] at hm
      have hq2 : q < 65538 := by
        rcases Nat.lt_or_ge q 65538 with h | h
        · exact h
        · have := Nat.mul_le_mul (show 65538 ≤ d by omega) h; omega
      by_cases hq1 : q ≤ 1
      · right
        have : q = 0 ∨ q = 1 := by omega
        rcases this with rfl | rfl <;> omega
      · have hd : 2147483647 % q = 0 := by rw [← hm]; exact Nat.mul_mod_left d q
        have := nodiv_at 16 2 nodiv_16 (q - 2) (by simp; omega)
        rw [show 2 + (q - 2) = q by omega] at this
        exact absurd hd this
/-- Steps that leave one register, taken by the greatest common divisor. -/
theorem stps_gcd (r : BitVec 32) (m n : Nat) (hm : stps m r = r) (hn : stps n r = r) : stps (Nat.gcd m n) r = r := by
  induction m, n using Nat.gcd.induction with
  | H0 n => simpa using hn
  | H1 m n h ih =>
    rw [Nat.gcd_rec]
    refine ih ?_ hm
    have key : ∀ q, stps (m * q) r = r := by
      intro q
      induction q with
      | zero => rfl
      | succ q iq => rw [Nat.mul_succ, stps_add, iq, hm]
    have h1 := hn
    rw [← Nat.div_add_mod n m, stps_add, key] at h1
    exact h1
theorem e1_turn (d : Nat) (h0 : 0 < d) (h1 : d < 2147483647) : e1 d ≠ 1#32 := by
  intro h
  have hg := stps_gcd 1#32 d 2147483647 h (period _)
  have hdv : Nat.gcd d 2147483647 ∣ 2147483647 := Nat.gcd_dvd_right _ _
  rcases prime31 _ (Nat.mod_eq_zero_of_dvd hdv) with e | e
  · rw [e] at hg; exact absurd hg (by decide +kernel)
  · have := Nat.le_of_dvd h0 (Nat.gcd_dvd_left d 2147483647)
    omega
theorem e1_apart (m n : Nat) (h : m < n) (h1 : n - m < 2147483647) : e1 m ≠ e1 n := by
  intro e
  unfold e1 at e
  rw [show n = (n - m) + m by omega, stps_add] at e
  exact e1_turn (n - m) (by omega) h1 (stps_inj m e).symm
/-- The sum that goes on. -/
def cmo (s : BitVec 32) (xs : List (BitVec 8)) : BitVec 32 := ~~~ ov (~~~ s) xs
end Go.Proofs.YtjobaeopokfekaaGreat
/-
  Numbers of a width, the lowest byte first: mathematics.
-/
namespace Go.Proofs.YtjobaeopokfekaaGreat
/-- The number whose bytes these are, the lowest first. -/
def lv : List (BitVec 8) → Nat
  | [] => 0
  | x :: xs => x.toNat + 256 * lv xs
/-- A number's bytes, the lowest first. -/
def lb : Nat → Nat → List (BitVec 8)
  | 0, _ => []
  | n + 1, v => BitVec.ofNat 8 v :: lb n (v / 256)
theorem lb_len (n v : Nat) : (lb n v).length = n := by
  induction n generalizing v with
  | zero => rfl
  | succ n ih => show (lb n (v / 256)).length + 1 = _; rw [ih]
theorem lv_lt (xs : List (BitVec 8)) : lv xs < 256 ^ xs.length := by
  induction xs with
  | nil => exact Nat.one_pos
  | cons x xs ih =>
    have := x.isLt
    show x.toNat + 256 * lv xs < 256 ^ (xs.length + 1)
    rw [Nat.pow_succ]
    omega
theorem lv_lb (n v : Nat) (h : v < 256 ^ n) : lv (lb n v) = v := by
  induction n generalizing v with
  | zero => simp at h; subst h; rfl
  | succ n ih =>
    show (BitVec.ofNat 8 v).toNat + 256 * lv (lb n (v / 256)) = v
    rw [ih (v / 256) (by rw [Nat.pow_succ] at h; omega), BitVec.toNat_ofNat]
    omega
theorem lb_lv (xs : List (BitVec 8)) : lb xs.length (lv xs) = xs := by
  induction xs with
  | nil => rfl
  | cons x xs ih =>
    have hx := x.isLt
    show BitVec.ofNat 8 (x.toNat + 256 * lv xs) :: lb xs.length ((x.toNat + 256 * lv xs) / 256) = _
    rw [show (x.toNat + 256 * lv xs) / 256 = lv xs by omega, ih]
    congr 1
    apply BitVec.eq_of_toNat_eq
    rw [BitVec.toNat_ofNat]; omega
theorem lv_snoc (xs : List (BitVec 8)) (x : BitVec 8) : lv (xs ++ [x]) = lv xs + x.toNat * 256 ^ xs.length := by
  induction xs with
  | nil => show x.toNat + 256 * 0 = 0 + _; simp
  | cons y xs ih =>
    show y.toNat + 256 * lv (xs ++ [x]) = y.toNat + 256 * lv xs + x.toNat * 256 ^ (xs.length + 1)
    rw [ih, Nat.mul_add, Nat.pow_succ, Nat.mul_comm (256 ^ xs.length) 256, Nat.mul_left_comm]
    omega
theorem lb_snoc (n v : Nat) : lb (n + 1) v = lb n v ++ [BitVec.ofNat 8 (v / 256 ^ n)] := by
  induction n generalizing v with
  | zero => simp [lb]
  | succ n ih =>
    show BitVec.ofNat 8 v :: lb (n + 1) (v / 256) = BitVec.ofNat 8 v :: (lb n (v / 256) ++ _)
    rw [ih (v / 256), Nat.div_div_eq_div_mul, Nat.pow_succ, Nat.mul_comm 256]
end Go.Proofs.YtjobaeopokfekaaGreat
/-
  A label as plain mathematics: its fields, its bytes, and their reading.
-/
namespace Go.Proofs.YtjobaeopokfekaaGreat
/-- A label. -/
structure Lbl where
  (a0 a1 a2 a3 a4 a5 a6 a7 : BitVec 8)
  (k m b ix ep : Int)
/-- Its eight bytes. -/
def Lbl.st (h : Lbl) : List (BitVec 8) := [h.a0, h.a1, h.a2, h.a3, h.a4, h.a5, h.a6, h.a7]
def lb0 : Lbl := ⟨0#8, 0#8, 0#8, 0#8, 0#8, 0#8, 0#8, 0#8, 0, 0, 0, 0, 0⟩
/-- May the shape be? -/
def shL (k m b : Int) : Prop := (1 ≤ m ∧ m ≤ k) ∧ k ≤ 255 - m ∧ 1 ≤ b ∧ b ≤ 65536
def shLDec (k m b : Int) : Decidable (shL k m b) := by unfold shL; exact inferInstance
/-- What check says. -/
def Lbl.ck (h : Lbl) : Int :=
  @ite _ (¬ shL h.k h.m h.b) (@instDecidableNot _ (shLDec h.k h.m h.b)) 4 <| if ¬ (0 ≤ h.ix ∧ h.ix ≤ h.k + h.m - 1) then 2 else if ¬ (0 ≤ h.ep ∧ h.ep ≤ 4294967295) then 2 else 0
/-- A label that may be, in plain numbers. -/
structure Lbl.Ok (h : Lbl) : Prop where
  k1 : 1 ≤ h.k
  k2 : h.k ≤ 254
  m1 : 1 ≤ h.m
  m2 : h.m ≤ 127
  m3 : h.m ≤ h.k
  km : h.k + h.m ≤ 255
  b1 : 1 ≤ h.b
  b2 : h.b ≤ 65536
  x1 : 0 ≤ h.ix
  x2 : h.ix < h.k + h.m
  e1 : 0 ≤ h.ep
  e2 : h.ep ≤ 4294967295
theorem ck_ok (h : Lbl) : h.ck = 0 ↔ h.Ok := by
  unfold Lbl.ck shL
  constructor
  · intro e
    split at e
    · cases e
    rename_i g1
    split at e
    · cases e
    rename_i g2
    split at e
    · cases e
    rename_i g3
    simp only [Decidable.not_not] at g1 g2 g3
    exact ⟨by omega, by omega, by omega, by omega, by omega, by omega, by omega, by omega, by omega, by omega, by omega, by omega⟩
  · rintro ⟨⟩
    rw [if_neg (by simp only [Decidable.not_not]; omega), if_neg (by simp only [Decidable.not_not]; omega), if_neg (by simp only [Decidable.not_not]; omega)]
def mkL : List (BitVec 8) := [67#8, 82#8, 78#8, 1#8]
/-- The first 27 bytes. -/
def Lbl.fx (h : Lbl) : List (BitVec 8) := mkL ++ h.st ++ lb 1 h.k.toNat ++ lb 1 h.m.toNat ++ lb 4 h.b.toNat ++ lb 1 h.ix.toNat ++ lb 8 h.ep.toNat
theorem Lbl.fx_len (h : Lbl) : h.fx.length = 27 := by simp [Lbl.fx, Lbl.st, mkL, lb_len]
/-- A sum's bytes. -/
def smL (s : BitVec 32) : List (BitVec 8) := lb 4 s.toNat
theorem smL_len (s : BitVec 32) : (smL s).length = 4 := lb_len _ _
/-- A label's bytes. -/
def Lbl.fm (h : Lbl) : List (BitVec 8) := h.fx ++ smL (cmo 0#32 h.fx)
theorem Lbl.fm_len (h : Lbl) : h.fm.length = 31 := by rw [Lbl.fm, List.length_append, Lbl.fx_len, smL_len]
/-- A piece. -/
def ctL (b : List (BitVec 8)) (at_ n : Nat) : List (BitVec 8) := (b.drop at_).take n
theorem ctL_len (b : List (BitVec 8)) (a n : Nat) (h : a + n ≤ b.length) : (ctL b a n).length = n := by simp only [ctL, List.length_take, List.length_drop]; omega
/-- A number of 64 bits as a number with a sign. -/
def s64 (n : Nat) : Int := if n < 9223372036854775808 then n else (n : Int) - 18446744073709551616
/-- What stands as a label. -/
def rlb (f : List (BitVec 8)) : Lbl :=
  ⟨f.getD 4 0#8, f.getD 5 0#8, f.getD 6 0#8, f.getD 7 0#8, f.getD 8 0#8, f.getD 9 0#8, f.getD 10 0#8, f.getD 11 0#8,
   lv (ctL f 12 1), lv (ctL f 13 1), lv (ctL f 14 4), lv (ctL f 18 1), s64 (lv (ctL f 19 8))⟩
/-- May bytes be read: the mark, the sum. -/
def mrk (b : List (BitVec 8)) : Bool := decide (b.take 4 = mkL)
def smd (b : List (BitVec 8)) : Bool := decide (b.drop 27 = smL (cmo 0#32 (b.take 27)))
/-- The reading. -/
def pL (b : List (BitVec 8)) : Int × Lbl :=
  if b.length = 31 then if mrk b = true then if smd b = true then if (rlb b).ck = 0 then (0, rlb b) else (150, lb0) else (150, lb0) else (150, lb0) else (150, lb0)
theorem rlb_fm (h : Lbl) (ok : h.Ok) : rlb h.fm = h := by
  have ek : ctL h.fm 12 1 = lb 1 h.k.toNat := rfl
  have em : ctL h.fm 13 1 = lb 1 h.m.toNat := rfl
  have eb : ctL h.fm 14 4 = lb 4 h.b.toNat := rfl
  have ei : ctL h.fm 18 1 = lb 1 h.ix.toNat := rfl
  have ee : ctL h.fm 19 8 = lb 8 h.ep.toNat := rfl
  have p1 : 256 ^ 1 = 256 := rfl
  have p4 : 256 ^ 4 = 4294967296 := rfl
  have p8 : 256 ^ 8 = 18446744073709551616 := rfl
  have k1 := ok.k1
  have k2 := ok.k2
  have m1 := ok.m1
  have m2 := ok.m2
  have b1 := ok.b1
  have b2 := ok.b2
  have x1 := ok.x1
  have x2 := ok.x2
  have km := ok.km
  have e1 := ok.e1
  have e2 := ok.e2
  unfold rlb
  rw [ek, em, eb, ei, ee, lv_lb 1 _ (by omega), lv_lb 1 _ (by omega), lv_lb 4 _ (by omega), lv_lb 1 _ (by omega), lv_lb 8 _ (by omega),
    Int.toNat_of_nonneg (by omega), Int.toNat_of_nonneg (by omega), Int.toNat_of_nonneg (by omega), Int.toNat_of_nonneg (by omega)]
  have : s64 h.ep.toNat = h.ep := by unfold s64; rw [if_pos (by omega)]; omega
  rw [this]
  rfl
theorem pL_fm (h : Lbl) (ok : h.Ok) : pL h.fm = (0, h) := by
  have e4 : mrk h.fm = true := by unfold mrk; exact decide_eq_true rfl
  have e27 : h.fm.take 27 = h.fx := by rw [Lbl.fm, List.take_append_of_le_length (by rw [Lbl.fx_len]; exact Nat.le_refl _), List.take_of_length_le (by rw [Lbl.fx_len]; exact Nat.le_refl _)]
  have es : smd h.fm = true := by
    unfold smd
    apply decide_eq_true
    rw [e27, Lbl.fm, List.drop_append_of_le_length (by rw [Lbl.fx_len]; exact Nat.le_refl _), List.drop_of_length_le (by rw [Lbl.fx_len]; exact Nat.le_refl _), List.nil_append]
  unfold pL
  rw [if_pos h.fm_len, if_pos e4, if_pos es, rlb_fm h ok, if_pos ((ck_ok h).2 ok)]
theorem l31_st (b : List (BitVec 8)) (h : b.length = 31) : [b.getD 4 0#8, b.getD 5 0#8, b.getD 6 0#8, b.getD 7 0#8, b.getD 8 0#8, b.getD 9 0#8, b.getD 10 0#8, b.getD 11 0#8] = ctL b 4 8 := by
  match b, h with
  | [_, _, _, _, _, _, _, _, _, _, _, _, _, _, _, _, _, _, _, _, _, _, _, _, _, _, _, _, _, _, _], _ => rfl
theorem l31_all (b : List (BitVec 8)) (h : b.length = 31) : b.take 27 = b.take 4 ++ ctL b 4 8 ++ ctL b 12 1 ++ ctL b 13 1 ++ ctL b 14 4 ++ ctL b 18 1 ++ ctL b 19 8 := by
  match b, h with
  | [_, _, _, _, _, _, _, _, _, _, _, _, _, _, _, _, _, _, _, _, _, _, _, _, _, _, _, _, _, _, _], _ => rfl
theorem pL_inv (b : List (BitVec 8)) (h : Lbl) (e : pL b = (0, h)) : h.Ok ∧ b = h.fm := by
  unfold pL at e
  by_cases g1 : b.length = 31
  case neg => rw [if_neg g1] at e; injection e with e1; cases e1
  rw [if_pos g1] at e
  by_cases g2 : mrk b = true
  case neg => rw [if_neg g2] at e; injection e with e1; cases e1
  rw [if_pos g2] at e
  by_cases g3 : smd b = true
  case neg => rw [if_neg g3] at e; injection e with e1; cases e1
  rw [if_pos g3] at e
  by_cases g4 : (rlb b).ck = 0
  case neg => rw [if_neg g4] at e; injection e with e1; cases e1
  rw [if_pos g4] at e
  injection e with _ e
  have ok := (ck_ok _).1 g4
  rw [e] at ok
  refine ⟨ok, ?_⟩
  unfold mrk at g2
  unfold smd at g3
  have g2 := of_decide_eq_true g2
  have g3 := of_decide_eq_true g3
  have ef : b.take 27 = h.fx := by
    have n1 : ∀ a, a + 1 ≤ 31 → lb 1 (lv (ctL b a 1)) = ctL b a 1 := fun a ha => by have := lb_lv (ctL b a 1); rwa [ctL_len _ _ _ (by omega)] at this
    have n4 : ∀ a, a + 4 ≤ 31 → lb 4 (lv (ctL b a 4)) = ctL b a 4 := fun a ha => by have := lb_lv (ctL b a 4); rwa [ctL_len _ _ _ (by omega)] at this
    have n8 : ∀ a, a + 8 ≤ 31 → lb 8 (lv (ctL b a 8)) = ctL b a 8 := fun a ha => by have := lb_lv (ctL b a 8); rwa [ctL_len _ _ _ (by omega)] at this
    have e0 := ok.e1
    have e00 := ok.e2
    have hk : h.k.toNat = lv (ctL b 12 1) := by rw [← e]; simp [rlb]
    have hm : h.m.toNat = lv (ctL b 13 1) := by rw [← e]; simp [rlb]
    have hb : h.b.toNat = lv (ctL b 14 4) := by rw [← e]; simp [rlb]
    have hx : h.ix.toNat = lv (ctL b 18 1) := by rw [← e]; simp [rlb]
    have hee : h.ep = s64 (lv (ctL b 19 8)) := by rw [← e]; rfl
    have he : h.ep.toNat = lv (ctL b 19 8) := by
      have hl := lv_lt (ctL b 19 8)
      rw [ctL_len _ _ _ (by omega)] at hl
      have p8 : 256 ^ 8 = 18446744073709551616 := rfl
      unfold s64 at hee
      split at hee <;> omega
    have hst : h.st = ctL b 4 8 := by rw [← e]; exact l31_st b g1
    unfold Lbl.fx
    rw [hk, hm, hb, hx, he, hst, n1 12 (by omega), n1 13 (by omega), n4 14 (by omega), n1 18 (by omega), n8 19 (by omega), ← g2]
    exact l31_all b g1
  rw [Lbl.fm, ← ef, ← g3, List.take_append_drop]
theorem pL_or (b : List (BitVec 8)) : (∃ h, pL b = (0, h)) ∨ pL b = (150, lb0) := by
  unfold pL
  split
  · split
    · split
      · split
        · exact .inl ⟨_, rfl⟩
        · exact .inr rfl
      · exact .inr rfl
    · exact .inr rfl
  · exact .inr rfl
end Go.Proofs.YtjobaeopokfekaaGreat
