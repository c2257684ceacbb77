/-
  The document's Join: 'turned', 'times', as plain mathematics.
-/
import Derived.Test.YtmpccpcnbenpfaaGz
namespace Go.Proofs.Ytmpccpcnbenpfaa
open Go.RowKit Go.Great
theorem sumOf_lin (t : Nat → BitVec 32) (n : Nat) : Lin (fun a => sumOf t a n) := by
  induction n with
  | zero => intro a b; show 0#32 = 0#32 ^^^ 0#32; rfl
  | succ n ih => exact Lin.xor ih (Lin.pck n (t n))
theorem pck_one (n i : Nat) (m : BitVec 32) (hn : n < 32) : pck n m (1#32 <<< i) = if n = i then m else 0#32 := by
  unfold pck; rw [one_shl i n hn]; simp
theorem sumOf_one (t : Nat → BitVec 32) (i n : Nat) (hn : n ≤ 32) : sumOf t (1#32 <<< i) n = if i < n then t i else 0#32 := by
  induction n with
  | zero => rfl
  | succ n ih =>
    show sumOf t (1#32 <<< i) n ^^^ pck n (t n) (1#32 <<< i) = _
    rw [ih (by omega), pck_one n i _ (by omega)]
    by_cases h1 : i < n
    · simp [h1, show ¬ n = i by omega, show i < n + 1 by omega]
    · by_cases h2 : n = i
      · subst h2; simp
      · simp [h1, h2, show ¬ i < n + 1 by omega]
/-- The bits the other way round. -/
def rvk (a : BitVec 32) (n : Nat) : BitVec 32 := sumOf (fun i => 1#32 <<< (31 - i)) a n
def rv (a : BitVec 32) : BitVec 32 := rvk a 32
theorem Lin.rv : Lin rv := sumOf_lin _ 32
theorem rv_one (i : Nat) (hi : i < 32) : rv (1#32 <<< i) = 1#32 <<< (31 - i) := by
  show sumOf _ _ 32 = _
  rw [sumOf_one _ i 32 (Nat.le_refl _), if_pos hi]
theorem rv_rv (a : BitVec 32) : rv (rv a) = a :=
  lin_ext (Lin.comp Lin.rv Lin.rv) Lin.id (fun i hi => by rw [rv_one i hi, rv_one _ (by omega), show 31 - (31 - i) = i by omega]) a
theorem xp_bit (i : Nat) (hi : i < 32) : xp i = 1#32 <<< (31 - i) := by
  have : ∀ i, i < 32 → xp i = 1#32 <<< (31 - i) := by decide +kernel
  exact this i hi
theorem stp_bit (j : Nat) (h : j + 1 < 32) : stp (1#32 <<< (j + 1)) = 1#32 <<< j := by
  have : ∀ j, j < 31 → stp (1#32 <<< (j + 1)) = 1#32 <<< j := by decide +kernel
  exact this j (by omega)
/-- A times the power that q is, q in the register's order. -/
def md (A q : BitVec 32) : BitVec 32 := sumOf (fun i => stps i A) (rv q) 32
theorem md_lin (A : BitVec 32) : Lin (md A) := fun a b => by
  unfold md; rw [Lin.rv]; exact sumOf_lin _ 32 _ _
theorem md_bit (A : BitVec 32) (j : Nat) (hj : j < 32) : md A (1#32 <<< j) = stps (31 - j) A := by
  unfold md; rw [rv_one j hj, sumOf_one _ _ 32 (Nat.le_refl _), if_pos (by omega)]
theorem sumOf_linA (s : BitVec 32) (n : Nat) : Lin (fun A => sumOf (fun i => stps i A) s n) := by
  induction n with
  | zero => intro a b; show 0#32 = 0#32 ^^^ 0#32; rfl
  | succ n ih =>
    refine Lin.xor ih (fun a b => ?_)
    show pck n (stps n (a ^^^ b)) s = pck n (stps n a) s ^^^ pck n (stps n b) s
    rw [Lin.stps]; unfold pck; cases s.getLsbD n <;> simp
theorem md_P (A : BitVec 32) : md A P32 = stps 32 A :=
  lin_ext (f := fun A => md A P32) (sumOf_linA (rv P32) 32) (Lin.stps 32) (by decide +kernel) A
theorem md_stp (A q : BitVec 32) : md A (stp q) = stp (md A q) :=
  lin_ext (Lin.comp (md_lin A) Lin.stp) (Lin.comp Lin.stp (md_lin A)) (fun j hj => by
    show md A (stp (1#32 <<< j)) = stp (md A (1#32 <<< j))
    rw [md_bit A j hj, ← stps_succ]
    cases j with
    | zero =>
      have e : stp (1#32 <<< 0) = P32 := by decide +kernel
      rw [e, md_P]
    | succ j => rw [stp_bit j hj, md_bit A j (by omega)]; congr 1; omega) q
theorem md_xp (A : BitVec 32) (e : Nat) : md A (xp e) = stps e A := by
  unfold xp
  induction e with
  | zero =>
    show md A X0 = A
    have : X0 = 1#32 <<< 31 := by decide +kernel
    rw [this, md_bit A 31 (by omega)]; rfl
  | succ e ih => rw [stps_succ, md_stp, ih, ← stps_succ]
theorem sum_xp (A s : BitVec 32) (e : Nat) (h : rv s = xp e) : sumOf (fun i => stps i A) s 32 = stps e A := by
  have : s = rv (xp e) := by rw [← h, rv_rv]
  rw [this]; exact md_xp A e

/-! ### Sixty-four bits -/
def rq (a : BitVec 64) : Int := (a.toNat : Int)
/-- The rest of a polynomial below x^64, in the register's order. -/
def s64 (p : BitVec 64) : Nat → BitVec 32
  | 0 => 0#32
  | n + 1 => s64 p n ^^^ (if p.getLsbD n then xp n else 0#32)
theorem s64_succ (p : BitVec 64) (n : Nat) : s64 p (n + 1) = s64 p n ^^^ (if p.getLsbD n then xp n else 0#32) := rfl
theorem s64_xor (p q : BitVec 64) (n : Nat) : s64 (p ^^^ q) n = s64 p n ^^^ s64 q n := by
  induction n with
  | zero => show 0#32 = 0#32 ^^^ 0#32; rfl
  | succ n ih =>
    rw [s64_succ, s64_succ, s64_succ, ih, BitVec.getLsbD_xor, xx4]
    congr 1
    cases p.getLsbD n <;> cases q.getLsbD n <;> simp
theorem one_shl64 (n i : Nat) (hi : i < 64) : (1#64 <<< n).getLsbD i = decide (i = n) := by
  rw [BitVec.getLsbD_shiftLeft]
  by_cases h : i = n
  · subst h; simp [hi]
  · by_cases h2 : i < n
    · simp [h2, h]
    · have e : i - n ≠ 0 := by omega
      rw [BitVec.getLsbD_one]
      simp [h, e]
theorem s64_one (i n : Nat) (hn : n ≤ 64) : s64 (1#64 <<< i) n = if i < n then xp i else 0#32 := by
  induction n with
  | zero => rfl
  | succ n ih =>
    rw [s64_succ, ih (by omega), one_shl64 i n (by omega)]
    by_cases h1 : i < n
    · simp [h1, show ¬ n = i by omega, show i < n + 1 by omega]
    · by_cases h2 : n = i
      · subst h2; simp
      · simp [h1, h2, show ¬ i < n + 1 by omega]
def val (p : BitVec 64) : BitVec 32 := s64 p 64
theorem val_xor (p q : BitVec 64) : val (p ^^^ q) = val p ^^^ val q := s64_xor p q 64
theorem val_one (i : Nat) (hi : i < 64) : val (1#64 <<< i) = xp i := by unfold val; rw [s64_one i 64 (Nat.le_refl _), if_pos hi]
theorem sw64_xor (x y : BitVec 32) : (x ^^^ y).setWidth 64 = x.setWidth 64 ^^^ y.setWidth 64 := by
  apply BitVec.eq_of_getLsbD_eq; intro i hi
  simp only [BitVec.getLsbD_setWidth, BitVec.getLsbD_xor]
  simp [hi]
theorem shl64_xor (x y : BitVec 64) (k : Nat) : (x ^^^ y) <<< k = x <<< k ^^^ y <<< k := by
  apply BitVec.eq_of_getLsbD_eq; intro i hi
  simp only [BitVec.getLsbD_xor, BitVec.getLsbD_shiftLeft]
  cases x.getLsbD (i - k) <;> cases y.getLsbD (i - k) <;> simp
theorem val_shl (a : BitVec 32) (k : Nat) (hk : k < 32) : val (a.setWidth 64 <<< k) = stps k (rv a) := by
  refine lin_ext (f := fun a => val (a.setWidth 64 <<< k)) (g := fun a => stps k (rv a)) (fun x y => by show val _ = _; rw [sw64_xor, shl64_xor, val_xor]) (Lin.comp (Lin.stps k) Lin.rv) (fun i hi => ?_) a
  show val ((1#32 <<< i).setWidth 64 <<< k) = stps k (rv (1#32 <<< i))
  have e : (1#32 <<< i).setWidth 64 <<< k = 1#64 <<< (i + k) := by
    have : ∀ i, i < 32 → ∀ k, k < 32 → (1#32 <<< i).setWidth 64 <<< k = 1#64 <<< (i + k) := by decide +kernel
    exact this i hi k hk
  rw [e, val_one _ (by omega), rv_one i hi, ← xp_bit i hi]
  unfold xp; rw [← stps_add]
theorem val_low (p : BitVec 64) (h : ∀ j, 32 ≤ j → p.getLsbD j = false) : val p = rv (p.setWidth 32) := by
  have h1 : ∀ n, n ≤ 32 → s64 p n = rvk (p.setWidth 32) n := by
    intro n
    induction n with
    | zero => intro _; rfl
    | succ n ih =>
      intro hn
      show s64 p n ^^^ _ = rvk (p.setWidth 32) n ^^^ pck n (1#32 <<< (31 - n)) (p.setWidth 32)
      rw [ih (by omega), xp_bit n (by omega)]
      unfold pck
      rw [BitVec.getLsbD_setWidth]; simp [show n < 32 by omega]
  have h2 : ∀ n, s64 p (32 + n) = s64 p 32 := by
    intro n
    induction n with
    | zero => rfl
    | succ n ih => rw [show 32 + (n + 1) = 32 + n + 1 by omega, s64_succ, ih, h (32 + n) (by omega)]; simp
  have h3 := h2 32
  unfold val rv
  rw [h3, h1 32 (Nat.le_refl _)]
/-- The first c terms, laid so that the first stands at the place i. -/
def fl (i : Nat) : Nat → BitVec 64
  | 0 => 0#64
  | c + 1 => fl i c ^^^ 1#64 <<< (i - tk c)
theorem fl_succ (i c : Nat) : fl i (c + 1) = fl i c ^^^ 1#64 <<< (i - tk c) := rfl
theorem fl_get (i c j : Nat) (hc : c ≤ 18) (hi : 32 ≤ i) (hi2 : i < 64) (hj : j ≤ i) : (fl i c).getLsbD j = cn c (i - j) := by
  induction c with
  | zero => simp [fl, cn]
  | succ c ih =>
    rw [fl_succ, BitVec.getLsbD_xor, ih (by omega), one_shl64 _ j (by omega), cn_succ]
    have := tk_le c (by omega)
    congr 1
    exact decide_eq_decide.2 ⟨fun h => by omega, fun h => by omega⟩
theorem fl_top (i c j : Nat) (hc : c ≤ 18) (hj : i < j) : (fl i c).getLsbD j = false := by
  induction c with
  | zero => simp [fl]
  | succ c ih =>
    rw [fl_succ, BitVec.getLsbD_xor, ih (by omega)]
    by_cases h : j < 64
    · rw [one_shl64 _ j h]; simp; omega
    · rw [BitVec.getLsbD_of_ge _ j (by omega)]; rfl
def xt : Nat → BitVec 32
  | 0 => 0#32
  | c + 1 => xt c ^^^ xp (32 - tk c)
theorem val_fl (i c : Nat) (hc : c ≤ 18) (hi : 32 ≤ i) (hi2 : i < 64) : val (fl i c) = stps (i - 32) (xt c) := by
  induction c with
  | zero => show val 0#64 = stps (i - 32) 0#32; rw [(Lin.stps _).zero]; decide +kernel
  | succ c ih =>
    have := tk_le c (by omega)
    rw [fl_succ, val_xor, ih (by omega), val_one _ (by omega)]
    show _ = stps (i - 32) (xt c ^^^ xp (32 - tk c))
    rw [Lin.stps]; congr 1
    unfold xp; rw [← stps_add]; congr 1; omega
theorem val_fl18 (i : Nat) (hi : 32 ≤ i) (hi2 : i < 64) : val (fl i 18) = 0#32 := by
  rw [val_fl i 18 (Nat.le_refl _) hi hi2, show xt 18 = 0#32 by decide +kernel, (Lin.stps _).zero]
end Go.Proofs.Ytmpccpcnbenpfaa
