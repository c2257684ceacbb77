/-
  Findings: which is worse; the first of which none is worse.
-/
import Derived.Test.YtnnepmofhedkpaaGb20
import Derived.Laws.Strings
namespace Go.Proofs.Ytnnepmofhedkpaa
open Go.RowKit
/-- Texts in order. -/
theorem bl_irr : ∀ x : List UInt8, Op.bytesLess x x = false
  | [] => rfl
  | a :: x => by
    have h : ¬ a < a := by simp
    simp [Op.bytesLess, h, bl_irr x]
theorem bl_tri : ∀ x y : List UInt8, Op.bytesLess x y = true ∨ x = y ∨ Op.bytesLess y x = true
  | [], [] => .inr (.inl rfl)
  | [], _ :: _ => .inl rfl
  | _ :: _, [] => .inr (.inr rfl)
  | a :: x, b :: y => by
    by_cases h1 : a < b
    · exact .inl (by simp [Op.bytesLess, h1])
    · by_cases h2 : b < a
      · exact .inr (.inr (by simp [Op.bytesLess, h2]))
      · have e : a = b := by
          rw [UInt8.lt_iff_toNat_lt] at h1 h2
          exact UInt8.toNat_inj.1 (by omega)
        subst e
        rcases bl_tri x y with h | h | h
        · exact .inl (by simp [Op.bytesLess, h])
        · exact .inr (.inl (by rw [h]))
        · exact .inr (.inr (by simp [Op.bytesLess, h]))
theorem bl_trans : ∀ {x y z : List UInt8}, Op.bytesLess x y = true → Op.bytesLess y z = true → Op.bytesLess x z = true
  | _, _, [], _, h => by simp [Op.bytesLess] at h
  | _, [], _ :: _, h, _ => by simp [Op.bytesLess] at h
  | [], _ :: _, _ :: _, _, _ => rfl
  | a :: x, b :: y, c :: z, h1, h2 => by
    simp only [Op.bytesLess, Bool.or_eq_true, decide_eq_true_eq, Bool.and_eq_true, beq_iff_eq] at h1 h2 ⊢
    rw [UInt8.lt_iff_toNat_lt] at *
    rcases h1 with h1 | ⟨rfl, h1⟩
    · rcases h2 with h2 | ⟨rfl, h2⟩
      · exact .inl (by omega)
      · exact .inl h1
    · rcases h2 with h2 | ⟨rfl, h2⟩
      · exact .inl h2
      · exact .inr ⟨rfl, bl_trans h1 h2⟩
def sl (a b : ByteArray) : Bool := Op.bytesLess a.toList b.toList
theorem sl_irr (a : ByteArray) : sl a a = false := bl_irr _
theorem sl_trans {a b c : ByteArray} (h1 : sl a b = true) (h2 : sl b c = true) : sl a c = true := bl_trans h1 h2
theorem sl_asym {a b : ByteArray} (h1 : sl a b = true) : sl b a = false := by
  cases h : sl b a with
  | false => rfl
  | true => have := sl_trans h1 h; rw [sl_irr] at this; cases this
theorem ba_ext {a b : ByteArray} (h : a.toList = b.toList) : a = b := by
  rw [ByteArray.toList_eq, ByteArray.toList_eq] at h
  obtain ⟨⟨la⟩⟩ := a
  obtain ⟨⟨lb⟩⟩ := b
  simp at h
  rw [h]
theorem sl_tri (a b : ByteArray) : sl a b = true ∨ a = b ∨ sl b a = true := by
  rcases bl_tri a.toList b.toList with h | h | h
  · exact .inl h
  · exact .inr (.inl (ba_ext h))
  · exact .inr (.inr h)
theorem sl_ntrans {a b c : ByteArray} (h1 : sl a b = false) (h2 : sl b c = false) : sl a c = false := by
  cases h : sl a c with
  | false => rfl
  | true =>
    rcases sl_tri a b with e | e | e
    · rw [e] at h1; cases h1
    · rw [e, h2] at h; cases h
    · have := sl_trans e h; rw [this] at h2; cases h2
/-- A finding. -/
structure Fi where
  ks : ByteArray
  kd : Int
  ep : Int
  ct : Int
  wh : Int
  st : Int
  sp : Int
  si : Int
def Fi.cs (f : Fi) : Array Value := #[.string f.ks, .int .i64 f.kd, .int .i64 f.ep, .int .i64 f.ct, .int .i64 f.wh, .int .i64 f.st, .int .i64 f.sp, .int .i64 f.si]
def fi0 : Fi := ⟨⟨#[]⟩, 0, 0, 0, 0, 0, 0, 0⟩
def mkf : Fi := ⟨⟨#[109, 97, 114, 107]⟩, 0, 0, 0, -1, 0, 0, 0⟩
def dbt (k : Int) : Int := if k = 2 then 2 else if k = 1 then 1 else 0
def Fi.sm (f : Fi) : Int := wrap64 (wrap64 (f.st + f.sp) + f.si)
theorem wr2 (x y z : Int) : IntKind.i64.wrap (IntKind.i64.wrap (x + y) + z) = wrap64 (wrap64 (x + y) + z) := by
  rw [IntKind.wrap_i64, IntKind.wrap_i64]
  unfold wrap64
  omega
/-- Is the first one worse? -/
def worse (a b : Fi) : Bool :=
  if dbt a.kd = dbt b.kd then
    if a.wh = b.wh then
      if a.sm = b.sm then sl a.ks b.ks else decide (b.sm < a.sm)
    else decide (a.wh < b.wh)
  else decide (dbt b.kd < dbt a.kd)
theorem worse_irr (a : Fi) : worse a a = false := by simp [worse, sl_irr]
theorem worse_ntrans {a b c : Fi} (h1 : worse a b = false) (h2 : worse b c = false) : worse a c = false := by
  unfold worse at *
  generalize a.sm = ax at *
  generalize b.sm = bx at *
  generalize c.sm = cx at *
  generalize dbt a.kd = ad at *
  generalize dbt b.kd = bd at *
  generalize dbt c.kd = cd at *
  by_cases e1 : ad = bd
  · rw [if_pos e1] at h1
    by_cases e2 : bd = cd
    · rw [if_pos e2] at h2
      rw [if_pos (by omega)]
      by_cases f1 : a.wh = b.wh
      · rw [if_pos f1] at h1
        by_cases f2 : b.wh = c.wh
        · rw [if_pos f2] at h2
          rw [if_pos (by omega)]
          by_cases g1 : ax = bx
          · rw [if_pos g1] at h1
            by_cases g2 : bx = cx
            · rw [if_pos g2] at h2
              rw [if_pos (by omega)]
              exact sl_ntrans h1 h2
            · rw [if_neg g2] at h2
              have := of_decide_eq_false h2
              rw [if_neg (by omega)]
              exact decide_eq_false (by omega)
          · rw [if_neg g1] at h1
            have := of_decide_eq_false h1
            by_cases g2 : bx = cx
            · rw [if_neg (by omega)]
              exact decide_eq_false (by omega)
            · rw [if_neg g2] at h2
              have := of_decide_eq_false h2
              rw [if_neg (by omega)]
              exact decide_eq_false (by omega)
        · rw [if_neg f2] at h2
          have := of_decide_eq_false h2
          rw [if_neg (by omega)]
          exact decide_eq_false (by omega)
      · rw [if_neg f1] at h1
        have := of_decide_eq_false h1
        by_cases f2 : b.wh = c.wh
        · rw [if_neg (by omega)]
          exact decide_eq_false (by omega)
        · rw [if_neg f2] at h2
          have := of_decide_eq_false h2
          rw [if_neg (by omega)]
          exact decide_eq_false (by omega)
    · rw [if_neg e2] at h2
      have := of_decide_eq_false h2
      rw [if_neg (by omega)]
      exact decide_eq_false (by omega)
  · rw [if_neg e1] at h1
    have := of_decide_eq_false h1
    by_cases e2 : bd = cd
    · rw [if_neg (by omega)]
      exact decide_eq_false (by omega)
    · rw [if_neg e2] at h2
      have := of_decide_eq_false h2
      rw [if_neg (by omega)]
      exact decide_eq_false (by omega)
theorem worse_asym {a b : Fi} (h : worse a b = true) : worse b a = false := by
  cases h2 : worse b a with
  | false => rfl
  | true =>
    exfalso
    unfold worse at h h2
    by_cases e : dbt a.kd = dbt b.kd
    · rw [if_pos e] at h
      rw [if_pos e.symm] at h2
      by_cases f : a.wh = b.wh
      · rw [if_pos f] at h
        rw [if_pos f.symm] at h2
        by_cases g : a.sm = b.sm
        · rw [if_pos g] at h
          rw [if_pos g.symm] at h2
          rw [sl_asym h] at h2
          cases h2
        · rw [if_neg g] at h
          rw [if_neg (Ne.symm g)] at h2
          have := of_decide_eq_true h
          have := of_decide_eq_true h2
          omega
      · rw [if_neg f] at h
        rw [if_neg (Ne.symm f)] at h2
        have := of_decide_eq_true h
        have := of_decide_eq_true h2
        omega
    · rw [if_neg e] at h
      rw [if_neg (Ne.symm e)] at h2
      have := of_decide_eq_true h
      have := of_decide_eq_true h2
      omega
theorem worse_trans {a b c : Fi} (h1 : worse a b = true) (h2 : worse b c = true) : worse a c = true := by
  cases h : worse a c with
  | true => rfl
  | false => rw [worse_ntrans h (worse_asym h2)] at h1; cases h1
/-- Neither is worse: alike in all that counts. -/
theorem worse_eq {a b : Fi} (h1 : worse a b = false) (h2 : worse b a = false) : a.ks = b.ks ∧ a.wh = b.wh ∧ a.sm = b.sm := by
  unfold worse at h1 h2
  by_cases e : dbt a.kd = dbt b.kd
  · rw [if_pos e] at h1
    rw [if_pos e.symm] at h2
    by_cases f : a.wh = b.wh
    · rw [if_pos f] at h1
      rw [if_pos f.symm] at h2
      by_cases g : a.sm = b.sm
      · rw [if_pos g] at h1
        rw [if_pos g.symm] at h2
        refine ⟨?_, f, g⟩
        rcases sl_tri a.ks b.ks with h | h | h
        · rw [h] at h1; cases h1
        · exact h
        · rw [h] at h2; cases h2
      · rw [if_neg g] at h1
        rw [if_neg (Ne.symm g)] at h2
        have := of_decide_eq_false h1
        have := of_decide_eq_false h2
        omega
    · rw [if_neg f] at h1
      rw [if_neg (Ne.symm f)] at h2
      have := of_decide_eq_false h1
      have := of_decide_eq_false h2
      omega
  · rw [if_neg e] at h1
    rw [if_neg (Ne.symm e)] at h2
    have := of_decide_eq_false h1
    have := of_decide_eq_false h2
    omega
/-- What is compared with what. -/
def cmpi (x y : Int) : Int := if x < y then -1 else if y < x then 1 else 0
def cmps (x y : ByteArray) : Int := if sl x y = true then -1 else if (!(sl x y || x.toList == y.toList)) = true then 1 else 0
def or4 (p q r s : Int) : Int := if p = 0 then if q = 0 then if r = 0 then s else r else q else p
def wfi (a b : Fi) : Int := or4 (cmpi (dbt b.kd) (dbt a.kd)) (cmpi a.wh b.wh) (cmpi b.sm a.sm) (cmps a.ks b.ks)
theorem cmpi_z (x y : Int) : cmpi x y = 0 ↔ x = y := by unfold cmpi; split <;> (try split) <;> omega
theorem cmpi_n (x y : Int) : cmpi x y < 0 ↔ x < y := by unfold cmpi; split <;> (try split) <;> omega
theorem cmps_n (x y : ByteArray) : cmps x y < 0 ↔ sl x y = true := by unfold cmps; split <;> (try split) <;> simp_all
theorem wfi_lt (a b : Fi) : decide (wfi a b < 0) = worse a b := by
  unfold wfi or4 worse
  by_cases e : dbt a.kd = dbt b.kd
  · rw [if_pos ((cmpi_z _ _).2 e.symm), if_pos e]
    by_cases f : a.wh = b.wh
    · rw [if_pos ((cmpi_z _ _).2 f), if_pos f]
      by_cases g : a.sm = b.sm
      · rw [if_pos ((cmpi_z _ _).2 g.symm), if_pos g]
        have := cmps_n a.ks b.ks
        cases h : sl a.ks b.ks with
        | true => exact decide_eq_true (this.2 h)
        | false => exact decide_eq_false (fun x => by rw [this.1 x] at h; cases h)
      · rw [if_neg (fun x => g ((cmpi_z _ _).1 x).symm), if_neg g]
        exact decide_eq_decide.2 (cmpi_n _ _)
    · rw [if_neg (fun x => f ((cmpi_z _ _).1 x)), if_neg f]
      exact decide_eq_decide.2 (cmpi_n _ _)
  · rw [if_neg (fun x => e ((cmpi_z _ _).1 x).symm), if_neg e]
    exact decide_eq_decide.2 (cmpi_n _ _)
/-- The first of which none is worse: how far it is, and it. -/
def bi (f : Nat → Fi) : Nat → Nat
  | 0 => 0
  | k + 1 => if worse (f (k + 1)) (f (bi f k)) = true then k + 1 else bi f k
theorem bi_le (f : Nat → Fi) : ∀ k, bi f k ≤ k
  | 0 => Nat.le_refl _
  | k + 1 => by
    unfold bi
    split
    · exact Nat.le_refl _
    · exact Nat.le_succ_of_le (bi_le f k)
theorem bi_best (f : Nat → Fi) : ∀ k j, j ≤ k → worse (f j) (f (bi f k)) = false
  | 0, j, h => by
    have : j = 0 := by omega
    subst this
    exact worse_irr _
  | k + 1, j, h => by
    have IH := bi_best f k
    unfold bi
    split
    · rename_i h1
      by_cases e : j = k + 1
      · subst e; exact worse_irr _
      · cases h2 : worse (f j) (f (k + 1)) with
        | false => rfl
        | true =>
          have := worse_trans h2 h1
          rw [IH j (by omega)] at this
          cases this
    · rename_i h1
      by_cases e : j = k + 1
      · subst e; simpa using h1
      · exact IH j (by omega)
theorem bi_first (f : Nat → Fi) : ∀ k j, j < bi f k → worse (f (bi f k)) (f j) = true
  | 0, j, h => by simp [bi] at h
  | k + 1, j, h => by
    have IH := bi_first f k
    have IB := bi_best f k
    unfold bi at h ⊢
    split at h
    · rename_i h1
      rw [if_pos h1]
      cases h2 : worse (f (k + 1)) (f j) with
      | true => rfl
      | false => rw [worse_ntrans h2 (IB j (by omega))] at h1; cases h1
    · rename_i h1
      rw [if_neg h1]
      exact IH j h
/-- Is none of the first m worse than it? -/
def nnw (f : Nat → Fi) (m : Nat) (x : Fi) : Bool := (List.range m).all (fun j => !worse (f j) x)
theorem nnw_zero (f : Nat → Fi) (x : Fi) : nnw f 0 x = true := rfl
theorem nnw_succ (f : Nat → Fi) (m : Nat) (x : Fi) : nnw f (m + 1) x = (nnw f m x && !worse (f m) x) := by
  unfold nnw
  rw [List.range_succ, List.all_append]
  simp
theorem nnw_iff (f : Nat → Fi) (m : Nat) (x : Fi) : nnw f m x = true ↔ ∀ j, j < m → worse (f j) x = false := by
  unfold nnw
  simp
theorem nnw_bi (f : Nat → Fi) (k : Nat) : nnw f (k + 1) (f (bi f k)) = true := (nnw_iff _ _ _).2 fun j hj => bi_best f k j (by omega)
theorem nnw_first (f : Nat → Fi) (k i : Nat) (h : nnw f (k + 1) (f i) = true) (hi : ∀ j, j < i → nnw f (k + 1) (f j) = false) : i = bi f k := by
  have h1 := nnw_bi f k
  rcases Nat.lt_trichotomy i (bi f k) with h2 | h2 | h2
  · have h3 := bi_first f k i h2
    have h4 := (nnw_iff _ _ _).1 h (bi f k) (by have := bi_le f k; omega)
    rw [h3] at h4; cases h4
  · exact h2
  · rw [hi _ h2] at h1; cases h1
end Go.Proofs.Ytnnepmofhedkpaa
