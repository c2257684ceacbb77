/-
  A label as plain mathematics: its fields, its bytes, and their reading.
-/
import Derived.Test.YtpmcdkijlpcmeaaCr
import Derived.Test.YtpmcdkijlpcmeaaLv
namespace Go.Proofs.Ytpmcdkijlpcmeaa
/-- A label. -/
structure Lbl where
  (a0 a1 a2 a3 a4 a5 a6 a7 : BitVec 8)
  (k m b ix ep : Int)
/-- Its eight bytes. -/
def Lbl.st (h : Lbl) : List (BitVec 8) := [h.a0, h.a1, h.a2, h.a3, h.a4, h.a5, h.a6, h.a7]
def lb0 : Lbl := ⟨0#8, 0#8, 0#8, 0#8, 0#8, 0#8, 0#8, 0#8, 0, 0, 0, 0, 0⟩
/-- May the shape be? -/
def shL (k m b : Int) : Prop := (1 ≤ m ∧ m ≤ k) ∧ k ≤ 255 - m ∧ 1 ≤ b ∧ b ≤ 65536
def shLDec (k m b : Int) : Decidable (shL k m b) := by unfold shL; exact inferInstance
/-- What check says. -/
def Lbl.ck (h : Lbl) : Int :=
  @ite _ (¬ shL h.k h.m h.b) (@instDecidableNot _ (shLDec h.k h.m h.b)) 4 <| if ¬ (0 ≤ h.ix ∧ h.ix ≤ h.k + h.m - 1) then 2 else if ¬ (0 ≤ h.ep ∧ h.ep ≤ 4294967295) then 2 else 0
/-- A label that may be, in plain numbers. -/
structure Lbl.Ok (h : Lbl) : Prop where
  k1 : 1 ≤ h.k
  k2 : h.k ≤ 254
  m1 : 1 ≤ h.m
  m2 : h.m ≤ 127
  m3 : h.m ≤ h.k
  km : h.k + h.m ≤ 255
  b1 : 1 ≤ h.b
  b2 : h.b ≤ 65536
  x1 : 0 ≤ h.ix
  x2 : h.ix < h.k + h.m
  e1 : 0 ≤ h.ep
  e2 : h.ep ≤ 4294967295
theorem ck_ok (h : Lbl) : h.ck = 0 ↔ h.Ok := by
  unfold Lbl.ck shL
  constructor
  · intro e
    split at e
    · cases e
    rename_i g1
    split at e
    · cases e
    rename_i g2
    split at e
    · cases e
    rename_i g3
    simp only [Decidable.not_not] at g1 g2 g3
    exact ⟨by omega, by omega, by omega, by omega, by omega, by omega, by omega, by omega, by omega, by omega, by omega, by omega⟩
  · rintro ⟨⟩
    rw [if_neg (by simp only [Decidable.not_not]; omega), if_neg (by simp only [Decidable.not_not]; omega), if_neg (by simp only [Decidable.not_not]; omega)]
def mkL : List (BitVec 8) := [67#8, 82#8, 78#8, 1#8]
/-- The first 27 bytes. -/
def Lbl.fx (h : Lbl) : List (BitVec 8) := mkL ++ h.st ++ lb 1 h.k.toNat ++ lb 1 h.m.toNat ++ lb 4 h.b.toNat ++ lb 1 h.ix.toNat ++ lb 8 h.ep.toNat
theorem Lbl.fx_len (h : Lbl) : h.fx.length = 27 := by simp [Lbl.fx, Lbl.st, mkL, lb_len]
/-- A sum's bytes. -/
def smL (s : BitVec 32) : List (BitVec 8) := lb 4 s.toNat
theorem smL_len (s : BitVec 32) : (smL s).length = 4 := lb_len _ _
/-- A label's bytes. -/
def Lbl.fm (h : Lbl) : List (BitVec 8) := h.fx ++ smL (cmo 0#32 h.fx)
theorem Lbl.fm_len (h : Lbl) : h.fm.length = 31 := by rw [Lbl.fm, List.length_append, Lbl.fx_len, smL_len]
/-- A piece. -/
def ctL (b : List (BitVec 8)) (at_ n : Nat) : List (BitVec 8) := (b.drop at_).take n
theorem ctL_len (b : List (BitVec 8)) (a n : Nat) (h : a + n ≤ b.length) : (ctL b a n).length = n := by simp only [ctL, List.length_take, List.length_drop]; omega
/-- A number of 64 bits as a number with a sign. -/
def s64 (n : Nat) : Int := if n < 9223372036854775808 then n else (n : Int) - 18446744073709551616
/-- What stands as a label. -/
def rlb (f : List (BitVec 8)) : Lbl :=
  ⟨f.getD 4 0#8, f.getD 5 0#8, f.getD 6 0#8, f.getD 7 0#8, f.getD 8 0#8, f.getD 9 0#8, f.getD 10 0#8, f.getD 11 0#8,
   lv (ctL f 12 1), lv (ctL f 13 1), lv (ctL f 14 4), lv (ctL f 18 1), s64 (lv (ctL f 19 8))⟩
/-- May bytes be read: the mark, the sum. -/
def mrk (b : List (BitVec 8)) : Bool := decide (b.take 4 = mkL)
def smd (b : List (BitVec 8)) : Bool := decide (b.drop 27 = smL (cmo 0#32 (b.take 27)))
/-- The reading. -/
def pL (b : List (BitVec 8)) : Int × Lbl :=
  if b.length = 31 then if mrk b = true then if smd b = true then if (rlb b).ck = 0 then (0, rlb b) else (150, lb0) else (150, lb0) else (150, lb0) else (150, lb0)
theorem rlb_fm (h : Lbl) (ok : h.Ok) : rlb h.fm = h := by
  have ek : ctL h.fm 12 1 = lb 1 h.k.toNat := rfl
  have em : ctL h.fm 13 1 = lb 1 h.m.toNat := rfl
  have eb : ctL h.fm 14 4 = lb 4 h.b.toNat := rfl
  have ei : ctL h.fm 18 1 = lb 1 h.ix.toNat := rfl
  have ee : ctL h.fm 19 8 = lb 8 h.ep.toNat := rfl
  have p1 : 256 ^ 1 = 256 := rfl
  have p4 : 256 ^ 4 = 4294967296 := rfl
  have p8 : 256 ^ 8 = 18446744073709551616 := rfl
  have k1 := ok.k1
  have k2 := ok.k2
  have m1 := ok.m1
  have m2 := ok.m2
  have b1 := ok.b1
  have b2 := ok.b2
  have x1 := ok.x1
  have x2 := ok.x2
  have km := ok.km
  have e1 := ok.e1
  have e2 := ok.e2
  unfold rlb
  rw [ek, em, eb, ei, ee, lv_lb 1 _ (by omega), lv_lb 1 _ (by omega), lv_lb 4 _ (by omega), lv_lb 1 _ (by omega), lv_lb 8 _ (by omega),
    Int.toNat_of_nonneg (by omega), Int.toNat_of_nonneg (by omega), Int.toNat_of_nonneg (by omega), Int.toNat_of_nonneg (by omega)]
  have : s64 h.ep.toNat = h.ep := by unfold s64; rw [if_pos (by omega)]; omega
  rw [this]
  rfl
theorem pL_fm (h : Lbl) (ok : h.Ok) : pL h.fm = (0, h) := by
  have e4 : mrk h.fm = true := by unfold mrk; exact decide_eq_true rfl
  have e27 : h.fm.take 27 = h.fx := by rw [Lbl.fm, List.take_append_of_le_length (by rw [Lbl.fx_len]; exact Nat.le_refl _), List.take_of_length_le (by rw [Lbl.fx_len]; exact Nat.le_refl _)]
  have es : smd h.fm = true := by
    unfold smd
    apply decide_eq_true
    rw [e27, Lbl.fm, List.drop_append_of_le_length (by rw [Lbl.fx_len]; exact Nat.le_refl _), List.drop_of_length_le (by rw [Lbl.fx_len]; exact Nat.le_refl _), List.nil_append]
  unfold pL
  rw [if_pos h.fm_len, if_pos e4, if_pos es, rlb_fm h ok, if_pos ((ck_ok h).2 ok)]
theorem l31_st (b : List (BitVec 8)) (h : b.length = 31) : [b.getD 4 0#8, b.getD 5 0#8, b.getD 6 0#8, b.getD 7 0#8, b.getD 8 0#8, b.getD 9 0#8, b.getD 10 0#8, b.getD 11 0#8] = ctL b 4 8 := by
  match b, h with
  | [_, _, _, _, _, _, _, _, _, _, _, _, _, _, _, _, _, _, _, _, _, _, _, _, _, _, _, _, _, _, _], _ => rfl
theorem l31_all (b : List (BitVec 8)) (h : b.length = 31) : b.take 27 = b.take 4 ++ ctL b 4 8 ++ ctL b 12 1 ++ ctL b 13 1 ++ ctL b 14 4 ++ ctL b 18 1 ++ ctL b 19 8 := by
  match b, h with
  | [_, _, _, _, _, _, _, _, _, _, _, _, _, _, _, _, _, _, _, _, _, _, _, _, _, _, _, _, _, _, _], _ => rfl
theorem pL_inv (b : List (BitVec 8)) (h : Lbl) (e : pL b = (0, h)) : h.Ok ∧ b = h.fm := by
  unfold pL at e
  by_cases g1 : b.length = 31
  case neg => rw [if_neg g1] at e; injection e with e1; cases e1
  rw [if_pos g1] at e
  by_cases g2 : mrk b = true
  case neg => rw [if_neg g2] at e; injection e with e1; cases e1
  rw [if_pos g2] at e
  by_cases g3 : smd b = true
  case neg => rw [if_neg g3] at e; injection e with e1; cases e1
  rw [if_pos g3] at e
  by_cases g4 : (rlb b).ck = 0
  case neg => rw [if_neg g4] at e; injection e with e1; cases e1
  rw [if_pos g4] at e
  injection e with _ e
  have ok := (ck_ok _).1 g4
  rw [e] at ok
  refine ⟨ok, ?_⟩
  unfold mrk at g2
  unfold smd at g3
  have g2 := of_decide_eq_true g2
  have g3 := of_decide_eq_true g3
  have ef : b.take 27 = h.fx := by
    have n1 : ∀ a, a + 1 ≤ 31 → lb 1 (lv (ctL b a 1)) = ctL b a 1 := fun a ha => by have := lb_lv (ctL b a 1); rwa [ctL_len _ _ _ (by omega)] at this
    have n4 : ∀ a, a + 4 ≤ 31 → lb 4 (lv (ctL b a 4)) = ctL b a 4 := fun a ha => by have := lb_lv (ctL b a 4); rwa [ctL_len _ _ _ (by omega)] at this
    have n8 : ∀ a, a + 8 ≤ 31 → lb 8 (lv (ctL b a 8)) = ctL b a 8 := fun a ha => by have := lb_lv (ctL b a 8); rwa [ctL_len _ _ _ (by omega)] at this
    have e0 := ok.e1
    have e00 := ok.e2
    have hk : h.k.toNat = lv (ctL b 12 1) := by rw [← e]; simp [rlb]
    have hm : h.m.toNat = lv (ctL b 13 1) := by rw [← e]; simp [rlb]
    have hb : h.b.toNat = lv (ctL b 14 4) := by rw [← e]; simp [rlb]
    have hx : h.ix.toNat = lv (ctL b 18 1) := by rw [← e]; simp [rlb]
    have hee : h.ep = s64 (lv (ctL b 19 8)) := by rw [← e]; rfl
    have he : h.ep.toNat = lv (ctL b 19 8) := by
      have hl := lv_lt (ctL b 19 8)
      rw [ctL_len _ _ _ (by omega)] at hl
      have p8 : 256 ^ 8 = 18446744073709551616 := rfl
      unfold s64 at hee
      split at hee <;> omega
    have hst : h.st = ctL b 4 8 := by rw [← e]; exact l31_st b g1
    unfold Lbl.fx
    rw [hk, hm, hb, hx, he, hst, n1 12 (by omega), n1 13 (by omega), n4 14 (by omega), n1 18 (by omega), n8 19 (by omega), ← g2]
    exact l31_all b g1
  rw [Lbl.fm, ← ef, ← g3, List.take_append_drop]
theorem pL_or (b : List (BitVec 8)) : (∃ h, pL b = (0, h)) ∨ pL b = (150, lb0) := by
  unfold pL
  split
  · split
    · split
      · split
        · exact .inl ⟨_, rfl⟩
        · exact .inr rfl
      · exact .inr rfl
    · exact .inr rfl
  · exact .inr rfl
end Go.Proofs.Ytpmcdkijlpcmeaa
