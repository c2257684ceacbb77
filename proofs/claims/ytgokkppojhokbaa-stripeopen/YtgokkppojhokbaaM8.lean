/-
  The form of a shard, as plain mathematics: heads, lengths of blocks, the bytes, and their reading.
-/
import Derived.Test.YtgokkppojhokbaaCr
import Derived.Test.YtgokkppojhokbaaLv
namespace Go.Proofs.Ytgokkppojhokbaa
/-- A head. -/
structure Hd where
  (a0 a1 a2 a3 a4 a5 a6 a7 : BitVec 8)
  (k m b : Int)
  (key : List (BitVec 8))
  (sz ix ep ct : Int)
/-- Its eight bytes. -/
def Hd.st (h : Hd) : List (BitVec 8) := [h.a0, h.a1, h.a2, h.a3, h.a4, h.a5, h.a6, h.a7]
def hd0 : Hd := ⟨0#8, 0#8, 0#8, 0#8, 0#8, 0#8, 0#8, 0#8, 0, 0, 0, [], 0, 0, 0, 0⟩
/-- May the shape be? -/
def shp (k m b : Int) : Prop := (1 ≤ m ∧ m ≤ k) ∧ k ≤ 255 - m ∧ 1 ≤ b ∧ b ≤ 65536
/-- Rounded up. -/
def cdv (a p : Int) : Int := (a + p - 1) / p
def szE (k b sz : Int) : Int := if sz < 0 then 2 else if 1048576 < sz ∨ 4096 < cdv sz (k * b) then 3 else 0
def shpDec (k m b : Int) : Decidable (shp k m b) := by unfold shp; exact inferInstance
/-- What Check says. -/
def chk (h : Hd) : Int :=
  @ite _ (¬ shp h.k h.m h.b) (@instDecidableNot _ (shpDec h.k h.m h.b)) 4 <| if ¬ (1 ≤ h.key.length ∧ h.key.length ≤ 255) then 90 else if szE h.k h.b h.sz ≠ 0 then szE h.k h.b h.sz
  else if ¬ (0 ≤ h.ix ∧ h.ix ≤ h.k + h.m - 1) then 2 else if ¬ ((1 ≤ h.ep ∧ h.ep ≤ 4294967295) ∧ 1 ≤ h.ct ∧ h.ct ≤ 4294967295) then 2 else 0
/-- The lengths of the blocks. -/
def bls (k s : Nat) : Nat → Nat → List Nat
  | 0, _ => []
  | f + 1, l => if l = 0 then [] else (min l s + k - 1) / k :: bls k s f (l - s)
def Hd.ls (h : Hd) : List Nat := bls h.k.toNat (h.k * h.b).toNat h.sz.toNat h.sz.toNat
/-- A head that may be, in plain numbers. -/
structure Hd.Ok (h : Hd) : Prop where
  k1 : 1 ≤ h.k
  k2 : h.k ≤ 254
  m1 : 1 ≤ h.m
  m2 : h.m ≤ 127
  m3 : h.m ≤ h.k
  km : h.k + h.m ≤ 255
  b1 : 1 ≤ h.b
  b2 : h.b ≤ 65536
  y1 : 1 ≤ h.key.length
  y2 : h.key.length ≤ 255
  s1 : 0 ≤ h.sz
  s2 : h.sz ≤ 1048576
  s3 : cdv h.sz (h.k * h.b) ≤ 4096
  x1 : 0 ≤ h.ix
  x2 : h.ix < h.k + h.m
  e1 : 1 ≤ h.ep
  e2 : h.ep ≤ 4294967295
  c1 : 1 ≤ h.ct
  c2 : h.ct ≤ 4294967295
theorem szE_ok (k b sz : Int) : szE k b sz = 0 ↔ 0 ≤ sz ∧ sz ≤ 1048576 ∧ cdv sz (k * b) ≤ 4096 := by
  unfold szE
  constructor
  · intro e
    split at e
    · cases e
    split at e
    · cases e
    · rename_i g1 g2
      omega
  · rintro ⟨h1, h2, h3⟩
    rw [if_neg (by omega), if_neg (by omega)]
theorem chk_ok (h : Hd) : chk h = 0 ↔ h.Ok := by
  unfold chk shp
  constructor
  · intro e
    split at e
    · cases e
    rename_i g1
    split at e
    · cases e
    rename_i g2
    split at e
    · rename_i g3; exact absurd e g3
    rename_i g3
    split at e
    · cases e
    rename_i g4
    split at e
    · cases e
    rename_i g5
    simp only [ne_eq, Decidable.not_not] at g1 g2 g3 g4 g5
    obtain ⟨q1, q2, q3⟩ := (szE_ok _ _ _).1 g3
    exact ⟨by omega, by omega, by omega, by omega, by omega, by omega, by omega, by omega, by omega, by omega, q1, q2, q3, by omega, by omega, by omega, by omega, by omega, by omega⟩
  · rintro ⟨⟩
    have e : szE h.k h.b h.sz = 0 := (szE_ok _ _ _).2 ⟨by assumption, by assumption, by assumption⟩
    rw [if_neg (by simp only [Decidable.not_not]; omega), if_neg (by simp only [Decidable.not_not]; omega), if_neg (by simp [e]), if_neg (by simp only [Decidable.not_not]; omega), if_neg (by simp only [Decidable.not_not]; omega)]
/-- The first 32 bytes. -/
def Hd.fx (h : Hd) : List (BitVec 8) := [67#8, 82#8, 78#8, 2#8] ++ h.st ++ lb 1 h.k.toNat ++ lb 1 h.m.toNat ++ lb 4 h.b.toNat ++ lb 4 h.sz.toNat ++ lb 1 h.ix.toNat ++ lb 4 h.ep.toNat ++ lb 4 h.ct.toNat ++ lb 1 h.key.length
theorem Hd.fx_len (h : Hd) : h.fx.length = 32 := by simp [Hd.fx, Hd.st, lb_len]
/-- A sum's bytes. -/
def smN (s : BitVec 32) : List (BitVec 8) := lb 4 s.toNat
theorem sm_len (s : BitVec 32) : (smN s).length = 4 := lb_len _ _
theorem lv_sm (s : BitVec 32) : lvN (smN s) = s.toNat := lv_lb 4 _ (by have := s.isLt; simpa using this)
theorem sm_lv (xs : List (BitVec 8)) (s : BitVec 32) (hl : xs.length = 4) (h : lvN xs = s.toNat) : xs = smN s := by
  have e := lb_lv xs
  rw [hl, h] at e
  exact e.symm
def Hd.s1 (h : Hd) : BitVec 32 := cmo 0#32 h.fx
def Hd.s2 (h : Hd) : BitVec 32 := cmo h.s1 h.key
def Hd.hb (h : Hd) : List (BitVec 8) := h.fx ++ smN h.s1 ++ h.key ++ smN h.s2
theorem Hd.hb_len (h : Hd) : h.hb.length = 40 + h.key.length := by simp only [Hd.hb, List.length_append, Hd.fx_len, sm_len]; omega
/-- The sum of a block. -/
def bsm (s : BitVec 32) (j : Nat) (x : List (BitVec 8)) : BitVec 32 := cmo (cmo 0#32 (smN s ++ lb 4 j)) x
/-- The frames. -/
def frs (s : BitVec 32) : Nat → List (List (BitVec 8)) → List (BitVec 8)
  | _, [] => []
  | j, x :: xs => x ++ smN (bsm s j x) ++ frs s (j + 1) xs
/-- The form. -/
def Hd.fm (h : Hd) (bl : List (List (BitVec 8))) : List (BitVec 8) := h.hb ++ frs h.s2 0 bl
/-- How long. -/
def tot : List Nat → Nat
  | [] => 0
  | n :: ns => n + 4 + tot ns
theorem frs_len (s : BitVec 32) (bl : List (List (BitVec 8))) : ∀ j, (frs s j bl).length = tot (bl.map List.length) := by
  induction bl with
  | nil => intro j; rfl
  | cons x xs ih => intro j; simp only [frs, List.length_append, sm_len, ih, List.map_cons, tot]
theorem Hd.fm_len (h : Hd) (bl : List (List (BitVec 8))) : (h.fm bl).length = 40 + h.key.length + tot (bl.map List.length) := by
  simp only [Hd.fm, List.length_append, Hd.hb_len, frs_len]
/-- A piece. -/
def cutl (b : List (BitVec 8)) (at_ n : Nat) : List (BitVec 8) := (b.drop at_).take n
theorem cutl_len (b : List (BitVec 8)) (a n : Nat) (h : a + n ≤ b.length) : (cutl b a n).length = n := by simp only [cutl, List.length_take, List.length_drop]; omega
theorem cutl_app (x y z : List (BitVec 8)) (a n : Nat) (ha : x.length = a) (hn : y.length = n) : cutl (x ++ y ++ z) a n = y := by
  subst ha hn; simp [cutl]
theorem cutl_app' (x y : List (BitVec 8)) (a n : Nat) (ha : x.length = a) (hn : y.length = n) : cutl (x ++ y) a n = y := by
  subst ha hn; simp [cutl]
theorem cutl_split (b : List (BitVec 8)) (a n m : Nat) : cutl b a (n + m) = cutl b a n ++ cutl b (a + n) m := by
  simp only [cutl]
  rw [List.take_add, List.drop_drop]
theorem cutl_left (x y : List (BitVec 8)) (a n : Nat) (h : a + n ≤ x.length) : cutl (x ++ y) a n = cutl x a n := by
  simp only [cutl]
  rw [List.drop_append_of_le_length (by omega), List.take_append_of_le_length (by simp; omega)]
theorem drop_cut (b : List (BitVec 8)) (a n : Nat) : b.drop a = cutl b a n ++ b.drop (a + n) := by
  have := List.take_append_drop n (b.drop a)
  rw [List.drop_drop] at this
  exact this.symm
/-- What stands as a head. -/
def rhd (f key : List (BitVec 8)) : Hd :=
  ⟨f.getD 4 0#8, f.getD 5 0#8, f.getD 6 0#8, f.getD 7 0#8, f.getD 8 0#8, f.getD 9 0#8, f.getD 10 0#8, f.getD 11 0#8,
   lvN (cutl f 12 1), lvN (cutl f 13 1), lvN (cutl f 14 4), key, lvN (cutl f 18 4), lvN (cutl f 22 1), lvN (cutl f 23 4), lvN (cutl f 27 4)⟩
def kl (b : List (BitVec 8)) : Nat := (b.getD 31 0#8).toNat
def mk8 : List (BitVec 8) := [67#8, 82#8, 78#8, 2#8]
/-- The head's reading. -/
def pH (b : List (BitVec 8)) : Int × Hd :=
  if b.length < 36 then (70, hd0) else if ¬ b.take 4 = mk8 then (80, hd0)
  else if ¬ lvN (cutl b 32 4) = (cmo 0#32 (b.take 32)).toNat then (82, hd0)
  else if b.length < 40 + kl b then (70, hd0)
  else if ¬ lvN (cutl b (36 + kl b) 4) = (cmo (cmo 0#32 (b.take 32)) (cutl b 36 (kl b))).toNat then (82, hd0)
  else if ¬ chk (rhd (b.take 32) (cutl b 36 (kl b))) = 0 then (81, hd0) else (0, rhd (b.take 32) (cutl b 36 (kl b)))
/-- A block's reading. -/
def rb (b : List (BitVec 8)) (a n : Nat) (s : BitVec 32) (j : Nat) : Option (List (BitVec 8)) :=
  if b.length < a + n + 4 then none else if ¬ lvN (cutl b (a + n) 4) = (bsm s j (cutl b a n)).toNat then none else some (cutl b a n)
def rbs (b : List (BitVec 8)) (s : BitVec 32) : Nat → Nat → List Nat → List (Option (List (BitVec 8)))
  | _, _, [] => []
  | a, j, n :: ns => rb b a n s j :: rbs b s (a + n + 4) (j + 1) ns
theorem rbs_len (b : List (BitVec 8)) (s : BitVec 32) (ns : List Nat) : ∀ a j, (rbs b s a j ns).length = ns.length := by
  induction ns with
  | nil => intro a j; rfl
  | cons n ns ih => intro a j; simp [rbs, ih]
/-- All blocks' reading, for a head. -/
def Hd.bk (h : Hd) (b : List (BitVec 8)) : List (Option (List (BitVec 8))) := rbs b (BitVec.ofNat 32 (lvN (cutl b (36 + h.key.length) 4))) (40 + h.key.length) 0 h.ls
/-- Which are spoilt. -/
def spo : Nat → List (Option (List (BitVec 8))) → List Nat
  | _, [] => []
  | j, none :: xs => j :: spo (j + 1) xs
  | j, some _ :: xs => spo (j + 1) xs
/-- All of them, if all are right. -/
def alls : List (Option (List (BitVec 8))) → Option (List (List (BitVec 8)))
  | [] => some []
  | none :: _ => none
  | some x :: xs => match alls xs with
    | none => none
    | some l => some (x :: l)
def Hd.len (h : Hd) : Nat := 40 + h.key.length + tot h.ls
/-- A shard's reading. -/
def pS (b : List (BitVec 8)) : Int × Hd × List (List (BitVec 8)) :=
  if (pH b).1 ≠ 0 then ((pH b).1, hd0, []) else if b.length < (pH b).2.len then (70, hd0, []) else if (pH b).2.len < b.length then (72, hd0, [])
  else match alls ((pH b).2.bk b) with
    | none => (82, hd0, [])
    | some l => (0, (pH b).2, l)
def sP (b : List (BitVec 8)) : Int × List Nat :=
  if (pH b).1 ≠ 0 then ((pH b).1, []) else (0, spo 0 ((pH b).2.bk b))
/-- A shard that may be. -/
def May (h : Hd) (bl : List (List (BitVec 8))) : Prop := h.Ok ∧ bl.map List.length = h.ls
theorem kl_fx (h : Hd) (t : List (BitVec 8)) (hy : h.key.length ≤ 255) : kl (h.fx ++ t) = h.key.length := by
  unfold kl
  have e : (h.fx ++ t).getD 31 0#8 = BitVec.ofNat 8 h.key.length := by simp [Hd.fx, Hd.st, lb]
  rw [e, BitVec.toNat_ofNat]; omega
theorem rhd_fx (h : Hd) (ok : h.Ok) : rhd h.fx h.key = h := by
  have ek : cutl h.fx 12 1 = lb 1 h.k.toNat := rfl
  have em : cutl h.fx 13 1 = lb 1 h.m.toNat := rfl
  have eb : cutl h.fx 14 4 = lb 4 h.b.toNat := rfl
  have es : cutl h.fx 18 4 = lb 4 h.sz.toNat := rfl
  have ei : cutl h.fx 22 1 = lb 1 h.ix.toNat := rfl
  have ee : cutl h.fx 23 4 = lb 4 h.ep.toNat := rfl
  have ec : cutl h.fx 27 4 = lb 4 h.ct.toNat := rfl
  have p1 : 256 ^ 1 = 256 := rfl
  have p4 : 256 ^ 4 = 4294967296 := rfl
  have k1 := ok.k1
  have k2 := ok.k2
  have m1 := ok.m1
  have m2 := ok.m2
  have b1 := ok.b1
  have b2 := ok.b2
  have s1 := ok.s1
  have s2 := ok.s2
  have x1 := ok.x1
  have x2 := ok.x2
  have km := ok.km
  have e1 := ok.e1
  have e2 := ok.e2
  have c1 := ok.c1
  have c2 := ok.c2
  unfold rhd
  rw [ek, em, eb, es, ei, ee, ec, lv_lb 1 _ (by omega), lv_lb 1 _ (by omega), lv_lb 4 _ (by omega), lv_lb 4 _ (by omega), lv_lb 1 _ (by omega), lv_lb 4 _ (by omega), lv_lb 4 _ (by omega),
    Int.toNat_of_nonneg (by omega), Int.toNat_of_nonneg (by omega), Int.toNat_of_nonneg (by omega), Int.toNat_of_nonneg (by omega), Int.toNat_of_nonneg (by omega), Int.toNat_of_nonneg (by omega), Int.toNat_of_nonneg (by omega)]
  rfl
theorem Hd.fm_parts (h : Hd) (bl : List (List (BitVec 8))) (t : List (BitVec 8)) : h.fm bl ++ t = h.fx ++ (smN h.s1 ++ (h.key ++ (smN h.s2 ++ (frs h.s2 0 bl ++ t)))) := by
  simp only [Hd.fm, Hd.hb, List.append_assoc]
theorem cmo_app (s : BitVec 32) (x y : List (BitVec 8)) : cmo (cmo s x) y = cmo s (x ++ y) := by
  unfold cmo; rw [BitVec.not_not, ov_append]
/-- The head of a form is read, whatever stands behind it. -/
theorem pH_fm (h : Hd) (ok : h.Ok) (t : List (BitVec 8)) : pH (h.hb ++ t) = (0, h) := by
  have e : h.hb ++ t = h.fx ++ (smN h.s1 ++ (h.key ++ (smN h.s2 ++ t))) := by simp only [Hd.hb, List.append_assoc]
  have hl : (h.hb ++ t).length = 40 + h.key.length + t.length := by rw [List.length_append, Hd.hb_len]
  have y2 := ok.y2
  have ekl : kl (h.hb ++ t) = h.key.length := by rw [e]; exact kl_fx h _ y2
  have e32 : (h.hb ++ t).take 32 = h.fx := by rw [e, List.take_append_of_le_length (by rw [Hd.fx_len]; exact Nat.le_refl _), List.take_of_length_le (by rw [Hd.fx_len]; exact Nat.le_refl _)]
  have e4 : (h.hb ++ t).take 4 = mk8 := by rw [e, List.take_append_of_le_length (by rw [Hd.fx_len]; decide)]; rfl
  have es1 : cutl (h.hb ++ t) 32 4 = smN h.s1 := by rw [e, ← List.append_assoc]; exact cutl_app _ _ _ _ _ h.fx_len (sm_len _)
  have ey : cutl (h.hb ++ t) 36 h.key.length = h.key := by
    rw [e, ← List.append_assoc, ← List.append_assoc]
    exact cutl_app _ _ _ _ _ (by rw [List.length_append, Hd.fx_len, sm_len]) rfl
  have es2 : cutl (h.hb ++ t) (36 + h.key.length) 4 = smN h.s2 := by
    rw [e, ← List.append_assoc, ← List.append_assoc, ← List.append_assoc]
    exact cutl_app _ _ _ _ _ (by simp only [List.length_append, Hd.fx_len, sm_len]) (sm_len _)
  unfold pH
  rw [ekl, e32, e4, es1, ey, es2, lv_sm, lv_sm, rhd_fx h ok]
  rw [if_neg (by omega), if_neg (by simp), if_neg (by simp [Hd.s1]), if_neg (by omega), if_neg (by simp [Hd.s2, Hd.s1]), if_neg (by simp [(chk_ok h).2 ok])]
/-- What is read as a head is a head's bytes. -/
theorem pH_inv (b : List (BitVec 8)) (h : Hd) (e : pH b = (0, h)) : h.Ok ∧ ∃ t, b = h.hb ++ t := by
  unfold pH at e
  split at e
  · injection e with e1; cases e1
  rename_i g1
  split at e
  · injection e with e1; cases e1
  rename_i g2
  split at e
  · injection e with e1; cases e1
  rename_i g3
  split at e
  · injection e with e1; cases e1
  rename_i g4
  split at e
  · injection e with e1; cases e1
  rename_i g5
  split at e
  · injection e with e1; cases e1
  rename_i g6
  injection e with _ e
  simp only [Decidable.not_not] at g2 g3 g5 g6
  have ok := (chk_ok _).1 g6
  rw [e] at ok
  refine ⟨ok, b.drop (40 + kl b), ?_⟩
  have hkey : cutl b 36 (kl b) = h.key := by rw [← e]; rfl
  have hkl : h.key.length = kl b := by rw [← hkey, cutl_len _ _ _ (by omega)]
  have ef : b.take 32 = h.fx := by
    have hb : b = b.take 32 ++ b.drop 32 := (List.take_append_drop _ _).symm
    have hl : (b.take 32).length = 32 := by rw [List.length_take]; omega
    have q4 : (b.take 32).take 4 = mk8 := by rw [List.take_take]; exact g2
    have qk : (b.take 32).getD 31 0#8 = BitVec.ofNat 8 h.key.length := by
      rw [hkl]; unfold kl
      have : (b.take 32).getD 31 0#8 = b.getD 31 0#8 := by simp [List.getD]
      rw [this]; simp
    obtain ⟨F, hF⟩ : ∃ F, F = b.take 32 := ⟨_, rfl⟩
    rw [← hF] at hl q4 qk e ⊢
    clear hF hb
    have hs : F = cutl F 0 4 ++ (cutl F 4 8 ++ (cutl F 12 1 ++ (cutl F 13 1 ++ (cutl F 14 4 ++ (cutl F 18 4 ++ (cutl F 22 1 ++ (cutl F 23 4 ++ (cutl F 27 4 ++ cutl F 31 1)))))))) := by
      have c : ∀ a n m c, a + n = c → cutl F a n ++ cutl F c m = cutl F a (n + m) := fun a n m c h => by subst h; exact (cutl_split F a n m).symm
      rw [c 27 4 1 31 rfl, c 23 4 5 27 rfl, c 22 1 9 23 rfl, c 18 4 10 22 rfl, c 14 4 14 18 rfl, c 13 1 18 14 rfl, c 12 1 19 13 rfl, c 4 8 20 12 rfl, c 0 4 28 4 rfl]
      unfold cutl; rw [List.drop_zero, List.take_of_length_le (by omega)]
    have n1 : ∀ a, a + 1 ≤ 32 → lb 1 (lvN (cutl F a 1)) = cutl F a 1 := fun a ha => by have := lb_lv (cutl F a 1); rwa [cutl_len _ _ _ (by omega)] at this
    have n4 : ∀ a, a + 4 ≤ 32 → lb 4 (lvN (cutl F a 4)) = cutl F a 4 := fun a ha => by have := lb_lv (cutl F a 4); rwa [cutl_len _ _ _ (by omega)] at this
    have p1 : cutl F 0 4 = mk8 := by simpa [cutl] using q4
    have p2 : cutl F 4 8 = h.st := by
      rw [← e]
      unfold Hd.st rhd
      match F, hl with
      | [_, _, _, _, _, _, _, _, _, _, _, _, _, _, _, _, _, _, _, _, _, _, _, _, _, _, _, _, _, _, _, _], _ => rfl
    have p3 : cutl F 31 1 = lb 1 h.key.length := by
      have : cutl F 31 1 = [F.getD 31 0#8] := by
        match F, hl with
        | [_, _, _, _, _, _, _, _, _, _, _, _, _, _, _, _, _, _, _, _, _, _, _, _, _, _, _, _, _, _, _, _], _ => rfl
      rw [this, qk]; rfl
    have hk : h.k.toNat = lvN (cutl F 12 1) := by rw [← e]; simp [rhd]
    have hm : h.m.toNat = lvN (cutl F 13 1) := by rw [← e]; simp [rhd]
    have hb : h.b.toNat = lvN (cutl F 14 4) := by rw [← e]; simp [rhd]
    have hz : h.sz.toNat = lvN (cutl F 18 4) := by rw [← e]; simp [rhd]
    have hx : h.ix.toNat = lvN (cutl F 22 1) := by rw [← e]; simp [rhd]
    have he : h.ep.toNat = lvN (cutl F 23 4) := by rw [← e]; simp [rhd]
    have hc : h.ct.toNat = lvN (cutl F 27 4) := by rw [← e]; simp [rhd]
    unfold Hd.fx
    rw [hk, hm, hb, hz, hx, he, hc, n1 _ (by omega), n1 _ (by omega), n1 _ (by omega), n4 _ (by omega), n4 _ (by omega), n4 _ (by omega), n4 _ (by omega), ← p3, ← p2, show ([67#8, 82#8, 78#8, 2#8] : List (BitVec 8)) = cutl F 0 4 from p1.symm]
    simp only [List.append_assoc]
    exact hs
  have es1 : cutl b 32 4 = smN h.s1 := sm_lv _ _ (cutl_len _ _ _ (by omega)) (by rw [g3, ef]; rfl)
  have es2 : cutl b (36 + kl b) 4 = smN h.s2 := sm_lv _ _ (cutl_len _ _ _ (by omega)) (by rw [g5, ef, hkey]; rfl)
  have h0 : b = cutl b 0 32 ++ (cutl b 32 4 ++ (cutl b 36 (kl b) ++ (cutl b (36 + kl b) 4 ++ b.drop (40 + kl b)))) := by
    have e1 := drop_cut b (36 + kl b) 4
    rw [show 36 + kl b + 4 = 40 + kl b by omega] at e1
    rw [← e1, ← drop_cut b 36 (kl b), ← drop_cut b 32 4]
    simp [cutl]
  have e32 : cutl b 0 32 = h.fx := by rw [← ef]; simp [cutl]
  rw [e32, es1, hkey, es2] at h0
  unfold Hd.hb
  simp only [List.append_assoc]
  exact h0
/-- The frames of a form are read. -/
theorem rbs_frs (s : BitVec 32) (bl : List (List (BitVec 8))) : ∀ (p t : List (BitVec 8)) (a j : Nat), p.length = a → rbs (p ++ frs s j bl ++ t) s a j (bl.map List.length) = bl.map some := by
  induction bl with
  | nil => intro p t a j _; rfl
  | cons x xs ih =>
    intro p t a j hp
    simp only [List.map_cons, rbs]
    have e : p ++ frs s j (x :: xs) ++ t = p ++ x ++ (smN (bsm s j x) ++ (frs s (j + 1) xs ++ t)) := by simp only [frs, List.append_assoc]
    have e2 : p ++ frs s j (x :: xs) ++ t = (p ++ x ++ smN (bsm s j x)) ++ frs s (j + 1) xs ++ t := by simp only [frs, List.append_assoc]
    congr 1
    · unfold rb
      have c1 : cutl (p ++ frs s j (x :: xs) ++ t) a x.length = x := by rw [e]; exact cutl_app _ _ _ _ _ hp rfl
      have c2 : cutl (p ++ frs s j (x :: xs) ++ t) (a + x.length) 4 = smN (bsm s j x) := by
        rw [e, ← List.append_assoc]; exact cutl_app _ _ _ _ _ (by rw [List.length_append, hp]) (sm_len _)
      rw [c1, c2, lv_sm, if_neg, if_neg (by simp)]
      rw [e]
      simp only [List.length_append, sm_len]
      omega
    · rw [e2]
      exact ih _ t _ _ (by simp only [List.length_append, sm_len]; omega)
theorem alls_map (bl : List (List (BitVec 8))) : alls (bl.map some) = some bl := by
  induction bl with
  | nil => rfl
  | cons x xs ih => simp only [List.map_cons, alls, ih]
theorem spo_map (bl : List (List (BitVec 8))) : ∀ j, spo j (bl.map some) = [] := by
  induction bl with
  | nil => intro j; rfl
  | cons x xs ih => intro j; simp only [List.map_cons, spo, ih]
theorem Hd.at_s2 (h : Hd) (t : List (BitVec 8)) : BitVec.ofNat 32 (lvN (cutl (h.hb ++ t) (36 + h.key.length) 4)) = h.s2 := by
  have es2 : cutl (h.hb ++ t) (36 + h.key.length) 4 = smN h.s2 := by
    unfold Hd.hb
    exact cutl_app _ _ _ _ _ (by simp only [List.length_append, Hd.fx_len, sm_len]) (sm_len _)
  rw [es2, lv_sm]; simp
theorem Hd.bk_fm (h : Hd) (bl : List (List (BitVec 8))) (hm : bl.map List.length = h.ls) (t : List (BitVec 8)) : h.bk (h.fm bl ++ t) = bl.map some := by
  unfold Hd.bk
  have e : h.fm bl ++ t = h.hb ++ (frs h.s2 0 bl ++ t) := by simp only [Hd.fm, List.append_assoc]
  rw [e, Hd.at_s2, ← List.append_assoc, ← hm]
  exact rbs_frs _ _ _ _ _ _ h.hb_len
theorem Hd.fm_tot (h : Hd) (bl : List (List (BitVec 8))) (hm : bl.map List.length = h.ls) : (h.fm bl).length = h.len := by rw [Hd.fm_len, hm]; rfl
theorem pH_form (h : Hd) (ok : h.Ok) (bl : List (List (BitVec 8))) (t : List (BitVec 8)) : pH (h.fm bl ++ t) = (0, h) := by
  unfold Hd.fm; rw [List.append_assoc]; exact pH_fm h ok _
/-- P8.7: there and back. -/
theorem pS_fm (h : Hd) (bl : List (List (BitVec 8))) (hm : May h bl) : pS (h.fm bl) = (0, h, bl) := by
  have e1 := pH_form h hm.1 bl []
  have e2 := h.bk_fm bl hm.2 []
  rw [List.append_nil] at e1 e2
  unfold pS
  rw [e1]
  simp only [h.fm_tot bl hm.2, e2, alls_map]
  simp
theorem sP_fm (h : Hd) (bl : List (List (BitVec 8))) (hm : May h bl) (t : List (BitVec 8)) : sP (h.fm bl ++ t) = (0, []) := by
  unfold sP
  rw [pH_form h hm.1 bl t]
  simp only [h.bk_fm bl hm.2 t, spo_map]
  simp
theorem pS_tail (h : Hd) (bl : List (List (BitVec 8))) (hm : May h bl) (t : List (BitVec 8)) (ht : 0 < t.length) : pS (h.fm bl ++ t) = (72, hd0, []) := by
  unfold pS
  rw [pH_form h hm.1 bl t]
  simp only [List.length_append, h.fm_tot bl hm.2]
  rw [if_neg (by simp), if_neg (by omega), if_pos (by omega)]
theorem pS_cut (h : Hd) (bl : List (List (BitVec 8))) (hm : May h bl) (c : Nat) (hc : c < h.len) : pS ((h.fm bl).take c) = (70, hd0, []) := by
  by_cases hh : 40 + h.key.length ≤ c
  · have e : (h.fm bl).take c = h.hb ++ (frs h.s2 0 bl).take (c - (40 + h.key.length)) := by
      unfold Hd.fm; rw [List.take_append, h.hb_len, List.take_of_length_le (by rw [h.hb_len]; exact hh)]
    have el : ((h.fm bl).take c).length = c := by rw [List.length_take, h.fm_tot bl hm.2]; omega
    unfold pS
    rw [el, e, pH_fm h hm.1]
    rw [if_neg (by simp), if_pos hc]
  · have el : ((h.fm bl).take c).length = c := by rw [List.length_take, h.fm_tot bl hm.2]; omega
    have eh : pH ((h.fm bl).take c) = (70, hd0) := by
      unfold pH
      rw [el]
      by_cases h36 : c < 36
      · rw [if_pos h36]
      rw [if_neg h36]
      have hB : h.fm bl = h.fx ++ (smN h.s1 ++ (h.key ++ (smN h.s2 ++ frs h.s2 0 bl))) := by simp only [Hd.fm, Hd.hb, List.append_assoc]
      have e36 : (h.fm bl).take c = h.fx ++ (smN h.s1 ++ ((h.key ++ (smN h.s2 ++ frs h.s2 0 bl)).take (c - 36))) := by
        rw [hB, List.take_append, List.take_of_length_le (by rw [h.fx_len]; omega), List.take_append, List.take_of_length_le (by rw [sm_len, h.fx_len]; omega), h.fx_len, sm_len, Nat.sub_sub]
      rw [e36]
      have ekl := kl_fx h (smN h.s1 ++ ((h.key ++ (smN h.s2 ++ frs h.s2 0 bl)).take (c - 36))) hm.1.y2
      obtain ⟨t, ht⟩ : ∃ t, t = (h.key ++ (smN h.s2 ++ frs h.s2 0 bl)).take (c - 36) := ⟨_, rfl⟩
      rw [← ht] at ekl ⊢
      have q4 : (h.fx ++ (smN h.s1 ++ t)).take 4 = mk8 := by rw [List.take_append_of_le_length (by rw [Hd.fx_len]; decide)]; rfl
      have q32 : (h.fx ++ (smN h.s1 ++ t)).take 32 = h.fx := by rw [List.take_append_of_le_length (by rw [Hd.fx_len]; exact Nat.le_refl _), List.take_of_length_le (by rw [Hd.fx_len]; exact Nat.le_refl _)]
      have qs : cutl (h.fx ++ (smN h.s1 ++ t)) 32 4 = smN h.s1 := by rw [← List.append_assoc]; exact cutl_app _ _ _ _ _ h.fx_len (sm_len _)
      rw [ekl, q4, q32, qs, lv_sm, if_neg (by simp), if_neg (by simp [Hd.s1]), if_pos (by omega)]
    unfold pS
    rw [eh]
    rw [if_pos (by simp)]
theorem alls_inv (l : List (Option (List (BitVec 8)))) : ∀ bl, alls l = some bl → l = bl.map some := by
  induction l with
  | nil => intro bl h; simp only [alls, Option.some.injEq] at h; subst h; rfl
  | cons x xs ih =>
    intro bl h
    cases x with
    | none => simp [alls] at h
    | some x =>
      simp only [alls] at h
      split at h
      · cases h
      · rename_i l hl
        simp only [Option.some.injEq] at h
        subst h
        rw [ih l hl]; rfl
theorem spo_alls (l : List (Option (List (BitVec 8)))) : ∀ j, spo j l = [] ↔ ∃ bl, alls l = some bl := by
  induction l with
  | nil => intro j; simp [spo, alls]
  | cons x xs ih =>
    intro j
    cases x with
    | none => simp [spo, alls]
    | some x =>
      simp only [spo, alls, ih]
      constructor
      · rintro ⟨bl, h⟩; exact ⟨x :: bl, by rw [h]⟩
      · rintro ⟨bl, h⟩
        cases e : alls xs with
        | none => rw [e] at h; cases h
        | some l => exact ⟨l, rfl⟩
/-- Frames that are read are the frames of what was read. -/
theorem rbs_inv (s : BitVec 32) (b : List (BitVec 8)) : ∀ (ns : List Nat) (bl : List (List (BitVec 8))) (a j : Nat), rbs b s a j ns = bl.map some → bl.map List.length = ns ∧ cutl b a (tot ns) = frs s j bl := by
  intro ns
  induction ns with
  | nil =>
    intro bl a j h
    cases bl with
    | nil => exact ⟨rfl, by simp [tot, cutl, frs]⟩
    | cons x xs => simp [rbs] at h
  | cons n ns ih =>
    intro bl a j h
    cases bl with
    | nil => simp [rbs] at h
    | cons x xs =>
      simp only [rbs, List.map_cons, List.cons.injEq] at h
      obtain ⟨h1, h2⟩ := h
      obtain ⟨i1, i2⟩ := ih xs _ _ h2
      unfold rb at h1
      split at h1
      · cases h1
      rename_i g1
      split at h1
      · cases h1
      rename_i g2
      simp only [Decidable.not_not] at g2
      simp only [Option.some.injEq] at h1
      have hn : x.length = n := by rw [← h1, cutl_len _ _ _ (by omega)]
      have es : cutl b (a + n) 4 = smN (bsm s j x) := sm_lv _ _ (cutl_len _ _ _ (by omega)) (by rw [g2, h1])
      refine ⟨by rw [List.map_cons, hn, i1], ?_⟩
      show cutl b a (n + 4 + tot ns) = x ++ smN (bsm s j x) ++ frs s (j + 1) xs
      rw [cutl_split, cutl_split, h1, es, ← Nat.add_assoc, i2]
/-- P8.7: of bytes that are read, what was read is written as just those. -/
theorem pS_inv (b : List (BitVec 8)) (h : Hd) (bl : List (List (BitVec 8))) (e : pS b = (0, h, bl)) : May h bl ∧ b = h.fm bl := by
  unfold pS at e
  split at e
  · rename_i g; injection e with e1; exact absurd e1 g
  rename_i g0
  simp only [ne_eq, Decidable.not_not] at g0
  split at e
  · injection e with e1; cases e1
  rename_i g1
  split at e
  · injection e with e1; cases e1
  rename_i g2
  split at e
  · injection e with e1; cases e1
  rename_i l hl
  injection e with _ e
  injection e with e1 e2
  subst e2
  have hp : pH b = (0, h) := by rw [← g0, ← e1]
  obtain ⟨ok, t, rfl⟩ := pH_inv b h hp
  rw [e1] at g1 g2 hl
  have hb := alls_inv _ _ hl
  unfold Hd.bk at hb
  rw [h.at_s2] at hb
  obtain ⟨i1, i2⟩ := rbs_inv _ _ _ _ _ _ hb
  refine ⟨⟨ok, i1⟩, ?_⟩
  unfold Hd.fm
  rw [← i2]
  have ht : t.length = tot h.ls := by rw [List.length_append, h.hb_len] at g1 g2; unfold Hd.len at g1 g2; omega
  rw [cutl_app' _ _ _ _ h.hb_len ht]
theorem fm_inj {h g : Hd} {bl cl : List (List (BitVec 8))} (hm : May h bl) (hg : May g cl) (e : h.fm bl = g.fm cl) : h = g ∧ bl = cl := by
  have e1 := pS_fm h bl hm
  rw [e, pS_fm g cl hg] at e1
  injection e1 with _ e1
  injection e1 with e1 e2
  exact ⟨e1.symm, e2.symm⟩
end Go.Proofs.Ytgokkppojhokbaa
