/-
  FrameBursts: bits turned within 32 that follow one another, mathematics.
-/
import Derived.Test.YtkafbeicgaoebaaSz8
import Derived.Test.YtkafbeicgaoebaaSv8
import Derived.Deep.DeepCutAuto
import Derived.Deep.CutBlock
import Derived.BigRegion
namespace Go.Proofs.Ytkafbeicgaoebaa
/-- The text with the bit k turned. -/
def tb (xs : List (BitVec 8)) (k : Nat) : List (BitVec 8) := xs.set (k / 8) (fn xs (k / 8) ^^^ 1#8 <<< (k % 8))
theorem tb_len (xs : List (BitVec 8)) (k : Nat) : (tb xs k).length = xs.length := by simp [tb]
theorem ov_tb (xs : List (BitVec 8)) (k : Nat) (hk : k < 8 * xs.length) (r : BitVec 32) : ov r (tb xs k) = ov r xs ^^^ e1 (8 * xs.length - k) := by
  unfold tb fn
  rw [ov_turn xs r (k / 8) (k % 8) (by omega) (by omega)]
  congr 2; omega
/-- Is the bit k of the pattern that begins at the bit F one of the bytes a, .., b - 1? -/
def hit (a b F : Nat) (p : BitVec 32) (k : Nat) : Bool := p.getLsbD k && (decide (a ≤ (F + k) / 8) && decide ((F + k) / 8 < b))
def trn (a b F : Nat) (p : BitVec 32) : Bool := (List.range 32).any (hit a b F p)
theorem trn_true {a b F : Nat} {p : BitVec 32} : trn a b F p = true ↔ ∃ k, k < 32 ∧ hit a b F p k = true := by
  unfold trn
  rw [List.any_eq_true]
  simp
theorem trn_false {a b F : Nat} {p : BitVec 32} : trn a b F p = false ↔ ∀ k, k < 32 → hit a b F p k = false := by
  constructor
  · intro h k hk
    cases e : hit a b F p k with
    | false => rfl
    | true => rw [trn_true.2 ⟨k, hk, e⟩] at h; cases h
  · intro h
    cases e : trn a b F p with
    | false => rfl
    | true =>
      obtain ⟨k, hk, h2⟩ := trn_true.1 e
      rw [h k hk] at h2; cases h2
theorem hit_parts {a b c F : Nat} {p : BitVec 32} {k : Nat} (h1 : a ≤ b) (h2 : b ≤ c) : hit a c F p k = (hit a b F p k || hit b c F p k) := by
  unfold hit
  cases p.getLsbD k with
  | false => rfl
  | true =>
    simp only [Bool.true_and]
    by_cases c1 : a ≤ (F + k) / 8
    · by_cases c2 : (F + k) / 8 < b
      · have c3 : (F + k) / 8 < c := by omega
        simp [c1, c2, c3]
      · have c4 : b ≤ (F + k) / 8 := by omega
        simp [c1, c2, c4]
    · have c4 : ¬ b ≤ (F + k) / 8 := by omega
      simp [c1, c4]
theorem trn_parts {a b c F : Nat} {p : BitVec 32} (h1 : a ≤ b) (h2 : b ≤ c) : trn a c F p = (trn a b F p || trn b c F p) := by
  cases e : trn a c F p with
  | true =>
    obtain ⟨k, hk, h⟩ := trn_true.1 e
    rw [hit_parts h1 h2, Bool.or_eq_true] at h
    rcases h with h | h
    · rw [trn_true.2 ⟨k, hk, h⟩]; rfl
    · rw [trn_true.2 ⟨k, hk, h⟩, Bool.or_true]
  | false =>
    have h := trn_false.1 e
    have e1 : trn a b F p = false := trn_false.2 fun k hk => by have := h k hk; rw [hit_parts h1 h2, Bool.or_eq_false_iff] at this; exact this.1
    have e2 : trn b c F p = false := trn_false.2 fun k hk => by have := h k hk; rw [hit_parts h1 h2, Bool.or_eq_false_iff] at this; exact this.2
    rw [e1, e2]; rfl
/-- The text behind k rounds of the turning. -/
def brs (f : List (BitVec 8)) (F : Nat) (p : BitVec 32) : Nat → List (BitVec 8)
  | 0 => f
  | k + 1 => if p.getLsbD k = true ∧ (F + k) / 8 < f.length then tb (brs f F p k) (F + k) else brs f F p k
theorem brs_succ (f : List (BitVec 8)) (F : Nat) (p : BitVec 32) (k : Nat) : brs f F p (k + 1) = if p.getLsbD k = true ∧ (F + k) / 8 < f.length then tb (brs f F p k) (F + k) else brs f F p k := rfl
theorem brs_len (f : List (BitVec 8)) (F : Nat) (p : BitVec 32) : ∀ k, (brs f F p k).length = f.length
  | 0 => rfl
  | k + 1 => by
    unfold brs
    split
    · rw [tb_len, brs_len f F p k]
    · exact brs_len f F p k
theorem cutl_tb (L : List (BitVec 8)) (q a n : Nat) (ha : a + n ≤ L.length) : cutl (tb L q) a n = if a ≤ q / 8 ∧ q / 8 < a + n then tb (cutl L a n) (q - 8 * a) else cutl L a n := by
  apply List.ext_getElem?
  intro i
  have hl : (cutl L a n).length = n := cutl_len L a n ha
  by_cases hi : i < n
  · have e1 : (cutl (tb L q) a n)[i]? = (tb L q)[a + i]? := by unfold cutl; rw [List.getElem?_take_of_lt hi, List.getElem?_drop]
    have e2 : (cutl L a n)[i]? = L[a + i]? := by unfold cutl; rw [List.getElem?_take_of_lt hi, List.getElem?_drop]
    rw [e1]
    unfold tb
    rw [List.getElem?_set]
    by_cases h1 : q / 8 = a + i
    · rw [if_pos h1, if_pos (by omega), if_pos (by omega), List.getElem?_set, if_pos (by omega), if_pos (by omega)]
      congr 2
      · unfold fn
        rw [List.getD_eq_getElem?_getD, List.getD_eq_getElem?_getD, show (q - 8 * a) / 8 = i by omega, e2, h1]
      · congr 1; omega
    · rw [if_neg h1, ← e2]
      split
      · rw [List.getElem?_set, if_neg (by omega)]
      · rfl
  · have e1 : (cutl (tb L q) a n)[i]? = none := List.getElem?_eq_none (by rw [cutl_len _ _ _ (by rw [tb_len]; exact ha)]; omega)
    rw [e1]
    split
    · rw [List.getElem?_eq_none (by rw [tb_len]; omega)]
    · rw [List.getElem?_eq_none (by omega)]
/-- A piece of what was turned: a word laid on. -/
structure Pw (X L : List (BitVec 8)) (d : Nat) (W : BitVec 32) (a b F : Nat) (p : BitVec 32) (k : Nat) : Prop where
  len : L.length = X.length
  ov : ∀ r, ov r L = ov r X ^^^ stps d W
  bit : ∀ i, W.getLsbD i = (decide (i < k) && hit a b F p i)
  same : (∀ i, i < k → hit a b F p i = false) → L = X
theorem piece_w (f : List (BitVec 8)) (F : Nat) (p : BitVec 32) (a n : Nat) (ha : a + n ≤ f.length) : ∀ k, k ≤ 32 → ∃ W, Pw (cutl f a n) (cutl (brs f F p k) a n) (8 * (a + n) - F) W a (a + n) F p k
  | 0, _ => ⟨0#32, rfl, fun r => by rw [(Lin.stps _).zero, BitVec.xor_zero]; rfl, fun i => by simp, fun _ => rfl⟩
  | k + 1, hk => by
    obtain ⟨W, h⟩ := piece_w f F p a n ha k (by omega)
    have hl : (cutl (brs f F p k) a n).length = n := cutl_len _ _ _ (by rw [brs_len]; exact ha)
    by_cases c : hit a (a + n) F p k = true
    · have c' := c
      unfold hit at c'
      simp only [Bool.and_eq_true, decide_eq_true_eq] at c'
      have e : cutl (brs f F p (k + 1)) a n = tb (cutl (brs f F p k) a n) (F + k - 8 * a) := by
        rw [brs_succ, if_pos ⟨c'.1, by omega⟩, cutl_tb _ _ _ _ (by rw [brs_len]; exact ha), if_pos c'.2]
      refine ⟨W ^^^ 1#32 <<< k, by rw [e, tb_len, h.len], fun r => ?_, fun i => ?_, fun hh => ?_⟩
      · rw [e, ov_tb _ _ (by rw [hl]; omega), h.ov, Lin.stps _ W, BitVec.xor_assoc]
        congr 2
        rw [stps_bit k _ (by omega) (by omega), hl]; congr 1; omega
      · by_cases h32 : i < 32
        · rw [BitVec.getLsbD_xor, h.bit i, one_shl k i h32]
          by_cases e2 : i = k
          · subst e2; simp [c]
          · have : decide (i < k + 1) = decide (i < k) := by by_cases h3 : i < k <;> simp <;> omega
            rw [this]; simp [e2]
        · rw [BitVec.getLsbD_of_ge _ _ (by omega)]
          have : decide (i < k + 1) = false := by simp; omega
          rw [this]; rfl
      · rw [hh k (by omega)] at c; cases c
    · have cf : hit a (a + n) F p k = false := by simpa using c
      have e : cutl (brs f F p (k + 1)) a n = cutl (brs f F p k) a n := by
        rw [brs_succ]
        split
        · rename_i g
          rw [cutl_tb _ _ _ _ (by rw [brs_len]; exact ha), if_neg]
          intro g2
          apply c
          unfold hit
          simp only [Bool.and_eq_true, decide_eq_true_eq]
          exact ⟨g.1, g2⟩
        · rfl
      refine ⟨W, by rw [e, h.len], fun r => by rw [e, h.ov], fun i => ?_, fun hh => by rw [e]; exact h.same fun i hi => hh i (by omega)⟩
      rw [h.bit i]
      by_cases e2 : i = k
      · subst e2; simp [cf]
      · have : decide (i < k + 1) = decide (i < k) := by by_cases h3 : i < k <;> simp <;> omega
        rw [this]
/-- Where two pieces end alike the word is nothing, and so nothing was turned. -/
theorem piece_eq (f : List (BitVec 8)) (F : Nat) (p : BitVec 32) (a n : Nat) (ha : a + n ≤ f.length) (r : BitVec 32) (e : ov r (cutl (brs f F p 32) a n) = ov r (cutl f a n)) : trn a (a + n) F p = false := by
  obtain ⟨W, h⟩ := piece_w f F p a n ha 32 (Nat.le_refl _)
  rw [h.ov] at e
  have e1 : stps (8 * (a + n) - F) W = 0#32 := by
    have := congrArg (fun z => ov r (cutl f a n) ^^^ z) e
    simpa [← BitVec.xor_assoc] using this
  have e2 : W = 0#32 := by
    by_cases hz : W = 0#32
    · exact hz
    · exact absurd e1 (stps_ne _ hz)
  refine trn_false.2 fun k hk => ?_
  have := h.bit k
  rw [e2] at this
  simpa [hk] using this.symm
theorem piece_same (f : List (BitVec 8)) (F : Nat) (p : BitVec 32) (a n : Nat) (ha : a + n ≤ f.length) (e : trn a (a + n) F p = false) : cutl (brs f F p 32) a n = cutl f a n := by
  obtain ⟨W, h⟩ := piece_w f F p a n ha 32 (Nat.le_refl _)
  exact h.same (trn_false.1 e)
theorem sm_four (m : BitVec 32) : sm m = [m.setWidth 8, (m >>> 8).setWidth 8, (m >>> 16).setWidth 8, (m >>> 24).setWidth 8] := by
  have h : lv [m.setWidth 8, (m >>> 8).setWidth 8, (m >>> 16).setWidth 8, (m >>> 24).setWidth 8] = m.toNat := by
    have := m.isLt
    simp only [lv, BitVec.toNat_setWidth, BitVec.toNat_ushiftRight, Nat.shiftRight_eq_div_pow]
    omega
  exact (sm_lv _ m rfl h).symm
theorem word_m (m : BitVec 32) : (m.setWidth 8).setWidth 32 ^^^ (((m >>> 8).setWidth 8).setWidth 32 <<< 8 ^^^ (((m >>> 16).setWidth 8).setWidth 32 <<< 16 ^^^ ((m >>> 24).setWidth 8).setWidth 32 <<< 24)) = m := by
  apply BitVec.eq_of_getLsbD_eq; intro i hi
  simp only [BitVec.getLsbD_xor, BitVec.getLsbD_shiftLeft, BitVec.getLsbD_setWidth, BitVec.getLsbD_ushiftRight]
  have h4 : i < 8 ∨ (8 ≤ i ∧ i < 16) ∨ (16 ≤ i ∧ i < 24) ∨ 24 ≤ i := by omega
  rcases h4 with c | ⟨c1, c⟩ | ⟨c1, c⟩ | c
  · simp [hi, c, show i < 16 by omega, show i < 24 by omega]
  · simp [hi, show ¬ i < 8 by omega, show i < 16 by omega, show i < 24 by omega, show i - 8 < 8 by omega, show 8 + (i - 8) = i by omega, show i - 8 < 32 by omega]
  · simp [hi, show ¬ i < 8 by omega, show ¬ i < 16 by omega, show i < 24 by omega, show ¬ i - 8 < 8 by omega, show i - 16 < 8 by omega, show 16 + (i - 16) = i by omega, show i - 16 < 32 by omega]
  · simp [hi, show ¬ i < 8 by omega, show ¬ i < 16 by omega, show ¬ i < 24 by omega, show ¬ i - 8 < 8 by omega, show ¬ i - 16 < 8 by omega, show i - 24 < 8 by omega, show 24 + (i - 24) = i by omega, show i - 24 < 32 by omega]
/-- A text with its sum behind it leaves the register as every other. -/
theorem sum_end (t : BitVec 32) (y : List (BitVec 8)) : ov (~~~ t) (y ++ sm (cmo t y)) = stps 32 (~~~ 0#32) := by
  have e : ov (~~~ t) y = ~~~ cmo t y := by unfold cmo; simp
  rw [ov_append, e]
  generalize cmo t y = m
  rw [sm_four, ov_word, word_m]
  congr 1
  apply BitVec.eq_of_getLsbD_eq; intro i hi
  simp only [BitVec.getLsbD_xor, BitVec.getLsbD_not, hi, decide_true, Bool.true_and]
  cases m.getLsbD i <;> simp
theorem cutl_zero (x y : List (BitVec 8)) (n : Nat) (h : x.length = n) : cutl (x ++ y) 0 n = x := by
  unfold cutl; rw [List.drop_zero, List.take_append_of_le_length (by omega), List.take_of_length_le (by omega)]
/-- A head whose bits were turned is refused. -/
theorem burst_head (h : Hd) (ok : h.Ok) (R : List (BitVec 8)) (F : Nat) (p : BitVec 32) (e : (pH (brs (h.hb ++ R) F p 32)).1 = 0) : trn 0 (40 + h.key.length) F p = false := by
  generalize hf : h.hb ++ R = f at e
  generalize hL : brs f F p 32 = L at e
  obtain ⟨og, T, eL⟩ := pH_inv L (pH L).2 (by rw [← e])
  generalize (pH L).2 = g at og eL
  have lL : L.length = f.length := by rw [← hL, brs_len]
  have lf : f.length = 40 + h.key.length + R.length := by rw [← hf, List.length_append, h.hb_len]
  have ef : f = (h.fx ++ sm h.s1) ++ ((h.key ++ sm h.s2) ++ R) := by rw [← hf]; unfold Hd.hb; simp only [List.append_assoc]
  have eg : L = (g.fx ++ sm g.s1) ++ ((g.key ++ sm g.s2) ++ T) := by rw [eL]; unfold Hd.hb; simp only [List.append_assoc]
  have a1 : (h.fx ++ sm h.s1).length = 36 := by rw [List.length_append, h.fx_len, sm_len]
  have a2 : (g.fx ++ sm g.s1).length = 36 := by rw [List.length_append, g.fx_len, sm_len]
  have c1 : cutl f 0 36 = h.fx ++ sm h.s1 := by rw [ef]; exact cutl_zero _ _ _ a1
  have c2 : cutl L 0 36 = g.fx ++ sm g.s1 := by rw [eg]; exact cutl_zero _ _ _ a2
  have t1 : trn 0 (0 + 36) F p = false := by
    refine piece_eq f F p 0 36 (by omega) (~~~ 0#32) ?_
    rw [hL, c1, c2]
    unfold Hd.s1
    rw [sum_end, sum_end]
  have e1 : g.fx ++ sm g.s1 = h.fx ++ sm h.s1 := by
    have := piece_same f F p 0 36 (by omega) t1
    rw [hL, c1, c2] at this
    exact this
  have e2 : g.fx = h.fx := (List.append_inj e1 (by rw [h.fx_len, g.fx_len])).1
  have e3 : g.s1 = h.s1 := by unfold Hd.s1; rw [e2]
  have k1 := kl_fx h [] ok.y2
  have k2 := kl_fx g [] og.y2
  rw [e2, k1] at k2
  have b1 : (h.key ++ sm h.s2).length = h.key.length + 4 := by rw [List.length_append, sm_len]
  have b2 : (g.key ++ sm g.s2).length = h.key.length + 4 := by rw [List.length_append, sm_len, k2]
  have c3 : cutl f 36 (h.key.length + 4) = h.key ++ sm h.s2 := by rw [ef, ← List.append_assoc]; exact cutl_app _ _ _ _ _ a1 b1
  have c4 : cutl L 36 (h.key.length + 4) = g.key ++ sm g.s2 := by rw [eg, ← List.append_assoc]; exact cutl_app _ _ _ _ _ a2 b2
  have t2 : trn 36 (36 + (h.key.length + 4)) F p = false := by
    refine piece_eq f F p 36 (h.key.length + 4) (by omega) (~~~ h.s1) ?_
    rw [hL, c3, c4]
    unfold Hd.s2
    rw [e3, sum_end, sum_end]
  rw [show 40 + h.key.length = 36 + (h.key.length + 4) by omega, trn_parts (b := 36) (by omega) (by omega), t2]
  simpa using t1
/-- The frames' reading behind a burst. -/
def mix (F : Nat) (p : BitVec 32) : Nat → List (List (BitVec 8)) → List (Option (List (BitVec 8)))
  | _, [] => []
  | a, x :: xs => (if trn a (a + (x.length + 4)) F p = true then none else some x) :: mix F p (a + (x.length + 4)) xs
theorem rbs_burst (s : BitVec 32) (f : List (BitVec 8)) (F : Nat) (p : BitVec 32) (bl : List (List (BitVec 8))) : ∀ (P T : List (BitVec 8)) (a j : Nat), P.length = a → f = P ++ frs s j bl ++ T → rbs (brs f F p 32) s a j (bl.map List.length) = mix F p a bl := by
  induction bl with
  | nil => intro P T a j _ _; rfl
  | cons x xs ih =>
    intro P T a j hP hf
    simp only [List.map_cons, rbs, mix]
    have ef : f = P ++ (x ++ sm (bsm s j x)) ++ (frs s (j + 1) xs ++ T) := by rw [hf]; simp only [frs, List.append_assoc]
    have lx : (x ++ sm (bsm s j x)).length = x.length + 4 := by rw [List.length_append, sm_len]
    have ha : a + (x.length + 4) ≤ f.length := by rw [ef]; simp only [List.length_append, sm_len]; omega
    have c1 : cutl f a (x.length + 4) = x ++ sm (bsm s j x) := by rw [ef]; exact cutl_app _ _ _ _ _ hP lx
    have lL := brs_len f F p 32
    have c2 := cutl_split (brs f F p 32) a x.length 4
    have l1 : (cutl (brs f F p 32) a x.length).length = x.length := cutl_len _ _ _ (by omega)
    have l2 : (cutl (brs f F p 32) (a + x.length) 4).length = 4 := cutl_len _ _ _ (by omega)
    congr 1
    · unfold rb
      rw [if_neg (by omega)]
      by_cases c : trn a (a + (x.length + 4)) F p = true
      · rw [if_pos c, if_pos]
        intro e
        have e2 := sm_lv _ _ l2 e
        rw [e2] at c2
        have := piece_eq f F p a (x.length + 4) ha (~~~ (cmo 0#32 (sm s ++ lb 4 j))) (by rw [c2, c1]; unfold bsm; rw [sum_end, sum_end])
        rw [this] at c; cases c
      · have cf : trn a (a + (x.length + 4)) F p = false := by simpa using c
        have e3 := piece_same f F p a (x.length + 4) ha cf
        rw [c1, c2] at e3
        obtain ⟨e4, e5⟩ := List.append_inj e3 l1
        rw [if_neg c, e4, e5, if_neg]
        rw [lv_sm]; simp
    · have e6 : f = (P ++ (x ++ sm (bsm s j x))) ++ frs s (j + 1) xs ++ T := by rw [ef]; simp only [List.append_assoc]
      exact ih _ _ _ _ (by simp only [List.length_append, sm_len]; omega) e6
/-- Which frames were turned. -/
def wnt (F : Nat) (p : BitVec 32) : Nat → Nat → List Nat → List Nat
  | _, _, [] => []
  | a, j, n :: ns => if trn a (a + (n + 4)) F p = true then j :: wnt F p (a + (n + 4)) (j + 1) ns else wnt F p (a + (n + 4)) (j + 1) ns
theorem spo_mix (F : Nat) (p : BitVec 32) (bl : List (List (BitVec 8))) : ∀ a j, spo j (mix F p a bl) = wnt F p a j (bl.map List.length) := by
  induction bl with
  | nil => intro a j; rfl
  | cons x xs ih =>
    intro a j
    simp only [List.map_cons, mix, wnt]
    by_cases c : trn a (a + (x.length + 4)) F p = true
    · rw [if_pos c, if_pos c]; simp only [spo, ih]
    · rw [if_neg c, if_neg c]; simp only [spo, ih]
theorem wnt_app (F : Nat) (p : BitVec 32) (U V : List Nat) : ∀ a j, wnt F p a j (U ++ V) = wnt F p a j U ++ wnt F p (a + tot U) (j + U.length) V := by
  induction U with
  | nil => intro a j; simp [wnt, tot]
  | cons n U ih =>
    intro a j
    simp only [List.cons_append, wnt, ih, tot, List.length_cons]
    rw [show a + (n + 4) + tot U = a + (n + 4 + tot U) by omega, show j + 1 + U.length = j + (U.length + 1) by omega]
    split <;> rfl
theorem alls_mix (F : Nat) (p : BitVec 32) (bl : List (List (BitVec 8))) : ∀ a, trn a (a + tot (bl.map List.length)) F p = true → alls (mix F p a bl) = none := by
  induction bl with
  | nil =>
    intro a e
    obtain ⟨k, _, h⟩ := trn_true.1 e
    unfold hit at h
    simp only [List.map_nil, tot, Bool.and_eq_true, decide_eq_true_eq] at h
    omega
  | cons x xs ih =>
    intro a e
    simp only [mix]
    by_cases c : trn a (a + (x.length + 4)) F p = true
    · rw [if_pos c]; rfl
    · have cf : trn a (a + (x.length + 4)) F p = false := by simpa using c
      have e2 : trn (a + (x.length + 4)) (a + (x.length + 4) + tot (xs.map List.length)) F p = true := by
        rw [trn_parts (b := a + (x.length + 4)) (by omega) (by simp only [List.map_cons, tot]; omega), cf, Bool.false_or] at e
        rw [← e]; congr 1; simp only [List.map_cons, tot]; omega
      rw [if_neg c]
      simp only [alls, ih _ e2]
/-- All that a burst comes to. -/
theorem burst_all (h : Hd) (B : List (List (BitVec 8))) (hm : May h B) (F : Nat) (p : BitVec 32) (any : trn 0 (h.fm B).length F p = true) :
    (trn 0 (40 + h.key.length) F p = true → (pH (brs (h.fm B) F p 32)).1 ≠ 0 ∧ (sP (brs (h.fm B) F p 32)).1 ≠ 0 ∧ (pS (brs (h.fm B) F p 32)).1 ≠ 0)
    ∧ (trn 0 (40 + h.key.length) F p = false → (pH (brs (h.fm B) F p 32)).1 = 0 ∧ sP (brs (h.fm B) F p 32) = (0, wnt F p (40 + h.key.length) 0 (B.map List.length)) ∧ pS (brs (h.fm B) F p 32) = (82, hd0, [])) := by
  refine ⟨fun c => ?_, fun c => ?_⟩
  · have e : (pH (brs (h.fm B) F p 32)).1 ≠ 0 := fun e => by
      have := burst_head h hm.1 (frs h.s2 0 B) F p e
      rw [this] at c; cases c
    refine ⟨e, ?_, ?_⟩
    · unfold sP; rw [if_pos e]; exact e
    · unfold pS; rw [if_pos e]; exact e
  · have hl := h.fm_len B
    have lh := h.hb_len
    have lL := brs_len (h.fm B) F p 32
    have e0 : cutl (brs (h.fm B) F p 32) 0 (40 + h.key.length) = h.hb := by
      rw [piece_same (h.fm B) F p 0 (40 + h.key.length) (by omega) (by rw [Nat.zero_add]; exact c)]
      unfold Hd.fm
      exact cutl_zero _ _ _ lh
    have eL : brs (h.fm B) F p 32 = h.hb ++ (brs (h.fm B) F p 32).drop (40 + h.key.length) := by
      have := List.take_append_drop (40 + h.key.length) (brs (h.fm B) F p 32)
      unfold cutl at e0
      rw [List.drop_zero] at e0
      rw [e0] at this
      exact this.symm
    have eh : pH (brs (h.fm B) F p 32) = (0, h) := by rw [eL]; exact pH_fm h hm.1 _
    have eb : h.bk (brs (h.fm B) F p 32) = mix F p (40 + h.key.length) B := by
      unfold Hd.bk
      have e2 : BitVec.ofNat 32 (lv (cutl (brs (h.fm B) F p 32) (36 + h.key.length) 4)) = h.s2 := by rw [eL]; exact h.at_s2 _
      rw [e2, ← hm.2]
      exact rbs_burst h.s2 (h.fm B) F p B h.hb [] _ 0 lh (by unfold Hd.fm; simp)
    have elen : (brs (h.fm B) F p 32).length = h.len := by rw [lL, hl, hm.2]; rfl
    have an : trn (40 + h.key.length) (40 + h.key.length + tot (B.map List.length)) F p = true := by
      rw [hl, trn_parts (b := 40 + h.key.length) (by omega) (by omega), c, Bool.false_or] at any
      exact any
    refine ⟨by rw [eh], ?_, ?_⟩
    · unfold sP
      rw [eh]
      simp only [eb]
      rw [if_neg (by simp), spo_mix]
    · unfold pS
      rw [eh]
      simp only [eb, alls_mix F p B _ an, elen]
      simp
end Go.Proofs.Ytkafbeicgaoebaa
/-
  FrameBursts: the law's 'turned'; the way of a head that may not be.
-/
namespace Go.Proofs.Ytkafbeicgaoebaa
open Go.RowKit
theorem rg_shr (a : BitVec 32) (n : Nat) : rg a / (2 : Int) ^ n = rg (a >>> n) := by
  unfold rg; rw [BitVec.toNat_ushiftRight, Nat.shiftRight_eq_div_pow, Int.natCast_ediv]; simp
theorem rg_tb1 (r : BitVec 32) (k : Nat) (h : r.getLsbD k = true) : bits .and .u32 (rg r / 2 ^ k) 1 = 1 := by
  rw [rg_shr, show (1 : Int) = rg 1#32 from rfl, rg_and]
  congr 1
  apply BitVec.eq_of_getLsbD_eq; intro j hj
  rw [BitVec.getLsbD_and, BitVec.getLsbD_ushiftRight, BitVec.getLsbD_one]
  by_cases e : j = 0
  · subst e; simp [h]
  · simp [e]
theorem rg_tb0 (r : BitVec 32) (k : Nat) (h : r.getLsbD k = false) : bits .and .u32 (rg r / 2 ^ k) 1 = 0 := by
  rw [rg_shr, show (1 : Int) = rg 1#32 from rfl, rg_and, show (0 : Int) = rg 0#32 from rfl]
  congr 1
  apply BitVec.eq_of_getLsbD_eq; intro j hj
  rw [BitVec.getLsbD_and, BitVec.getLsbD_ushiftRight, BitVec.getLsbD_one]
  by_cases e : j = 0
  · subst e; simp [h]
  · simp [e]
theorem el_bitx (x : BitVec 8) (c : Nat) : bits .xor .u8 (el x) ((2 : Int) ^ c % 256) = el (x ^^^ 1#8 <<< c) := by
  have h : (2 : Int) ^ c % 256 = el (1#8 <<< c) := by
    unfold el; rw [BitVec.toNat_shiftLeft, Nat.shiftLeft_eq, Int.natCast_emod]; simp
  rw [h, el_xor]
theorem hit_more {a b F : Nat} {p : BitVec 32} {k : Nat} (h : ∀ z, z < k → hit a b F p z = false) (hk : hit a b F p k = false) : ∀ z, z < k + 1 → hit a b F p z = false := by
  intro z hz
  by_cases e : z = k
  · rw [e]; exact hk
  · exact h z (by omega)
section
attribute [local irreducible] Calls rg
set_option maxHeartbeats 4000000 in
set_option maxRecDepth 1000000 in
theorem turned_any (a b F : Nat) (p : BitVec 32) (hF : F ≤ 1125899906842624) (w : World) :
    Calls Try.prog 9 #[.int .i64 (a : Int), .int .i64 (b : Int), .int .i64 (F : Int), .int .u32 (rg p)] w fun e w' => e = .returned (.bool (trn a b F p)) ∧ w' = w := by
  go_enter Try.func9, Try.ntmps9
  go_wp2
  go_loopw [9, 10] (fun i _ wr => ∃ k : Nat, k ≤ 32 ∧ i = .int .i64 (k : Int) ∧ Hid (∀ z, z < k → hit a b F p z = false) ∧ Hid (wr = w)) (fun i _ _ => 32 - (intOf i).toNat)
  case atStart => exact ⟨0, Nat.zero_le _, rfl, fun z hz => absurd hz (by omega), rfl⟩
  case round =>
    obtain ⟨k, hk, rfl, hh, hw⟩ := hrel
    by_cases hlt : k < 32
    · have hi : (k : Int) < 32 := by omega
      by_cases hbit : p.getLsbD k = true
      · have q1 := rg_tb1 p k hbit
        have HB := (show Hid _ from hbit)
        clear hbit
        by_cases c1 : a ≤ (F + k) / 8
        · have d1 : (a : Int) ≤ ((F : Int) + (k : Int)) / 8 := by omega
          by_cases c2 : (F + k) / 8 < b
          · have d2 : ((F : Int) + (k : Int)) / 8 < (b : Int) := by omega
            have HT := (show Hid (trn a b F p = true) from trn_true.2 ⟨k, hlt, by unfold hit; rw [HB.out]; simp [c1, c2]⟩)
            clear c1 c2
            go_wp2_with (fail)
            go_ret
            exact ⟨by rw [HT.out]; rfl, hw.out⟩
          · have d2 : ¬ ((F : Int) + (k : Int)) / 8 < (b : Int) := by omega
            have HN := (show Hid (hit a b F p k = false) from by show hit a b F p k = false; unfold hit; simp [c2])
            clear c1 c2
            go_wp2_with (fail)
            go_roundw
            case rel => exact ⟨k + 1, by omega, by go_num, (hit_more hh.out HN.out), hw⟩
            case measure => simp [intOf]; omega
        · have d1 : ¬ (a : Int) ≤ ((F : Int) + (k : Int)) / 8 := by omega
          have HN := (show Hid (hit a b F p k = false) from by show hit a b F p k = false; unfold hit; simp [c1])
          clear c1
          go_wp2_with (fail)
          go_roundw
          case rel => exact ⟨k + 1, by omega, by go_num, (hit_more hh.out HN.out), hw⟩
          case measure => simp [intOf]; omega
      · have q1 := rg_tb0 p k (by simpa using hbit)
        have HN := (show Hid (hit a b F p k = false) from by show hit a b F p k = false; unfold hit; simp [hbit])
        clear hbit
        go_wp2_with (fail)
        go_roundw
        case rel => exact ⟨k + 1, by omega, by go_num, (hit_more hh.out HN.out), hw⟩
        case measure => simp [intOf]; omega
    · obtain rfl : k = 32 := by omega
      have HT := (show Hid (trn a b F p = false) from trn_false.2 hh.out)
      go_wp2_with (fail)
      go_ret
      exact ⟨by rw [HT.out]; rfl, hw.out⟩
end
section
attribute [local irreducible] Calls el Hd.cs Hd.sh chk Wr fn rg
set_option maxHeartbeats 8000000 in
set_option maxRecDepth 1000000 in
theorem frameBursts_no (h : Hd) (hin : h.In) (hy : h.key.length ≤ 9223372036854775807) (a : Option Addr) (n c : Nat) (j k : Int) (w : World) (hc : chk h ≠ 0) :
    Calls Try.prog 3 #[.agg (h.sh (.slice a n c)), .int .i64 j, .int .u32 k] w fun e w' => e = .returned (.bool true) ∧ Below w.heap.size w w' := by
  have al : ∀ (W : World) (o : Obj), Below W.heap.size W (W.alloc o) := fun W o => (Below.refl _ _).alloc (Nat.le_refl _) o
  have AW := (show Hid _ from awake_any)
  have S0 := (show Hid (SdAt (w.alloc (.cells (h.sh (.slice a n c)) 31)) w.heap.size h (.slice a n c)) from heap_alloc_new w _)
  have B0 := (show Hid (Below w.heap.size w (w.alloc (.cells (h.sh (.slice a n c)) 31))) from al _ _)
  have FN := (show Hid _ from fun W => fit8_no h hin hy a n c W hc)
  clear hc
  go_enter Try.func3, Try.ntmps3
  go_wp2_with (first
    | (go_at_call 5; refine (AW.out _).mono ?_; rintro e w1 ⟨rfl, hb1⟩; have S1 := (show Hid (SdAt w1 w.heap.size h (.slice a n c)) from SdAt.below S0.out hb1); have Bw1 := (show Hid (Below w.heap.size w w1) from bt B0.out hb1); clear S0 B0)
    | (refine wpList_ldS rfl _ rfl w.heap.size rfl S1.out ?_)
    | (go_at_call 6; refine (FN.out _).mono ?_; rintro e w2 ⟨rfl, hb2⟩)
    | (refine wpList_stS h (.slice a n c) rfl rfl _ _ rfl rfl w2.heap.size rfl rfl (sz0 (heap_alloc_new w2 _)) ?_; intro w3 H3 hT3; have B13 := (show Hid (Below w1.heap.size w1 w3) from bt hb2 (hT3.2.1 _ _ (al w2 _) (Nat.le_refl _)))))
  go_ret
  exact ⟨rfl, bt Bw1.out B13.out⟩
end
end Go.Proofs.Ytkafbeicgaoebaa
/-
  FrameBursts: the walk.
-/
namespace Go.Proofs.Ytkafbeicgaoebaa
open Go.RowKit
theorem bit_neg {z N : Int} (h : z.tmod N < 0) (hN : 0 < N) : z.tmod N + N = z % N := by
  have e := Int.tmod_eq_emod (a := z) (b := N)
  have h1 := Int.emod_nonneg z (show N ≠ 0 by omega)
  split at e <;> omega
theorem bit_pos {z N : Int} (h : ¬ z.tmod N < 0) (hN : 0 < N) : z.tmod N = z % N := by
  have e := Int.tmod_eq_emod (a := z) (b := N)
  have h1 := Int.emod_lt_of_pos z hN
  split at e <;> omega
theorem bit_w {z N : Int} (h : z.tmod N < 0) (hN : 0 < N) (hb : N ≤ 1125899906842624) : wrap64 (z.tmod N + N) = z % N := by
  rw [bit_neg h hN]
  have h1 := Int.emod_nonneg z (show N ≠ 0 by omega)
  have h2 := Int.emod_lt_of_pos z hN
  unfold wrap64; omega
theorem brs_zero (f : List (BitVec 8)) (F : Nat) (p : BitVec 32) : brs f F p 0 = f := rfl
theorem no_all (L : List (BitVec 8)) (e : (pH L).1 ≠ 0) : ∃ E : Int, E ≠ 0 ∧ pH L = (E, hd0) ∧ sP L = (E, []) ∧ pS L = (E, hd0, []) := by
  refine ⟨(pH L).1, e, ?_, ?_, ?_⟩
  · rw [← pH_no L e]
  · unfold sP; rw [if_pos e]
  · unfold pS; rw [if_pos e]
theorem wnt_nil (F : Nat) (p : BitVec 32) (a j : Nat) : wnt F p a j [] = [] := rfl
theorem wnt_step (F : Nat) (p : BitVec 32) (a : Nat) (ns : List Nat) (t : Nat) (ht : t < ns.length) : wnt F p a 0 (ns.take (t + 1)) = wnt F p a 0 (ns.take t) ++ (if trn (a + tot (ns.take t)) (a + tot (ns.take (t + 1))) F p = true then [t] else []) := by
  have e : ns.take (t + 1) = ns.take t ++ [ns.getD t 0] := by
    rw [List.take_add_one]
    simp [List.getD, ht]
  have e2 := tot_snoc ns t ht
  rw [e2, e, wnt_app]
  congr 1
  simp only [wnt]
  rw [List.length_take, Nat.min_eq_left (by omega), Nat.zero_add, show a + (tot (ns.take t) + (ns.getD t 0 + 4)) = a + tot (ns.take t) + (ns.getD t 0 + 4) by omega]
theorem oi_cells9 {w : World} {base : Nat} {v : Value} {L : List Nat} (h : Oi w base v L) (h0 : 0 < L.length) : ∃ g cap, v = .slice (some ⟨g, 0, none⟩) L.length cap ∧ base ≤ g ∧ ∀ i, i < L.length → w.cell? ⟨g, i, none⟩ = some (.int .i64 ((L.getD i 0 : Nat) : Int)) := by
  rcases h.2 with ⟨hv, h1⟩ | ⟨g, cap, c, hv, hg, hh, hc, hm, hs, ht⟩
  · omega
  · refine ⟨g, cap, hv, hg, fun i hi => ?_⟩
    have := h.cells (g := g) (by rw [hv]; rfl) i _ (ic_at L i hi)
    rwa [add_pl, Nat.zero_add] at this
theorem bu_w {t n : Nat} (h : t < n) (hn : n ≤ 1000000000) : wrap64 ((t : Int) + 1) = ((t + 1 : Nat) : Int) := by unfold wrap64; omega
theorem bu_w2 {t n : Nat} (h : t < n) (hn : n ≤ 1000000000) : IntKind.i64.wrap ((t : Int) + 1) = ((t + 1 : Nat) : Int) := by rw [IntKind.wrap_i64]; omega
theorem wnt_len (F : Nat) (p : BitVec 32) : ∀ (a j : Nat) (ns : List Nat), (wnt F p a j ns).length ≤ ns.length
  | _, _, [] => Nat.le_refl _
  | a, j, n :: ns => by
    unfold wnt
    have h1 := wnt_len F p (a + (n + 4)) (j + 1) ns
    split
    · simp only [List.length_cons]; omega
    · simp only [List.length_cons]; omega
theorem bu_facts {F k len : Nat} (hF : F < 8 * len) (hl : len ≤ 17592186044416) (hk : k < 32) : ∃ N1 : Nat, F + k = N1 ∧ (F : Int) + (k : Int) = (N1 : Int) ∧ N1 ≤ 140737488355360 := by
  refine ⟨F + k, rfl, by omega, by omega⟩
section
attribute [local irreducible] Calls el Hd.cs Hd.sh chk fn bgs Wr brs trn rg wnt
set_option maxHeartbeats 16000000 in
set_option maxRecDepth 1000000 in
theorem frameBursts_ok (h : Hd) (hin : h.In) (hy : h.key.length ≤ 9223372036854775807) (a : Option Addr) (n c : Nat) (bl : List (List (BitVec 8))) (hb : bl.length = n) (z : Int) (p : BitVec 32) (w : World) (hR : Rws w a bl) (ok : h.Ok) :
    Calls Try.prog 3 #[.agg (h.sh (.slice a n c)), .int .i64 z, .int .u32 (rg p)] w fun e w' => e = .returned (.bool true) ∧ Below w.heap.size w w' := by
  have al : ∀ (W : World) (o : Obj), Below W.heap.size W (W.alloc o) := fun W o => (Below.refl _ _).alloc (Nat.le_refl _) o
  have AW := (show Hid _ from awake_any)
  have S0 := (show Hid (SdAt (w.alloc (.cells (h.sh (.slice a n c)) 31)) w.heap.size h (.slice a n c)) from heap_alloc_new w _)
  have B0 := (show Hid (Below w.heap.size w (w.alloc (.cells (h.sh (.slice a n c)) 31))) from al _ _)
  have Q0 := (show Hid (Rws w a bl) from hR)
  have hm := fit_may h ok bl
  have hlb : (fitB h.ls bl).length ≤ 1000000000 := by rw [fitB_len]; exact Nat.le_trans (h.ls_bd ok) (by decide)
  have hfl := fm_is hm
  have hld := h.len_bd ok
  have hky : h.key.length ≤ 255 := by obtain ⟨⟩ := ok; omega
  have hlen : 40 + h.key.length + tot ((fitB h.ls bl).map List.length) = h.len := by rw [hm.2]; rfl
  have h40 : 0 < h.len := by omega
  have EN := (show Hid (∀ (W : World) (p : Option Addr) (d : Nat), Rws W p (fitB h.ls bl) → _) from fun W p d hW => encode_any h hin hy (w := W) (p := p) hW (fitB h.ls bl).length d rfl)
  rw [(en_may hm).1, (en_may hm).2] at EN
  have BG := (show Hid (∀ (W : World) (p : Option Addr) (d : Nat), Rws W p (fitB h.ls bl) → _) from fun W p d hW => begins_any h (w := W) (p := p) hW (fitB h.ls bl).length d rfl hlb hky (by omega))
  have NU := (show Hid _ from fun z W => num_any z W)
  have HMa := (show Hid _ from burst_all h (fitB h.ls bl) hm)
  have hgl := bgs_len (40 + h.key.length) ((fitB h.ls bl).map List.length)
  rw [List.length_map] at hgl
  have hg0 := bgs_at (40 + h.key.length) ((fitB h.ls bl).map List.length)
  rw [List.length_map] at hg0
  have FO := (show Hid (∀ W : World, Rws W a bl → _) from fun W hW => fit8_ok h hin ok (w := W) (p := a) hW n c hb)
  generalize bgs (40 + h.key.length) ((fitB h.ls bl).map List.length) = G at *
  generalize hf : h.fm (fitB h.ls bl) = f at *
  generalize hB : fitB h.ls bl = B at *
  generalize hL : h.len = len at *
  generalize hl0 : 40 + h.key.length = l0 at *
  have HG := (show Hid ((∀ i, i ≤ B.length → G.getD i 0 = l0 + tot ((B.map List.length).take i)) ∧ G.length = B.length + 1 ∧ B.length ≤ 1000000000 ∧ l0 + tot (B.map List.length) = len) from ⟨hg0, hgl, hlb, hlen⟩)
  have hl64 : len ≤ 17592186044416 := by omega
  clear hB hf hL hlen hm hl0 hg0 hgl hlb hld hky hR ok
  have e40 : ((len : Int) == 0) = false := by simp; omega
  go_enter Try.func3, Try.ntmps3
  go_upto_region 10 with (first
    | (go_at_call 5; refine (AW.out _).mono ?_; rintro e w1 ⟨rfl, hb1⟩; have S1 := (show Hid (SdAt w1 w.heap.size h (.slice a n c)) from SdAt.below S0.out hb1); have Bw1 := (show Hid (Below w.heap.size w w1) from bt B0.out hb1); clear S0 B0)
    | (refine wpList_ldS rfl _ rfl w.heap.size rfl S1.out ?_)
    | (go_at_call 6; refine (FO.out _ (Rws.below Q0.out Bw1.out)).mono ?_; rintro e w2 ⟨v2, rfl, hB2, hb2⟩; obtain ⟨q2, d2, rfl, hd2, hR2⟩ := hB2.rws; have R2 := (show Hid (Rws w2 q2 B) from hR2); clear hB2 hR2)
    | (refine wpList_stS h (.slice q2 B.length d2) rfl rfl _ _ rfl rfl w2.heap.size rfl rfl (sz0 (heap_alloc_new w2 _)) ?_; intro w3 H3 hT3; have B23 := hT3.2.1 _ _ (al w2 _) (Nat.le_refl _); have S3 := (show Hid (SdAt w3 w2.heap.size h (.slice q2 B.length d2)) from H3); have R3 := (show Hid (Rws w3 q2 B) from Rws.below R2.out B23); have Bw3 := (show Hid (Below w.heap.size w w3) from bt (bt Bw1.out hb2) B23); clear S1 hT3 H3 R2 Bw1 B23 hb2)
    | (refine wpList_ldS rfl _ rfl w2.heap.size rfl S3.out ?_)
    | (go_at_call 7; refine (EN.out _ _ _ R3.out).mono ?_; rintro e w7 ⟨v7, rfl, hO7, hb7⟩; obtain ⟨g7, cap7, e7, hc7, hg76, hW7⟩ := ow_wr hO7 (by omega); rw [hfl] at e7 hc7; subst e7; have W7 := (show Hid (Wr w7 g7 f) from hW7); have B37 := (show Hid (Below w3.heap.size w3 w7) from hb7); have Bw7 := (show Hid (Below w.heap.size w w7) from bt Bw3.out hb7); have gw7 := (show Hid (w.heap.size ≤ g7) from Nat.le_trans Bw3.out.size hg76); have gs7 := (show Hid (w3.heap.size ≤ g7) from hg76); clear Bw3 hO7 hW7 hb7 hg76)
    | (go_at_call 8; refine (NU.out _ _).mono ?_; rintro e w99 ⟨rfl, h9⟩; obtain rfl := h9.symm))
  obtain ⟨N8, hN8⟩ : ∃ N8 : Int, 8 * (len : Int) = N8 := ⟨_, rfl⟩
  have wN : wrap64 (8 * (len : Int)) = N8 := by unfold wrap64; omega
  have n0 : ¬ N8 = 0 := by omega
  have nb : 0 < N8 ∧ N8 ≤ 1125899906842624 := by omega
  obtain ⟨F, hF⟩ : ∃ F : Nat, (F : Int) = z % N8 := ⟨(z % N8).toNat, by have := Int.emod_nonneg z (show N8 ≠ 0 by omega); omega⟩
  have hFb : F < 8 * len := by have := Int.emod_lt_of_pos z nb.1; omega
  have HN := (show Hid (8 * (len : Int) = N8 ∧ 0 < N8 ∧ N8 ≤ 1125899906842624 ∧ (F : Int) = z % N8 ∧ F < 8 * len) from ⟨hN8, nb.1, nb.2, hF, hFb⟩)
  clear nb hF hFb
  go_upto_if 54 with fail
  go_cut [12] (fun v wx => v = .int .i64 (F : Int) ∧ Hid (wx = w7))
  case first =>
    by_cases hneg : z.tmod N8 < 0
    · have wz := bit_w hneg HN.out.2.1 HN.out.2.2.1
      rw [← HN.out.2.2.2.1] at wz
      go_wp2_with (fail)
      go_meet
      case rel => exact ⟨by first | rfl | (rw [wz]), rfl⟩
    · have wz := bit_pos hneg HN.out.2.1
      rw [← HN.out.2.2.2.1] at wz
      have HZ := (show Hid _ from wz)
      clear wz
      go_wp2_with (fail)
      go_meet
      case rel => exact ⟨by rw [HZ.out], rfl⟩
  case rest =>
    obtain ⟨rfl, hw7⟩ := hcut
    obtain rfl : wc = w7 := hw7.out
    clear hw7 wN n0
    have hFb : F < 8 * len := HN.out.2.2.2.2
    have hF50 : F ≤ 1125899906842624 := by omega
    clear HN
    have TU := (show Hid (∀ (a b : Nat) (W : World), _) from fun a b W => turned_any a b F p hF50 W)
    by_cases hany : trn 0 f.length F p = true
    · have HM := (show Hid _ from HMa.out F p hany)
      have TU0 := (show Hid (∀ W : World, _) from fun W => TU.out 0 f.length W)
      rw [hany, hfl] at TU0
      clear hany HMa
      go_wp2_with (first
        | (go_at_call 9; refine (TU0.out _).mono ?_; rintro e w8 ⟨rfl, h9⟩; obtain rfl := h9.symm))
      clear TU0
      have HFL := (show Hid (F < 8 * len ∧ len ≤ 17592186044416) from ⟨hFb, hl64⟩)
      clear hFb hl64 hF50 h40 e40
      go_loopw [14, 15] (fun i _ wr => ∃ k : Nat, k ≤ 32 ∧ i = .int .i64 (k : Int) ∧ Hid (Wr wr g7 (brs f F p k)) ∧ Hid (wc.grownBy wr (some g7))) (fun i _ _ => 32 - (intOf i).toNat)
      case atStart => exact ⟨0, Nat.zero_le _, rfl, (by show Wr _ _ _; rw [brs_zero]; exact W7.out), ⟨rfl, rfl, rfl, Nat.le_refl _, fun _ _ _ => rfl⟩⟩
      case round =>
        obtain ⟨k, hk, rfl, hW, hG⟩ := hrel
        by_cases hlt : k < 32
        · have hi : (k : Int) < 32 := by omega
          obtain ⟨N1, hN1, eN, wN1⟩ := bu_facts HFL.out.1 HFL.out.2 hlt
          have HK := (show Hid (k < 32 ∧ F + k = N1) from ⟨hlt, hN1⟩)
          clear hN1
          by_cases hbit : p.getLsbD k = true
          · have q1 := rg_tb1 p k hbit
            have HB := (show Hid _ from hbit)
            clear hbit
            by_cases hin2 : N1 / 8 < len
            · have q2 : (N1 : Int) / 8 < (len : Int) := by omega
              have g1 := hW.out.cell (i := N1 / 8) (by rw [brs_len, hfl]; exact hin2)
              have g2 := hW.out.frozen (N1 / 8)
              have eb1 := el_bitx (fn (brs f F p k) (N1 / 8)) (N1 % 8)
              have HI := (show Hid (N1 / 8 < f.length) from by show _ < _; rw [hfl]; exact hin2)
              clear hin2 hlt hk
              go_wp2_with (fail)
              go_roundw
              case rel =>
                refine ⟨k + 1, HK.out.1, by go_num, ?_, ?_⟩
                · show Wr _ _ _
                  rw [brs_succ, if_pos ⟨HB.out, by rw [HK.out.2]; exact HI.out⟩, HK.out.2]
                  unfold tb
                  exact hW.out.set (by rw [brs_len]; exact HI.out) rfl
                · exact gset8 hG.out 0 _ _
              case measure => have := HK.out.1; simp [intOf]; omega
            · have q2 : ¬ (N1 : Int) / 8 < (len : Int) := by omega
              have HI := (show Hid (¬ N1 / 8 < f.length) from by show ¬ _ < _; rw [hfl]; exact hin2)
              clear hin2
              go_wp2_with (fail)
              go_roundw
              case rel => exact ⟨k + 1, HK.out.1, by go_num, (by show Wr _ _ _; rw [brs_succ, if_neg (by rw [HK.out.2]; exact fun h9 => HI.out h9.2)]; exact hW.out), hG⟩
              case measure => simp [intOf]; omega
          · have q1 := rg_tb0 p k (by simpa using hbit)
            have HB := (show Hid _ from hbit)
            clear hbit
            go_wp2_with (fail)
            go_roundw
            case rel => exact ⟨k + 1, HK.out.1, by go_num, (by show Wr _ _ _; rw [brs_succ, if_neg (fun h9 => HB.out h9.1)]; exact hW.out), hG⟩
            case measure => simp [intOf]; omega
        · obtain rfl : k = 32 := by omega
          have B3r := (show Hid (Below w3.heap.size w3 wr) from (B37.out.grown hG.out B37.out.size (fun g hg => by cases hg; exact gs7.out)))
          have Bwr := (show Hid (Below w.heap.size w wr) from (Bw7.out.grown hG.out Bw7.out.size (fun g hg => by cases hg; exact gw7.out)))
          have S8 := (show Hid (SdAt wr w2.heap.size h (.slice q2 B.length d2)) from SdAt.below S3.out B3r.out)
          have R8 := (show Hid (Rws wr q2 B) from Rws.below R3.out B3r.out)
          have L8 := (show Hid (Rd wr (some ⟨g7, 0, none⟩) (brs f F p 32)) from hW.out.rd)
          have lL : (brs f F p 32).length = len := by rw [brs_len, hfl]
          have hlen8 : len ≤ 140737488355328 := by have := HFL.out.2; omega
          have PA := (show Hid (∀ (W : World) (p' : Option Addr) (d : Nat), Rd W p' (brs f F p 32) → len ≤ d → _) from fun W p' d h1 h2 => parse_any (w := W) (p := p') h1 len d lL h2 hlen8)
          have SP := (show Hid (∀ (W : World) (p' : Option Addr) (d : Nat), Rd W p' (brs f F p 32) → len ≤ d → _) from fun W p' d h1 h2 => spoilt_any rhd_ok (w := W) (p := p') h1 len d lL h2 hlen8)
          have PH := (show Hid (∀ (W : World) (p' : Option Addr) (d : Nat), Rd W p' (brs f F p 32) → len ≤ d → _) from fun W p' d h1 h2 => pHead_any rhd_ok (w := W) (p := p') h1 len d lL h2 hlen8)
          clear hW hG W7 S3 R3 B37 Bw7 gw7 gs7 hk hlt hlen8 lL
          by_cases hcase : trn 0 l0 F p = true
          · obtain ⟨E, hE, e1, e2, e3⟩ := no_all _ (HM.out.1 hcase).1
            rw [e1] at PH
            rw [e2] at SP
            rw [e3] at PA
            have TU1 := (show Hid (∀ W : World, _) from fun W => TU.out 0 l0 W)
            rw [hcase] at TU1
            clear e1 e2 e3 HM hcase
            generalize brs f F p 32 = L at *
            have x1 : (E == 0) = false := by simpa using hE
            have x2 : (E != 0) = true := by simpa using hE
            clear hE
            go_wp2_with (first
              | (refine wpList_ldS rfl _ rfl w2.heap.size rfl S8.out ?_)
              | (go_at_call 10; refine (BG.out _ _ _ R8.out).mono ?_; rintro e w9 ⟨v9, rfl, hO9, hb9⟩; obtain ⟨g9, cap9, e9, hg9, hC9⟩ := oi_cells9 hO9 (by have := HG.out.2.1; omega); rw [HG.out.2.1] at e9; subst e9; have cn := hC9 0 (by have := HG.out.2.1; omega); rw [HG.out.1 0 (Nat.zero_le _)] at cn; have CN := (show Hid (w9.cell? ⟨g9, 0, none⟩ = some (.int .i64 (l0 : Int))) from by show _ = _; simpa [tot] using cn); have L9 := (show Hid (Rd w9 (some ⟨g7, 0, none⟩) L) from Rd.below L8.out hb9); have Bw9 := (show Hid (Below w.heap.size w w9) from bt Bwr.out hb9); clear S8 R8 Bwr L8 hO9 hC9 hb9 hg9 cn)
              | (go_at_call 11; refine (PA.out _ _ _ L9.out hc7).mono ?_; rintro e w10 ⟨v10, rfl, hB10, hb10⟩; obtain ⟨q10, d10, hv10, _, _⟩ := hB10.rws; subst hv10; have L10 := (show Hid (Rd w10 (some ⟨g7, 0, none⟩) L) from Rd.below L9.out hb10); have C10 := (show Hid _ from cell_below CN.out hb10); have Bw10 := (show Hid (Below w.heap.size w w10) from bt Bw9.out hb10); clear L9 CN Bw9 hb10 hB10)
              | (refine wpList_stS hd0 (.slice q10 ([] : List (List (BitVec 8))).length d10) rfl rfl _ _ rfl rfl w10.heap.size rfl rfl (sz0 (heap_alloc_new w10 _)) ?_; intro w11 H11 hT11; have hb11 := hT11.2.1 _ _ (al w10 _) (Nat.le_refl _); have L11 := (show Hid (Rd w11 (some ⟨g7, 0, none⟩) L) from Rd.below L10.out hb11); have C11 := (show Hid _ from cell_below C10.out hb11); have Bw11 := (show Hid (Below w.heap.size w w11) from bt Bw10.out hb11); clear L10 C10 Bw10 hb11 H11 hT11)
              | (go_at_call 12; refine (PH.out _ _ _ L11.out hc7).mono ?_; rintro e w12 ⟨rfl, hb12⟩; have L12 := (show Hid (Rd w12 (some ⟨g7, 0, none⟩) L) from Rd.below L11.out hb12); have C12 := (show Hid _ from cell_below C11.out hb12); have Bw12 := (show Hid (Below w.heap.size w w12) from bt Bw11.out hb12); clear L11 C11 Bw11 hb12)
              | (refine wpList_stH hd0 rfl _ _ rfl rfl w12.heap.size rfl rfl (hz0 (heap_alloc_new w12 _)) ?_; intro w13 H13 hT13; have hb13 := hT13.2.1 _ _ (al w12 _) (Nat.le_refl _); have L13 := (show Hid (Rd w13 (some ⟨g7, 0, none⟩) L) from Rd.below L12.out hb13); have C13 := (show Hid _ from cell_below C12.out hb13); have Bw13 := (show Hid (Below w.heap.size w w13) from bt Bw12.out hb13); clear L12 C12 Bw12 hb13 H13 hT13)
              | (go_at_call 13; refine (SP.out _ _ _ L13.out hc7).mono ?_; rintro e w14 ⟨v14, rfl, hO14, hb14⟩; obtain ⟨p14, c14, rfl, hc14, hV14⟩ := hO14.rd; have c0 := cell_below C13.out hb14; have Bw14 := (show Hid (Below w.heap.size w w14) from bt Bw13.out hb14); clear hV14 hO14 hb14 Bw13 L13 C13)
              | (go_at_call 8; refine (NU.out _ _).mono ?_; rintro e w99 ⟨rfl, h9⟩; obtain rfl := h9.symm)
              | (go_at_call 9; refine (TU1.out _).mono ?_; rintro e w98 ⟨rfl, h9⟩; obtain rfl := h9.symm))
            go_ret
            exact ⟨rfl, Bw14.out⟩
          · have hcf : trn 0 l0 F p = false := by simpa using hcase
            obtain ⟨e0, e2, e3⟩ := HM.out.2 hcf
            obtain ⟨hx, e1⟩ : ∃ hx, pH (brs f F p 32) = (0, hx) := ⟨(pH (brs f F p 32)).2, by rw [← e0]⟩
            rw [e1] at PH
            rw [e2] at SP
            rw [e3] at PA
            have TU1 := (show Hid (∀ W : World, _) from fun W => TU.out 0 l0 W)
            rw [hcf] at TU1
            clear e0 e1 e2 e3 HM hcase hcf
            generalize brs f F p 32 = L at *
            have x1 : ((82 : Int) == 0) = false := by decide
            go_wp2_with (first
              | (refine wpList_ldS rfl _ rfl w2.heap.size rfl S8.out ?_)
              | (go_at_call 10; refine (BG.out _ _ _ R8.out).mono ?_; rintro e w9 ⟨v9, rfl, hO9, hb9⟩; obtain ⟨g9, cap9, e9, hg9, hC9⟩ := oi_cells9 hO9 (by have := HG.out.2.1; omega); rw [HG.out.2.1] at e9; subst e9; have cn := hC9 0 (by have := HG.out.2.1; omega); rw [HG.out.1 0 (Nat.zero_le _)] at cn; have C9 := (show Hid (∀ i, i ≤ B.length → w9.cell? ⟨g9, i, none⟩ = some (.int .i64 ((l0 + tot ((B.map List.length).take i) : Nat) : Int))) from fun i hi => by have h5 := hC9 i (by have := HG.out.2.1; omega); rw [HG.out.1 i hi] at h5; exact h5); have CN := (show Hid (w9.cell? ⟨g9, 0, none⟩ = some (.int .i64 (l0 : Int))) from by show _ = _; simpa [tot] using cn); have L9 := (show Hid (Rd w9 (some ⟨g7, 0, none⟩) L) from Rd.below L8.out hb9); have S9 := (show Hid (SdAt w9 w2.heap.size h (.slice q2 B.length d2)) from SdAt.below S8.out hb9); have Bw9 := (show Hid (Below w.heap.size w w9) from bt Bwr.out hb9); clear S8 R8 Bwr L8 hO9 hC9 hb9 hg9 cn)
              | (go_at_call 11; refine (PA.out _ _ _ L9.out hc7).mono ?_; rintro e w10 ⟨v10, rfl, hB10, hb10⟩; obtain ⟨q10, d10, hv10, _, _⟩ := hB10.rws; subst hv10; have L10 := (show Hid (Rd w10 (some ⟨g7, 0, none⟩) L) from Rd.below L9.out hb10); have C10 := (show Hid _ from cell_below CN.out hb10); have S10 := (show Hid (SdAt w10 w2.heap.size h (.slice q2 B.length d2)) from SdAt.below S9.out hb10); have D10 := (show Hid (∀ i, i ≤ B.length → w10.cell? ⟨g9, i, none⟩ = some (.int .i64 ((l0 + tot ((B.map List.length).take i) : Nat) : Int))) from fun i hi => cell_below (C9.out i hi) hb10); have Bw10 := (show Hid (Below w.heap.size w w10) from bt Bw9.out hb10); clear L9 CN Bw9 hb10 hB10)
              | (refine wpList_stS hd0 (.slice q10 ([] : List (List (BitVec 8))).length d10) rfl rfl _ _ rfl rfl w10.heap.size rfl rfl (sz0 (heap_alloc_new w10 _)) ?_; intro w11 H11 hT11; have hb11 := hT11.2.1 _ _ (al w10 _) (Nat.le_refl _); have L11 := (show Hid (Rd w11 (some ⟨g7, 0, none⟩) L) from Rd.below L10.out hb11); have C11 := (show Hid _ from cell_below C10.out hb11); have S11 := (show Hid (SdAt w11 w2.heap.size h (.slice q2 B.length d2)) from SdAt.below S10.out hb11); have D11 := (show Hid (∀ i, i ≤ B.length → w11.cell? ⟨g9, i, none⟩ = some (.int .i64 ((l0 + tot ((B.map List.length).take i) : Nat) : Int))) from fun i hi => cell_below (D10.out i hi) hb11); have Bw11 := (show Hid (Below w.heap.size w w11) from bt Bw10.out hb11); clear L10 C10 Bw10 hb11 H11 hT11)
              | (go_at_call 12; refine (PH.out _ _ _ L11.out hc7).mono ?_; rintro e w12 ⟨rfl, hb12⟩; have L12 := (show Hid (Rd w12 (some ⟨g7, 0, none⟩) L) from Rd.below L11.out hb12); have C12 := (show Hid _ from cell_below C11.out hb12); have S12 := (show Hid (SdAt w12 w2.heap.size h (.slice q2 B.length d2)) from SdAt.below S11.out hb12); have D12 := (show Hid (∀ i, i ≤ B.length → w12.cell? ⟨g9, i, none⟩ = some (.int .i64 ((l0 + tot ((B.map List.length).take i) : Nat) : Int))) from fun i hi => cell_below (D11.out i hi) hb12); have Bw12 := (show Hid (Below w.heap.size w w12) from bt Bw11.out hb12); clear L11 C11 Bw11 hb12)
              | (refine wpList_stH hx rfl _ _ rfl rfl w12.heap.size rfl rfl (hz0 (heap_alloc_new w12 _)) ?_; intro w13 H13 hT13; have hb13 := hT13.2.1 _ _ (al w12 _) (Nat.le_refl _); have L13 := (show Hid (Rd w13 (some ⟨g7, 0, none⟩) L) from Rd.below L12.out hb13); have C13 := (show Hid _ from cell_below C12.out hb13); have S13 := (show Hid (SdAt w13 w2.heap.size h (.slice q2 B.length d2)) from SdAt.below S12.out hb13); have D13 := (show Hid (∀ i, i ≤ B.length → w13.cell? ⟨g9, i, none⟩ = some (.int .i64 ((l0 + tot ((B.map List.length).take i) : Nat) : Int))) from fun i hi => cell_below (D12.out i hi) hb13); have Bw13 := (show Hid (Below w.heap.size w w13) from bt Bw12.out hb13); clear L12 C12 Bw12 hb13 H13 hT13)
              | (go_at_call 13; refine (SP.out _ _ _ L13.out hc7).mono ?_; rintro e w14 ⟨v14, rfl, hO14, hb14⟩; obtain ⟨p14, c14, rfl, hc14, hV14⟩ := hO14.rd; have c0 := cell_below C13.out hb14; have S14 := (show Hid (SdAt w14 w2.heap.size h (.slice q2 B.length d2)) from SdAt.below S13.out hb14); have D14 := (show Hid (∀ i, i ≤ B.length → w14.cell? ⟨g9, i, none⟩ = some (.int .i64 ((l0 + tot ((B.map List.length).take i) : Nat) : Int))) from fun i hi => cell_below (D13.out i hi) hb14); have Bw14 := (show Hid (Below w.heap.size w w14) from bt Bw13.out hb14); have V14 := (show Hid _ from hV14); clear hV14 hO14 hb14 Bw13 L13 C13)
              | (go_at_call 8; refine (NU.out _ _).mono ?_; rintro e w99 ⟨rfl, h9⟩; obtain rfl := h9.symm)
              | (go_at_call 9; refine (TU1.out _).mono ?_; rintro e w98 ⟨rfl, h9⟩; obtain rfl := h9.symm))
            clear c0 C9 D10 D11 D12 D13 S9 S10 S11 S12 S13 TU1 x1
            have s16 := S14.out.last
            have HBn := (show Hid (B.length ≤ 1000000000) from HG.out.2.2.1)
            go_loopw [23, 24] (fun v i wr => ∃ t : Nat, t ≤ B.length ∧ i = .int .i64 (t : Int) ∧ Hid (Oi wr w14.heap.size v (wnt F p l0 0 ((B.map List.length).take t))) ∧ Hid (Below w14.heap.size w14 wr)) (fun _ i _ => B.length - (intOf i).toNat)
            case atStart => exact ⟨0, Nat.zero_le _, rfl, (by show Oi _ _ _ _; rw [List.take_zero, wnt_nil]; exact Oi.nil _ _), Below.refl _ _⟩
            case round =>
              obtain ⟨t, ht, rfl, hO, hbr⟩ := hrel
              have s16r := cell_below s16 hbr.out
              by_cases hlt : t < B.length
              · have hi : (t : Int) < (B.length : Int) := by omega
                have cA := cell_below (D14.out t (by omega)) hbr.out
                have cB := cell_below (D14.out (t + 1) (by omega)) hbr.out
                have HS := (show Hid _ from wnt_step F p l0 (B.map List.length) t (by rw [List.length_map]; exact hlt))
                obtain ⟨A, hA⟩ : ∃ A, l0 + tot ((B.map List.length).take t) = A := ⟨_, rfl⟩
                obtain ⟨An, hAn⟩ : ∃ An, l0 + tot ((B.map List.length).take (t + 1)) = An := ⟨_, rfl⟩
                rw [hA] at cA HS
                rw [hAn] at cB HS
                clear hA hAn
                have wt := bu_w hlt HBn.out
                obtain ⟨t1, ht1⟩ : ∃ t1, t + 1 = t1 := ⟨_, rfl⟩
                rw [ht1] at wt cB
                have i1 : (t : Int) < ((B.length + 1 : Nat) : Int) := by omega
                have i2 : (t1 : Int) < ((B.length + 1 : Nat) : Int) := by omega
                have HT := (show Hid (t + 1 = t1 ∧ t < B.length) from ⟨ht1, hlt⟩)
                have TUt := (show Hid (∀ W : World, _) from fun W => TU.out A An W)
                clear ht1 ht hlt
                by_cases ct : trn A An F p = true
                · rw [ct] at TUt
                  rw [if_pos ct] at HS
                  clear ct
                  go_wp2
                  have wt2 := bu_w2 HT.out.2 HBn.out
                  rw [HT.out.1] at wt2
                  go_quiet ((go_at_call 9; exact Calls.quiet_of_same (TUt.out _)))
                  have rc := fun W : World => cell_of_row (W.alloc (.cells #[.int .i64 (t : Int)] 3)) W.heap.size 0 _ _ (0, 0) (heap_alloc_new W _)
                  have OD := (show Hid (∀ z, Oi (wr.drewN z) w14.heap.size u23 (wnt F p l0 0 ((B.map List.length).take t))) from fun z => hO.out.below (bd8 (Below.refl _ _) z))
                  have BD := (show Hid (∀ z, Below w14.heap.size w14 (wr.drewN z)) from fun z => bd8 hbr.out z)
                  have HLn := (show Hid ((wnt F p l0 0 ((B.map List.length).take t)).length + 1 ≤ 1099511627776) from by have h1 := wnt_len F p l0 0 ((B.map List.length).take t); have h2 := HBn.out; have h3 := HT.out.2; rw [List.length_take, List.length_map] at h1; show _ ≤ _; omega)
                  clear cA cB wt2
                  go_wp2_with (first
                    | (at_builtin; refine wpList_api rfl (.tmp 154) (.tmp 156) rfl w14.heap.size u23 _ rfl ((OD.out _).below (al _ _)) ⟨_, 0, none⟩ 1 t rfl (rc _) HLn.out (Nat.le_trans (BD.out _).size (al _ _).size) ?_; intro v8 w8 ho8 hg8))
                  go_roundw
                  case rel =>
                    have hbA := below_append (t := 3) ((BD.out _).alloc (BD.out _).size (.cells #[.int .i64 (t : Int)] 3)) (Nat.le_trans (BD.out _).size (al _ _).size) hg8 ((OD.out _).below (al _ _)) (Nat.le_refl _)
                    exact ⟨t + 1, HT.out.2, by rw [wt, HT.out.1], (by show Oi _ _ _ _; rw [HS.out]; exact ho8), hbA⟩
                  case measure => have := HT.out; rw [wt]; simp [intOf]; omega
                · have ctf : trn A An F p = false := by simpa using ct
                  rw [ctf] at TUt
                  rw [if_neg ct] at HS
                  clear ct ctf
                  go_wp2
                  have wt2 := bu_w2 HT.out.2 HBn.out
                  rw [HT.out.1] at wt2
                  go_quiet ((go_at_call 9; exact Calls.quiet_of_same (TUt.out _)))
                  have OD := (show Hid (∀ z, Oi (wr.drewN z) w14.heap.size u23 (wnt F p l0 0 ((B.map List.length).take t))) from fun z => hO.out.below (bd8 (Below.refl _ _) z))
                  have BD := (show Hid (∀ z, Below w14.heap.size w14 (wr.drewN z)) from fun z => bd8 hbr.out z)
                  clear cA cB wt2
                  go_wp2_with (fail)
                  go_roundw
                  case rel => exact ⟨t + 1, HT.out.2, by rw [wt, HT.out.1], (by show Oi _ _ _ _; rw [HS.out, List.append_nil]; exact OD.out _), BD.out _⟩
                  case measure => have := HT.out; rw [wt]; simp [intOf]; omega
              · obtain rfl : t = B.length := by omega
                have hO' := hO.out
                rw [List.take_of_length_le (by simp)] at hO'
                obtain ⟨p15, c15, rfl, hc15, hV15⟩ := hO'.rd
                have V15 := (show Hid _ from hV15)
                have V16 := (show Hid _ from Vr.below V14.out hbr.out)
                have HLn := (show Hid ((wnt F p l0 0 (B.map List.length)).length ≤ 1099511627776) from by have h1 := wnt_len F p l0 0 (B.map List.length); have h2 := HBn.out; rw [List.length_map] at h1; show _ ≤ _; omega)
                have Bwz := (show Hid (Below w.heap.size w wr) from bt Bw14.out hbr.out)
                clear hO hO' hV15 V14 hc15
                generalize wnt F p l0 0 (B.map List.length) = WS at *
                go_wp2_with (first
                  | (go_at_call 8; refine (NU.out _ _).mono ?_; rintro e w99 ⟨rfl, h9⟩; obtain rfl := h9.symm)
                  | (go_at_call 14; refine (sameInts_any (xs := WS) (ys := WS) V16.out V15.out _ _ c14 c15 rfl rfl HLn.out).mono ?_; rintro e w17 ⟨rfl, hb17⟩; rw [decide_eq_true rfl]; have B17 := (show Hid (Below w.heap.size w w17) from bt Bwz.out hb17)))
                go_ret
                exact ⟨rfl, B17.out⟩
    · have hany' : trn 0 f.length F p = false := by simpa using hany
      have TU0 := (show Hid (∀ W : World, _) from fun W => TU.out 0 f.length W)
      rw [hany', hfl] at TU0
      go_wp2_with (first
        | (go_at_call 9; refine (TU0.out _).mono ?_; rintro e w8 ⟨rfl, h9⟩; obtain rfl := h9.symm))
      go_ret
      exact ⟨rfl, Bw7.out⟩
end
theorem frameBursts_walk (h : Hd) (hin : h.In) (hy : h.key.length ≤ 9223372036854775807) (a : Option Addr) (n c : Nat) (bl : List (List (BitVec 8))) (hb : bl.length = n) (z : Int) (p : BitVec 32) (w : World) (hR : Rws w a bl) :
    Calls Try.prog 3 #[.agg (h.sh (.slice a n c)), .int .i64 z, .int .u32 (rg p)] w fun e w' => e = .returned (.bool true) ∧ Below w.heap.size w w' := by
  by_cases hc : chk h = 0
  · exact frameBursts_ok h hin hy a n c bl hb z p w hR ((chk_ok h).1 hc)
  · exact frameBursts_no h hin hy a n c z (rg p) w hc
end Go.Proofs.Ytkafbeicgaoebaa
