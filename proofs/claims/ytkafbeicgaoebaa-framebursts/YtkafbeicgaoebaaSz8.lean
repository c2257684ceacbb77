/-
  Frames with whatever sums; sums of four bytes that differ.
-/
import Derived.Test.YtkafbeicgaoebaaM8
import Derived.Test.YtkafbeicgaoebaaPz8
import Derived.Test.YtkafbeicgaoebaaFv8
import Derived.Test.YtkafbeicgaoebaaAw8
import Derived.Test.YtkafbeicgaoebaaEn9
import Derived.Test.YtkafbeicgaoebaaSi8
import Derived.Deep.RegionHeld3
import Derived.BigQuiet
namespace Go.Proofs.Ytkafbeicgaoebaa
theorem cmo_inj {s t : BitVec 32} {xs : List (BitVec 8)} (e : cmo s xs = cmo t xs) : s = t := by
  unfold cmo at e
  have e1 : ov (~~~ s) xs = ov (~~~ t) xs := by
    have := congrArg (~~~ ·) e
    simpa using this
  rw [ov_split xs (~~~ s), ov_split xs (~~~ t)] at e1
  have e2 : stps (8 * xs.length) (~~~ s) = stps (8 * xs.length) (~~~ t) := by
    have := congrArg (fun z => ov 0#32 xs ^^^ z) e1
    simpa [← BitVec.xor_assoc] using this
  have e3 := stps_inj _ e2
  have := congrArg (~~~ ·) e3
  simpa using this
theorem ov_inj {r s : BitVec 32} {xs : List (BitVec 8)} (e : ov r xs = ov s xs) : r = s := by
  rw [ov_split xs r, ov_split xs s] at e
  have e2 : stps (8 * xs.length) r = stps (8 * xs.length) s := by
    have := congrArg (fun z => ov 0#32 xs ^^^ z) e
    simpa [← BitVec.xor_assoc] using this
  exact stps_inj _ e2
theorem sh8 : ∀ x : BitVec 8, stps 8 (x.setWidth 32 <<< 8) = x.setWidth 32 := by decide +kernel
theorem sh16 : ∀ x : BitVec 8, stps 16 (x.setWidth 32 <<< 16) = x.setWidth 32 := by decide +kernel
theorem sh24 : ∀ x : BitVec 8, stps 24 (x.setWidth 32 <<< 24) = x.setWidth 32 := by decide +kernel
theorem ov_word (r : BitVec 32) (a b c d : BitVec 8) : ov r [a, b, c, d] = stps 32 (r ^^^ (a.setWidth 32 ^^^ (b.setWidth 32 <<< 8 ^^^ (c.setWidth 32 <<< 16 ^^^ d.setWidth 32 <<< 24)))) := by
  show stps 8 (stps 8 (stps 8 (stps 8 (r ^^^ a.setWidth 32) ^^^ b.setWidth 32) ^^^ c.setWidth 32) ^^^ d.setWidth 32) = _
  have l8 := Lin.stps 8
  have e1 : stps 8 (r ^^^ a.setWidth 32) ^^^ b.setWidth 32 = stps 8 (r ^^^ a.setWidth 32 ^^^ b.setWidth 32 <<< 8) := by rw [l8 (r ^^^ a.setWidth 32) (b.setWidth 32 <<< 8), sh8]
  have e2 : stps 8 (stps 8 (r ^^^ a.setWidth 32 ^^^ b.setWidth 32 <<< 8)) ^^^ c.setWidth 32 = stps 16 (r ^^^ a.setWidth 32 ^^^ b.setWidth 32 <<< 8 ^^^ c.setWidth 32 <<< 16) := by rw [← stps_add, Lin.stps 16 (r ^^^ a.setWidth 32 ^^^ b.setWidth 32 <<< 8) (c.setWidth 32 <<< 16), sh16]
  have e3 : stps 8 (stps 16 (r ^^^ a.setWidth 32 ^^^ b.setWidth 32 <<< 8 ^^^ c.setWidth 32 <<< 16)) ^^^ d.setWidth 32 = stps 24 (r ^^^ a.setWidth 32 ^^^ b.setWidth 32 <<< 8 ^^^ c.setWidth 32 <<< 16 ^^^ d.setWidth 32 <<< 24) := by rw [← stps_add, Lin.stps 24 (r ^^^ a.setWidth 32 ^^^ b.setWidth 32 <<< 8 ^^^ c.setWidth 32 <<< 16) (d.setWidth 32 <<< 24), sh24]
  rw [e1, e2, e3, ← stps_add]
  simp only [BitVec.xor_assoc]
theorem word_inj {r : BitVec 32} {a b c d a' b' c' d' : BitVec 8} (e : ov r [a, b, c, d] = ov r [a', b', c', d']) : a = a' ∧ b = b' ∧ c = c' ∧ d = d' := by
  rw [ov_word, ov_word] at e
  have e1 := stps_inj _ e
  have e2 : a.setWidth 32 ^^^ (b.setWidth 32 <<< 8 ^^^ (c.setWidth 32 <<< 16 ^^^ d.setWidth 32 <<< 24)) = a'.setWidth 32 ^^^ (b'.setWidth 32 <<< 8 ^^^ (c'.setWidth 32 <<< 16 ^^^ d'.setWidth 32 <<< 24)) := by
    have := congrArg (fun z => r ^^^ z) e1
    simpa [← BitVec.xor_assoc] using this
  have bit := fun i => congrArg (fun z => z.getLsbD i) e2
  refine ⟨?_, ?_, ?_, ?_⟩
  · apply BitVec.eq_of_getLsbD_eq; intro i hi
    have := bit i
    simpa [BitVec.getLsbD_shiftLeft, show i < 8 from hi, show i < 16 by omega, show i < 24 by omega, show i < 32 by omega] using this
  · apply BitVec.eq_of_getLsbD_eq; intro i hi
    have := bit (8 + i)
    simpa [BitVec.getLsbD_shiftLeft, show ¬ 8 + i < 8 by omega, show 8 + i < 16 by omega, show 8 + i < 24 by omega, show 8 + i < 32 by omega] using this
  · apply BitVec.eq_of_getLsbD_eq; intro i hi
    have := bit (16 + i)
    simpa [BitVec.getLsbD_shiftLeft, show ¬ 16 + i < 8 by omega, show ¬ 16 + i < 16 by omega, show 16 + i < 24 by omega, show 16 + i < 32 by omega, show 16 + i - 8 = 8 + i by omega, BitVec.getLsbD_of_ge a (16 + i) (by omega), BitVec.getLsbD_of_ge a' (16 + i) (by omega), BitVec.getLsbD_of_ge b (8 + i) (by omega), BitVec.getLsbD_of_ge b' (8 + i) (by omega)] using this
  · apply BitVec.eq_of_getLsbD_eq; intro i hi
    have := bit (24 + i)
    simpa [BitVec.getLsbD_shiftLeft, show ¬ 24 + i < 8 by omega, show ¬ 24 + i < 16 by omega, show ¬ 24 + i < 24 by omega, show 24 + i < 32 by omega, show 24 + i - 8 = 16 + i by omega, show 24 + i - 16 = 8 + i by omega, BitVec.getLsbD_of_ge a (24 + i) (by omega), BitVec.getLsbD_of_ge a' (24 + i) (by omega), BitVec.getLsbD_of_ge b (16 + i) (by omega), BitVec.getLsbD_of_ge b' (16 + i) (by omega), BitVec.getLsbD_of_ge c (8 + i) (by omega), BitVec.getLsbD_of_ge c' (8 + i) (by omega)] using this
theorem four_inj {r : BitVec 32} {l m : List (BitVec 8)} (hl : l.length = 4) (hm : m.length = 4) (e : ov r l = ov r m) : l = m := by
  match l, hl, m, hm with
  | [a, b, c, d], _, [a', b', c', d'], _ =>
    obtain ⟨rfl, rfl, rfl, rfl⟩ := word_inj e
    rfl
/-- A block's sum tells its number. -/
theorem bsm_num {s : BitVec 32} {j k : Nat} {x : List (BitVec 8)} (hj : j < 4294967296) (hk : k < 4294967296) (e : bsm s j x = bsm s k x) : j = k := by
  unfold bsm at e
  have e1 := cmo_inj e
  unfold cmo at e1
  have e2 : ov (~~~ 0#32) (sm s ++ lb 4 j) = ov (~~~ 0#32) (sm s ++ lb 4 k) := by
    have := congrArg (~~~ ·) e1
    simpa using this
  rw [ov_append, ov_append] at e2
  have e3 := four_inj (lb_len 4 j) (lb_len 4 k) e2
  have e4 := congrArg lv e3
  rw [lv_lb 4 j (by simpa using hj), lv_lb 4 k (by simpa using hk)] at e4
  exact e4
/-- A block's sum tells the head's sum. -/
theorem bsm_head {s t : BitVec 32} {j : Nat} {x : List (BitVec 8)} (e : bsm s j x = bsm t j x) : s = t := by
  unfold bsm at e
  have e1 := cmo_inj e
  unfold cmo at e1
  have e2 : ov (~~~ 0#32) (sm s ++ lb 4 j) = ov (~~~ 0#32) (sm t ++ lb 4 j) := by
    have := congrArg (~~~ ·) e1
    simpa using this
  rw [ov_append, ov_append] at e2
  have e3 := four_inj (sm_len s) (sm_len t) (ov_inj e2)
  have e4 := congrArg lv e3
  rw [lv_sm, lv_sm] at e4
  exact BitVec.eq_of_toNat_eq e4
/-- Frames with whatever four bytes for their sums. -/
def gfr : List (List (BitVec 8) × List (BitVec 8)) → List (BitVec 8)
  | [] => []
  | (x, v) :: ps => x ++ v ++ gfr ps
/-- Their reading. -/
def grd (s : BitVec 32) : Nat → List (List (BitVec 8) × List (BitVec 8)) → List (Option (List (BitVec 8)))
  | _, [] => []
  | j, (x, v) :: ps => (if lv v = (bsm s j x).toNat then some x else none) :: grd s (j + 1) ps
theorem rbs_gfr (s : BitVec 32) (ps : List (List (BitVec 8) × List (BitVec 8))) (hv : ∀ q ∈ ps, q.2.length = 4) : ∀ (p t : List (BitVec 8)) (a j : Nat), p.length = a → rbs (p ++ gfr ps ++ t) s a j (ps.map (fun q => q.1.length)) = grd s j ps := by
  induction ps with
  | nil => intro p t a j _; rfl
  | cons q ps ih =>
    obtain ⟨x, v⟩ := q
    intro p t a j hp
    have hv0 : v.length = 4 := hv (x, v) (by simp)
    simp only [List.map_cons, rbs, grd]
    have e : p ++ gfr ((x, v) :: ps) ++ t = p ++ x ++ (v ++ (gfr ps ++ t)) := by simp only [gfr, List.append_assoc]
    have e2 : p ++ gfr ((x, v) :: ps) ++ t = (p ++ x ++ v) ++ gfr ps ++ t := by simp only [gfr, List.append_assoc]
    congr 1
    · unfold rb
      have c1 : cutl (p ++ gfr ((x, v) :: ps) ++ t) a x.length = x := by rw [e]; exact cutl_app _ _ _ _ _ hp rfl
      have c2 : cutl (p ++ gfr ((x, v) :: ps) ++ t) (a + x.length) 4 = v := by
        rw [e, ← List.append_assoc]; exact cutl_app _ _ _ _ _ (by rw [List.length_append, hp]) hv0
      rw [c1, c2, if_neg]
      · by_cases h : lv v = (bsm s j x).toNat
        · rw [if_neg (by simp [h]), if_pos h]
        · rw [if_pos h, if_neg h]
      · rw [e]
        simp only [List.length_append]
        omega
    · rw [e2]
      exact ih (fun q hq => hv q (by simp [hq])) _ t _ _ (by simp only [List.length_append, hv0]; omega)
/-- A shard's own frames. -/
def frp (s : BitVec 32) : Nat → List (List (BitVec 8)) → List (List (BitVec 8) × List (BitVec 8))
  | _, [] => []
  | j, x :: xs => (x, sm (bsm s j x)) :: frp s (j + 1) xs
theorem frp_gfr (s : BitVec 32) (bl : List (List (BitVec 8))) : ∀ j, gfr (frp s j bl) = frs s j bl := by
  induction bl with
  | nil => intro j; rfl
  | cons x xs ih => intro j; simp only [frp, gfr, frs, ih]
theorem frp_len (s : BitVec 32) (bl : List (List (BitVec 8))) : ∀ j, (frp s j bl).length = bl.length := by
  induction bl with
  | nil => intro j; rfl
  | cons x xs ih => intro j; simp [frp, ih]
theorem frp_at (s : BitVec 32) (bl : List (List (BitVec 8))) : ∀ j i, i < bl.length → (frp s j bl).getD i ([], []) = (bl.getD i [], sm (bsm s (j + i) (bl.getD i []))) := by
  induction bl with
  | nil => intro j i hi; simp at hi
  | cons x xs ih =>
    intro j i hi
    cases i with
    | zero => rfl
    | succ i =>
      have := ih (j + 1) i (by simpa using hi)
      simp only [frp, List.getD_cons_succ]
      rw [this, show j + 1 + i = j + (i + 1) by omega]
theorem grd_at (s : BitVec 32) (ps : List (List (BitVec 8) × List (BitVec 8))) : ∀ j i, i < ps.length → (grd s j ps)[i]? = some (if lv (ps.getD i ([], [])).2 = (bsm s (j + i) (ps.getD i ([], [])).1).toNat then some (ps.getD i ([], [])).1 else none) := by
  induction ps with
  | nil => intro j i hi; simp at hi
  | cons q ps ih =>
    intro j i hi
    cases i with
    | zero => simp [grd]
    | succ i =>
      have := ih (j + 1) i (by simpa using hi)
      simp only [grd, List.getElem?_cons_succ, List.getD_cons_succ]
      rw [this, show j + 1 + i = j + (i + 1) by omega]
end Go.Proofs.Ytkafbeicgaoebaa
/-
  FrameSwaps: two frames that change places, mathematics.
-/
namespace Go.Proofs.Ytkafbeicgaoebaa
/-- Two pieces of a list, as far as m, in one another's place. -/
def swf (f : List (BitVec 8)) (a b m p : Nat) : BitVec 8 := if a ≤ p ∧ p < a + m then f.getD (p - a + b) 0#8 else if b ≤ p ∧ p < b + m then f.getD (p - b + a) 0#8 else f.getD p 0#8
def swl (f : List (BitVec 8)) (a b m : Nat) : List (BitVec 8) := (List.range f.length).map (swf f a b m)
theorem swl_len (f : List (BitVec 8)) (a b m : Nat) : (swl f a b m).length = f.length := by unfold swl; simp
theorem swl_at (f : List (BitVec 8)) (a b m p : Nat) (hp : p < f.length) : (swl f a b m)[p]? = some (swf f a b m p) := by unfold swl; simp [hp]
theorem swl_zero (f : List (BitVec 8)) (a b : Nat) : swl f a b 0 = f := by
  apply List.ext_getElem?
  intro p
  by_cases hp : p < f.length
  · rw [swl_at _ _ _ _ _ hp]
    unfold swf
    rw [if_neg (by omega), if_neg (by omega)]
    simp [List.getD, hp]
  · rw [List.getElem?_eq_none (by rw [swl_len]; omega), List.getElem?_eq_none (by omega)]
theorem swl_succ (f : List (BitVec 8)) (a b m : Nat) (h1 : a + m < b) (h2 : b + m < f.length) : ((swl f a b m).set (a + m) (f.getD (b + m) 0#8)).set (b + m) (f.getD (a + m) 0#8) = swl f a b (m + 1) := by
  apply List.ext_getElem?
  intro p
  by_cases hp : p < f.length
  · rw [swl_at _ _ _ _ _ hp]
    rw [List.getElem?_set]
    by_cases e1 : b + m = p
    · subst e1
      rw [if_pos rfl, if_pos (by rw [List.length_set, swl_len]; exact h2)]
      unfold swf
      rw [if_neg (by omega), if_pos (by omega)]
      congr 2; omega
    · rw [if_neg e1, List.getElem?_set]
      by_cases e2 : a + m = p
      · subst e2
        rw [if_pos rfl, if_pos (by rw [swl_len]; omega)]
        unfold swf
        rw [if_pos (by omega)]
        congr 2; omega
      · rw [if_neg e2, swl_at _ _ _ _ _ hp]
        unfold swf
        by_cases c1 : a ≤ p ∧ p < a + m
        · rw [if_pos c1, if_pos (by omega)]
        · have c3 : ¬ (a ≤ p ∧ p < a + (m + 1)) := by omega
          by_cases c2 : b ≤ p ∧ p < b + m
          · have c4 : b ≤ p ∧ p < b + (m + 1) := by omega
            rw [if_neg c1, if_neg c3, if_pos c2, if_pos c4]
          · have c4 : ¬ (b ≤ p ∧ p < b + (m + 1)) := by omega
            rw [if_neg c1, if_neg c3, if_neg c2, if_neg c4]
  · rw [List.getElem?_eq_none (by rw [List.length_set, List.length_set, swl_len]; omega), List.getElem?_eq_none (by rw [swl_len]; omega)]
theorem getD_of {f : List (BitVec 8)} {p : Nat} {v : BitVec 8} (h : f[p]? = some v) : f.getD p 0#8 = v := by rw [List.getD_eq_getElem?_getD, h]; rfl
theorem swl_parts (P X Q Y R : List (BitVec 8)) (hm : X.length = Y.length) : swl (P ++ (X ++ (Q ++ (Y ++ R)))) P.length (P.length + (X.length + Q.length)) X.length = P ++ (Y ++ (Q ++ (X ++ R))) := by
  apply List.ext_getElem?
  intro p
  have hl : (P ++ (X ++ (Q ++ (Y ++ R)))).length = P.length + (X.length + (Q.length + (Y.length + R.length))) := by simp only [List.length_append]
  by_cases hp : p < (P ++ (X ++ (Q ++ (Y ++ R)))).length
  · rw [swl_at _ _ _ _ _ hp]
    unfold swf
    by_cases c1 : P.length ≤ p ∧ p < P.length + X.length
    · rw [if_pos c1, List.getElem?_append_right c1.1, List.getElem?_append_left (by omega)]
      have e : (P ++ (X ++ (Q ++ (Y ++ R))))[p - P.length + (P.length + (X.length + Q.length))]? = some (Y[p - P.length]'(by omega)) := by
        rw [List.getElem?_append_right (by omega), List.getElem?_append_right (by omega), List.getElem?_append_right (by omega), List.getElem?_append_left (by omega), List.getElem?_eq_getElem (by omega)]
        congr 2; omega
      rw [getD_of e, List.getElem?_eq_getElem (by omega)]
    · rw [if_neg c1]
      by_cases c2 : P.length + (X.length + Q.length) ≤ p ∧ p < P.length + (X.length + Q.length) + X.length
      · rw [if_pos c2, List.getElem?_append_right (by omega), List.getElem?_append_right (by omega), List.getElem?_append_right (by omega), List.getElem?_append_left (by omega)]
        have e : (P ++ (X ++ (Q ++ (Y ++ R))))[p - (P.length + (X.length + Q.length)) + P.length]? = some (X[p - (P.length + (X.length + Q.length))]'(by omega)) := by
          rw [List.getElem?_append_right (by omega), List.getElem?_append_left (by omega), List.getElem?_eq_getElem (by omega)]
          congr 2; omega
        rw [getD_of e, List.getElem?_eq_getElem (by omega)]
        congr 2; omega
      · rw [if_neg c2]
        have e : (P ++ (X ++ (Q ++ (Y ++ R))))[p]? = (P ++ (Y ++ (Q ++ (X ++ R))))[p]? := by
          by_cases d1 : p < P.length
          · rw [List.getElem?_append_left d1, List.getElem?_append_left d1]
          · by_cases d2 : p < P.length + (X.length + Q.length)
            · have l1 : (P ++ (X ++ (Q ++ (Y ++ R))))[p]? = Q[p - P.length - X.length]? := by rw [List.getElem?_append_right (by omega), List.getElem?_append_right (by omega), List.getElem?_append_left (by omega)]
              have r1 : (P ++ (Y ++ (Q ++ (X ++ R))))[p]? = Q[p - P.length - Y.length]? := by rw [List.getElem?_append_right (by omega), List.getElem?_append_right (by omega), List.getElem?_append_left (by omega)]
              rw [l1, r1, hm]
            · have l1 : (P ++ (X ++ (Q ++ (Y ++ R))))[p]? = R[p - P.length - X.length - Q.length - Y.length]? := by rw [List.getElem?_append_right (by omega), List.getElem?_append_right (by omega), List.getElem?_append_right (by omega), List.getElem?_append_right (by omega)]
              have r1 : (P ++ (Y ++ (Q ++ (X ++ R))))[p]? = R[p - P.length - Y.length - Q.length - X.length]? := by rw [List.getElem?_append_right (by omega), List.getElem?_append_right (by omega), List.getElem?_append_right (by omega), List.getElem?_append_right (by omega)]
              rw [l1, r1, hm]
        rw [← e, List.getD_eq_getElem?_getD, List.getElem?_eq_getElem hp]
        rfl
  · rw [List.getElem?_eq_none (by rw [swl_len]; omega), List.getElem?_eq_none (by simp only [List.length_append] at hp ⊢; omega)]
theorem gfr_app (A B : List (List (BitVec 8) × List (BitVec 8))) : gfr (A ++ B) = gfr A ++ gfr B := by
  induction A with
  | nil => rfl
  | cons q A ih => obtain ⟨x, v⟩ := q; simp only [List.cons_append, gfr, ih, List.append_assoc]
theorem frp_app (s : BitVec 32) (A B : List (List (BitVec 8))) : ∀ j, frp s j (A ++ B) = frp s j A ++ frp s (j + A.length) B := by
  induction A with
  | nil => intro j; rfl
  | cons x A ih => intro j; simp only [List.cons_append, frp, ih, List.length_cons]; rw [show j + 1 + A.length = j + (A.length + 1) by omega]
theorem grd_app (s : BitVec 32) (A B : List (List (BitVec 8) × List (BitVec 8))) : ∀ j, grd s j (A ++ B) = grd s j A ++ grd s (j + A.length) B := by
  induction A with
  | nil => intro j; rfl
  | cons q A ih => intro j; obtain ⟨x, v⟩ := q; simp only [List.cons_append, grd, ih, List.length_cons]; rw [show j + 1 + A.length = j + (A.length + 1) by omega]
theorem grd_frp (s : BitVec 32) (A : List (List (BitVec 8))) : ∀ j, grd s j (frp s j A) = A.map some := by
  induction A with
  | nil => intro j; rfl
  | cons x A ih => intro j; simp only [frp, grd, lv_sm, if_true, ih, List.map_cons]
theorem spo_app (A B : List (Option (List (BitVec 8)))) : ∀ j, spo j (A ++ B) = spo j A ++ spo (j + A.length) B := by
  induction A with
  | nil => intro j; rfl
  | cons o A ih =>
    intro j
    cases o with
    | none => simp only [List.cons_append, spo, ih, List.length_cons]; rw [show j + 1 + A.length = j + (A.length + 1) by omega]
    | some x => simp only [List.cons_append, spo, ih, List.length_cons]; rw [show j + 1 + A.length = j + (A.length + 1) by omega]
theorem alls_none (A B : List (Option (List (BitVec 8)))) : alls (A ++ none :: B) = none := by
  induction A with
  | nil => rfl
  | cons o A ih =>
    cases o with
    | none => rfl
    | some x => simp only [List.cons_append, alls, ih]
theorem frp_four (s : BitVec 32) (A : List (List (BitVec 8))) : ∀ j, ∀ q ∈ frp s j A, q.2.length = 4 := by
  induction A with
  | nil => intro j q hq; simp [frp] at hq
  | cons x A ih =>
    intro j q hq
    simp only [frp, List.mem_cons] at hq
    rcases hq with rfl | hq
    · exact sm_len _
    · exact ih _ q hq
theorem frp_ls (s : BitVec 32) (A : List (List (BitVec 8))) : ∀ j, (frp s j A).map (fun q => q.1.length) = A.map List.length := by
  induction A with
  | nil => intro j; rfl
  | cons x A ih => intro j; simp only [frp, List.map_cons, ih]
/-- A form whose frames have whatever sums. -/
theorem Hd.bk_gfr (h : Hd) (ps : List (List (BitVec 8) × List (BitVec 8))) (hv : ∀ q ∈ ps, q.2.length = 4) (hl : ps.map (fun q => q.1.length) = h.ls) : h.bk (h.hb ++ gfr ps) = grd h.s2 0 ps := by
  unfold Hd.bk
  rw [Hd.at_s2, ← hl]
  have := rbs_gfr h.s2 ps hv h.hb [] (40 + h.key.length) 0 h.hb_len
  rw [List.append_nil] at this
  exact this
/-- The frames behind the change. -/
def swp (h : Hd) (A Q C : List (List (BitVec 8))) (x y : List (BitVec 8)) : List (List (BitVec 8) × List (BitVec 8)) :=
  frp h.s2 0 A ++ ((y, sm (bsm h.s2 (A.length + 1 + Q.length) y)) :: (frp h.s2 (A.length + 1) Q ++ ((x, sm (bsm h.s2 A.length x)) :: frp h.s2 (A.length + 1 + Q.length + 1) C)))
theorem swp_four (h : Hd) (A Q C : List (List (BitVec 8))) (x y : List (BitVec 8)) : ∀ q ∈ swp h A Q C x y, q.2.length = 4 := by
  intro q hq
  unfold swp at hq
  simp only [List.mem_append, List.mem_cons] at hq
  rcases hq with hq | rfl | hq | rfl | hq
  · exact frp_four _ _ _ q hq
  · exact sm_len _
  · exact frp_four _ _ _ q hq
  · exact sm_len _
  · exact frp_four _ _ _ q hq
theorem swp_ls (h : Hd) (A Q C : List (List (BitVec 8))) (x y : List (BitVec 8)) (hxy : x.length = y.length) : (swp h A Q C x y).map (fun q => q.1.length) = (A ++ (x :: (Q ++ (y :: C)))).map List.length := by
  unfold swp
  simp only [List.map_append, List.map_cons, frp_ls, hxy]
theorem swp_grd (h : Hd) (A Q C : List (List (BitVec 8))) (x y : List (BitVec 8)) (hn : A.length + 1 + Q.length < 4294967296) : grd h.s2 0 (swp h A Q C x y) = A.map some ++ (none :: (Q.map some ++ (none :: C.map some))) := by
  unfold swp
  have n1 : ¬ lv (sm (bsm h.s2 (A.length + 1 + Q.length) y)) = (bsm h.s2 A.length y).toNat := fun e => by
    rw [lv_sm] at e
    have := bsm_num hn (by omega) (BitVec.eq_of_toNat_eq e)
    omega
  have n2 : ¬ lv (sm (bsm h.s2 A.length x)) = (bsm h.s2 (A.length + 1 + Q.length) x).toNat := fun e => by
    rw [lv_sm] at e
    have := bsm_num (by omega) hn (BitVec.eq_of_toNat_eq e)
    omega
  rw [grd_app, grd_frp, frp_len, Nat.zero_add]
  simp only [grd]
  rw [if_neg n1, grd_app, grd_frp, frp_len]
  simp only [grd]
  rw [if_neg n2, grd_frp]
/-- Where two frames of one length change places, both are told. -/
theorem swap_told (h : Hd) (A Q C : List (List (BitVec 8))) (x y : List (BitVec 8)) (hm : May h (A ++ (x :: (Q ++ (y :: C))))) (hxy : x.length = y.length) (hn : A.length + 1 + Q.length < 4294967296) :
    sP (h.hb ++ gfr (swp h A Q C x y)) = (0, [A.length, A.length + 1 + Q.length]) ∧ pS (h.hb ++ gfr (swp h A Q C x y)) = (82, hd0, []) := by
  have hl : (swp h A Q C x y).map (fun q => q.1.length) = h.ls := by rw [swp_ls h A Q C x y hxy]; exact hm.2
  have eb := h.bk_gfr (swp h A Q C x y) (swp_four h A Q C x y) hl
  rw [swp_grd h A Q C x y hn] at eb
  have eh := pH_fm h hm.1 (gfr (swp h A Q C x y))
  have elen : (h.hb ++ gfr (swp h A Q C x y)).length = h.len := by
    have g : ∀ ps : List (List (BitVec 8) × List (BitVec 8)), (∀ q ∈ ps, q.2.length = 4) → (gfr ps).length = tot (ps.map (fun q => q.1.length)) := by
      intro ps
      induction ps with
      | nil => intro _; rfl
      | cons q ps ih =>
        obtain ⟨u, v⟩ := q
        intro h4
        have h0 : v.length = 4 := h4 (u, v) (by simp)
        simp only [gfr, List.length_append, List.map_cons, tot, h0]
        rw [ih (fun q hq => h4 q (by simp [hq]))]
    rw [List.length_append, h.hb_len, g _ (swp_four h A Q C x y), hl]
    rfl
  refine ⟨?_, ?_⟩
  · unfold sP
    rw [eh]
    simp only [eb]
    rw [if_neg (by simp), spo_app, spo_map, List.length_map, Nat.zero_add, List.nil_append]
    simp only [spo]
    rw [spo_app, spo_map, List.length_map, List.nil_append]
    simp only [spo]
    rw [spo_map]
  · unfold pS
    rw [eh]
    simp only [eb, alls_none, elen]
    simp
/-- What the swapping leaves. -/
theorem swl_form (h : Hd) (A Q C : List (List (BitVec 8))) (x y : List (BitVec 8)) (hxy : x.length = y.length) :
    swl (h.fm (A ++ (x :: (Q ++ (y :: C))))) (40 + h.key.length + tot (A.map List.length)) (40 + h.key.length + tot ((A ++ (x :: Q)).map List.length)) (x.length + 4) = h.hb ++ gfr (swp h A Q C x y) := by
  have e1 : h.fm (A ++ (x :: (Q ++ (y :: C)))) = (h.hb ++ frs h.s2 0 A) ++ ((x ++ sm (bsm h.s2 A.length x)) ++ (frs h.s2 (A.length + 1) Q ++ ((y ++ sm (bsm h.s2 (A.length + 1 + Q.length) y)) ++ frs h.s2 (A.length + 1 + Q.length + 1) C))) := by
    unfold Hd.fm
    rw [← frp_gfr, frp_app, gfr_app, frp_gfr, Nat.zero_add, List.append_assoc]
    congr 2
    simp only [frp, gfr]
    congr 1
    rw [frp_app, gfr_app, frp_gfr]
    congr 1
    simp only [frp, gfr, frp_gfr]
  have e2 : h.hb ++ gfr (swp h A Q C x y) = (h.hb ++ frs h.s2 0 A) ++ ((y ++ sm (bsm h.s2 (A.length + 1 + Q.length) y)) ++ (frs h.s2 (A.length + 1) Q ++ ((x ++ sm (bsm h.s2 A.length x)) ++ frs h.s2 (A.length + 1 + Q.length + 1) C))) := by
    unfold swp
    rw [gfr_app, frp_gfr, List.append_assoc]
    congr 2
    simp only [gfr]
    congr 1
    rw [gfr_app, frp_gfr]
    congr 1
    simp only [gfr, frp_gfr]
  have tt : ∀ U V : List Nat, tot (U ++ V) = tot U + tot V := by
    intro U V
    induction U with
    | nil => simp [tot]
    | cons n U ih => simp only [List.cons_append, tot, ih]; omega
  have l1 : (h.hb ++ frs h.s2 0 A).length = 40 + h.key.length + tot (A.map List.length) := by rw [List.length_append, h.hb_len, frs_len]
  have l2 : (x ++ sm (bsm h.s2 A.length x)).length = x.length + 4 := by rw [List.length_append, sm_len]
  have l3 : (y ++ sm (bsm h.s2 (A.length + 1 + Q.length) y)).length = y.length + 4 := by rw [List.length_append, sm_len]
  have l4 : 40 + h.key.length + tot ((A ++ (x :: Q)).map List.length) = (h.hb ++ frs h.s2 0 A).length + ((x ++ sm (bsm h.s2 A.length x)).length + (frs h.s2 (A.length + 1) Q).length) := by
    rw [l1, l2, frs_len, List.map_append, tt, List.map_cons]
    simp only [tot]
    omega
  rw [e1, e2, l4, ← l1, ← l2]
  exact swl_parts _ _ _ _ _ (by rw [l2, l3, hxy])
end Go.Proofs.Ytkafbeicgaoebaa
/-
  The laws' begins: where the frames begin.
-/
namespace Go.Proofs.Ytkafbeicgaoebaa
open Go.RowKit
/-- Where the frames begin. -/
def bgs (a : Nat) (L : List Nat) : List Nat := (List.range (L.length + 1)).map (fun i => a + tot (L.take i))
theorem bgs_len (a : Nat) (L : List Nat) : (bgs a L).length = L.length + 1 := by unfold bgs; simp
theorem bgs_at (a : Nat) (L : List Nat) (i : Nat) (hi : i ≤ L.length) : (bgs a L).getD i 0 = a + tot (L.take i) := by unfold bgs; simp [List.getD, show i < L.length + 1 by omega]
theorem bgs_take (a : Nat) (L : List Nat) (t : Nat) (ht : t < L.length) : (bgs a L).take (t + 1 + 1) = (bgs a L).take (t + 1) ++ [a + tot (L.take (t + 1))] := by
  rw [List.take_add_one (i := t + 1)]
  congr 1
  unfold bgs
  simp [show t + 1 < L.length + 1 by omega]
theorem bgs_one (a : Nat) (L : List Nat) : (bgs a L).take (0 + 1) = [a] := by
  apply List.ext_getElem?
  intro i
  match i with
  | 0 => simp [bgs, tot]
  | i + 1 => rw [List.getElem?_eq_none (by rw [List.length_take, bgs_len]; omega), List.getElem?_eq_none (by simp)]
theorem Oi.one (w : World) (a : Nat) : Oi (w.alloc (.cells #[.int .i64 (a : Int)] 3)) w.heap.size (.slice (some ⟨w.heap.size, 0, none⟩) 1 1) [a] := by
  unfold Oi
  exact ⟨rfl, .inr ⟨w.heap.size, 1, _, rfl, Nat.le_refl _, heap_alloc_new w _, Nat.le_refl _, by unfold maxLen; omega, rfl, rfl⟩⟩
theorem bg_w1 {z0 d z1 : Nat} (h : z0 + d + 4 = z1) (hb : z1 ≤ 70368744177664) : wrap64 ((z0 : Int) + (d : Int)) = (z0 : Int) + (d : Int) := by unfold wrap64; omega
theorem bg_w2 {z1 : Nat} (hb : z1 ≤ 70368744177664) : wrap64 (z1 : Int) = (z1 : Int) := by unfold wrap64; omega
theorem bg_w3 {z0 d z1 : Nat} (h : z0 + d + 4 = z1) : (z0 : Int) + (d : Int) + 4 = (z1 : Int) := by omega
section
attribute [local irreducible] Calls el Hd.cs Hd.sh
set_option maxHeartbeats 8000000 in
set_option maxRecDepth 1000000 in
theorem begins_any (h : Hd) {w : World} {p : Option Addr} {B : List (List (BitVec 8))} (HB : Rws w p B) (n c : Nat) (hn : B.length = n) (hn2 : n ≤ 1000000000) (hy : h.key.length ≤ 255) (hL : tot (B.map List.length) ≤ 35184372088832) :
    Calls Try.prog 10 #[.agg (h.sh (.slice p n c))] w fun e w' => ∃ v, e = .returned v ∧ Oi w' w.heap.size v (bgs (40 + h.key.length) (B.map List.length)) ∧ Below w.heap.size w w' := by
  have al : ∀ (W : World) (o : Obj), Below W.heap.size W (W.alloc o) := fun W o => (Below.refl _ _).alloc (Nat.le_refl _) o
  have S0 := (show Hid (SdAt (w.alloc (.cells (h.sh (.slice p n c)) 31)) w.heap.size h (.slice p n c)) from heap_alloc_new w _)
  have HBw := (show Hid (Rws w p B) from HB)
  have q11 := (SdAt.head S0.out).cells.2.2.2.1
  have ez := bstr_size h.key
  obtain ⟨W0, hW0⟩ : ∃ W0, W0 = w.alloc (.cells (h.sh (.slice p n c)) 31) := ⟨_, rfl⟩
  have B0 := (show Hid (Below w.heap.size w W0) from by rw [hW0]; exact al _ _)
  rw [← hW0] at S0
  have HW := (show Hid _ from hW0.symm)
  have hsz : W0.heap.size = w.heap.size + 1 := by rw [hW0]; simp
  obtain ⟨a, ha⟩ : ∃ a, a = 40 + h.key.length := ⟨_, rfl⟩
  have wa : wrap64 (40 + (h.key.length : Int)) = (a : Int) := by unfold wrap64; omega
  have ea : (40 : Int) + (h.key.length : Int) = (a : Int) := by omega
  have hab : a ≤ 295 := by omega
  rw [← ha]
  obtain ⟨L, hLe⟩ : ∃ L, L = B.map List.length := ⟨_, rfl⟩
  rw [← hLe] at hL ⊢
  have hLl : L.length = n := by rw [hLe, List.length_map]; exact hn
  have HLG := (show Hid (∀ i, i < n → L.getD i 0 = (B.getD i []).length) from fun i hi => by rw [hLe]; simp [List.getD, show i < B.length by omega])
  have HO0 := (show Hid (Oi (W0.alloc (.cells #[.int .i64 (a : Int)] 3)) W0.heap.size (.slice (some ⟨W0.heap.size, 0, none⟩) 1 1) [a]) from Oi.one W0 a)
  have HB1 := (show Hid (Below W0.heap.size W0 (W0.alloc (.cells #[.int .i64 (a : Int)] 3))) from al _ _)
  clear hW0 HB ha hLe
  go_enter Try.func10, Try.ntmps10
  go_wp2
  clear q11
  go_loopw [3, 4, 5] (fun s v i wr => ∃ t : Nat, t ≤ n ∧ i = .int .i64 (t : Int) ∧ s = .int .i64 ((a + tot (L.take t) : Nat) : Int) ∧ Hid (Oi wr W0.heap.size v ((bgs a L).take (t + 1))) ∧ Hid (Below W0.heap.size W0 wr)) (fun _ _ i _ => n - (intOf i).toNat)
  case atStart => exact ⟨0, Nat.zero_le _, rfl, by simp [tot], (by show Oi _ _ _ _; rw [bgs_one, HW.out]; have h9 := HO0.out; rw [hsz] at h9 ⊢; exact h9), (by show Below _ _ _; rw [HW.out]; exact HB1.out)⟩
  case round =>
    clear HO0 HB1
    obtain ⟨t, ht, rfl, rfl, hO, hbr⟩ := hrel
    have s16 := (SdAt.below S0.out hbr.out).last
    by_cases hlt : t < n
    · have hi : (t : Int) < (n : Int) := by omega
      obtain ⟨b1, o1, q1, c1, ep1, hc1, hle1, _⟩ := Rws.row (Rws.below HBw.out (bt B0.out hbr.out)) t (by omega)
      subst ep1
      rw [← HLG.out t hlt] at hc1
      have htk := tot_take L (t + 1)
      have hsc := tot_snoc L t (by omega)
      have HT := (show Hid _ from bgs_take a L t (by omega))
      obtain ⟨d, hd⟩ : ∃ d, d = L.getD t 0 := ⟨_, rfl⟩
      rw [← hd] at hc1 hsc
      obtain ⟨z0, hz0⟩ : ∃ z0, z0 = a + tot (L.take t) := ⟨_, rfl⟩
      obtain ⟨z1, hz1⟩ : ∃ z1, z1 = a + tot (L.take (t + 1)) := ⟨_, rfl⟩
      have hzz : z0 + d + 4 = z1 := by rw [hz0, hz1, hsc]; omega
      have hzb : z1 ≤ 70368744177664 := by rw [hz1]; omega
      have e1 := bg_w1 hzz hzb
      have e2 := bg_w2 hzb
      have e3 := bg_w3 hzz
      rw [← hz0]
      have HZ1 := (show Hid _ from hz1)
      rw [← hz1] at HT
      have rc := fun W : World => cell_of_row (W.alloc (.cells #[.int .i64 (z1 : Int)] 3)) W.heap.size 0 _ _ (0, 0) (heap_alloc_new W _)
      have HL := (show Hid _ from hL)
      clear hd hz0 hz1 htk hsc hle1 hzb hzz hL
      go_wp2_with (first
        | (at_builtin; refine wpList_api rfl (.tmp 29) (.tmp 31) rfl W0.heap.size u4 _ rfl (hO.out.below (al _ _)) ⟨wr.heap.size, 0, none⟩ 1 z1 rfl (rc wr) (by rw [List.length_take, bgs_len]; omega) (Nat.le_trans hbr.out.size (al _ _).size) ?_; intro v8 w8 ho8 hg8))
      go_roundw
      case rel =>
        have hbA := below_append (t := 3) (hbr.out.alloc hbr.out.size (.cells #[.int .i64 (z1 : Int)] 3)) (Nat.le_trans hbr.out.size (al _ _).size) hg8 (hO.out.below (al _ _)) (Nat.le_refl _)
        exact ⟨t + 1, hlt, by go_num, by rw [← HZ1.out], (by show Oi _ _ _ _; rw [HT.out]; exact ho8), hbA⟩
      case measure => simp [intOf]; omega
    · obtain rfl : t = n := by omega
      have hO' := hO.out
      rw [List.take_of_length_le (by rw [bgs_len]; omega)] at hO'
      go_wp2
      go_ret
      exact ⟨_, rfl, own_mono hO' B0.out.size, bt B0.out hbr.out⟩
end
end Go.Proofs.Ytkafbeicgaoebaa
/-
  FrameSwaps: what the walk asks.
-/
namespace Go.Proofs.Ytkafbeicgaoebaa
open Go.RowKit
theorem fit_may (h : Hd) (ok : h.Ok) (bl : List (List (BitVec 8))) : May h (fitB h.ls bl) := ⟨ok, fitB_ls _ _⟩
theorem en_may {h : Hd} {bl : List (List (BitVec 8))} (hm : May h bl) : enE h bl = 0 ∧ enL h bl = h.fm bl := by
  have e : enE h bl = 0 := by unfold enE; rw [if_neg (by rw [(chk_ok h).2 hm.1]; simp), if_pos hm.2]
  exact ⟨e, by unfold enL; rw [if_pos e]⟩
theorem fm_is {h : Hd} {bl : List (List (BitVec 8))} (hm : May h bl) : (h.fm bl).length = h.len := by rw [h.fm_len, hm.2]; rfl
theorem Ow.empty (w : World) : Ow (w.alloc (.cells #[] 5)) w.heap.size (.slice (some ⟨w.heap.size, 0, none⟩) 0 0) [] := by
  have h := Ow.made w 0 (by omega)
  simpa using h
/-- The block g holds these bytes, and may be written. -/
def Wr (w : World) (g : Nat) (xs : List (BitVec 8)) : Prop := ∃ cur : Array Value, w.heap[g]? = some (.cells cur 5 (0, 0)) ∧ xs.length ≤ cur.size ∧ ∀ i, i < xs.length → cur[i]? = some (.int .u8 (el (fn xs i)))
theorem Wr.cell {w : World} {g : Nat} {xs : List (BitVec 8)} (h : Wr w g xs) {i : Nat} (hi : i < xs.length) : w.cell? ⟨g, i, none⟩ = some (.int .u8 (el (fn xs i))) := by
  obtain ⟨cur, hh, hs, hc⟩ := h
  rw [cell_of_row w g i _ _ _ hh]; exact hc i hi
theorem Wr.frozen {w : World} {g : Nat} {xs : List (BitVec 8)} (h : Wr w g xs) (i : Nat) : w.frozen? ⟨g, i, none⟩ = false := by
  obtain ⟨cur, hh, hs, hc⟩ := h
  exact frozen_of_row w g i _ _ hh
theorem Wr.rd {w : World} {g : Nat} {xs : List (BitVec 8)} (h : Wr w g xs) : Rd w (some ⟨g, 0, none⟩) xs :=
  .inr ⟨g, 0, rfl, fun i hi => by rw [Nat.zero_add]; exact h.cell hi⟩
theorem Wr.set {w W : World} {g : Nat} {xs : List (BitVec 8)} (h : Wr w g xs) {k : Nat} {b : BitVec 8} (hk : k < xs.length) (e : W.heap = (w.setCell ⟨g, k, none⟩ (.int .u8 (el b))).heap) : Wr W g (xs.set k b) := by
  obtain ⟨cur, hh, hs, hc⟩ := h
  refine ⟨cur.setIfInBounds k (.int .u8 (el b)), by rw [e, heap_setCell_same w g k _ _ _ hh], by simpa using hs, fun i hi => ?_⟩
  have hi' : i < xs.length := by simpa using hi
  rw [Array.getElem?_setIfInBounds]
  by_cases e2 : k = i
  · subst e2; rw [if_pos rfl, if_pos (by omega)]; simp [fn, hi']
  · rw [if_neg e2, hc i hi']
    unfold fn; simp [List.getElem?_set_ne e2]
theorem Wr.lt {w : World} {g : Nat} {xs : List (BitVec 8)} (h : Wr w g xs) : g < w.heap.size := by
  obtain ⟨cur, hh, hs, hc⟩ := h
  rcases Nat.lt_or_ge g w.heap.size with h1 | h1
  · exact h1
  · rw [Array.getElem?_eq_none h1] at hh; cases hh
theorem Wr.below {w w' : World} {g : Nat} {xs : List (BitVec 8)} (h : Wr w g xs) (hb : Below w.heap.size w w') : Wr w' g xs := by
  have hl := h.lt
  obtain ⟨cur, hh, hs, hc⟩ := h
  exact ⟨cur, by rw [hb.block g hl]; exact hh, hs, hc⟩
theorem Ow.wr {w : World} {base : Nat} {v : Value} {xs : List (BitVec 8)} (h : Ow w base v xs) (h0 : 0 < xs.length) : ∃ g cap, v = .slice (some ⟨g, 0, none⟩) xs.length cap ∧ base ≤ g ∧ Wr w g xs := by
  rcases h.2 with ⟨hv, h1⟩ | ⟨g, cap, c, hv, hg, hh, hc, hm, hs, ht⟩
  · omega
  · refine ⟨g, cap, hv, hg, c, hh, by omega, fun i hi => ?_⟩
    rw [Nat.mul_one] at ht
    have h1 : (c.toList.take xs.length)[i]? = some (.int .u8 (el (fn xs i))) := by rw [ht, vs_at _ _ i hi]
    rw [List.getElem?_take_of_lt hi] at h1
    simpa using h1
/-- The blocks, parted at two places. -/
theorem part2 (B : List (List (BitVec 8))) (j k : Nat) (hj : j < k) (hk : k < B.length) : ∃ A Q C, B = A ++ (B.getD j [] :: (Q ++ (B.getD k [] :: C))) ∧ A.length = j ∧ A.length + 1 + Q.length = k := by
  refine ⟨B.take j, (B.drop (j + 1)).take (k - j - 1), B.drop (k + 1), ?_, by rw [List.length_take]; omega, by rw [List.length_take, List.length_take, List.length_drop]; omega⟩
  have e1 : B.drop j = B.getD j [] :: B.drop (j + 1) := by rw [List.drop_eq_getElem_cons (by omega)]; simp [List.getD, show j < B.length by omega]
  have e2 : B.drop k = B.getD k [] :: B.drop (k + 1) := by rw [List.drop_eq_getElem_cons (by omega)]; simp [List.getD, hk]
  have e3 : (B.drop (j + 1)).drop (k - j - 1) = B.drop k := by rw [List.drop_drop]; congr 1; omega
  have e4 := List.take_append_drop (k - j - 1) (B.drop (j + 1))
  rw [e3, e2] at e4
  rw [e4, ← e1, List.take_append_drop]
/-- All that the swapping asks, in plain numbers. -/
theorem swaps_all (h : Hd) (B : List (List (BitVec 8))) (hm : May h B) (j k : Nat) (hj : j < k) (hk : k < B.length) (hxy : (B.getD j []).length = (B.getD k []).length) (hn : B.length < 4294967296) :
    ∃ al be m : Nat, m = (B.getD j []).length + 4 ∧ (bgs (40 + h.key.length) (B.map List.length)).getD j 0 = al ∧ (bgs (40 + h.key.length) (B.map List.length)).getD k 0 = be ∧ (bgs (40 + h.key.length) (B.map List.length)).getD (j + 1) 0 = al + m ∧ (bgs (40 + h.key.length) (B.map List.length)).getD B.length 0 = h.len ∧ al + m ≤ be ∧ be + m ≤ h.len
      ∧ sP (swl (h.fm B) al be m) = (0, [j, k]) ∧ pS (swl (h.fm B) al be m) = (82, hd0, []) := by
  obtain ⟨A, Q, C, eB, eA, eQ⟩ := part2 B j k hj hk
  generalize B.getD j [] = x at *
  generalize B.getD k [] = y at *
  have tt : ∀ U V : List Nat, tot (U ++ V) = tot U + tot V := by
    intro U V
    induction U with
    | nil => simp [tot]
    | cons n U ih => simp only [List.cons_append, tot, ih]; omega
  have eM : B.map List.length = A.map List.length ++ (x.length :: (Q.map List.length ++ (y.length :: C.map List.length))) := by rw [eB]; simp
  have lM : (B.map List.length).length = B.length := by simp
  have t1 : (B.map List.length).take j = A.map List.length := by rw [eM, List.take_append_of_le_length (by simp [eA]), List.take_of_length_le (by simp [eA])]
  have t2 : (B.map List.length).take (j + 1) = A.map List.length ++ [x.length] := by
    have e5 : B.map List.length = (A.map List.length ++ [x.length]) ++ (Q.map List.length ++ (y.length :: C.map List.length)) := by rw [eM]; simp
    rw [e5, List.take_append_of_le_length (by simp; omega), List.take_of_length_le (by simp; omega)]
  have t3 : (B.map List.length).take k = (A ++ (x :: Q)).map List.length := by
    have e5 : B.map List.length = (A ++ (x :: Q)).map List.length ++ (y.length :: C.map List.length) := by rw [eM]; simp
    rw [e5, List.take_append_of_le_length (by simp; omega), List.take_of_length_le (by simp; omega)]
  have t4 : (B.map List.length).take B.length = B.map List.length := List.take_of_length_le (by simp)
  have hlen : 40 + h.key.length + tot (B.map List.length) = h.len := by rw [hm.2]; rfl
  have q := swap_told h A Q C x y (by rw [← eB]; exact hm) hxy (by omega)
  have q2 := swl_form h A Q C x y hxy
  rw [← q2, ← eB, eQ, eA] at q
  refine ⟨40 + h.key.length + tot (A.map List.length), 40 + h.key.length + tot ((A ++ (x :: Q)).map List.length), x.length + 4, rfl, ?_, ?_, ?_, ?_, ?_, ?_, ?_, ?_⟩
  · rw [bgs_at _ _ _ (by omega), t1]
  · rw [bgs_at _ _ _ (by omega), t3]
  · rw [bgs_at _ _ _ (by omega), t2, tt]; simp only [tot]; omega
  · rw [bgs_at _ _ _ (by omega), t4, hlen]
  · rw [List.map_append, tt, List.map_cons]; simp only [tot]; omega
  · rw [← hlen, eM, List.map_append, List.map_cons, tt, tt]; simp only [tot, tt]; omega
  · exact q.1
  · exact q.2
end Go.Proofs.Ytkafbeicgaoebaa
