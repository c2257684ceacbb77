/-
  StripeAlone: the numbers.
-/
import Derived.Test.YtgokkppojhokbaaBl10
import Derived.Test.YtgokkppojhokbaaSb10
import Derived.Test.YtgokkppojhokbaaSr10
import Derived.Test.YtgokkppojhokbaaAo10
import Derived.Test.YtgokkppojhokbaaPo10
import Derived.Deep.RegionHeld3
import Derived.Laws.StructEq
import Derived.Deep.CutRange
import Derived.Deep.DeepCutAuto
import Derived.BigQuiet
namespace Go.Proofs.Ytgokkppojhokbaa
open Go.RowKit
/-- How many of the first n values are unlike. -/
def cn (u v : Nat → BitVec 8) : Nat → Nat
  | 0 => 0
  | n + 1 => cn u v n + (if u n = v n then 0 else 1)
theorem cn_le (u v : Nat → BitVec 8) : ∀ n, cn u v n ≤ n
  | 0 => Nat.le_refl _
  | n + 1 => by
    have h := cn_le u v n
    unfold cn
    split <;> omega
theorem cn_zero {u v : Nat → BitVec 8} : ∀ n, (∀ i, i < n → u i = v i) → cn u v n = 0
  | 0, _ => rfl
  | n + 1, h => by
    unfold cn
    rw [cn_zero n (fun i hi => h i (by omega)), if_pos (h n (by omega))]
theorem cn_one {u v : Nat → BitVec 8} {x : Nat} (hne : u x ≠ v x) : ∀ n, x < n → (∀ i, i < n → i ≠ x → u i = v i) → cn u v n = 1
  | 0, hx, _ => by omega
  | n + 1, hx, h => by
    unfold cn
    by_cases e : x = n
    · subst e
      rw [cn_zero x (fun i hi => h i (by omega) (by omega)), if_neg hne]
    · rw [cn_one hne n (by omega) (fun i hi => h i (by omega)), if_pos (h n (by omega) (by omega))]
theorem cn_eq {u v : Nat → BitVec 8} {n : Nat} (h : u n = v n) : cn u v (n + 1) = cn u v n := by
  show cn u v n + _ = _
  rw [if_pos h]; rfl
theorem cn_ne {u v : Nat → BitVec 8} {n : Nat} (h : u n ≠ v n) : cn u v (n + 1) = cn u v n + 1 := by
  show cn u v n + _ = _
  rw [if_neg h]
/-- The bytes, k of them turned from place p on. -/
def trn (d tb : Nat → BitVec 8) (p k : Nat) (x : Nat) : BitVec 8 := if p ≤ x ∧ x < p + k then d x ^^^ tb (x - p) else d x
theorem trn_out {d tb : Nat → BitVec 8} {p k x : Nat} (h : x < p ∨ p + k ≤ x) : trn d tb p k x = d x := by
  unfold trn; rw [if_neg (by omega)]
theorem trn_in {d tb : Nat → BitVec 8} {p k x : Nat} (h1 : p ≤ x) (h2 : x < p + k) : trn d tb p k x = d x ^^^ tb (x - p) := by
  unfold trn; rw [if_pos ⟨h1, h2⟩]
theorem pad_in {n : Nat} {d : Nat → BitVec 8} {x : Nat} (h : x < n) : pad n d x = d x := by unfold pad; rw [if_pos h]
theorem pad_trn {n : Nat} {d tb : Nat → BitVec 8} {p k x : Nat} (h : x < p ∨ p + k ≤ x) : pad n (trn d tb p k) x = pad n d x := by
  unfold pad; rw [trn_out h]
theorem bls_get (k s : Nat) (hs : 1 ≤ s) : ∀ f l t, l ≤ f → t < (bls k s f l).length → (bls k s f l).getD t 0 = (min (l - t * s) s + k - 1) / k
  | 0, l, t, _, h => by simp [bls] at h
  | f + 1, l, t, hf, ht => by
    unfold bls at ht ⊢
    by_cases h : l = 0
    · rw [if_pos h] at ht; simp at ht
    · rw [if_neg h] at ht ⊢
      cases t with
      | zero => show (min l s + k - 1) / k = _; rw [Nat.zero_mul, Nat.sub_zero]
      | succ t =>
        have ih := bls_get k s hs f (l - s) t (by omega) (by simpa using ht)
        show (bls k s f (l - s)).getD t 0 = _
        rw [ih, Nat.succ_mul, Nat.sub_sub, Nat.add_comm s]
/-- A stripe's block: how long it is, where it lies. -/
theorem nu_get {h : Hd} {N K M B : Nat} {L : List Nat} (u : h.Nu N K M B L) {c : Nat} (hc : c < L.length) : L.getD c 0 = (min (N - c * (K * B)) (K * B) + K - 1) / K ∧ (L.take c).sum = c * B ∧ c * (K * B) < N ∧ L.getD c 0 ≤ B ∧ 1 ≤ L.getD c 0 ∧ min (N - c * (K * B)) (K * B) ≤ K * L.getD c 0 := by
  have hk := u.k1
  have hb := u.b1
  have hs : 1 ≤ K * B := Nat.mul_le_mul hk hb
  have e := u.l
  have h1 : L.getD c 0 = (min (N - c * (K * B)) (K * B) + K - 1) / K := by
    rw [e] at hc ⊢
    exact bls_get K (K * B) hs N N c (Nat.le_refl _) hc
  have h2 : (L.take c).sum = c * B ∧ c * (K * B) < N := by
    rw [e] at hc ⊢
    exact bls_take K B hk hb N N c (Nat.le_refl _) hc
  have h3 := cdk_le (min (N - c * (K * B)) (K * B)) K hk (by omega)
  refine ⟨h1, h2.1, h2.2, ?_, ?_, ?_⟩
  · rw [h1]
    have h4 : (min (N - c * (K * B)) (K * B) + K - 1) / K ≤ (K * B + K - 1) / K := Nat.div_le_div_right (by omega)
    rw [kbk K B hk] at h4
    exact h4
  · rw [h1]; exact h3.2.1
  · rw [h1]; exact h3.2.2
/-- The stripe of a place. -/
theorem nu_at {h : Hd} {N K M B : Nat} {L : List Nat} (u : h.Nu N K M B L) {p : Nat} (hp : p < N) : p / (K * B) < L.length := by
  have hs : 1 ≤ K * B := Nat.mul_le_mul u.k1 u.b1
  have h1 := bls_count K (K * B) hs N N (Nat.le_refl _)
  rw [← u.l] at h1
  exact Nat.div_lt_of_lt_mul (by rw [Nat.mul_comm]; omega)
/-- A place of a block, in the object. -/
theorem dm_pl {h : Hd} {N K M B : Nat} {L : List Nat} (u : h.Nu N K M B L) (g : Nat → BitVec 8) {c t x : Nat} (hc : c < L.length) (hx : x < L.getD c 0) : dm K L g t ((L.take c).sum + x) = g (c * (K * B) + t * L.getD c 0 + x) := by
  rw [dm_at K L g c t x hc hx, (nu_get u hc).2.1]
  congr 3
  rw [Nat.mul_left_comm]
theorem lin_lt {t K l x : Nat} (ht : t < K) (hx : x < l) : t * l + x < K * l := by
  have h : (t + 1) * l ≤ K * l := Nat.mul_le_mul_right l ht
  rw [Nat.succ_mul] at h
  omega
/-- Other stripes' blocks are as they were. -/
theorem alone_other {h : Hd} {N K M B : Nat} {L : List Nat} (u : h.Nu N K M B L) {F : Nat → Nat → BitVec 8} (d tb : Nat → BitVec 8) {p k j c : Nat} (hj : j = p / (K * B)) (hk : p + k ≤ (j + 1) * (K * B)) (hc : c < L.length) (hne : c ≠ j) (i x : Nat) (hx : x < L.getD c 0) :
    mm fdE K F (dm K L (pad N d)) i ((L.take c).sum + x) = mm fdE K F (dm K L (pad N (trn d tb p k))) i ((L.take c).sum + x) := by
  refine mm_congr (fun _ _ => rfl) (fun t ht => ?_)
  rw [dm_pl u _ hc hx, dm_pl u _ hc hx, pad_trn ?_]
  obtain ⟨_, _, _, hB, _, _⟩ := nu_get u hc
  have h1 := lin_lt ht hx
  have h2 : K * L.getD c 0 ≤ K * B := Nat.mul_le_mul_left K hB
  have h3 : j * (K * B) ≤ p := by rw [hj]; exact Nat.div_mul_le_self _ _
  rcases Nat.lt_or_ge c j with h4 | h4
  · left
    have h5 : (c + 1) * (K * B) ≤ j * (K * B) := Nat.mul_le_mul_right _ h4
    rw [Nat.succ_mul] at h5
    omega
  · right
    have h5 : (j + 1) * (K * B) ≤ c * (K * B) := Nat.mul_le_mul_right _ (by omega)
    omega
/-- Where one byte lies: its shard, its place in the block. -/
theorem row_pl {h : Hd} {N K M B : Nat} {L : List Nat} (u : h.Nu N K M B L) {p j : Nat} (hp : p < N) (hj : j = p / (K * B)) : (p - j * (K * B)) / L.getD j 0 < K ∧ (p - j * (K * B)) % L.getD j 0 < L.getD j 0 ∧ p = j * (K * B) + (p - j * (K * B)) / L.getD j 0 * L.getD j 0 + (p - j * (K * B)) % L.getD j 0 := by
  have hl : j < L.length := by rw [hj]; exact nu_at u hp
  obtain ⟨_, _, h3, _, h5, h6⟩ := nu_get u hl
  have hs : 1 ≤ K * B := Nat.mul_le_mul u.k1 u.b1
  have h7 : j * (K * B) ≤ p := by rw [hj]; exact Nat.div_mul_le_self _ _
  have h8 : p < j * (K * B) + K * B := by rw [hj]; have := Nat.lt_div_mul_add (a := p) (b := K * B) (by omega); omega
  refine ⟨?_, Nat.mod_lt _ (by omega), ?_⟩
  · refine Nat.div_lt_of_lt_mul ?_
    rw [Nat.mul_comm (L.getD j 0) K]
    omega
  · have := Nat.div_add_mod (p - j * (K * B)) (L.getD j 0)
    rw [Nat.mul_comm] at this
    omega
/-- If one byte alone is turned: the data's rows. -/
theorem one_dm {h : Hd} {N K M B : Nat} {L : List Nat} (u : h.Nu N K M B L) (d tb : Nat → BitVec 8) {p j t x : Nat} (hp : p < N) (hj : j = p / (K * B)) (hx : x < L.getD j 0) (hne : t ≠ (p - j * (K * B)) / L.getD j 0 ∨ x ≠ (p - j * (K * B)) % L.getD j 0) :
    dm K L (pad N d) t ((L.take j).sum + x) = dm K L (pad N (trn d tb p 1)) t ((L.take j).sum + x) := by
  have hl : j < L.length := by rw [hj]; exact nu_at u hp
  rw [dm_pl u _ hl hx, dm_pl u _ hl hx, pad_trn ?_]
  obtain ⟨h1, h2, h3⟩ := row_pl u hp hj
  have hpos : 0 < L.getD j 0 := by omega
  have key : j * (K * B) + t * L.getD j 0 + x ≠ p := by
    intro e
    have e2 : p - j * (K * B) = x + t * L.getD j 0 := by omega
    have q1 : (p - j * (K * B)) / L.getD j 0 = t := by rw [e2, Nat.add_mul_div_right _ _ hpos, Nat.div_eq_of_lt hx, Nat.zero_add]
    have q2 : (p - j * (K * B)) % L.getD j 0 = x := by rw [e2, Nat.add_mul_mod_self_right, Nat.mod_eq_of_lt hx]
    rcases hne with h | h
    · exact h q1.symm
    · exact h q2.symm
  omega
theorem xor_ne {a b : BitVec 8} (h : b ≠ 0#8) : a ≠ a ^^^ b := by
  intro e
  apply h
  have : a ^^^ a = a ^^^ (a ^^^ b) := congrArg (a ^^^ ·) e
  rw [← BitVec.xor_assoc, BitVec.xor_self, BitVec.zero_xor] at this
  exact this.symm
theorem one_dm_ne {h : Hd} {N K M B : Nat} {L : List Nat} (u : h.Nu N K M B L) (d tb : Nat → BitVec 8) {p j : Nat} (hp : p < N) (hj : j = p / (K * B)) (hb : tb 0 ≠ 0#8) :
    dm K L (pad N d) ((p - j * (K * B)) / L.getD j 0) ((L.take j).sum + (p - j * (K * B)) % L.getD j 0) ≠ dm K L (pad N (trn d tb p 1)) ((p - j * (K * B)) / L.getD j 0) ((L.take j).sum + (p - j * (K * B)) % L.getD j 0) := by
  have hl : j < L.length := by rw [hj]; exact nu_at u hp
  obtain ⟨h1, h2, h3⟩ := row_pl u hp hj
  rw [dm_pl u _ hl h2, dm_pl u _ hl h2, ← h3, pad_in hp, pad_in hp, trn_in (Nat.le_refl _) (by omega), Nat.sub_self]
  exact xor_ne hb
/-- Data that differ in one row alone: a word's last places differ, too. -/
theorem Fac.hit {k m : Nat} {F A C : Nat → Nat → BitVec 8} (h : Fac k F) (hkm : k + m ≤ 255) {i r c : Nat} (hi : k ≤ i) (hi2 : i < k + m) (hr : r < k) (ho : ∀ t, t < k → t ≠ r → A t c = C t c) (hne : A r c ≠ C r c) : mm fdE k F A i c ≠ mm fdE k F C i c := by
  intro e
  apply hne
  obtain ⟨Z, hz⟩ := h.has (p := fun t => if t = r then i else t) (fun t ht => by split <;> omega) (fun a ha b hb hab => by split <;> split <;> omega)
  have key : ∀ D : Nat → Nat → BitVec 8, D r c = mm fdE k Z (fun t c => mm fdE k F D (if t = r then i else t) c) r c := fun D => by
    have e : mm fdE k Z (fun t c => mm fdE k F D (if t = r then i else t) c) r c = mm fdE k Z (mm fdE k (fun t j => F (if t = r then i else t) j) D) r c := mm_congr (fun _ _ => rfl) (fun _ _ => rfl)
    rw [e, ← mm_assoc, mm_congr (A' := dl fdE) (B' := D) (fun t ht => hz r hr t ht) (fun _ _ => rfl), mm_dl_l hr]
  rw [key A, key C]
  refine mm_congr (fun _ _ => rfl) (fun t ht => ?_)
  by_cases q : t = r
  · rw [if_pos q]; exact e
  · rw [if_neg q, h.low ht, h.low ht]; exact ho t ht q
/-- How many bytes of a block are unlike. -/
def unl (K : Nat) (F : Nat → Nat → BitVec 8) (L : List Nat) (D D' : Nat → Nat → BitVec 8) (i c : Nat) : Nat := cn (fun x => mm fdE K F D i ((L.take c).sum + x)) (fun x => mm fdE K F D' i ((L.take c).sum + x)) (L.getD c 0)
theorem unl_other {h : Hd} {N K M B : Nat} {L : List Nat} (u : h.Nu N K M B L) {F : Nat → Nat → BitVec 8} (d tb : Nat → BitVec 8) {p k j c : Nat} (hj : j = p / (K * B)) (hk : p + k ≤ (j + 1) * (K * B)) (hc : c < L.length) (hne : c ≠ j) (i : Nat) : unl K F L (dm K L (pad N d)) (dm K L (pad N (trn d tb p k))) i c = 0 :=
  cn_zero _ (fun x hx => alone_other u d tb hj hk hc hne i x hx)
theorem unl_one {h : Hd} {N K M B : Nat} {L : List Nat} (u : h.Nu N K M B L) {F : Nat → Nat → BitVec 8} (hF : Fac K F) (d tb : Nat → BitVec 8) {p j : Nat} (hp : p < N) (hj : j = p / (K * B)) (hb : tb 0 ≠ 0#8) (i : Nat) (hi : i < K + M) :
    unl K F L (dm K L (pad N d)) (dm K L (pad N (trn d tb p 1))) i j = if i = (p - j * (K * B)) / L.getD j 0 ∨ K ≤ i then 1 else 0 := by
  obtain ⟨h1, h2, h3⟩ := row_pl u hp hj
  have same : ∀ x, x < L.getD j 0 → x ≠ (p - j * (K * B)) % L.getD j 0 → mm fdE K F (dm K L (pad N d)) i ((L.take j).sum + x) = mm fdE K F (dm K L (pad N (trn d tb p 1))) i ((L.take j).sum + x) := fun x hx hn =>
    mm_congr (fun _ _ => rfl) (fun t ht => one_dm u d tb hp hj hx (.inr hn))
  by_cases h4 : K ≤ i
  · rw [if_pos (.inr h4)]
    refine cn_one (u := fun x => mm fdE K F (dm K L (pad N d)) i ((L.take j).sum + x)) (v := fun x => mm fdE K F (dm K L (pad N (trn d tb p 1))) i ((L.take j).sum + x)) ?_ _ h2 same
    exact hF.hit (m := M) u.km h4 hi h1 (fun t ht hn => one_dm u d tb hp hj h2 (.inl hn)) (one_dm_ne u d tb hp hj hb)
  · have hlt : i < K := by omega
    by_cases h5 : i = (p - j * (K * B)) / L.getD j 0
    · rw [if_pos (.inl h5)]
      refine cn_one (u := fun x => mm fdE K F (dm K L (pad N d)) i ((L.take j).sum + x)) (v := fun x => mm fdE K F (dm K L (pad N (trn d tb p 1))) i ((L.take j).sum + x)) ?_ _ h2 same
      show mm _ _ _ _ _ _ ≠ mm _ _ _ _ _ _
      rw [hF.low hlt, hF.low hlt, h5]
      exact one_dm_ne u d tb hp hj hb
    · rw [if_neg (by omega)]
      refine cn_zero _ (fun x hx => ?_)
      rw [hF.low hlt, hF.low hlt]
      exact one_dm u d tb hp hj hx (.inl h5)
end Go.Proofs.Ytgokkppojhokbaa
/-
  StripeOpen: any rows are those of an object whose size K divides.
-/
namespace Go.Proofs.Ytgokkppojhokbaa
open Go.RowKit
/-- Rows that are put together and laid down again are as they were. -/
theorem dm_obm (k : Nat) (L : List Nat) (D : Nat → Nat → BitVec 8) {t i c : Nat} (ht : t < L.length) (hi : i < k) (hc : c < L.getD t 0) : dm k L (obm k L D) i ((L.take t).sum + c) = D i ((L.take t).sum + c) := by
  rw [dm_at k L _ t i c ht hc, obm_at k L D t i c ht hi hc]
theorem bls_full (k b : Nat) (hk : 1 ≤ k) (hb : 1 ≤ b) : ∀ f l, l ≤ f → l % k = 0 → k * (bls k (k * b) f l).sum = l
  | 0, l, h, _ => by
    obtain rfl : l = 0 := by omega
    rfl
  | f + 1, l, hf, hm => by
    have hs : 1 ≤ k * b := Nat.mul_le_mul hk hb
    unfold bls
    by_cases h : l = 0
    · subst h; rfl
    · rw [if_neg h, List.sum_cons, Nat.mul_add]
      have h1 : (l - k * b) % k = 0 := by
        rcases Nat.lt_or_ge (k * b) l with h2 | h2
        · obtain ⟨q, rfl⟩ := Nat.dvd_of_mod_eq_zero hm
          rw [← Nat.mul_sub]; exact Nat.mul_mod_right _ _
        · rw [show l - k * b = 0 by omega]; exact Nat.zero_mod _
      rw [bls_full k b hk hb f (l - k * b) (by omega) h1]
      have h2 : k * ((min l (k * b) + k - 1) / k) = min l (k * b) := by
        obtain ⟨q, hq⟩ : ∃ q, min l (k * b) = k * q := by
          rcases Nat.lt_or_ge (k * b) l with h3 | h3
          · exact ⟨b, by omega⟩
          · obtain ⟨q, hq⟩ := Nat.dvd_of_mod_eq_zero hm
            exact ⟨q, by omega⟩
        rw [hq, kbk k q hk]
      rw [h2]
      omega
/-- An object whose size K divides has no zeros behind it. -/
theorem nu_full {h : Hd} {N K M B : Nat} {L : List Nat} (u : h.Nu N K M B L) (hm : N % K = 0) : K * L.sum = N := by
  rw [u.l]
  exact bls_full K B u.k1 u.b1 N N (Nat.le_refl _) hm
/-- The rows of data D are those of an object. -/
theorem nu_obj {h : Hd} {N K M B : Nat} {L : List Nat} (u : h.Nu N K M B L) (hm : N % K = 0) (F D : Nat → Nat → BitVec 8) {t c : Nat} (i : Nat) (ht : t < L.length) (hc : c < L.getD t 0) : mm fdE K F (dm K L (pad N (obm K L D))) i ((L.take t).sum + c) = mm fdE K F D i ((L.take t).sum + c) := by
  refine mm_congr (fun _ _ => rfl) (fun s hs => ?_)
  rw [← dm_obm K L D ht hs hc, dm_pl u _ ht hc, dm_pl u _ ht hc, pad_in]
  have h1 := nu_full u hm
  obtain ⟨_, g2, _, _, _, _⟩ := nu_get u ht
  have h2 := lin_lt hs hc
  have h3 : (L.take (t + 1)).sum ≤ L.sum := sum_take_le L (t + 1)
  rw [sum_take_succ L t ht] at h3
  have h4 : K * ((L.take t).sum + L.getD t 0) ≤ K * L.sum := Nat.mul_le_mul_left K h3
  rw [Nat.mul_add, g2, Nat.mul_left_comm] at h4
  omega
end Go.Proofs.Ytgokkppojhokbaa
/-
  StripeOpen: the order of the places; k rows of whatever bytes are a word's.
-/
namespace Go.Proofs.Ytgokkppojhokbaa
open Go.RowKit
/-- The places below i that are in the list, or those that are not. -/
def sel (P : List Nat) (b : Bool) (i : Nat) : List Nat := (List.range i).filter (fun j => decide (j ∈ P) == b)
theorem sel_zero (P : List Nat) (b : Bool) : sel P b 0 = [] := rfl
theorem sel_yes {P : List Nat} {b : Bool} {i : Nat} (h : (decide (i ∈ P) == b) = true) : sel P b (i + 1) = sel P b i ++ [i] := by
  unfold sel
  rw [List.range_succ, List.filter_append, List.filter_cons_of_pos (p := fun j => decide (j ∈ P) == b) h]
  rfl
theorem sel_no {P : List Nat} {b : Bool} {i : Nat} (h : ¬ (decide (i ∈ P) == b) = true) : sel P b (i + 1) = sel P b i := by
  unfold sel
  rw [List.range_succ, List.filter_append, List.filter_cons_of_neg (p := fun j => decide (j ∈ P) == b) h]
  exact List.append_nil _
theorem sel_len (P : List Nat) (N : Nat) : (sel P true N).length + (sel P false N).length = N := by
  induction N with
  | zero => rfl
  | succ N ih =>
    by_cases h : N ∈ P
    · rw [sel_yes (by rw [decide_eq_true h]; rfl), sel_no (b := false) (by rw [decide_eq_true h]; decide), List.length_append]
      simp
      omega
    · rw [sel_no (by rw [decide_eq_false h]; decide), sel_yes (b := false) (by rw [decide_eq_false h]; rfl), List.length_append]
      simp
      omega
theorem sel_mem {P : List Nat} {b : Bool} {N x : Nat} (h : x ∈ sel P b N) : x < N ∧ decide (x ∈ P) = b := by
  unfold sel at h
  rw [List.mem_filter, List.mem_range] at h
  exact ⟨h.1, by simpa using h.2⟩
theorem sel_le (P : List Nat) (b : Bool) (N : Nat) : (sel P b N).length ≤ N := by
  unfold sel
  have := List.length_filter_le (fun j => decide (j ∈ P) == b) (List.range N)
  simpa using this
def ord (P : List Nat) (N : Nat) : List Nat := sel P true N ++ sel P false N
theorem ord_len (P : List Nat) (N : Nat) : (ord P N).length = N := by unfold ord; rw [List.length_append, sel_len]
theorem ord_lt {P : List Nat} {N x : Nat} (h : x ∈ ord P N) : x < N := by
  unfold ord at h
  rcases List.mem_append.1 h with h | h
  · exact (sel_mem h).1
  · exact (sel_mem h).1
theorem ord_ne (P : List Nat) (N : Nat) : (ord P N).Pairwise (· ≠ ·) := by
  unfold ord
  rw [List.pairwise_append]
  refine ⟨?_, ?_, fun a ha b hb e => ?_⟩
  · exact (List.Pairwise.filter _ List.pairwise_lt_range).imp (fun h => Nat.ne_of_lt h)
  · exact (List.Pairwise.filter _ List.pairwise_lt_range).imp (fun h => Nat.ne_of_lt h)
  · subst e
    have h1 := (sel_mem ha).2
    have h2 := (sel_mem hb).2
    rw [h1] at h2
    cases h2
def od (P : List Nat) (N i : Nat) : Nat := (ord P N).getD i 0
theorem od_eq {P : List Nat} {N i : Nat} (h : i < N) : ∃ h' : i < (ord P N).length, od P N i = (ord P N)[i] := by
  have h' : i < (ord P N).length := by rw [ord_len]; exact h
  refine ⟨h', ?_⟩
  unfold od
  rw [List.getD_eq_getElem?_getD, List.getElem?_eq_getElem h']
  rfl
theorem od_lt {P : List Nat} {N i : Nat} (h : i < N) : od P N i < N := by
  obtain ⟨h', e⟩ := od_eq (P := P) h
  rw [e]
  exact ord_lt (List.getElem_mem h')
theorem od_ne {P : List Nat} {N i j : Nat} (hi : i < N) (hj : j < N) (h : i ≠ j) : od P N i ≠ od P N j := by
  obtain ⟨h1, e1⟩ := od_eq (P := P) hi
  obtain ⟨h2, e2⟩ := od_eq (P := P) hj
  rw [e1, e2]
  rcases Nat.lt_or_ge i j with h3 | h3
  · exact List.pairwise_iff_getElem.1 (ord_ne P N) i j h1 h2 h3
  · exact (List.pairwise_iff_getElem.1 (ord_ne P N) j i h2 h1 (by omega)).symm
/-- The places that were lost behind t rounds. -/
def qo (P : List Nat) (N t : Nat) : List Nat := (List.range t).map (fun s => od P N (s + 1))
theorem qo_succ (P : List Nat) (N t : Nat) : qo P N (t + 1) = qo P N t ++ [od P N (t + 1)] := by
  unfold qo
  rw [List.range_succ, List.map_append]
  rfl
theorem qo_len (P : List Nat) (N t : Nat) : (qo P N t).length = t := by unfold qo; simp
theorem qo_mem {P : List Nat} {N t x : Nat} : x ∈ qo P N t ↔ ∃ s, s < t ∧ od P N (s + 1) = x := by
  unfold qo
  rw [List.mem_map]
  exact ⟨fun ⟨s, h1, h2⟩ => ⟨s, List.mem_range.1 h1, h2⟩, fun ⟨s, h1, h2⟩ => ⟨s, List.mem_range.2 h1, h2⟩⟩
theorem qo_first {P : List Nat} {N t : Nat} (h : t < N) : ¬ od P N 0 ∈ qo P N t := fun hm => by
  obtain ⟨s, h1, h2⟩ := qo_mem.1 hm
  exact od_ne (by omega) (by omega) (by omega) h2
theorem qo_nodup {P : List Nat} {N t : Nat} (h : t < N) : (qo P N t).Pairwise (· ≠ ·) := by
  unfold qo
  rw [List.pairwise_map]
  refine List.Pairwise.imp_of_mem (fun {a b} ha hb hab => ?_) List.pairwise_lt_range
  have h1 := List.mem_range.1 ha
  have h2 := List.mem_range.1 hb
  exact od_ne (by omega) (by omega) (by omega)
theorem hit_new {a : Nat} {Q : List Nat} (ha : ¬ a ∈ Q) (N : Nat) : hit (a :: Q) N = hit Q N + (if a < N then 1 else 0) := by
  induction N with
  | zero => simp [hit]
  | succ N ih =>
    rw [hit_succ, hit_succ, ih]
    have e1 : (if N ∈ a :: Q then 1 else 0) = (if N ∈ Q then 1 else 0) + (if N = a then 1 else 0) := by
      by_cases h3 : N = a
      · subst h3; rw [if_pos (show N ∈ N :: Q by simp), if_neg ha, if_pos rfl]
      · by_cases h1 : N ∈ Q
        · rw [if_pos h1, if_pos (List.mem_cons_of_mem _ h1), if_neg h3]
        · rw [if_neg h1, if_neg (by simp [h1, h3]), if_neg h3]
    have e2 : (if a < N + 1 then 1 else 0) = (if a < N then 1 else 0) + (if N = a then 1 else 0) := by
      by_cases h3 : N = a
      · subst h3; rw [if_pos (by omega), if_neg (by omega), if_pos rfl]
      · by_cases h1 : a < N
        · rw [if_pos h1, if_pos (by omega), if_neg h3]
        · rw [if_neg h1, if_neg (by omega), if_neg h3]
    rw [e1, e2]
    omega
theorem hit_all {N : Nat} : ∀ (Q : List Nat), Q.Pairwise (· ≠ ·) → (∀ x ∈ Q, x < N) → hit Q N = Q.length
  | [], _, _ => by simp [hit]
  | a :: Q, h, hl => by
    rw [List.pairwise_cons] at h
    rw [hit_new (fun hm => h.1 a hm rfl), if_pos (hl a (by simp)), hit_all Q h.2 (fun x hx => hl x (by simp [hx])), List.length_cons]
theorem qo_thr {P : List Nat} {k m n : Nat} (hk : 1 ≤ k) (hn : 0 < n) : (thr (lo (qo P (k + m) m) n) (k + m)).length = k := by
  have h1 := thr_hit (qo P (k + m) m) hn (k + m)
  rw [hit_all (qo P (k + m) m) (qo_nodup (by omega)) (fun x hx => by
    obtain ⟨s, h1, h2⟩ := qo_mem.1 hx
    rw [← h2]
    exact od_lt (by omega)), qo_len] at h1
  omega
/-- What has an inverse on the left has it on the right. -/
theorem has_right {n : Nat} {P X : Nat → Nat → BitVec 8} (hX : ∀ i, i < n → ∀ j, j < n → mm fdE n X P i j = dl fdE i j) (i : Nat) (hi : i < n) (j : Nat) (hj : j < n) : mm fdE n P X i j = dl fdE i j := by
  have h := left_oo (D := fdE) hX (e := fun t => fdE.pl (mm fdE n P X i t) (dl fdE i t)) (fun j hj => by
    rw [sm_congr (g := fun t => fdE.pl (fdE.ti (mm fdE n P X i t) (P t j)) (fdE.ti (dl fdE i t) (P t j))) (fun t _ => pl_ti _ _ _), sm_pl]
    have e1 : sm fdE (fun t => fdE.ti (mm fdE n P X i t) (P t j)) n = P i j := by
      have h1 : mm fdE n (mm fdE n P X) P i j = P i j := by
        rw [mm_assoc, mm_congr (A' := P) (B' := dl fdE) (fun _ _ => rfl) (fun t ht => hX t ht j hj), mm_dl_r hj]
      exact h1
    have e2 : sm fdE (fun t => fdE.ti (dl fdE i t) (P t j)) n = P i j := mm_dl_l (D := fdE) (A := P) hi
    rw [e1, e2, fdE.pl_self]) j hj
  exact pl_eq h
/-- k rows of whatever bytes, at any places, are those of a word. -/
theorem Fac.open {k m : Nat} {F : Nat → Nat → BitVec 8} (h : Fac k F) (hkm : k + m ≤ 255) {L : Nat → Nat} (hq : (thr L (k + m)).length = k) (R : Nat → Nat → BitVec 8) : ∃ D : Nat → Nat → BitVec 8, ∀ i, i < k + m → 0 < L i → ∀ c, R i c = mm fdE k F D i c := by
  obtain ⟨Z, hz⟩ := h.has (p := pk L (k + m)) (fun i hi => by have := (pk_mem (L := L) (r := k + m) (t := i) (by omega)).1; omega) (fun i hi j hj hne => pk_ne (by omega) (by omega) hne)
  have hr := has_right hz
  refine ⟨mm fdE k Z (fun t c => R (pk L (k + m) t) c), fun i hi hL c => ?_⟩
  obtain ⟨t, ht, e⟩ := List.getElem_of_mem (thr_mem.2 ⟨hi, hL⟩)
  have e2 : pk L (k + m) t = i := by
    unfold pk
    rw [List.getD_eq_getElem?_getD, List.getElem?_eq_getElem ht]
    exact e
  have h1 : mm fdE k (fun i j => F (pk L (k + m) i) j) (mm fdE k Z (fun t c => R (pk L (k + m) t) c)) t c = R (pk L (k + m) t) c := by
    rw [← mm_assoc, mm_congr (A' := dl fdE) (B' := fun t c => R (pk L (k + m) t) c) (fun s hs => hr t (by omega) s hs) (fun _ _ => rfl), mm_dl_l (by omega)]
  rw [e2] at h1
  rw [← h1]
  have e3 : mm fdE k (fun i j => F (pk L (k + m) i) j) (mm fdE k Z (fun t c => R (pk L (k + m) t) c)) t c = mm fdE k F (mm fdE k Z (fun t c => R (pk L (k + m) t) c)) (pk L (k + m) t) c := rfl
  rw [e3, e2]
end Go.Proofs.Ytgokkppojhokbaa
/-
  StripeOpen: one shard's blocks are written over; places that are emptied.
-/
namespace Go.Proofs.Ytgokkppojhokbaa
open Go.RowKit Go.ChangeShapes Go.WideShapes Go.ChangeAt
theorem bm_in10 {P : List Nat} {t : Nat} (h : t ∈ P) : bm P t = .bool true := by unfold bm; simp [h]
theorem bm_out10 {P : List Nat} {t : Nat} (h : t ∉ P) : bm P t = .bool false := by unfold bm; simp [h]
theorem lo_pos {P : List Nat} {n i : Nat} (h : ¬ i ∈ P) (hn : 0 < n) : 0 < lo P n i := by unfold lo; rw [if_neg h]; exact hn
theorem lsp_add (h : Hd) (n : Nat) (vs : Nat → Value) (Q : List Nat) (T os : Nat) (ho : os < T) : (fun r => if r = os then shc hd0 (.slice none 0 0) else lsp h n vs Q T r) = lsp h n vs (Q ++ [os]) T := by
  funext r
  unfold lsp
  by_cases e : r = os
  · subst e; rw [if_pos rfl, if_pos ⟨ho, by simp⟩]
  · rw [if_neg e]
    by_cases e2 : r < T ∧ r ∈ Q
    · rw [if_pos e2, if_pos ⟨e2.1, by simp [e2.2]⟩]
    · rw [if_neg e2, if_neg (fun h => e2 ⟨h.1, by have := h.2; simp [e] at this; exact this⟩)]
theorem lsp_nil (h : Hd) (n : Nat) (vs : Nat → Value) (T : Nat) : lsp h n vs [] T = lsp h n vs [] 0 := by
  funext r
  unfold lsp
  rw [if_neg (by simp), if_neg (by simp)]
theorem obs_of2 {w : World} {g n K M B : Nat} {h : Hd} {L : List Nat} {F D : Nat → Nat → BitVec 8} {vs : Nat → Value} {P : List Nat} (hi : h.In) (hy : h.key.length ≤ 9223372036854775807) (hn : n ≤ 140737488355328) (hc : chk (h.of n) = 0) (hu : h.Nu n K M B L) (hz1 : szC h.k h.m h.b n = 0) (hz2 : szL h.k h.m h.b n = L) (hF : Fac K F)
    (hO : Ov w 44 g (flat (lsp h n vs P (K + M))) ((K + M) * 17)) (hR : ∀ i, i < K + M → ∃ b, vs i = .slice (some ⟨b, 0, none⟩) L.length L.length) (hN : ∀ i, i < K + M → i ∉ P → NmT w (vs i) L.length (fun j => L.getD j 0) (fun j x => mm fdE K F D i ((L.take j).sum + x))) (hP : P.length ≤ M) :
    ∃ m, Obs w (.slice (some ⟨g, 0, none⟩) (K + M) (K + M)) (lsH h n P) (lsV vs P) m n K M B L F D := by
  have hk := hu.k1
  have hct := cnth_ls hu P (K + M)
  have hhit := hit_le P (K + M)
  obtain ⟨i0, hi0, ht0⟩ := cnth_some (lsH h n P) (K + M) (by omega)
  obtain ⟨f, hf, htf, hj⟩ := least (fun i => thr? (lsH h n P i)) i0 ht0
  have hfP : f ∉ P := by
    have h1 := thr_ls hu P f
    rw [htf] at h1
    simpa using h1.symm
  have hin : ({ h.of n with ix := (f : Int) } : Hd).In := by
    have h2 := Hd.of_in hi hn
    exact ⟨h2.k, h2.m, h2.b, h2.sz, ⟨by show (_ : Int) ≤ (f : Int); omega, by show (f : Int) ≤ _; have := hu.km; omega⟩, h2.ep, h2.ct⟩
  refine ⟨{ h.of n with ix := (f : Int) }, ov_sds hO (fun i hi => lsp_end h n vs P _ i hi), hin, hy, Hd.at_ok hu hc (by omega), rfl, ⟨hu.k, hu.m, hu.b, hu.k1, hu.m1, hu.mle, hu.km, hu.b1, hu.b2, hu.n1, hu.l, hu.s, hu.c, hu.r⟩, hz1, hz2, hF, fun i hi ht => ?_, fun i hi => ?_, by omega, ⟨f, by omega, htf, hj, by unfold lsH; rw [if_neg hfP]⟩⟩
  · have hiP : i ∉ P := by
      have h1 := thr_ls hu P i
      rw [ht] at h1
      simpa using h1.symm
    obtain ⟨b, hb⟩ := hR i hi
    refine ⟨by unfold lsH; rw [if_neg hiP], some ⟨b, 0, none⟩, L.length, ?_, Nat.le_refl _, ?_⟩
    · unfold lsV; rw [if_neg hiP]; exact hb
    · rw [← hb]; exact (hN i hi hiP).nm
  · unfold lsV
    by_cases e : i ∈ P
    · rw [if_pos e]; exact ⟨_, _, _, rfl⟩
    · rw [if_neg e]
      obtain ⟨b, hb⟩ := hR i hi
      exact ⟨_, _, _, hb⟩
/-- All blocks but those from lo on and below hi are as they were. -/
structure Kp (lo hi : Nat) (w w' : World) : Prop where
  bl : Below lo w w'
  ot : ∀ k, k < w.heap.size → ¬ (lo ≤ k ∧ k < hi) → w'.heap[k]? = w.heap[k]?
  sz : w.heap.size ≤ w'.heap.size
theorem Kp.refl (lo hi : Nat) (w : World) : Kp lo hi w w := ⟨Below.refl _ _, fun _ _ _ => rfl, Nat.le_refl _⟩
theorem Kp.drewN {lo hi : Nat} {w w' : World} (h : Kp lo hi w w') (n : Nat) : Kp lo hi w (w'.drewN n) := ⟨below_drewN h.bl n, h.ot, h.sz⟩
theorem Kp.drew {lo hi : Nat} {w w' : World} (h : Kp lo hi w w') : Kp lo hi w w'.drew := ⟨h.bl.drew, h.ot, h.sz⟩
theorem Kp.set {lo hi : Nat} {w w' : World} (h : Kp lo hi w w') {g : Nat} (h1 : lo ≤ g) (h2 : g < hi) (j : Nat) (v : Value) : Kp lo hi w (w'.setCell ⟨g, j, none⟩ v) :=
  ⟨h.bl.setCell h1 _, fun k hk hne => by rw [heap_setCell_other _ _ _ _ (fun e => hne (by rw [e]; exact ⟨h1, h2⟩)), h.ot k hk hne], by simpa using h.sz⟩
theorem Kp.ov {lo hi : Nat} {w w' : World} (h : Kp lo hi w w') {t : TypeId} {k n : Nat} {f : Nat → Value} (ho : Ov w t k f n) (hne : ¬ (lo ≤ k ∧ k < hi)) : Ov w' t k f n := by
  unfold Ov; rw [h.ot k ho.lt hne]; exact ho
theorem ShO.kp {w w' : World} {v : Value} {L : List Nat} {N : Nat → Nat → BitVec 8} {a b lo hi : Nat} (h : ShO w v L N a b) (hk : Kp lo hi w w') (hd : b ≤ lo ∨ hi ≤ a) : ShO w' v L N a b := by
  obtain ⟨B, ρ, h1, h2, h3, h4, h5, h6, h7⟩ := h
  exact ⟨B, ρ, h1, hk.ov h2 (by omega), fun j hj => hk.ov (h3 j hj) (by have := h4 j hj; omega), h4, h5, h6, h7⟩
theorem ShO.nmt {w : World} {v : Value} {L : List Nat} {N : Nat → Nat → BitVec 8} {a b : Nat} (h : ShO w v L N a b) : NmT w v L.length (fun j => L.getD j 0) N := by
  obtain ⟨B, ρ, h1, h2, h3, _⟩ := h
  exact ⟨fun j => .slice (some ⟨ρ j, 0, none⟩) (L.getD j 0) (L.getD j 0), by rw [h1]; exact h2.st _ _, fun j hj => (h3 j hj).st _ _⟩
theorem ShO.form {w : World} {v : Value} {L : List Nat} {N : Nat → Nat → BitVec 8} {a b : Nat} (h : ShO w v L N a b) : ∃ B, v = .slice (some ⟨B, 0, none⟩) L.length L.length := by
  obtain ⟨B, ρ, h1, _⟩ := h
  exact ⟨B, h1⟩
theorem ShO.lt {w : World} {v : Value} {L : List Nat} {N : Nat → Nat → BitVec 8} {a b : Nat} (h : ShO w v L N a b) : a < b := by
  obtain ⟨B, ρ, _, _, _, _, _, h6, h7⟩ := h
  omega
/-- The bounds rise. -/
theorem bd_up {w : World} {vs : Nat → Value} {L : List Nat} {N : Nat → Nat → Nat → BitVec 8} {bd : Nat → Nat} {T : Nat} (h : ∀ i, i < T → ShO w (vs i) L (N i) (bd i) (bd (i + 1))) : ∀ {i j : Nat}, i ≤ j → j ≤ T → bd i ≤ bd j := by
  intro i j hij
  induction j with
  | zero => intro _; have e : i = 0 := by omega
            rw [e]; exact Nat.le_refl _
  | succ j ih =>
    intro hj
    by_cases e : i = j + 1
    · rw [e]; exact Nat.le_refl _
    · have h1 := ih (by omega) (by omega)
      have h2 := (h j (by omega)).lt
      omega
theorem take_up (L : List Nat) {t : Nat} : ∀ {j : Nat}, t ≤ j → (L.take t).sum ≤ (L.take j).sum
  | 0, h => by
    have e : t = 0 := by omega
    rw [e]; exact Nat.le_refl _
  | j + 1, h => by
    by_cases e : t = j + 1
    · rw [e]; exact Nat.le_refl _
    · refine Nat.le_trans (take_up L (j := j) (by omega)) ?_
      rcases Nat.lt_or_ge j L.length with hl | hl
      · rw [sum_take_succ L j hl]; omega
      · rw [List.take_of_length_le (by omega), List.take_of_length_le (by omega)]; exact Nat.le_refl _
theorem lin_ne (L : List Nat) {t j k x : Nat} (ht : t < L.length) (hj : j < L.length) (h : t ≠ j) (hk : k < L.getD t 0) (hx : x < L.getD j 0) : (L.take t).sum + k ≠ (L.take j).sum + x := by
  rcases Nat.lt_or_ge t j with h1 | h1
  · have h2 := take_up L (t := t + 1) (j := j) h1
    rw [sum_take_succ L t ht] at h2
    omega
  · have h2 := take_up L (t := j + 1) (j := t) (by omega)
    rw [sum_take_succ L j hj] at h2
    omega
/-- A shard's blocks, written over: what they hold by its place in the row. -/
structure Wb (w : World) (L : List Nat) (B : Nat) (ρ : Nat → Nat) (C : Nat → BitVec 8) : Prop where
  arr : Ov w 23 B (fun j => .slice (some ⟨ρ j, 0, none⟩) (L.getD j 0) (L.getD j 0)) L.length
  row : ∀ j, j < L.length → Ov w 5 (ρ j) (clE (fun x => C ((L.take j).sum + x))) (L.getD j 0)
  fst : ∀ j, j < L.length → B < ρ j
  up : ∀ i i', i < i' → i' < L.length → ρ i < ρ i'
theorem Wb.below {w w' : World} {L : List Nat} {B : Nat} {ρ : Nat → Nat} {C : Nat → BitVec 8} (h : Wb w L B ρ C) (hb : Below w.heap.size w w') : Wb w' L B ρ C := ⟨h.arr.below hb, fun j hj => (h.row j hj).below hb, h.fst, h.up⟩
theorem Wb.set {w : World} {L : List Nat} {B : Nat} {ρ : Nat → Nat} {C : Nat → BitVec 8} (h : Wb w L B ρ C) {t k : Nat} (ht : t < L.length) (hk : k < L.getD t 0) (b : BitVec 8) : Wb (w.setCell ⟨ρ t, k, none⟩ (.int .u8 (el b))) L B ρ (fun c => if c = (L.take t).sum + k then b else C c) := by
  refine ⟨h.arr.other (p := ⟨ρ t, k, none⟩) (Nat.ne_of_lt (h.fst t ht)) rfl, fun j hj => ?_, h.fst, h.up⟩
  by_cases e : j = t
  · subst e
    refine ((h.row j hj).set hk (.int .u8 (el b))).congr (fun i _ => ?_)
    unfold clE
    dsimp only
    by_cases e2 : i = k
    · subst e2; rw [if_pos rfl, if_pos rfl]
    · rw [if_neg e2, if_neg (by omega)]
  · have hne : ρ j ≠ ρ t := by
      rcases Nat.lt_or_ge j t with h1 | h1
      · exact Nat.ne_of_lt (h.up j t h1 ht)
      · exact (Nat.ne_of_lt (h.up t j (by omega) hj)).symm
    refine ((h.row j hj).other (p := ⟨ρ t, k, none⟩) hne rfl).congr (fun i hi => ?_)
    unfold clE
    dsimp only
    rw [if_neg (lin_ne L hj ht e hi hk)]
theorem Wb.nmt {w : World} {L : List Nat} {B : Nat} {ρ : Nat → Nat} {C : Nat → BitVec 8} (h : Wb w L B ρ C) : NmT w (.slice (some ⟨B, 0, none⟩) L.length L.length) L.length (fun j => L.getD j 0) (fun j x => C ((L.take j).sum + x)) :=
  ⟨fun j => .slice (some ⟨ρ j, 0, none⟩) (L.getD j 0) (L.getD j 0), h.arr.st _ _, fun j hj => (h.row j hj).st _ _⟩
/-- The order behind so many turns. -/
def ot (P : List Nat) (N : Nat) : Nat → List Nat
  | 0 => []
  | 1 => [] ++ sel P true N
  | _ => sel P true N ++ sel P false N
theorem ot_two (P : List Nat) (N : Nat) : ot P N 2 = ord P N := rfl
theorem ord_own {w : World} {b : Nat} {v : Value} {P : List Nat} {N : Nat} (h : w.ownsRow b 3 1 v (ord P N).length (pvs (ord P N))) (h0 : 0 < N) : ∃ g c, v = .slice (some ⟨g, 0, none⟩) N c ∧ b ≤ g ∧ ∀ i, i < N → w.cell? ⟨g, i, none⟩ = some (.int .i64 (od P N i : Nat)) := by
  have hl := ord_len P N
  have h2 := h
  rw [pvs_lv] at h2
  have st := owns_st1 h2
  rcases h.2 with ⟨_, h1⟩ | ⟨g, cap, c, hv, hg, _⟩
  · omega
  · subst hv
    refine ⟨g, cap, by rw [hl], hg, fun i hi => ?_⟩
    obtain ⟨b', o', c', e, hc⟩ := (St.sv st).cells (by omega)
    injection e with e1 e2 e3
    injection e1 with e1
    injection e1 with e1 e4 e5
    subst e1 e4
    have := hc i (by omega)
    rw [Nat.zero_add] at this
    exact this
theorem qo_step (P : List Nat) (N s : Nat) (h : 1 ≤ s) : qo P N s = qo P N (s - 1) ++ [od P N s] := by
  obtain ⟨t, rfl⟩ : ∃ t, s = t + 1 := ⟨s - 1, by omega⟩
  exact qo_succ P N t
theorem qo_zero (P : List Nat) (N : Nat) : qo P N 0 = [] := rfl
theorem len_bd {h : Hd} {n K M B : Nat} {L : List Nat} (hu : h.Nu n K M B L) : L.length ≤ 1000000000 ∧ ∀ j, L.getD j 0 ≤ 140737488355328 := by
  have h1 := hu.s
  have h2 := hu.r
  have h3 := hu.n1
  refine ⟨by omega, fun j => ?_⟩
  rcases Nat.lt_or_ge j L.length with h4 | h4
  · have := sum_take_lt L j h4
    omega
  · rw [List.getD_eq_getElem?_getD, List.getElem?_eq_none h4]
    simp
theorem Kp.cell {lo hi : Nat} {w w' : World} (h : Kp lo hi w w') {p : Addr} {v : Value} (hc : w.cell? p = some v) (hne : ¬ (lo ≤ p.block ∧ p.block < hi)) : w'.cell? p = some v := by
  rw [World.cell?_of_block (w := w) (h.ot p.block (block_lt_of_cell hc) hne)]; exact hc
theorem meas10 {t N : Nat} (h : t < N) : N - (intOf (.int .i64 ((t + 1 : Nat) : Int))).toNat < N - (intOf (.int .i64 (t : Int))).toNat := by
  simp only [intOf, Int.toNat_natCast]; omega
theorem nr_un10 {w : World} {p : Option Addr} {c n : Nat} {f : Nat → BitVec 8} (h : NrE w (.slice p n c) n f) : 0 < n → ∃ b o, p = some ⟨b, o, none⟩ ∧ ∀ i, i < n → w.cell? ⟨b, o + i, none⟩ = some (clE f i) := by
  obtain ⟨p', c', e, h⟩ := nr_un h
  injection e with e1 e2 e3
  subst e1
  exact h
/-- Fits for less bytes. -/
theorem Fits.less {K M B N N' ep ct : Nat} {key : List (BitVec 8)} (h : Fits K M B N ep ct key) (hn : N' ≤ N) : Fits K M B N' ep ct key := ⟨h.k1, h.m1, h.mlk, h.km, h.b1, h.b2, Nat.le_trans hn h.n1, Nat.le_trans hn h.n2, h.e1, h.e2, h.c1, h.c2, h.y1, h.y2⟩
theorem bytes_ofM {H : Type} {enc : TypeId × Value → H} {W : World} {n : Nat} {v : Value} {y : DataW H × List MemPlace} (h : DataW.trod enc Try.prog W 0 (fun _ => true) true n 23 [v] = some y) : ∃ (p : Option Addr) (n c : Nat) (d : Nat → BitVec 8), v = .slice p n c ∧ n ≤ 9223372036854775807 ∧ NrE W (.slice p n c) n d := by
  rcases open_ints Try.underlying23 Try.underlying5 (by kernel_rfl) h with ⟨hcs, _⟩ | ⟨x, l, c, zs, hcs, _, hl, hm, hz, hx, hcell, hwz⟩
  · simp at hcs
    subst hcs
    exact ⟨none, 0, 0, fun _ => 0#8, rfl, by omega, ⟨none, 0, rfl, .inl rfl⟩⟩
  · simp at hcs
    subst hcs
    simp only [if_true] at hz
    unfold maxLen at hm
    exact ⟨some x, l, c, _, rfl, by omega, row_of hl (fun i hi => hcell i (by rw [hz]; exact hi)) hwz⟩
theorem fits_T {K M B N ep ct T : Nat} {key : List (BitVec 8)} (h : Fits K M B N ep ct key) (e : K + M = T) : T ≤ 255 ∧ 1 ≤ T ∧ M < T := by
  have h1 := h.km
  have h2 := h.k1
  subst e
  exact ⟨h1, by omega, by omega⟩
theorem bd_out {g lo hi S gO : Nat} (h : g < lo ∧ hi ≤ S) (hg : S ≤ gO) : ¬ (lo ≤ gO ∧ gO < hi) := by omega
theorem bd_in {g lo hi S : Nat} (h : g < lo ∧ hi ≤ S) : ¬ (lo ≤ g ∧ g < hi) := by omega
theorem bd_low {b S g lo hi : Nat} (h1 : b < S) (h2 : S ≤ g) (h3 : g < lo) : ¬ (lo ≤ b ∧ b < hi) := by omega
theorem bd_low2 {b g lo hi : Nat} (h1 : b < g) (h3 : g < lo) : ¬ (lo ≤ b ∧ b < hi) := by omega
theorem HdAt.kp {lo hi g : Nat} {w w' : World} {h : Hd} (H : HdAt w g h) (hb : Kp lo hi w w') (hg : ¬ (lo ≤ g ∧ g < hi)) : HdAt w' g h := by
  have hl := H.lt
  unfold HdAt at H ⊢
  rw [hb.ot g hl hg]; exact H
theorem w_succ {t L : Nat} (h : t < L) (hL : L ≤ 9223372036854775807) : wrap64 ((t : Int) + 1) = ((t + 1 : Nat) : Int) := by unfold wrap64; omega
theorem nr_cut {w : World} {p : Option Addr} {n c q : Nat} {f : Nat → BitVec 8} (h : NrE w (.slice p n c) n f) (hq : q ≤ n) : NrE w (.slice p q c) q f := by
  obtain ⟨p', c', e, h⟩ := nr_un h
  injection e with e1 e2 e3
  subst e1 e3
  refine ⟨_, _, rfl, ?_⟩
  by_cases h0 : q = 0
  · exact .inl h0
  · obtain ⟨b, o, e, hc⟩ := h (by omega)
    exact .inr ⟨b, o, e, fun i hi => hc i (by omega)⟩
/-- The numbers of the cutting. -/
theorem cut_nums (N K : Nat) (hN : N ≤ 1048576) : ∃ m, N % K = m ∧ (N : Int).tmod (K : Int) = (m : Int) ∧ wrap64 ((N : Int) - (m : Int)) = ((N - m : Nat) : Int) ∧ m ≤ N ∧ (N - m) % K = 0 := by
  refine ⟨N % K, rfl, by rw [← Int.ofNat_tmod], ?_, Nat.mod_le _ _, ?_⟩
  · have := Nat.mod_le N K
    unfold wrap64
    omega
  · have := Nat.div_add_mod N K
    have e : N - N % K = K * (N / K) := by omega
    rw [e]; exact Nat.mul_mod_right _ _
theorem ex_ldR {o : Oper} {a : Act} {X : World} {t : TypeId} {x : Operand} {p : Addr} {cs : Array Value} (ho : o.op = .load t x) (hx : a.eval x = .pointer (some p)) (hr : (loadVar t p).run Try.prog X = .ok (.agg cs) X) : (execOp a.eval o).run Try.prog X = .ok (.value (.agg cs)) X := by
  unfold execOp
  simp only [ho, hx, Instr.loadAt, Instr.sureAddr, Sem.run_bind, Sem.run_pure, Result.andThen_ok, hr]
theorem ex_bin {o : Oper} {a : Act} {X : World} {op : BinOp} {t t2 : TypeId} {x y : Operand} {u v r : Value} (ho : o.op = .binOp op t x y t2) (hx : a.eval x = u) (hy : a.eval y = v) (hg : (eqGuard op t x y u v).run Try.prog X = .ok () X) (h : (binOp op t u v).run Try.prog X = .ok r X) : (execOp a.eval o).run Try.prog X = .ok (.value r) X := by
  unfold execOp
  simp only [ho, hx, hy, Sem.run_bind, hg, h, Sem.run_pure, Result.andThen_ok]
theorem takeHr {P : Program} {ops : Array Oper} {Q : Exit → Act → World → Prop} {md : Region.Mode} {S : World → Prop} {i : Nat} {oi : Oper} {d : Option Tmp} {v : Value} {fuel : Nat} {listed : Array Bool} {a : Act} {w : World} (hi : ops[i]? = some oi) (hd : oi.dst = d)
    (hs : Region.noSelect ops = true) (hf : Region.free md ops listed i = true) (hr : (Region.ready md ops listed).contains i = true)
    (hQ : ∀ c a w, Q (.panic c) (a.put oi.dst v) w → Q (.panic c) a w) (hy : YieldsIf P ops S oi v a) (hS : S w)
    (h : wpAnyH P md ops Q S fuel (listed.setIfInBounds i true) (a.put d v) w) : wpAnyH P md ops Q S (fuel + 1) listed a w := by
  subst hd; exact wpAnyH_take hi hs hf hr hQ hy hS h
theorem sd_of {w : World} {t : TypeId} {g n : Nat} {S : Nat → Array Value} {h : Hd} {v : Value} (hO : Ov w t g (flat S) (n * 17)) {i : Nat} (hi : i < n) (e : S i = shc h v) : Sd w g (i * 17) h v := by
  intro j u hj
  have hj' : j < 17 := by
    rcases Nat.lt_or_ge j 17 with h9 | h9
    · exact h9
    · rw [List.getElem?_eq_none (by exact h9)] at hj; cases hj
  rw [flat_at hO i j hi hj', e]
  rw [Array.getElem?_toList] at hj
  simp [Array.getD]
  have := (Array.getElem?_eq_some_iff.1 hj)
  obtain ⟨h1, h2⟩ := this
  simp [h1, h2]
theorem Sd.runH {w : World} {b o : Nat} {h : Hd} {v : Value} (H : Sd w b o h v) : (loadVar 33 ⟨b, o, none⟩).run Try.prog w = .ok (.agg h.cs) w :=
  run_loadVar_at w b o 33 h.cs _ (fun j u hj => H j u (shc_at h v j u hj)) Try.underlying33 rfl sizeHd
theorem size_Shp : (Try.prog.info? 29).map (·.size) = some 3 := by kernel_rfl
theorem Sd.runS {w : World} {b o : Nat} {h : Hd} {v : Value} (H : Sd w b o h v) : (loadVar 29 ⟨b, o + 8, none⟩).run Try.prog w = .ok (.agg #[.int .i64 h.k, .int .i64 h.m, .int .i64 h.b]) w := by
  obtain ⟨c8, c9, c10, _⟩ := H.cells
  refine run_loadVar_at w b (o + 8) 29 #[.int .i64 h.k, .int .i64 h.m, .int .i64 h.b] _ (fun j u hj => ?_) Try.underlying29 rfl size_Shp
  match j with
  | 0 => simp at hj; subst hj; exact c8
  | 1 => simp at hj; subst hj; exact c9
  | 2 => simp at hj; subst hj; exact c10
  | j + 3 => simp at hj
theorem lsp_in {h : Hd} {n : Nat} {vs : Nat → Value} {Q : List Nat} {T t : Nat} (ht : t < T) (hq : t ∈ Q) : lsp h n vs Q T t = shc hd0 (.slice none 0 0) := by unfold lsp; rw [if_pos ⟨ht, hq⟩]
theorem lsp_out {h : Hd} {n : Nat} {vs : Nat → Value} {Q : List Nat} {T t : Nat} (hq : ¬ t ∈ Q) : lsp h n vs Q T t = shc { h.of n with ix := (t : Int) } (vs t) := by unfold lsp; rw [if_neg (fun h => hq h.2)]
theorem spc_at {h : Hd} {vs : Nat → Value} {T t : Nat} (ht : t < T) : spc h T vs t = shc { h with ix := (t : Int) } (vs t) := by unfold spc; rw [if_pos ht]
theorem neq_shp0 {K : Nat} (hK : 1 ≤ K) (m b : Int) (w : World) : (binOp .neq 29 (.agg #[.int .i64 (K : Int), .int .i64 m, .int .i64 b]) (.agg #[.int .i64 0, .int .i64 0, .int .i64 0])).run Try.prog w = .ok (.bool true) w := by
  have h0 : ((K : Int) == 0) = false := by rw [beq_eq_false_iff_ne]; omega
  have hk : ¬ K = 0 := by omega
  rw [run_neq_struct]
  go_simp
  repeat' split
  all_goals simp_all
theorem neq_head_self (h : Hd) (w : World) : (binOp .neq 33 (.agg h.cs) (.agg h.cs)).run Try.prog w = .ok (.bool false) w := by
  have := neq_head h h w
  rw [(hq_iff h h).2 rfl] at this
  exact this
end Go.Proofs.Ytgokkppojhokbaa
/-
  StripeOpen: the walk.
-/
namespace Go.Proofs.Ytgokkppojhokbaa
open Go.RowKit
section
attribute [local irreducible] Calls el Hd.cs plC PlAt NrE NmE NmT Fac mm dm flat lsp spc str bstr Ov bm shc sel ord od qo pvs lv pad obm
set_option maxHeartbeats 32000000 in
set_option maxRecDepth 1000000 in
theorem stripeOpen_walk (x : Hd) (pd : Option Addr) (n c : Nat) (d : Nat → BitVec 8) (pp : Option Addr) (np cp : Nat) (f : Nat → Int) (py : Option Addr) (ny cy : Nat) (y : Nat → BitVec 8) (w : World) (hnc : n ≤ c) (hD : NrE w (.slice pd n c) n d) (HX : 0 < np → ∃ b o, pp = some ⟨b, o, none⟩ ∧ ∀ i, i < np → w.cell? ⟨b, o + i, none⟩ = some (.int .i64 (f i))) (hY : NrE w (.slice py ny cy) ny y) (hny : ny ≤ 9223372036854775807) :
    Calls Try.prog 3 #[.agg (plC x (.slice pd n c) (.slice pp np cp)), .slice py ny cy] w fun e w' => e = .returned (.bool true) ∧ Below w.heap.size w w' := by
  have al : ∀ (W : World) (o : Obj), Below W.heap.size W (W.alloc o) := fun W o => (Below.refl _ _).alloc (Nat.le_refl _) o
  have H0 := (show Hid _ from PlAt.new w x (.slice pd n c) (.slice pp np cp))
  have HD := (show Hid _ from NrE.below hD (al w (.cells (plC x (.slice pd n c) (.slice pp np cp)) 26)))
  have HYh := (show Hid (NrE w (.slice py ny cy) ny y) from hY)
  have HNY := (show Hid (ny ≤ 9223372036854775807) from hny)
  have HXh := (show Hid _ from HX)
  have HA := (show Hid _ from al w (.cells (plC x (.slice pd n c) (.slice pp np cp)) 26))
  have AW := (show Hid _ from awake10)
  clear hD HX hY hny
  go_enter Try.func3, Try.ntmps3
  go_wp2_with (first
    | (go_at_call 4; refine (AW.out _).mono ?_; rintro e w1 ⟨rfl, hb1⟩; have P1 := (show Hid _ from H0.out.below hb1); have D1 := (show Hid _ from NrE.below HD.out hb1); clear H0 HD)
    | (refine wpList_ldPl rfl _ rfl w.heap.size rfl P1.out ?_)
    | (go_at_call 5; refine (fit_any x pd n c (.slice pp np cp) d w1 hnc D1.out).mono ?_; rintro e w2 ⟨K, M, B, N, ep, ct, key, q, r, rfl, hf, hr, hN2, hb2⟩; have P2 := (show Hid _ from P1.out.below hb2); have N2 := (show Hid _ from hN2); have HF0 := (show Hid _ from hf); clear P1 D1 hN2 hf)
    | (refine wpList_alHd rfl rfl ?_; intro wa Za hba hsa)
    | (refine wpList_stHd (ftH x K M B key ep ct) rfl _ _ rfl rfl w2.heap.size rfl rfl Za ?_; intro w3 H3 hBu3; have hb3 := (show Hid (Below w2.heap.size w2 w3) from hba.trans hBu3.bl); obtain ⟨m0, hm0, r1, r2, r3, r4⟩ := cut_nums N K HF0.out.n1; obtain ⟨NN, hNN⟩ : ∃ NN, N - m0 = NN := ⟨_, rfl⟩; rw [hNN] at r2 r4; have N3 := (show Hid (NrE w3 (.slice q NN r) NN d) from nr_cut (NrE.below N2.out hb3.out) (by omega)); have P3 := (show Hid _ from P2.out.below hb3.out); have HF := (show Hid (Fits K M B NN ep ct key) from HF0.out.less (by omega)); have HR4 := (show Hid (NN % K = 0) from r4); have hrr := (show Hid (NN ≤ r) from by show _ ≤ _; omega); have r5 : (NN : Int) ≤ (r : Int) := (by omega); have r6 : ¬ (K : Int) = 0 := (by have := HF0.out.k1; omega); have a7 := (show w3.cell? ⟨w2.heap.size, 8, none⟩ = some (.int .i64 (K : Int)) from H3.cells.1); clear Za hba hBu3 P2 N2 hm0 hNN r3 r4)
    | (refine wpList_loadHd rfl _ rfl w2.heap.size rfl H3 ?_)
    | (go_at_call 6; obtain ⟨L, nu, z1, z2⟩ := ft_nu (x := x) HF.out; refine (split_own (ftH x K M B key ep ct) (ft_in HF.out) HF.out.y q NN r HF.out.n hrr.out d w3 N3.out ((chk_ok _).2 (ft_ok HF.out)) K M B L nu z1 z2).mono ?_; rintro e w4 ⟨g, F, vs, bd, rfl, hF, hO, hR, hgb, hbd, hg, hb4⟩; have NU := (show Hid ((ftH x K M B key ep ct).Nu NN K M B L ∧ szC (ftH x K M B key ep ct).k (ftH x K M B key ep ct).m (ftH x K M B key ep ct).b NN = 0 ∧ szL (ftH x K M B key ep ct).k (ftH x K M B key ep ct).m (ftH x K M B key ep ct).b NN = L) from ⟨nu, z1, z2⟩); have FA := (show Hid _ from hF); have O4 := (show Hid _ from hO); have R4 := (show Hid _ from hR); have BD := (show Hid ((∀ i, i ≤ K + M → g < bd i) ∧ bd (K + M) ≤ w4.heap.size) from ⟨hgb, hbd⟩); have H4 := (show Hid (HdAt w4 w2.heap.size (ftH x K M B key ep ct)) from H3.below hb4); have P4 := (show Hid _ from P3.out.below hb4); have p15 := P4.out.nums.2.2.2; have a8 := (show w4.cell? ⟨w2.heap.size, 8, none⟩ = some (.int .i64 (K : Int)) from H4.out.cells.1); have a9 := (show w4.cell? ⟨w2.heap.size, 9, none⟩ = some (.int .i64 (M : Int)) from H4.out.cells.2.1); have x1 := wrap_km HF.out.km; have x2 : ((K : Int) + (M : Int) != (K : Int) + (M : Int)) = false := (by simp); have hbw4 := (show Hid (Below w.heap.size w w4) from bt (bt (bt (bt HA.out hb1) hb2) hb3.out) hb4); have PL := (show Hid _ from places10 pp np cp (K + M) (M + 1) f w4 HF.out.pl.1 HF.out.pl.2.1 (by have := HF.out.km; have := HF.out.k1; omega) (fun h => by obtain ⟨b, o, e, hc⟩ := HXh.out h; exact ⟨b, o, e, fun i hi => cell_below (hc i hi) hbw4.out⟩)); rw [Int.natCast_add] at PL; have x3 : wrap64 ((M : Int) + 1) = ((M + 1 : Nat) : Int) := (by have := HF.out.km; unfold wrap64; omega); clear hF hO hR hgb hbd nu z1 z2 P3 r1 r2 r5 r6 a7)
    | (go_at_call 7; refine PL.out.mono ?_; rintro e w5 ⟨P, rfl, hP, hO5, hb5⟩; clear PL))
  have HP := (show Hid (P.length ≤ M + 1) from hP)
  obtain ⟨T, hT⟩ : ∃ T, K + M = T := ⟨_, rfl⟩
  have HTe := (show Hid (K + M = T) from hT)
  have HT := (show Hid (T ≤ 255 ∧ 1 ≤ T ∧ M < T) from fits_T HF.out hT)
  have hT2 : T ≤ 255 := HT.out.1
  have O5 := (show Hid (Ov w5 44 g (flat (spc ((ftH x K M B key ep ct).of NN) (K + M) vs)) ((K + M) * 17)) from Ov.below O4.out hb5)
  have R5 := (show Hid (∀ i, i < K + M → ShO w5 (vs i) L (fun j x => mm fdE K F (dm K L (pad NN d)) i ((L.take j).sum + x)) (bd i) (bd (i + 1))) from fun i hi => (R4.out i hi).below hb5)
  have H5 := (show Hid (HdAt w5 w2.heap.size (ftH x K M B key ep ct)) from H4.out.below hb5)
  have BD5 := (show Hid ((∀ i, i ≤ K + M → g < bd i) ∧ bd (K + M) ≤ w5.heap.size) from ⟨BD.out.1, Nat.le_trans BD.out.2 hb5.size⟩)
  have hlt2 : w2.heap.size < w3.heap.size := H3.lt
  have GL := (show Hid (w2.heap.size < g ∧ g < w4.heap.size) from ⟨Nat.lt_of_lt_of_le hlt2 hg, O4.out.lt⟩)
  have HB5 := (show Hid (Below w.heap.size w w5) from bt hbw4.out hb5)
  have GW := (show Hid (w.heap.size ≤ g) from Nat.le_trans (bt (bt (bt HA.out hb1) hb2) hb3.out).size hg)
  have SZ5 := (show Hid (w4.heap.size < w5.heap.size) from hO5.lt)
  have HY5 := (show Hid (NrE w5 (.slice py ny cy) ny y) from NrE.below HYh.out HB5.out)
  have OB5 := (show Hid (Ov w5 4 w4.heap.size (bm P) (K + M)) from hO5)
  rw [hT] at O5 R5 BD5 OB5 ⊢
  clear hP hO5 hb5 O4 R4 BD H4 P4 H3 hg hlt2 hT a8 a9 p15 x1 x2 x3
  obtain ⟨i1, hi1, hz01, hz11, hz21⟩ := info_parts infoI
  have hown00 : w5.ownsRow w5.heap.size 3 1 (.slice none 0 0) 0 [] := World.ownsRow_nil _ _ _ _
  have hOB5 := OB5.out
  go_loopw [9, 11] (fun v t wr => ∃ s : Nat, s ≤ 2 ∧ t = .int .i64 s ∧ wr.ownsRow w5.heap.size 3 1 v (ot P T s).length (pvs (ot P T s)) ∧ Ov wr 4 w4.heap.size (bm P) T ∧ Below w5.heap.size w5 wr) (fun _ t _ => 2 - (intOf t).toNat)
  case atStart => exact ⟨0, by omega, rfl, by unfold ot pvs; exact hown00, hOB5, Below.refl _ _⟩
  case round =>
    clear hown00 hOB5
    obtain ⟨s, hs, rfl, hown, hO, hb⟩ := hrel
    by_cases h2 : s < 2
    · rcases (show s = 0 ∨ s = 1 by omega) with rfl | rfl
      · have hown0 : wr.ownsRow w5.heap.size 3 1 _ _ _ := hown
        clear hown
        go_wp2
        go_loopw [9, 12] (fun v t wr => ∃ j : Nat, j ≤ T ∧ t = .int .i64 j ∧ wr.ownsRow w5.heap.size 3 1 v (([] ++ sel P true j) : List Nat).length (pvs ([] ++ sel P true j)) ∧ Ov wr 4 w4.heap.size (bm P) T ∧ Below w5.heap.size w5 wr) (fun _ t _ => T - (intOf t).toNat)
        case atStart => exact ⟨0, Nat.zero_le _, rfl, by rw [sel_zero, List.append_nil]; exact hown0, hO, hb⟩
        case round =>
          clear hown0 hO hb
          obtain ⟨j, hj, rfl, hown2, hO2, hb2⟩ := hrel
          by_cases hlt : j < T
          · have j1 : (j : Int) < (T : Int) := by omega
            have g1 := hO2.cell hlt
            have hl1 := sel_le P true T
            have hl2 := sel_le P true j
            have hl3 := sel_le P false j
            have hl4 : (([] ++ sel P true j) : List Nat).length ≤ 510 := by rw [List.length_append]; first | omega | (simp; omega)
            have M1 : Hid ((([] ++ sel P true j) : List Nat).length + 1 ≤ maxLen) := by show _ ≤ _; unfold maxLen; omega
            have M3 : Hid (∀ o : Obj, w5.heap.size ≤ (wr.alloc o).heap.size) := fun o => by have := hb2.size; simp; omega
            clear hl1 hl2 hl3
            by_cases hin : j ∈ P
            · have T0 : Hid True := trivial
              rw [bm_in10 hin] at g1
              go_wp2_with (at_builtin; refine wpList_append_own _ rfl _ _ 24 rfl w5.heap.size 3 i1 (.int .i64 0) 1 8 Try.underlying24 hi1 hz01 hz11 hz21 rfl (by decide) _ _ _ rfl (hown2.alloc _) ⟨wr.heap.size, 0, none⟩ 1 1 [.int .i64 (j : Int)] rfl rfl (one_new _ _ _) (one_cellv rfl) M1.out (by omega) (M3.out _) ?_; intro v' w8 hown' hgrow _)
              have hb8 := below_append (hb2.alloc hb2.size _) (M3.out _) hgrow (hown2.alloc _) (Nat.le_refl _)
              have hO8 := Ov.grown (hO2.below ((Below.refl _ wr).alloc (Nat.le_refl _) (.cells #[.int .i64 (j : Int)] 3))) (hown2.alloc _) hgrow (by decide)
              rw [pvs_app] at hown'
              have hl : (([] ++ sel P true j) : List Nat).length + 1 = (([] ++ sel P true j) ++ [j] : List Nat).length := by rw [List.length_append (bs := [j])]; rfl
              rw [hl, List.append_assoc, ← sel_yes (b := true) (by rw [decide_eq_true hin]; rfl)] at hown'
              clear hown2 hgrow
              go_roundw
              case rel => first | exact ⟨j + 1, by omega, by go_num, hown', hO8, hb8⟩ | exact ⟨_, _, ⟨j + 1, by omega, rfl, hown', hO8, hb8⟩, rfl, by go_num⟩ | ((repeat apply Exists.intro); exact ⟨⟨j + 1, by omega, by go_num, hown', hO8, hb8⟩, rfl⟩)
              case measure => simp [intOf]; omega
            · have T0 : Hid True := trivial
              rw [bm_out10 hin] at g1
              rw [← sel_no (b := true) (by rw [decide_eq_false hin]; decide)] at hown2
              go_wp2
              go_roundw
              case rel => exact ⟨j + 1, by omega, by go_num, hown2, hO2, hb2⟩
              case measure => simp [intOf]; omega
          · obtain rfl : j = T := by omega
            go_wp2
            go_roundw
            case rel => exact ⟨1, by omega, by go_num, hown2, hO2, hb2⟩
            case measure => simp [intOf]
      · have hown0 : wr.ownsRow w5.heap.size 3 1 _ _ _ := hown
        clear hown
        go_wp2
        go_loopw [9, 12] (fun v t wr => ∃ j : Nat, j ≤ T ∧ t = .int .i64 j ∧ wr.ownsRow w5.heap.size 3 1 v ((sel P true T ++ sel P false j) : List Nat).length (pvs (sel P true T ++ sel P false j)) ∧ Ov wr 4 w4.heap.size (bm P) T ∧ Below w5.heap.size w5 wr) (fun _ t _ => T - (intOf t).toNat)
        case atStart => exact ⟨0, Nat.zero_le _, rfl, by rw [sel_zero, List.append_nil]; exact hown0, hO, hb⟩
        case round =>
          clear hown0 hO hb
          obtain ⟨j, hj, rfl, hown2, hO2, hb2⟩ := hrel
          by_cases hlt : j < T
          · have j1 : (j : Int) < (T : Int) := by omega
            have g1 := hO2.cell hlt
            have hl1 := sel_le P true T
            have hl2 := sel_le P true j
            have hl3 := sel_le P false j
            have hl4 : ((sel P true T ++ sel P false j) : List Nat).length ≤ 510 := by rw [List.length_append]; first | omega | (simp; omega)
            have M1 : Hid (((sel P true T ++ sel P false j) : List Nat).length + 1 ≤ maxLen) := by show _ ≤ _; unfold maxLen; omega
            have M3 : Hid (∀ o : Obj, w5.heap.size ≤ (wr.alloc o).heap.size) := fun o => by have := hb2.size; simp; omega
            clear hl1 hl2 hl3
            by_cases hin : j ∈ P
            · have T0 : Hid True := trivial
              rw [bm_in10 hin] at g1
              rw [← sel_no (b := false) (by rw [decide_eq_true hin]; decide)] at hown2
              go_wp2
              go_roundw
              case rel => exact ⟨j + 1, by omega, by go_num, hown2, hO2, hb2⟩
              case measure => simp [intOf]; omega
            · have T0 : Hid True := trivial
              rw [bm_out10 hin] at g1
              go_wp2_with (at_builtin; refine wpList_append_own _ rfl _ _ 24 rfl w5.heap.size 3 i1 (.int .i64 0) 1 8 Try.underlying24 hi1 hz01 hz11 hz21 rfl (by decide) _ _ _ rfl (hown2.alloc _) ⟨wr.heap.size, 0, none⟩ 1 1 [.int .i64 (j : Int)] rfl rfl (one_new _ _ _) (one_cellv rfl) M1.out (by omega) (M3.out _) ?_; intro v' w8 hown' hgrow _)
              have hb8 := below_append (hb2.alloc hb2.size _) (M3.out _) hgrow (hown2.alloc _) (Nat.le_refl _)
              have hO8 := Ov.grown (hO2.below ((Below.refl _ wr).alloc (Nat.le_refl _) (.cells #[.int .i64 (j : Int)] 3))) (hown2.alloc _) hgrow (by decide)
              rw [pvs_app] at hown'
              have hl : ((sel P true T ++ sel P false j) : List Nat).length + 1 = ((sel P true T ++ sel P false j) ++ [j] : List Nat).length := by rw [List.length_append (bs := [j])]; rfl
              rw [hl, List.append_assoc, ← sel_yes (b := false) (by rw [decide_eq_false hin]; rfl)] at hown'
              clear hown2 hgrow
              go_roundw
              case rel => first | exact ⟨j + 1, by omega, by go_num, hown', hO8, hb8⟩ | exact ⟨_, _, ⟨j + 1, by omega, rfl, hown', hO8, hb8⟩, rfl, by go_num⟩ | ((repeat apply Exists.intro); exact ⟨⟨j + 1, by omega, by go_num, hown', hO8, hb8⟩, rfl⟩)
              case measure => simp [intOf]; omega
          · obtain rfl : j = T := by omega
            go_wp2
            go_roundw
            case rel => exact ⟨2, by omega, by go_num, hown2, hO2, hb2⟩
            case measure => simp [intOf]
    · obtain rfl : s = 2 := by omega
      rw [ot_two] at hown
      obtain ⟨gO, cO, eO, hgO, hcO⟩ := ord_own hown HT.out.2.1
      subst eO
      have HBr := (show Hid (Below w5.heap.size w5 wr) from hb)
      have HCO : Hid (∀ i, i < T → wr.cell? ⟨gO, i, none⟩ = some (.int .i64 (od P T i : Nat))) := hcO
      obtain ⟨o0, ho0⟩ : ∃ o0, od P T 0 = o0 := ⟨_, rfl⟩
      have HO0 : Hid (od P T 0 = o0) := ho0
      have lo0 : o0 < T := by rw [← ho0]; exact od_lt HT.out.2.1
      have HLo0 := (show Hid (o0 < T) from lo0)
      obtain ⟨B0, ρ, hv0, hA0, hR0, hρ, hup, hlo, hhi⟩ := R5.out o0 lo0
      have HV0 := (show Hid (vs o0 = .slice (some ⟨B0, 0, none⟩) L.length L.length) from hv0)
      have HRo := (show Hid (∀ j, j < L.length → bd o0 ≤ ρ j ∧ ρ j < bd (o0 + 1)) from fun j hj => ⟨Nat.le_trans hlo (Nat.le_of_lt (hρ j hj).1), (hρ j hj).2⟩)
      obtain ⟨C0, hC0⟩ : ∃ C0 : Nat → BitVec 8, (fun c => mm fdE K F (dm K L (pad NN d)) o0 c) = C0 := ⟨_, rfl⟩
      have HC0 := (show Hid ((fun c => mm fdE K F (dm K L (pad NN d)) o0 c) = C0) from hC0)
      have hWb5 : Wb w5 L B0 ρ C0 := ⟨hA0, fun j hj => by rw [← hC0]; exact hR0 j hj, fun j hj => (hρ j hj).1, hup⟩
      have HBd := (show Hid (g < bd o0 ∧ bd (o0 + 1) ≤ w5.heap.size) from ⟨BD5.out.1 o0 (Nat.le_of_lt lo0), Nat.le_trans (bd_up R5.out (i := o0 + 1) (j := T) lo0 (Nat.le_refl _)) BD5.out.2⟩)
      have HW0 := (show Hid (Wb wr L B0 ρ C0) from hWb5.below hb)
      have HOr := (show Hid (Ov wr 44 g (flat (spc ((ftH x K M B key ep ct).of NN) T vs)) (T * 17)) from O5.out.below hb)
      have HHr := (show Hid (HdAt wr w2.heap.size (ftH x K M B key ep ct)) from H5.out.below hb)
      have HYr := (show Hid (NrE wr (.slice py ny cy) ny y) from NrE.below HY5.out hb)
      have HGO := (show Hid (w5.heap.size ≤ gO) from hgO)
      have HLr := (show Hid (L.length ≤ 1000000000 ∧ ∀ j, L.getD j 0 ≤ 140737488355328) from len_bd NU.out.1)
      have k0 : (o0 : Int) < (T : Int) := Int.ofNat_lt.2 lo0
      have kT : 0 < T := HT.out.2.1
      obtain ⟨lw, hlo'⟩ : ∃ lw, bd o0 = lw := ⟨_, rfl⟩
      obtain ⟨hi', hhi'⟩ : ∃ hi', bd (o0 + 1) = hi' := ⟨_, rfl⟩
      have HLH := (show Hid (bd o0 = lw ∧ bd (o0 + 1) = hi') from ⟨hlo', hhi'⟩)
      rw [hlo', hhi'] at HRo HBd
      obtain ⟨w6, hw6⟩ : ∃ w6, w6 = wr := ⟨_, rfl⟩
      subst hw6
      clear hown hcO ho0 hO hb hv0 hA0 hR0 hρ hup hlo hhi hWb5 hgO hlo' hhi' hC0 O5 H5 HY5 lo0
      have cO : w6.cell? ⟨gO, 0, none⟩ = some (.int .i64 (o0 : Int)) := by
        have h := HCO.out 0 kT
        rw [HO0.out] at h; exact h
      go_wp2_with (fail)
      clear cO
      go_loopw [13, 14] (fun u j wq => ∃ (used t : Nat) (C : Nat → BitVec 8), t ≤ L.length ∧ used ≤ ny ∧ u = .int .i64 (used : Int) ∧ j = .int .i64 (t : Int) ∧ Hid (Wb wq L B0 ρ C) ∧ Hid (Kp lw hi' w6 wq)) (fun _ j _ => L.length - (intOf j).toNat)
      case atStart => exact ⟨0, 0, C0, Nat.zero_le _, Nat.zero_le _, rfl, rfl, HW0.out, Kp.refl _ _ _⟩
      case round =>
        obtain ⟨used, t, C, ht, hu, rfl, rfl, hW, hKp⟩ := hrel
        have cO := hKp.out.cell (HCO.out 0 kT) (bd_out HBd.out HGO.out)
        rw [HO0.out] at cO
        have cG := hKp.out.ov HOr.out (bd_in HBd.out)
        have cB : wr.cell? ⟨g, o0 * 17 + 16, none⟩ = some (.slice (some ⟨B0, 0, none⟩) L.length L.length) := by
          rw [flat_at cG o0 16 HLo0.out (by decide)]
          unfold spc
          rw [if_pos HLo0.out, shc_blocks, HV0.out]
        by_cases hlt : t < L.length
        · have j1 : (t : Int) < (L.length : Int) := Int.ofNat_lt.2 hlt
          have HTt := (show Hid (t < L.length) from hlt)
          have WT := (show Hid (wrap64 ((t : Int) + 1) = ((t + 1 : Nat) : Int)) from w_succ HTt.out (Nat.le_trans HLr.out.1 (by decide)))
          obtain ⟨l, hl⟩ : ∃ l, L.getD t 0 = l := ⟨_, rfl⟩
          have HLl := (show Hid (L.getD t 0 = l) from hl)
          have HUs := (show Hid (used ≤ ny) from hu)
          obtain ⟨W0, hW0⟩ : ∃ W0, W0 = wr := ⟨_, rfl⟩
          subst hW0
          have HWs := (show Hid (Wb W0 L B0 ρ C) from hW.out)
          have HKs := (show Hid (Kp lw hi' w6 W0) from hKp.out)
          clear hW hKp cG hl hlt ht hu
          go_wp2_with (fail)
          clear cO cB
          go_loopw [13, 15] (fun u kk wq => ∃ (us k : Nat) (C : Nat → BitVec 8), k ≤ l ∧ us ≤ ny ∧ u = .int .i64 (us : Int) ∧ kk = .int .i64 (k : Int) ∧ Hid (Wb wq L B0 ρ C) ∧ Hid (Kp lw hi' w6 wq)) (fun _ kk _ => l - (intOf kk).toNat)
          case atStart => exact ⟨used, 0, C, Nat.zero_le _, HUs.out, rfl, rfl, HWs.out, HKs.out⟩
          case round =>
            obtain ⟨us, k, C2, hk, hus, rfl, rfl, hW, hKp⟩ := hrel
            have cO := hKp.out.cell (HCO.out 0 kT) (bd_out HBd.out HGO.out)
            rw [HO0.out] at cO
            have cG := hKp.out.ov HOr.out (bd_in HBd.out)
            have cB : wr.cell? ⟨g, o0 * 17 + 16, none⟩ = some (.slice (some ⟨B0, 0, none⟩) L.length L.length) := by
              rw [flat_at cG o0 16 HLo0.out (by decide)]
              unfold spc
              rw [if_pos HLo0.out, shc_blocks, HV0.out]
            have cA := hW.out.arr.cell HTt.out
            rw [HLl.out] at cA
            have j1 : (t : Int) < (L.length : Int) := Int.ofNat_lt.2 HTt.out
            clear cG
            by_cases hlk : k < l
            · have j2 : (k : Int) < (l : Int) := Int.ofNat_lt.2 hlk
              by_cases hlu : us < ny
              · have j3 : (us : Int) < (ny : Int) := Int.ofNat_lt.2 hlu
                have cR := (hW.out.row t HTt.out).cell (i := k) (by rw [HLl.out]; exact hlk)
                have cF := (hW.out.row t HTt.out).frozen k
                obtain ⟨by', oy', epy, hcy⟩ := (nr_un10 HYh.out) (Nat.lt_of_le_of_lt (Nat.zero_le _) hlu)
                have cY0 := hcy us hlu
                have hby : by' < w.heap.size := block_lt_of_cell cY0
                have cY := hKp.out.cell (cell_below cY0 (bt HB5.out HBr.out)) (bd_low hby GW.out HBd.out.1)
                have HUl := (show Hid (us < ny) from hlu)
                have HKl := (show Hid (k < l) from hlk)
                have WU := (show Hid (wrap64 ((us : Int) + 1) = ((us + 1 : Nat) : Int)) from w_succ hlu HNY.out)
                have WK := (show Hid (wrap64 ((k : Int) + 1) = ((k + 1 : Nat) : Int)) from w_succ hlk (Nat.le_trans (by rw [← HLl.out]; exact HLr.out.2 t) (by decide : 140737488355328 ≤ 9223372036854775807)))
                have HWn := (show Hid (Wb (wr.drew.setCell ⟨ρ t, k, none⟩ (.int .u8 (el (y us)))) L B0 ρ (fun c => if c = (L.take t).sum + k then y us else C2 c)) from (hW.out.below (bdr wr)).set HTt.out (by rw [HLl.out]; exact hlk) (y us))
                have HKn := (show Hid (Kp lw hi' w6 (wr.drew.setCell ⟨ρ t, k, none⟩ (.int .u8 (el (y us))))) from hKp.out.drew.set (HRo.out t HTt.out).1 (HRo.out t HTt.out).2 _ _)
                subst epy
                clear hW hKp hlk hlu hcy cY0 hk hus hby
                unfold clE at cY cR
                go_wp2_with (fail)
                go_region
                all_goals
                  go_wp2_with (fail)
                  go_roundw
                  case rel => first | exact ⟨us + 1, k + 1, _, HKl.out, HUl.out, by rw [WU.out], by rw [WK.out], HWn.out, HKn.out⟩ | ((repeat apply Exists.intro); exact ⟨⟨us + 1, k + 1, _, HKl.out, HUl.out, by rw [WU.out], by rw [WK.out], HWn.out, HKn.out⟩, rfl⟩)
                  case measure => first | (rw [WK.out]; exact meas10 HKl.out) | exact meas10 HKl.out
              · have j3 : ¬ (us : Int) < (ny : Int) := fun h => hlu (Int.ofNat_lt.1 h)
                go_wp2_with (fail)
                rw [WT.out]
                exact ⟨⟨us, t + 1, C2, HTt.out, hus, rfl, rfl, hW.out, hKp.out⟩, meas10 HTt.out⟩
            · have j2 : ¬ (k : Int) < (l : Int) := fun h => hlk (Int.ofNat_lt.1 h)
              go_wp2_with (fail)
              rw [WT.out]
              exact ⟨⟨us, t + 1, C2, HTt.out, hus, rfl, rfl, hW.out, hKp.out⟩, meas10 HTt.out⟩
        · have j1 : ¬ (t : Int) < (L.length : Int) := fun h => hlt (Int.ofNat_lt.1 h)
          obtain rfl : t = L.length := Nat.le_antisymm ht (Nat.le_of_not_lt hlt)
          have HKf := (show Hid (Kp lw hi' w6 wr) from hKp.out)
          have HWf := (show Hid (Wb wr L B0 ρ C) from hW.out)
          have O7 := (show Hid (Ov wr 44 g (flat (lsp (ftH x K M B key ep ct) NN vs (qo P T (1 - 1)) T)) (T * 17)) from by rw [show (1 - 1 : Nat) = 0 from rfl, qo_zero, lsp_nil]; exact lsp_zero [] cG)
          have H7 := (show Hid (HdAt wr w2.heap.size (ftH x K M B key ep ct)) from HdAt.kp HHr.out hKp.out (bd_low2 GL.out.1 HBd.out.1))
          have HC7 : Hid (∀ i, i < T → wr.cell? ⟨gO, i, none⟩ = some (.int .i64 (od P T i : Nat))) := fun i hi => hKp.out.cell (HCO.out i hi) (bd_out HBd.out HGO.out)
          have HGg := (show Hid (gO ≠ g ∧ w2.heap.size ≠ g) from ⟨Nat.ne_of_gt (Nat.lt_of_lt_of_le GL.out.2 (Nat.le_trans (Nat.le_of_lt SZ5.out) HGO.out)), Nat.ne_of_lt GL.out.1⟩)
          obtain ⟨w7, hw7⟩ : ∃ w7, w7 = wr := ⟨_, rfl⟩
          subst hw7
          clear cG hW hKp
          go_wp2_with (fail)
          clear cO cB j1
          go_loopw [16] (fun i wr => ∃ s : Nat, 1 ≤ s ∧ s ≤ M + 1 ∧ i = .int .i64 (s : Int) ∧ Hid (Ov wr 44 g (flat (lsp (ftH x K M B key ep ct) NN vs (qo P T (s - 1)) T)) (T * 17)) ∧ Hid (But g w7 wr)) (fun i _ => M + 1 - (intOf i).toNat)
          case atStart => exact ⟨1, Nat.le_refl _, Nat.succ_le_succ (Nat.zero_le _), rfl, O7.out, But.refl _ _⟩
          case round =>
            obtain ⟨s, hs1, hs2, rfl, hO, hbu⟩ := hrel
            have a9 := (show wr.cell? ⟨w2.heap.size, 9, none⟩ = some (.int .i64 (M : Int)) from (H7.out.but hbu.out HGg.out.2).cells.2.1)
            by_cases hlt : s ≤ M
            · have j5 : (s : Int) ≤ (M : Int) := Int.ofNat_le.2 hlt
              have hsT : s < T := Nat.lt_of_le_of_lt hlt HT.out.2.2
              have j6 : (s : Int) < (T : Int) := Int.ofNat_lt.2 hsT
              have cS := hbu.out.cell (HC7.out s hsT) HGg.out.1
              obtain ⟨os, hos⟩ : ∃ os, od P T s = os := ⟨_, rfl⟩
              have HOs := (show Hid (od P T s = os) from hos)
              have los : os < T := by rw [← hos]; exact od_lt hsT
              rw [hos] at cS
              have j7 : (os : Int) < (T : Int) := Int.ofNat_lt.2 los
              have HLos := (show Hid (os < T) from los)
              have HS1 := (show Hid (1 ≤ s ∧ s ≤ M) from ⟨hs1, hlt⟩)
              have WS := (show Hid (wrap64 ((s : Int) + 1) = ((s + 1 : Nat) : Int)) from w_succ hsT (Nat.le_trans HT.out.1 (by decide)))
              clear hos los hsT hlt hs1 hs2
              go_wp2_with (first
                | (refine wpList_stSd rfl _ _ rfl rfl g os T (shc hd0 (.slice none 0 0)) rfl sh0 (shc_size _ _) (shc_all _ _ rfl) 44 _ hO.out HLos.out ?_; intro w8 hO8 hBu8))
              go_roundw
              case rel =>
                rw [lsp_add _ _ _ _ _ _ HLos.out, ← HOs.out, ← qo_step P T s HS1.out.1] at hO8
                exact ⟨s + 1, Nat.succ_le_succ (Nat.zero_le _), Nat.succ_le_succ HS1.out.2, by first | rfl | rw [WS.out], hO8, hbu.out.trans hBu8⟩
              case measure => first | exact meas10 (Nat.lt_succ_of_le HS1.out.2) | (rw [WS.out]; exact meas10 (Nat.lt_succ_of_le HS1.out.2))
            · have j5 : ¬ (s : Int) ≤ (M : Int) := fun h => hlt (Int.ofNat_le.1 h)
              obtain rfl : s = M + 1 := Nat.le_antisymm hs2 (Nat.lt_of_not_le hlt)
              have eT := HTe.out
              obtain ⟨Q, hQ⟩ : ∃ Q, qo P T M = Q := ⟨_, rfl⟩
              have HQf := (show Hid (¬ o0 ∈ Q) from by show ¬ o0 ∈ Q; rw [← HO0.out, ← hQ]; exact qo_first HT.out.2.2)
              have HQl := (show Hid (Q.length ≤ M) from by show _ ≤ _; rw [← hQ, qo_len]; exact Nat.le_refl _)
              have HQT : (thr (lo Q 1) (K + M)).length = K := by rw [← hQ, ← eT]; exact qo_thr HF.out.k1 (by decide)
              have hOq : Ov wr 44 g (flat (lsp (ftH x K M B key ep ct) NN vs Q T)) (T * 17) := by rw [← hQ]; exact hO.out
              obtain ⟨D, hDD⟩ := Fac.open FA.out HF.out.km HQT (fun i c => if i = o0 then C c else mm fdE K F (dm K L (pad NN d)) i c)
              have HDD := (show Hid (∀ i, i < K + M → ¬ i ∈ Q → ∀ c, (if i = o0 then C c else mm fdE K F (dm K L (pad NN d)) i c) = mm fdE K F D i c) from fun i hi hq c => hDD i hi (lo_pos hq (by decide)) c)
              have g7 : w7.heap[g]? = some (.cells (rv (flat (lsp (ftH x K M B key ep ct) NN vs (qo P T (1 - 1)) T)) (T * 17)) 44 (0, 0)) := ov_heap O7.out
              have HNM := (show Hid (∀ i, i < K + M → i ∉ Q → NmT wr (vs i) L.length (fun j => L.getD j 0) (fun j x => mm fdE K F D i ((L.take j).sum + x))) from fun i hi hq => by
                have hfun := HDD.out i hi hq
                by_cases e : i = o0
                · subst e
                  rw [HV0.out]
                  have h1 := HWf.out.nmt.but hbu.out g7 (by decide) (by decide)
                  have e2 : (fun (j : Nat) (x : Nat) => C ((L.take j).sum + x)) = (fun j x => mm fdE K F D i ((L.take j).sum + x)) := by
                    funext j x
                    have := hfun ((L.take j).sum + x)
                    rw [if_pos rfl] at this
                    exact this
                  rw [← e2]; exact h1
                · have h0 := R5.out i (by rw [← eT]; exact hi)
                  have hd : bd (i + 1) ≤ lw ∨ hi' ≤ bd i := by
                    rw [← HLH.out.1, ← HLH.out.2]
                    rcases Nat.lt_or_ge i o0 with h9 | h9
                    · exact .inl (bd_up R5.out h9 (Nat.le_of_lt HLo0.out))
                    · exact .inr (bd_up R5.out (Nat.lt_of_le_of_ne h9 (Ne.symm e)) (by rw [← eT]; exact Nat.le_of_lt hi))
                  have h1 := ((h0.below HBr.out).kp HKf.out hd).nmt.but hbu.out g7 (by decide) (by decide)
                  have e2 : (fun (j : Nat) (x : Nat) => mm fdE K F (dm K L (pad NN d)) i ((L.take j).sum + x)) = (fun j x => mm fdE K F D i ((L.take j).sum + x)) := by
                    funext j x
                    have := hfun ((L.take j).sum + x)
                    rw [if_neg e] at this
                    exact this
                  rw [← e2]; exact h1)
              have HVF := (show Hid (∀ i, i < K + M → ∃ b, vs i = .slice (some ⟨b, 0, none⟩) L.length L.length) from fun i hi => (R5.out i (by rw [← eT]; exact hi)).form)
              obtain ⟨mh, ob⟩ := obs_of2 (ft_in HF.out) HF.out.y HF.out.n ((chk_ok _).2 (ft_ok HF.out)) NU.out.1 NU.out.2.1 NU.out.2.2 FA.out (by rw [eT]; exact hOq) HVF.out HNM.out HQl.out
              have JO := (show Hid _ from join_ok ob)
              rw [eT] at JO
              have HOq := (show Hid (Ov wr 44 g (flat (lsp (ftH x K M B key ep ct) NN vs Q T)) (T * 17)) from hOq)
              have HHq := (show Hid (HdAt wr w2.heap.size (ftH x K M B key ep ct)) from H7.out.but hbu.out HGg.out.2)
              have HBq := (show Hid (Below w.heap.size w wr) from ((HB5.out.trans (HBr.out.mono HB5.out.size)).trans (HKf.out.bl.mono (Nat.le_of_lt (Nat.lt_of_le_of_lt GW.out HBd.out.1)))).trans (hbu.out.bl.mono GW.out))
              have x5 : ((NN : Int) != (NN : Int)) = false := by simp
              have x6 : ((K : Int) + (M : Int) != (T : Int)) = false := by rw [← eT]; simp
              clear ob hOq g7 HQT hDD hO hbu hs1 hs2 hlt hQ H7 O7 HC7 HWf HKf HCO HC0 HW0 HOr HHr HYr HYh
              go_wp2_with (first
                | (go_at_call 8; refine JO.out.mono ?_; rintro e w8 ⟨qj, dj, rfl, hdj, hNj, hb8⟩; have H8 := (show HdAt w8 w2.heap.size (ftH x K M B key ep ct) from HHq.out.below hb8); have NJ := (show Hid (NrE w8 (.slice qj NN dj) NN (obm K L D)) from hNj); clear hNj)
                | (refine wpList_loadHd rfl _ rfl w2.heap.size rfl H8 ?_)
                | (go_at_call 6; refine (split_ok (ftH x K M B key ep ct) (ft_in HF.out) HF.out.y qj NN dj HF.out.n hdj (obm K L D) w8 NJ.out ((chk_ok _).2 (ft_ok HF.out)) K M B L NU.out.1 NU.out.2.1 NU.out.2.2).mono ?_; rintro e w9 ⟨g9, F9, vs9, rfl, hF9, hO9, hR9, hg9, hb9⟩))
              have HF9 := (show Hid (Fac K F9) from hF9)
              have HB9 := (show Hid (Below wr.heap.size wr w9) from bt hb8 hb9)
              have HO9 := (show Hid (Ov w9 44 g9 (flat (spc ((ftH x K M B key ep ct).of NN) (K + M) vs9)) ((K + M) * 17)) from hO9)
              have HR9 := (show Hid (∀ i, i < K + M → (∃ b, vs9 i = .slice (some ⟨b, 0, none⟩) L.length L.length) ∧ NmT w9 (vs9 i) L.length (fun j => L.getD j 0) (fun j x => mm fdE K F9 (dm K L (pad NN (obm K L D))) i ((L.take j).sum + x))) from hR9)
              have HOp := (show Hid (Ov w9 44 g (flat (lsp (ftH x K M B key ep ct) NN vs Q T)) (T * 17)) from HOq.out.below HB9.out)
              have HNp := (show Hid (∀ i, i < K + M → i ∉ Q → NmT w9 (vs i) L.length (fun j => L.getD j 0) (fun j x => mm fdE K F D i ((L.take j).sum + x))) from fun i hi hq => (HNM.out i hi hq).below HB9.out)
              have HBz := (show Hid (Below w.heap.size w w9) from bt HBq.out HB9.out)
              clear hF9 hO9 hR9 hb8 hb9 hg9 hdj x5 x6 JO HNM HOq NJ H8 HHq
              go_loopw [21] (fun i wr => ∃ t : Nat, t ≤ T ∧ i = .int .i64 (t : Int) ∧ Hid (Below w9.heap.size w9 wr)) (fun i _ => T - (intOf i).toNat)
              case atStart => exact ⟨0, Nat.zero_le _, rfl, Below.refl _ _⟩
              case round =>
                obtain ⟨t, ht, rfl, hB⟩ := hrel
                by_cases hlt : t < T
                · have j1 : (t : Int) < (T : Int) := Int.ofNat_lt.2 hlt
                  have HTt := (show Hid (t < T) from hlt)
                  have hKM : t < K + M := by rw [eT]; exact hlt
                  have j2 : (t : Int) < (K : Int) + (M : Int) := by rw [← Int.natCast_add]; exact Int.ofNat_lt.2 hKM
                  have WT := (show Hid (wrap64 ((t : Int) + 1) = ((t + 1 : Nat) : Int)) from w_succ hlt (Nat.le_trans HT.out.1 (by decide)))
                  have hbd : Below wr.heap.size wr wr.drew := bdr wr
                  by_cases hq : t ∈ Q
                  · have S1 := sd_of (HOp.out.below (bt hB.out hbd)) hlt (lsp_in hlt hq)
                    have RS := S1.runS
                    clear S1
                    clear hlt ht
                    go_wp2_with (fail)
                    refine wp_region_held_drew (S := fun X => (loadVar 29 ⟨g, t * 17 + 8, none⟩).run Try.prog X = .ok (.agg #[.int .i64 0, .int .i64 0, .int .i64 0]) X) (by kernel_rfl) RS (fun hHeld => ?_)
                    refine takeHr (i := 0) (d := some 190) (v := ?v1) rfl rfl (by kernel_rfl) (by kernel_rfl) (by kernel_rfl) (fun _ _ _ h => h) (Or.inl ⟨by rfl, ?hy1⟩) hHeld ?rest1
                    case hy1 => intro X hSw; go_simp <;> with_reducible rfl
                    try simp only [Act.put, List.setIfInBounds_toArray, List.set_cons_zero, List.set_cons_succ]
                    refine takeHr (i := 1) (d := some 191) (v := ?v2) rfl rfl (by kernel_rfl) (by kernel_rfl) (by kernel_rfl) (fun _ _ _ h => h) (Or.inl ⟨by rfl, ?hy2⟩) hHeld ?rest2
                    case hy2 => intro X hSw; go_simp <;> with_reducible rfl
                    try simp only [Act.put, List.setIfInBounds_toArray, List.set_cons_zero, List.set_cons_succ]
                    refine takeHr (i := 2) (d := some 192) (v := ?v3) rfl rfl (by kernel_rfl) (by kernel_rfl) (by kernel_rfl) (fun _ _ _ h => h) (Or.inl ⟨by rfl, ?hy3⟩) hHeld ?rest3
                    case hy3 => intro X hSw; go_simp <;> with_reducible rfl
                    try simp only [Act.put, List.setIfInBounds_toArray, List.set_cons_zero, List.set_cons_succ]
                    refine takeHr (i := 3) (d := some 193) (v := ?v4) rfl rfl (by kernel_rfl) (by kernel_rfl) (by kernel_rfl) (fun _ _ _ h => h) (Or.inl ⟨by rfl, ?hy4⟩) hHeld ?rest4
                    case hy4 => intro X hSw; go_simp <;> with_reducible rfl
                    try simp only [Act.put, List.setIfInBounds_toArray, List.set_cons_zero, List.set_cons_succ]
                    refine takeHr (i := 4) (d := some 194) (v := ?v5) rfl rfl (by kernel_rfl) (by kernel_rfl) (by kernel_rfl) (fun _ _ _ h => h) (Or.inl ⟨by rfl, ?hy5⟩) hHeld ?rest5
                    case hy5 => intro X hSw; go_simp <;> with_reducible rfl
                    try simp only [Act.put, List.setIfInBounds_toArray, List.set_cons_zero, List.set_cons_succ]
                    refine takeHr (i := 5) (d := some 195) (v := .agg #[.int .i64 0, .int .i64 0, .int .i64 0]) rfl rfl (by kernel_rfl) (by kernel_rfl) (by kernel_rfl) (fun _ _ _ h => h) (Or.inl ⟨by rfl, ?hy6⟩) hHeld ?rest6
                    case hy6 => intro X hSw; exact ex_ldR rfl rfl hSw
                    try simp only [Act.put, List.setIfInBounds_toArray, List.set_cons_zero, List.set_cons_succ]
                    refine takeHr (i := 6) (d := some 196) (v := ?v7) rfl rfl (by kernel_rfl) (by kernel_rfl) (by kernel_rfl) (fun _ _ _ h => h) (Or.inl ⟨by rfl, ?hy7⟩) hHeld ?rest7
                    case hy7 => intro X hSw; go_simp <;> with_reducible rfl
                    try simp only [Act.put, List.setIfInBounds_toArray, List.set_cons_zero, List.set_cons_succ]
                    refine takeHr (i := 7) (d := some 197) (v := .bool false) rfl rfl (by kernel_rfl) (by kernel_rfl) (by kernel_rfl) (fun _ _ _ h => h) (Or.inl ⟨by rfl, ?hy8⟩) hHeld ?rest8
                    case hy8 => intro X hSw; exact ex_bin rfl rfl rfl (by kernel_rfl) (neq_shape 0 0 0 _)
                    try simp only [Act.put, List.setIfInBounds_toArray, List.set_cons_zero, List.set_cons_succ]
                    refine takeHr (i := 8) (d := some 198) (v := ?v9) rfl rfl (by kernel_rfl) (by kernel_rfl) (by kernel_rfl) (fun _ _ _ h => h) (Or.inl ⟨by rfl, ?hy9⟩) hHeld ?rest9
                    case hy9 => intro X hSw; go_simp <;> with_reducible rfl
                    try simp only [Act.put, List.setIfInBounds_toArray, List.set_cons_zero, List.set_cons_succ]
                    refine takeHr (i := 9) (d := some 199) (v := undef) rfl rfl (by kernel_rfl) (by kernel_rfl) (by kernel_rfl) (fun _ _ _ h => h) (Or.inr ⟨by rfl, rfl⟩) hHeld ?_
                    try simp only [Act.put, List.setIfInBounds_toArray, List.set_cons_zero, List.set_cons_succ]
                    refine takeHr (i := 10) (d := some 200) (v := undef) rfl rfl (by kernel_rfl) (by kernel_rfl) (by kernel_rfl) (fun _ _ _ h => h) (Or.inr ⟨by rfl, rfl⟩) hHeld ?_
                    try simp only [Act.put, List.setIfInBounds_toArray, List.set_cons_zero, List.set_cons_succ]
                    refine takeHr (i := 11) (d := some 201) (v := undef) rfl rfl (by kernel_rfl) (by kernel_rfl) (by kernel_rfl) (fun _ _ _ h => h) (Or.inr ⟨by rfl, rfl⟩) hHeld ?_
                    try simp only [Act.put, List.setIfInBounds_toArray, List.set_cons_zero, List.set_cons_succ]
                    refine takeHr (i := 12) (d := some 202) (v := undef) rfl rfl (by kernel_rfl) (by kernel_rfl) (by kernel_rfl) (fun _ _ _ h => h) (Or.inr ⟨by rfl, rfl⟩) hHeld ?_
                    try simp only [Act.put, List.setIfInBounds_toArray, List.set_cons_zero, List.set_cons_succ]
                    refine takeHr (i := 13) (d := some 203) (v := undef) rfl rfl (by kernel_rfl) (by kernel_rfl) (by kernel_rfl) (fun _ _ _ h => h) (Or.inr ⟨by rfl, rfl⟩) hHeld ?_
                    try simp only [Act.put, List.setIfInBounds_toArray, List.set_cons_zero, List.set_cons_succ]
                    refine takeHr (i := 14) (d := some 204) (v := undef) rfl rfl (by kernel_rfl) (by kernel_rfl) (by kernel_rfl) (fun _ _ _ h => h) (Or.inr ⟨by rfl, rfl⟩) hHeld ?_
                    try simp only [Act.put, List.setIfInBounds_toArray, List.set_cons_zero, List.set_cons_succ]
                    refine takeHr (i := 15) (d := some 205) (v := undef) rfl rfl (by kernel_rfl) (by kernel_rfl) (by kernel_rfl) (fun _ _ _ h => h) (Or.inr ⟨by rfl, rfl⟩) hHeld ?_
                    try simp only [Act.put, List.setIfInBounds_toArray, List.set_cons_zero, List.set_cons_succ]
                    refine takeHr (i := 16) (d := some 206) (v := undef) rfl rfl (by kernel_rfl) (by kernel_rfl) (by kernel_rfl) (fun _ _ _ h => h) (Or.inr ⟨by rfl, rfl⟩) hHeld ?_
                    try simp only [Act.put, List.setIfInBounds_toArray, List.set_cons_zero, List.set_cons_succ]
                    refine takeHr (i := 17) (d := some 207) (v := undef) rfl rfl (by kernel_rfl) (by kernel_rfl) (by kernel_rfl) (fun _ _ _ h => h) (Or.inr ⟨by rfl, rfl⟩) hHeld ?_
                    try simp only [Act.put, List.setIfInBounds_toArray, List.set_cons_zero, List.set_cons_succ]
                    refine takeHr (i := 18) (d := some 208) (v := undef) rfl rfl (by kernel_rfl) (by kernel_rfl) (by kernel_rfl) (fun _ _ _ h => h) (Or.inr ⟨by rfl, rfl⟩) hHeld ?_
                    try simp only [Act.put, List.setIfInBounds_toArray, List.set_cons_zero, List.set_cons_succ]
                    refine takeHr (i := 19) (d := some 209) (v := undef) rfl rfl (by kernel_rfl) (by kernel_rfl) (by kernel_rfl) (fun _ _ _ h => h) (Or.inr ⟨by rfl, rfl⟩) hHeld ?_
                    try simp only [Act.put, List.setIfInBounds_toArray, List.set_cons_zero, List.set_cons_succ]
                    refine takeHr (i := 20) (d := some 210) (v := undef) rfl rfl (by kernel_rfl) (by kernel_rfl) (by kernel_rfl) (fun _ _ _ h => h) (Or.inr ⟨by rfl, rfl⟩) hHeld ?_
                    try simp only [Act.put, List.setIfInBounds_toArray, List.set_cons_zero, List.set_cons_succ]
                    refine takeHr (i := 21) (d := some 211) (v := undef) rfl rfl (by kernel_rfl) (by kernel_rfl) (by kernel_rfl) (fun _ _ _ h => h) (Or.inr ⟨by rfl, rfl⟩) hHeld ?_
                    try simp only [Act.put, List.setIfInBounds_toArray, List.set_cons_zero, List.set_cons_succ]
                    refine takeHr (i := 22) (d := some 212) (v := undef) rfl rfl (by kernel_rfl) (by kernel_rfl) (by kernel_rfl) (fun _ _ _ h => h) (Or.inr ⟨by rfl, rfl⟩) hHeld ?_
                    try simp only [Act.put, List.setIfInBounds_toArray, List.set_cons_zero, List.set_cons_succ]
                    refine takeHr (i := 23) (d := some 213) (v := undef) rfl rfl (by kernel_rfl) (by kernel_rfl) (by kernel_rfl) (fun _ _ _ h => h) (Or.inr ⟨by rfl, rfl⟩) hHeld ?_
                    try simp only [Act.put, List.setIfInBounds_toArray, List.set_cons_zero, List.set_cons_succ]
                    refine takeHr (i := 24) (d := some 214) (v := undef) rfl rfl (by kernel_rfl) (by kernel_rfl) (by kernel_rfl) (fun _ _ _ h => h) (Or.inr ⟨by rfl, rfl⟩) hHeld ?_
                    try simp only [Act.put, List.setIfInBounds_toArray, List.set_cons_zero, List.set_cons_succ]
                    refine takeHr (i := 25) (d := some 215) (v := undef) rfl rfl (by kernel_rfl) (by kernel_rfl) (by kernel_rfl) (fun _ _ _ h => h) (Or.inr ⟨by rfl, rfl⟩) hHeld ?_
                    try simp only [Act.put, List.setIfInBounds_toArray, List.set_cons_zero, List.set_cons_succ]
                    refine takeHr (i := 26) (d := some 216) (v := undef) rfl rfl (by kernel_rfl) (by kernel_rfl) (by kernel_rfl) (fun _ _ _ h => h) (Or.inr ⟨by rfl, rfl⟩) hHeld ?_
                    try simp only [Act.put, List.setIfInBounds_toArray, List.set_cons_zero, List.set_cons_succ]
                    refine takeHr (i := 27) (d := some 217) (v := undef) rfl rfl (by kernel_rfl) (by kernel_rfl) (by kernel_rfl) (fun _ _ _ h => h) (Or.inr ⟨by rfl, rfl⟩) hHeld ?_
                    try simp only [Act.put, List.setIfInBounds_toArray, List.set_cons_zero, List.set_cons_succ]
                    refine takeHr (i := 28) (d := some 218) (v := undef) rfl rfl (by kernel_rfl) (by kernel_rfl) (by kernel_rfl) (fun _ _ _ h => h) (Or.inr ⟨by rfl, rfl⟩) hHeld ?_
                    try simp only [Act.put, List.setIfInBounds_toArray, List.set_cons_zero, List.set_cons_succ]
                    refine takeHr (i := 29) (d := some 219) (v := undef) rfl rfl (by kernel_rfl) (by kernel_rfl) (by kernel_rfl) (fun _ _ _ h => h) (Or.inr ⟨by rfl, rfl⟩) hHeld ?_
                    try simp only [Act.put, List.setIfInBounds_toArray, List.set_cons_zero, List.set_cons_succ]
                    refine takeHr (i := 30) (d := some 220) (v := undef) rfl rfl (by kernel_rfl) (by kernel_rfl) (by kernel_rfl) (fun _ _ _ h => h) (Or.inr ⟨by rfl, rfl⟩) hHeld ?_
                    try simp only [Act.put, List.setIfInBounds_toArray, List.set_cons_zero, List.set_cons_succ]
                    refine takeHr (i := 31) (d := some 221) (v := undef) rfl rfl (by kernel_rfl) (by kernel_rfl) (by kernel_rfl) (fun _ _ _ h => h) (Or.inr ⟨by rfl, rfl⟩) hHeld ?_
                    try simp only [Act.put, List.setIfInBounds_toArray, List.set_cons_zero, List.set_cons_succ]
                    refine takeHr (i := 32) (d := some 222) (v := undef) rfl rfl (by kernel_rfl) (by kernel_rfl) (by kernel_rfl) (fun _ _ _ h => h) (Or.inr ⟨by rfl, rfl⟩) hHeld ?_
                    try simp only [Act.put, List.setIfInBounds_toArray, List.set_cons_zero, List.set_cons_succ]
                    refine takeHr (i := 33) (d := some 223) (v := undef) rfl rfl (by kernel_rfl) (by kernel_rfl) (by kernel_rfl) (fun _ _ _ h => h) (Or.inr ⟨by rfl, rfl⟩) hHeld ?_
                    try simp only [Act.put, List.setIfInBounds_toArray, List.set_cons_zero, List.set_cons_succ]
                    refine takeHr (i := 34) (d := some 224) (v := ?v35) rfl rfl (by kernel_rfl) (by kernel_rfl) (by kernel_rfl) (fun _ _ _ h => h) (Or.inl ⟨by rfl, ?hy35⟩) hHeld ?rest35
                    case hy35 => intro X hSw; go_simp <;> with_reducible rfl
                    try simp only [Act.put, List.setIfInBounds_toArray, List.set_cons_zero, List.set_cons_succ]
                    refine wpAnyH_done (by kernel_rfl) ?_ _
                    clear hHeld RS
                    go_wp2_with (fail)
                    go_roundw
                    case rel => exact ⟨t + 1, HTt.out, by first | rfl | rw [WT.out], hB.out.drew⟩
                    case measure => first | exact meas10 HTt.out | (rw [WT.out]; exact meas10 HTt.out)
                  · have S1 := sd_of (HOp.out.below (bt hB.out hbd)) hlt (lsp_out hq)
                    have S2 := sd_of (HO9.out.below (bt hB.out hbd)) hKM (spc_at hKM)
                    obtain ⟨b1, e1⟩ := HVF.out t hKM
                    obtain ⟨⟨b2, e2⟩, hN2⟩ := HR9.out t hKM
                    have hN1 := HNp.out t hKM hq
                    rw [e1] at S1 hN1
                    rw [e2] at S2 hN2
                    have SA := (show Hid (∀ X, Below wr.drew.heap.size wr.drew X → _) from fun X hX => same10 (some ⟨b1, 0, none⟩) (some ⟨b2, 0, none⟩) L.length L.length L.length (fun j => L.getD j 0) _ _ X (Nat.le_trans HLr.out.1 (by decide)) ((hN1.below (bt (bt hB.out hbd) hX)).nm) ((hN2.below (bt (bt hB.out hbd) hX)).nm) (fun j hj x hx => by
                      rw [Fac.word_one FA.out HF9.out]
                      exact (nu_obj NU.out.1 HR4.out F9 D t hj hx).symm))
                    have SD1 := (show Hid (Sd wr.drew g (t * 17) ({ (ftH x K M B key ep ct).of NN with ix := (t : Int) } : Hd) (.slice (some ⟨b1, 0, none⟩) L.length L.length)) from S1)
                    have SD2 := (show Hid (Sd wr.drew g9 (t * 17) ({ (ftH x K M B key ep ct).of NN with ix := (t : Int) } : Hd) (.slice (some ⟨b2, 0, none⟩) L.length L.length)) from S2)
                    clear S1 S2 hN1 hN2 hlt ht
                    go_wp2_with (fail)
                    refine wp_region_held_drew (S := fun X => (loadVar 29 ⟨g, t * 17 + 8, none⟩).run Try.prog X = .ok (.agg #[.int .i64 (K : Int), .int .i64 (M : Int), .int .i64 (B : Int)]) X ∧ (loadVar 33 ⟨g, t * 17, none⟩).run Try.prog X = .ok (.agg ({ (ftH x K M B key ep ct).of NN with ix := (t : Int) } : Hd).cs) X ∧ (loadVar 33 ⟨g9, t * 17, none⟩).run Try.prog X = .ok (.agg ({ (ftH x K M B key ep ct).of NN with ix := (t : Int) } : Hd).cs) X ∧ X.cell? ⟨g, t * 17 + 16, none⟩ = some (.slice (some ⟨b1, 0, none⟩) L.length L.length) ∧ X.cell? ⟨g9, t * 17 + 16, none⟩ = some (.slice (some ⟨b2, 0, none⟩) L.length L.length)) (by kernel_rfl) ⟨SD1.out.runS, SD1.out.runH, SD2.out.runH, SD1.out.last, SD2.out.last⟩ (fun hHeld => ?_)
                    refine takeHr (i := 0) (d := some 190) (v := ?v36) rfl rfl (by kernel_rfl) (by kernel_rfl) (by kernel_rfl) (fun _ _ _ h => h) (Or.inl ⟨by rfl, ?hy36⟩) hHeld ?rest36
                    case hy36 => intro X hSw; obtain ⟨g1, g2, g3, g4, g5⟩ := hSw; go_simp <;> with_reducible rfl
                    try simp only [Act.put, List.setIfInBounds_toArray, List.set_cons_zero, List.set_cons_succ]
                    refine takeHr (i := 1) (d := some 191) (v := ?v37) rfl rfl (by kernel_rfl) (by kernel_rfl) (by kernel_rfl) (fun _ _ _ h => h) (Or.inl ⟨by rfl, ?hy37⟩) hHeld ?rest37
                    case hy37 => intro X hSw; obtain ⟨g1, g2, g3, g4, g5⟩ := hSw; go_simp <;> with_reducible rfl
                    try simp only [Act.put, List.setIfInBounds_toArray, List.set_cons_zero, List.set_cons_succ]
                    refine takeHr (i := 2) (d := some 192) (v := ?v38) rfl rfl (by kernel_rfl) (by kernel_rfl) (by kernel_rfl) (fun _ _ _ h => h) (Or.inl ⟨by rfl, ?hy38⟩) hHeld ?rest38
                    case hy38 => intro X hSw; obtain ⟨g1, g2, g3, g4, g5⟩ := hSw; go_simp <;> with_reducible rfl
                    try simp only [Act.put, List.setIfInBounds_toArray, List.set_cons_zero, List.set_cons_succ]
                    refine takeHr (i := 3) (d := some 193) (v := ?v39) rfl rfl (by kernel_rfl) (by kernel_rfl) (by kernel_rfl) (fun _ _ _ h => h) (Or.inl ⟨by rfl, ?hy39⟩) hHeld ?rest39
                    case hy39 => intro X hSw; obtain ⟨g1, g2, g3, g4, g5⟩ := hSw; go_simp <;> with_reducible rfl
                    try simp only [Act.put, List.setIfInBounds_toArray, List.set_cons_zero, List.set_cons_succ]
                    refine takeHr (i := 4) (d := some 194) (v := ?v40) rfl rfl (by kernel_rfl) (by kernel_rfl) (by kernel_rfl) (fun _ _ _ h => h) (Or.inl ⟨by rfl, ?hy40⟩) hHeld ?rest40
                    case hy40 => intro X hSw; obtain ⟨g1, g2, g3, g4, g5⟩ := hSw; go_simp <;> with_reducible rfl
                    try simp only [Act.put, List.setIfInBounds_toArray, List.set_cons_zero, List.set_cons_succ]
                    refine takeHr (i := 5) (d := some 195) (v := .agg #[.int .i64 (K : Int), .int .i64 (M : Int), .int .i64 (B : Int)]) rfl rfl (by kernel_rfl) (by kernel_rfl) (by kernel_rfl) (fun _ _ _ h => h) (Or.inl ⟨by rfl, ?hy41⟩) hHeld ?rest41
                    case hy41 => intro X hSw; exact ex_ldR rfl rfl hSw.1
                    try simp only [Act.put, List.setIfInBounds_toArray, List.set_cons_zero, List.set_cons_succ]
                    refine takeHr (i := 6) (d := some 196) (v := ?v42) rfl rfl (by kernel_rfl) (by kernel_rfl) (by kernel_rfl) (fun _ _ _ h => h) (Or.inl ⟨by rfl, ?hy42⟩) hHeld ?rest42
                    case hy42 => intro X hSw; obtain ⟨g1, g2, g3, g4, g5⟩ := hSw; go_simp <;> with_reducible rfl
                    try simp only [Act.put, List.setIfInBounds_toArray, List.set_cons_zero, List.set_cons_succ]
                    refine takeHr (i := 7) (d := some 197) (v := .bool true) rfl rfl (by kernel_rfl) (by kernel_rfl) (by kernel_rfl) (fun _ _ _ h => h) (Or.inl ⟨by rfl, ?hy43⟩) hHeld ?rest43
                    case hy43 => intro X hSw; exact ex_bin rfl rfl rfl (by kernel_rfl) (neq_shp0 HF.out.k1 _ _ _)
                    try simp only [Act.put, List.setIfInBounds_toArray, List.set_cons_zero, List.set_cons_succ]
                    refine takeHr (i := 8) (d := some 198) (v := ?v44) rfl rfl (by kernel_rfl) (by kernel_rfl) (by kernel_rfl) (fun _ _ _ h => h) (Or.inl ⟨by rfl, ?hy44⟩) hHeld ?rest44
                    case hy44 => intro X hSw; obtain ⟨g1, g2, g3, g4, g5⟩ := hSw; go_simp <;> with_reducible rfl
                    try simp only [Act.put, List.setIfInBounds_toArray, List.set_cons_zero, List.set_cons_succ]
                    refine takeHr (i := 9) (d := some 199) (v := ?v45) rfl rfl (by kernel_rfl) (by kernel_rfl) (by kernel_rfl) (fun _ _ _ h => h) (Or.inl ⟨by rfl, ?hy45⟩) hHeld ?rest45
                    case hy45 => intro X hSw; obtain ⟨g1, g2, g3, g4, g5⟩ := hSw; go_simp <;> with_reducible rfl
                    try simp only [Act.put, List.setIfInBounds_toArray, List.set_cons_zero, List.set_cons_succ]
                    refine takeHr (i := 10) (d := some 200) (v := ?v46) rfl rfl (by kernel_rfl) (by kernel_rfl) (by kernel_rfl) (fun _ _ _ h => h) (Or.inl ⟨by rfl, ?hy46⟩) hHeld ?rest46
                    case hy46 => intro X hSw; obtain ⟨g1, g2, g3, g4, g5⟩ := hSw; go_simp <;> with_reducible rfl
                    try simp only [Act.put, List.setIfInBounds_toArray, List.set_cons_zero, List.set_cons_succ]
                    refine takeHr (i := 11) (d := some 201) (v := ?v47) rfl rfl (by kernel_rfl) (by kernel_rfl) (by kernel_rfl) (fun _ _ _ h => h) (Or.inl ⟨by rfl, ?hy47⟩) hHeld ?rest47
                    case hy47 => intro X hSw; obtain ⟨g1, g2, g3, g4, g5⟩ := hSw; go_simp <;> with_reducible rfl
                    try simp only [Act.put, List.setIfInBounds_toArray, List.set_cons_zero, List.set_cons_succ]
                    refine takeHr (i := 12) (d := some 202) (v := ?v48) rfl rfl (by kernel_rfl) (by kernel_rfl) (by kernel_rfl) (fun _ _ _ h => h) (Or.inl ⟨by rfl, ?hy48⟩) hHeld ?rest48
                    case hy48 => intro X hSw; obtain ⟨g1, g2, g3, g4, g5⟩ := hSw; go_simp <;> with_reducible rfl
                    try simp only [Act.put, List.setIfInBounds_toArray, List.set_cons_zero, List.set_cons_succ]
                    refine takeHr (i := 13) (d := some 203) (v := .agg ({ (ftH x K M B key ep ct).of NN with ix := (t : Int) } : Hd).cs) rfl rfl (by kernel_rfl) (by kernel_rfl) (by kernel_rfl) (fun _ _ _ h => h) (Or.inl ⟨by rfl, ?hy49⟩) hHeld ?rest49
                    case hy49 => intro X hSw; exact ex_ldR rfl rfl hSw.2.1
                    try simp only [Act.put, List.setIfInBounds_toArray, List.set_cons_zero, List.set_cons_succ]
                    refine takeHr (i := 14) (d := some 204) (v := ?v50) rfl rfl (by kernel_rfl) (by kernel_rfl) (by kernel_rfl) (fun _ _ _ h => h) (Or.inl ⟨by rfl, ?hy50⟩) hHeld ?rest50
                    case hy50 => intro X hSw; obtain ⟨g1, g2, g3, g4, g5⟩ := hSw; go_simp <;> with_reducible rfl
                    try simp only [Act.put, List.setIfInBounds_toArray, List.set_cons_zero, List.set_cons_succ]
                    refine takeHr (i := 15) (d := some 205) (v := ?v51) rfl rfl (by kernel_rfl) (by kernel_rfl) (by kernel_rfl) (fun _ _ _ h => h) (Or.inl ⟨by rfl, ?hy51⟩) hHeld ?rest51
                    case hy51 => intro X hSw; obtain ⟨g1, g2, g3, g4, g5⟩ := hSw; go_simp <;> with_reducible rfl
                    try simp only [Act.put, List.setIfInBounds_toArray, List.set_cons_zero, List.set_cons_succ]
                    refine takeHr (i := 16) (d := some 206) (v := ?v52) rfl rfl (by kernel_rfl) (by kernel_rfl) (by kernel_rfl) (fun _ _ _ h => h) (Or.inl ⟨by rfl, ?hy52⟩) hHeld ?rest52
                    case hy52 => intro X hSw; obtain ⟨g1, g2, g3, g4, g5⟩ := hSw; go_simp <;> with_reducible rfl
                    try simp only [Act.put, List.setIfInBounds_toArray, List.set_cons_zero, List.set_cons_succ]
                    refine takeHr (i := 17) (d := some 207) (v := ?v53) rfl rfl (by kernel_rfl) (by kernel_rfl) (by kernel_rfl) (fun _ _ _ h => h) (Or.inl ⟨by rfl, ?hy53⟩) hHeld ?rest53
                    case hy53 => intro X hSw; obtain ⟨g1, g2, g3, g4, g5⟩ := hSw; go_simp <;> with_reducible rfl
                    try simp only [Act.put, List.setIfInBounds_toArray, List.set_cons_zero, List.set_cons_succ]
                    refine takeHr (i := 18) (d := some 208) (v := .agg ({ (ftH x K M B key ep ct).of NN with ix := (t : Int) } : Hd).cs) rfl rfl (by kernel_rfl) (by kernel_rfl) (by kernel_rfl) (fun _ _ _ h => h) (Or.inl ⟨by rfl, ?hy54⟩) hHeld ?rest54
                    case hy54 => intro X hSw; exact ex_ldR rfl rfl hSw.2.2.1
                    try simp only [Act.put, List.setIfInBounds_toArray, List.set_cons_zero, List.set_cons_succ]
                    refine takeHr (i := 19) (d := some 209) (v := .bool false) rfl rfl (by kernel_rfl) (by kernel_rfl) (by kernel_rfl) (fun _ _ _ h => h) (Or.inl ⟨by rfl, ?hy55⟩) hHeld ?rest55
                    case hy55 => intro X hSw; exact ex_bin rfl rfl rfl (by kernel_rfl) (neq_head_self _ _)
                    try simp only [Act.put, List.setIfInBounds_toArray, List.set_cons_zero, List.set_cons_succ]
                    refine takeHr (i := 20) (d := some 210) (v := ?v56) rfl rfl (by kernel_rfl) (by kernel_rfl) (by kernel_rfl) (fun _ _ _ h => h) (Or.inl ⟨by rfl, ?hy56⟩) hHeld ?rest56
                    case hy56 => intro X hSw; obtain ⟨g1, g2, g3, g4, g5⟩ := hSw; go_simp <;> with_reducible rfl
                    try simp only [Act.put, List.setIfInBounds_toArray, List.set_cons_zero, List.set_cons_succ]
                    refine takeHr (i := 21) (d := some 211) (v := ?v57) rfl rfl (by kernel_rfl) (by kernel_rfl) (by kernel_rfl) (fun _ _ _ h => h) (Or.inl ⟨by rfl, ?hy57⟩) hHeld ?rest57
                    case hy57 => intro X hSw; obtain ⟨g1, g2, g3, g4, g5⟩ := hSw; go_simp <;> with_reducible rfl
                    try simp only [Act.put, List.setIfInBounds_toArray, List.set_cons_zero, List.set_cons_succ]
                    refine takeHr (i := 22) (d := some 212) (v := ?v58) rfl rfl (by kernel_rfl) (by kernel_rfl) (by kernel_rfl) (fun _ _ _ h => h) (Or.inl ⟨by rfl, ?hy58⟩) hHeld ?rest58
                    case hy58 => intro X hSw; obtain ⟨g1, g2, g3, g4, g5⟩ := hSw; go_simp <;> with_reducible rfl
                    try simp only [Act.put, List.setIfInBounds_toArray, List.set_cons_zero, List.set_cons_succ]
                    refine takeHr (i := 23) (d := some 213) (v := ?v59) rfl rfl (by kernel_rfl) (by kernel_rfl) (by kernel_rfl) (fun _ _ _ h => h) (Or.inl ⟨by rfl, ?hy59⟩) hHeld ?rest59
                    case hy59 => intro X hSw; obtain ⟨g1, g2, g3, g4, g5⟩ := hSw; go_simp <;> with_reducible rfl
                    try simp only [Act.put, List.setIfInBounds_toArray, List.set_cons_zero, List.set_cons_succ]
                    refine takeHr (i := 24) (d := some 214) (v := ?v60) rfl rfl (by kernel_rfl) (by kernel_rfl) (by kernel_rfl) (fun _ _ _ h => h) (Or.inl ⟨by rfl, ?hy60⟩) hHeld ?rest60
                    case hy60 => intro X hSw; obtain ⟨g1, g2, g3, g4, g5⟩ := hSw; go_simp <;> with_reducible rfl
                    try simp only [Act.put, List.setIfInBounds_toArray, List.set_cons_zero, List.set_cons_succ]
                    refine takeHr (i := 25) (d := some 215) (v := ?v61) rfl rfl (by kernel_rfl) (by kernel_rfl) (by kernel_rfl) (fun _ _ _ h => h) (Or.inl ⟨by rfl, ?hy61⟩) hHeld ?rest61
                    case hy61 => intro X hSw; obtain ⟨g1, g2, g3, g4, g5⟩ := hSw; go_simp <;> with_reducible rfl
                    try simp only [Act.put, List.setIfInBounds_toArray, List.set_cons_zero, List.set_cons_succ]
                    refine takeHr (i := 26) (d := some 216) (v := ?v62) rfl rfl (by kernel_rfl) (by kernel_rfl) (by kernel_rfl) (fun _ _ _ h => h) (Or.inl ⟨by rfl, ?hy62⟩) hHeld ?rest62
                    case hy62 => intro X hSw; obtain ⟨g1, g2, g3, g4, g5⟩ := hSw; go_simp <;> with_reducible rfl
                    try simp only [Act.put, List.setIfInBounds_toArray, List.set_cons_zero, List.set_cons_succ]
                    refine takeHr (i := 27) (d := some 217) (v := ?v63) rfl rfl (by kernel_rfl) (by kernel_rfl) (by kernel_rfl) (fun _ _ _ h => h) (Or.inl ⟨by rfl, ?hy63⟩) hHeld ?rest63
                    case hy63 => intro X hSw; obtain ⟨g1, g2, g3, g4, g5⟩ := hSw; go_simp <;> with_reducible rfl
                    try simp only [Act.put, List.setIfInBounds_toArray, List.set_cons_zero, List.set_cons_succ]
                    refine takeHr (i := 28) (d := some 218) (v := ?v64) rfl rfl (by kernel_rfl) (by kernel_rfl) (by kernel_rfl) (fun _ _ _ h => h) (Or.inl ⟨by rfl, ?hy64⟩) hHeld ?rest64
                    case hy64 => intro X hSw; obtain ⟨g1, g2, g3, g4, g5⟩ := hSw; go_simp <;> with_reducible rfl
                    try simp only [Act.put, List.setIfInBounds_toArray, List.set_cons_zero, List.set_cons_succ]
                    refine takeHr (i := 29) (d := some 219) (v := ?v65) rfl rfl (by kernel_rfl) (by kernel_rfl) (by kernel_rfl) (fun _ _ _ h => h) (Or.inl ⟨by rfl, ?hy65⟩) hHeld ?rest65
                    case hy65 => intro X hSw; obtain ⟨g1, g2, g3, g4, g5⟩ := hSw; go_simp <;> with_reducible rfl
                    try simp only [Act.put, List.setIfInBounds_toArray, List.set_cons_zero, List.set_cons_succ]
                    refine takeHr (i := 30) (d := some 220) (v := ?v66) rfl rfl (by kernel_rfl) (by kernel_rfl) (by kernel_rfl) (fun _ _ _ h => h) (Or.inl ⟨by rfl, ?hy66⟩) hHeld ?rest66
                    case hy66 => intro X hSw; obtain ⟨g1, g2, g3, g4, g5⟩ := hSw; go_simp <;> with_reducible rfl
                    try simp only [Act.put, List.setIfInBounds_toArray, List.set_cons_zero, List.set_cons_succ]
                    refine wpAnyH_ready (rs := [31]) (by kernel_rfl) (by simp) ?_
                    refine AllReadyH.cons (o := { dst := some 221, op := Op.call { callee := Callee.value (Operand.func 9), args := #[Operand.tmp 215, Operand.tmp 220], argTypes := #[42, 42] }, type := 4, pos := "outright.go:237", after := #[{ on := 25, ground := Ground.data }, { on := 30, ground := Ground.data }, { on := 20, ground := Ground.chain }, { on := 20, ground := Ground.guard }], guard := some (20, false) }) rfl (fun Kq hKq => ?_) AllReadyH.nil
                    · go_simp
                      refine (SA.out wr.drew (Below.refl _ _)).mono ?_
                      rintro e y67 ⟨rfl, hb67⟩
                      have HBy := (show Hid (Below wr.drew.heap.size wr.drew y67) from hb67)
                      refine hKq.out _ _ ⟨(SD1.out.below HBy.out).runS, (SD1.out.below HBy.out).runH, (SD2.out.below HBy.out).runH, (SD1.out.below HBy.out).last, (SD2.out.below HBy.out).last⟩ (fun hHeld => ?_)
                      clear hKq Kq
                      try simp only [Act.put, List.setIfInBounds_toArray, List.set_cons_zero, List.set_cons_succ]
                      refine takeHr (i := 32) (d := some 222) (v := ?v68) rfl rfl (by kernel_rfl) (by kernel_rfl) (by kernel_rfl) (fun _ _ _ h => h) (Or.inl ⟨by rfl, ?hy68⟩) hHeld ?rest68
                      case hy68 => intro X hSw; obtain ⟨g1, g2, g3, g4, g5⟩ := hSw; go_simp <;> with_reducible rfl
                      try simp only [Act.put, List.setIfInBounds_toArray, List.set_cons_zero, List.set_cons_succ]
                      refine takeHr (i := 33) (d := some 223) (v := ?v69) rfl rfl (by kernel_rfl) (by kernel_rfl) (by kernel_rfl) (fun _ _ _ h => h) (Or.inl ⟨by rfl, ?hy69⟩) hHeld ?rest69
                      case hy69 => intro X hSw; obtain ⟨g1, g2, g3, g4, g5⟩ := hSw; go_simp <;> with_reducible rfl
                      try simp only [Act.put, List.setIfInBounds_toArray, List.set_cons_zero, List.set_cons_succ]
                      refine takeHr (i := 34) (d := some 224) (v := ?v70) rfl rfl (by kernel_rfl) (by kernel_rfl) (by kernel_rfl) (fun _ _ _ h => h) (Or.inl ⟨by rfl, ?hy70⟩) hHeld ?rest70
                      case hy70 => intro X hSw; obtain ⟨g1, g2, g3, g4, g5⟩ := hSw; go_simp <;> with_reducible rfl
                      try simp only [Act.put, List.setIfInBounds_toArray, List.set_cons_zero, List.set_cons_succ]
                      refine wpAnyH_done (by kernel_rfl) ?_ _
                      clear hHeld SA
                      go_wp2_with (fail)
                      go_roundw
                      case rel => exact ⟨t + 1, HTt.out, by first | rfl | rw [WT.out], bt (bt hB.out hbd) HBy.out⟩
                      case measure => first | exact meas10 HTt.out | (rw [WT.out]; exact meas10 HTt.out)
                · have j1 : ¬ (t : Int) < (T : Int) := fun h => hlt (Int.ofNat_lt.1 h)
                  obtain rfl : t = T := Nat.le_antisymm ht (Nat.le_of_not_lt hlt)
                  go_wp2_with (fail)
                  go_ret
                  exact ⟨rfl, bt HBz.out hB.out⟩
end
end Go.Proofs.Ytgokkppojhokbaa
