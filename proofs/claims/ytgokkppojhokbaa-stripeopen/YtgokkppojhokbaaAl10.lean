/-
  StripeAlone: the numbers.
-/
import Derived.Test.YtgokkppojhokbaaBl10
import Derived.Test.YtgokkppojhokbaaSb10
namespace Go.Proofs.Ytgokkppojhokbaa
open Go.RowKit
/-- How many of the first n values are unlike. -/
def cn (u v : Nat → BitVec 8) : Nat → Nat
  | 0 => 0
  | n + 1 => cn u v n + (if u n = v n then 0 else 1)
theorem cn_le (u v : Nat → BitVec 8) : ∀ n, cn u v n ≤ n
  | 0 => Nat.le_refl _
  | n + 1 => by
    have h := cn_le u v n
    unfold cn
    split <;> omega
theorem cn_zero {u v : Nat → BitVec 8} : ∀ n, (∀ i, i < n → u i = v i) → cn u v n = 0
  | 0, _ => rfl
  | n + 1, h => by
    unfold cn
    rw [cn_zero n (fun i hi => h i (by omega)), if_pos (h n (by omega))]
theorem cn_one {u v : Nat → BitVec 8} {x : Nat} (hne : u x ≠ v x) : ∀ n, x < n → (∀ i, i < n → i ≠ x → u i = v i) → cn u v n = 1
  | 0, hx, _ => by omega
  | n + 1, hx, h => by
    unfold cn
    by_cases e : x = n
    · subst e
      rw [cn_zero x (fun i hi => h i (by omega) (by omega)), if_neg hne]
    · rw [cn_one hne n (by omega) (fun i hi => h i (by omega)), if_pos (h n (by omega) (by omega))]
theorem cn_eq {u v : Nat → BitVec 8} {n : Nat} (h : u n = v n) : cn u v (n + 1) = cn u v n := by
  show cn u v n + _ = _
  rw [if_pos h]; rfl
theorem cn_ne {u v : Nat → BitVec 8} {n : Nat} (h : u n ≠ v n) : cn u v (n + 1) = cn u v n + 1 := by
  show cn u v n + _ = _
  rw [if_neg h]
/-- The bytes, k of them turned from place p on. -/
def trn (d tb : Nat → BitVec 8) (p k : Nat) (x : Nat) : BitVec 8 := if p ≤ x ∧ x < p + k then d x ^^^ tb (x - p) else d x
theorem trn_out {d tb : Nat → BitVec 8} {p k x : Nat} (h : x < p ∨ p + k ≤ x) : trn d tb p k x = d x := by
  unfold trn; rw [if_neg (by omega)]
theorem trn_in {d tb : Nat → BitVec 8} {p k x : Nat} (h1 : p ≤ x) (h2 : x < p + k) : trn d tb p k x = d x ^^^ tb (x - p) := by
  unfold trn; rw [if_pos ⟨h1, h2⟩]
theorem pad_in {n : Nat} {d : Nat → BitVec 8} {x : Nat} (h : x < n) : pad n d x = d x := by unfold pad; rw [if_pos h]
theorem pad_trn {n : Nat} {d tb : Nat → BitVec 8} {p k x : Nat} (h : x < p ∨ p + k ≤ x) : pad n (trn d tb p k) x = pad n d x := by
  unfold pad; rw [trn_out h]
theorem bls_get (k s : Nat) (hs : 1 ≤ s) : ∀ f l t, l ≤ f → t < (bls k s f l).length → (bls k s f l).getD t 0 = (min (l - t * s) s + k - 1) / k
  | 0, l, t, _, h => by simp [bls] at h
  | f + 1, l, t, hf, ht => by
    unfold bls at ht ⊢
    by_cases h : l = 0
    · rw [if_pos h] at ht; simp at ht
    · rw [if_neg h] at ht ⊢
      cases t with
      | zero => show (min l s + k - 1) / k = _; rw [Nat.zero_mul, Nat.sub_zero]
      | succ t =>
        have ih := bls_get k s hs f (l - s) t (by omega) (by simpa using ht)
        show (bls k s f (l - s)).getD t 0 = _
        rw [ih, Nat.succ_mul, Nat.sub_sub, Nat.add_comm s]
/-- A stripe's block: how long it is, where it lies. -/
theorem nu_get {h : Hd} {N K M B : Nat} {L : List Nat} (u : h.Nu N K M B L) {c : Nat} (hc : c < L.length) : L.getD c 0 = (min (N - c * (K * B)) (K * B) + K - 1) / K ∧ (L.take c).sum = c * B ∧ c * (K * B) < N ∧ L.getD c 0 ≤ B ∧ 1 ≤ L.getD c 0 ∧ min (N - c * (K * B)) (K * B) ≤ K * L.getD c 0 := by
  have hk := u.k1
  have hb := u.b1
  have hs : 1 ≤ K * B := Nat.mul_le_mul hk hb
  have e := u.l
  have h1 : L.getD c 0 = (min (N - c * (K * B)) (K * B) + K - 1) / K := by
    rw [e] at hc ⊢
    exact bls_get K (K * B) hs N N c (Nat.le_refl _) hc
  have h2 : (L.take c).sum = c * B ∧ c * (K * B) < N := by
    rw [e] at hc ⊢
    exact bls_take K B hk hb N N c (Nat.le_refl _) hc
  have h3 := cdk_le (min (N - c * (K * B)) (K * B)) K hk (by omega)
  refine ⟨h1, h2.1, h2.2, ?_, ?_, ?_⟩
  · rw [h1]
    have h4 : (min (N - c * (K * B)) (K * B) + K - 1) / K ≤ (K * B + K - 1) / K := Nat.div_le_div_right (by omega)
    rw [kbk K B hk] at h4
    exact h4
  · rw [h1]; exact h3.2.1
  · rw [h1]; exact h3.2.2
/-- The stripe of a place. -/
theorem nu_at {h : Hd} {N K M B : Nat} {L : List Nat} (u : h.Nu N K M B L) {p : Nat} (hp : p < N) : p / (K * B) < L.length := by
  have hs : 1 ≤ K * B := Nat.mul_le_mul u.k1 u.b1
  have h1 := bls_count K (K * B) hs N N (Nat.le_refl _)
  rw [← u.l] at h1
  exact Nat.div_lt_of_lt_mul (by rw [Nat.mul_comm]; omega)
/-- A place of a block, in the object. -/
theorem dm_pl {h : Hd} {N K M B : Nat} {L : List Nat} (u : h.Nu N K M B L) (g : Nat → BitVec 8) {c t x : Nat} (hc : c < L.length) (hx : x < L.getD c 0) : dm K L g t ((L.take c).sum + x) = g (c * (K * B) + t * L.getD c 0 + x) := by
  rw [dm_at K L g c t x hc hx, (nu_get u hc).2.1]
  congr 3
  rw [Nat.mul_left_comm]
theorem lin_lt {t K l x : Nat} (ht : t < K) (hx : x < l) : t * l + x < K * l := by
  have h : (t + 1) * l ≤ K * l := Nat.mul_le_mul_right l ht
  rw [Nat.succ_mul] at h
  omega
/-- Other stripes' blocks are as they were. -/
theorem alone_other {h : Hd} {N K M B : Nat} {L : List Nat} (u : h.Nu N K M B L) {F : Nat → Nat → BitVec 8} (d tb : Nat → BitVec 8) {p k j c : Nat} (hj : j = p / (K * B)) (hk : p + k ≤ (j + 1) * (K * B)) (hc : c < L.length) (hne : c ≠ j) (i x : Nat) (hx : x < L.getD c 0) :
    mm fdE K F (dm K L (pad N d)) i ((L.take c).sum + x) = mm fdE K F (dm K L (pad N (trn d tb p k))) i ((L.take c).sum + x) := by
  refine mm_congr (fun _ _ => rfl) (fun t ht => ?_)
  rw [dm_pl u _ hc hx, dm_pl u _ hc hx, pad_trn ?_]
  obtain ⟨_, _, _, hB, _, _⟩ := nu_get u hc
  have h1 := lin_lt ht hx
  have h2 : K * L.getD c 0 ≤ K * B := Nat.mul_le_mul_left K hB
  have h3 : j * (K * B) ≤ p := by rw [hj]; exact Nat.div_mul_le_self _ _
  rcases Nat.lt_or_ge c j with h4 | h4
  · left
    have h5 : (c + 1) * (K * B) ≤ j * (K * B) := Nat.mul_le_mul_right _ h4
    rw [Nat.succ_mul] at h5
    omega
  · right
    have h5 : (j + 1) * (K * B) ≤ c * (K * B) := Nat.mul_le_mul_right _ (by omega)
    omega
/-- Where one byte lies: its shard, its place in the block. -/
theorem row_pl {h : Hd} {N K M B : Nat} {L : List Nat} (u : h.Nu N K M B L) {p j : Nat} (hp : p < N) (hj : j = p / (K * B)) : (p - j * (K * B)) / L.getD j 0 < K ∧ (p - j * (K * B)) % L.getD j 0 < L.getD j 0 ∧ p = j * (K * B) + (p - j * (K * B)) / L.getD j 0 * L.getD j 0 + (p - j * (K * B)) % L.getD j 0 := by
  have hl : j < L.length := by rw [hj]; exact nu_at u hp
  obtain ⟨_, _, h3, _, h5, h6⟩ := nu_get u hl
  have hs : 1 ≤ K * B := Nat.mul_le_mul u.k1 u.b1
  have h7 : j * (K * B) ≤ p := by rw [hj]; exact Nat.div_mul_le_self _ _
  have h8 : p < j * (K * B) + K * B := by rw [hj]; have := Nat.lt_div_mul_add (a := p) (b := K * B) (by omega); omega
  refine ⟨?_, Nat.mod_lt _ (by omega), ?_⟩
  · refine Nat.div_lt_of_lt_mul ?_
    rw [Nat.mul_comm (L.getD j 0) K]
    omega
  · have := Nat.div_add_mod (p - j * (K * B)) (L.getD j 0)
    rw [Nat.mul_comm] at this
    omega
/-- If one byte alone is turned: the data's rows. -/
theorem one_dm {h : Hd} {N K M B : Nat} {L : List Nat} (u : h.Nu N K M B L) (d tb : Nat → BitVec 8) {p j t x : Nat} (hp : p < N) (hj : j = p / (K * B)) (hx : x < L.getD j 0) (hne : t ≠ (p - j * (K * B)) / L.getD j 0 ∨ x ≠ (p - j * (K * B)) % L.getD j 0) :
    dm K L (pad N d) t ((L.take j).sum + x) = dm K L (pad N (trn d tb p 1)) t ((L.take j).sum + x) := by
  have hl : j < L.length := by rw [hj]; exact nu_at u hp
  rw [dm_pl u _ hl hx, dm_pl u _ hl hx, pad_trn ?_]
  obtain ⟨h1, h2, h3⟩ := row_pl u hp hj
  have hpos : 0 < L.getD j 0 := by omega
  have key : j * (K * B) + t * L.getD j 0 + x ≠ p := by
    intro e
    have e2 : p - j * (K * B) = x + t * L.getD j 0 := by omega
    have q1 : (p - j * (K * B)) / L.getD j 0 = t := by rw [e2, Nat.add_mul_div_right _ _ hpos, Nat.div_eq_of_lt hx, Nat.zero_add]
    have q2 : (p - j * (K * B)) % L.getD j 0 = x := by rw [e2, Nat.add_mul_mod_self_right, Nat.mod_eq_of_lt hx]
    rcases hne with h | h
    · exact h q1.symm
    · exact h q2.symm
  omega
theorem xor_ne {a b : BitVec 8} (h : b ≠ 0#8) : a ≠ a ^^^ b := by
  intro e
  apply h
  have : a ^^^ a = a ^^^ (a ^^^ b) := congrArg (a ^^^ ·) e
  rw [← BitVec.xor_assoc, BitVec.xor_self, BitVec.zero_xor] at this
  exact this.symm
theorem one_dm_ne {h : Hd} {N K M B : Nat} {L : List Nat} (u : h.Nu N K M B L) (d tb : Nat → BitVec 8) {p j : Nat} (hp : p < N) (hj : j = p / (K * B)) (hb : tb 0 ≠ 0#8) :
    dm K L (pad N d) ((p - j * (K * B)) / L.getD j 0) ((L.take j).sum + (p - j * (K * B)) % L.getD j 0) ≠ dm K L (pad N (trn d tb p 1)) ((p - j * (K * B)) / L.getD j 0) ((L.take j).sum + (p - j * (K * B)) % L.getD j 0) := by
  have hl : j < L.length := by rw [hj]; exact nu_at u hp
  obtain ⟨h1, h2, h3⟩ := row_pl u hp hj
  rw [dm_pl u _ hl h2, dm_pl u _ hl h2, ← h3, pad_in hp, pad_in hp, trn_in (Nat.le_refl _) (by omega), Nat.sub_self]
  exact xor_ne hb
/-- Data that differ in one row alone: a word's last places differ, too. -/
theorem Fac.hit {k m : Nat} {F A C : Nat → Nat → BitVec 8} (h : Fac k F) (hkm : k + m ≤ 255) {i r c : Nat} (hi : k ≤ i) (hi2 : i < k + m) (hr : r < k) (ho : ∀ t, t < k → t ≠ r → A t c = C t c) (hne : A r c ≠ C r c) : mm fdE k F A i c ≠ mm fdE k F C i c := by
  intro e
  apply hne
  obtain ⟨Z, hz⟩ := h.has (p := fun t => if t = r then i else t) (fun t ht => by split <;> omega) (fun a ha b hb hab => by split <;> split <;> omega)
  have key : ∀ D : Nat → Nat → BitVec 8, D r c = mm fdE k Z (fun t c => mm fdE k F D (if t = r then i else t) c) r c := fun D => by
    have e : mm fdE k Z (fun t c => mm fdE k F D (if t = r then i else t) c) r c = mm fdE k Z (mm fdE k (fun t j => F (if t = r then i else t) j) D) r c := mm_congr (fun _ _ => rfl) (fun _ _ => rfl)
    rw [e, ← mm_assoc, mm_congr (A' := dl fdE) (B' := D) (fun t ht => hz r hr t ht) (fun _ _ => rfl), mm_dl_l hr]
  rw [key A, key C]
  refine mm_congr (fun _ _ => rfl) (fun t ht => ?_)
  by_cases q : t = r
  · rw [if_pos q]; exact e
  · rw [if_neg q, h.low ht, h.low ht]; exact ho t ht q
/-- How many bytes of a block are unlike. -/
def unl (K : Nat) (F : Nat → Nat → BitVec 8) (L : List Nat) (D D' : Nat → Nat → BitVec 8) (i c : Nat) : Nat := cn (fun x => mm fdE K F D i ((L.take c).sum + x)) (fun x => mm fdE K F D' i ((L.take c).sum + x)) (L.getD c 0)
theorem unl_other {h : Hd} {N K M B : Nat} {L : List Nat} (u : h.Nu N K M B L) {F : Nat → Nat → BitVec 8} (d tb : Nat → BitVec 8) {p k j c : Nat} (hj : j = p / (K * B)) (hk : p + k ≤ (j + 1) * (K * B)) (hc : c < L.length) (hne : c ≠ j) (i : Nat) : unl K F L (dm K L (pad N d)) (dm K L (pad N (trn d tb p k))) i c = 0 :=
  cn_zero _ (fun x hx => alone_other u d tb hj hk hc hne i x hx)
theorem unl_one {h : Hd} {N K M B : Nat} {L : List Nat} (u : h.Nu N K M B L) {F : Nat → Nat → BitVec 8} (hF : Fac K F) (d tb : Nat → BitVec 8) {p j : Nat} (hp : p < N) (hj : j = p / (K * B)) (hb : tb 0 ≠ 0#8) (i : Nat) (hi : i < K + M) :
    unl K F L (dm K L (pad N d)) (dm K L (pad N (trn d tb p 1))) i j = if i = (p - j * (K * B)) / L.getD j 0 ∨ K ≤ i then 1 else 0 := by
  obtain ⟨h1, h2, h3⟩ := row_pl u hp hj
  have same : ∀ x, x < L.getD j 0 → x ≠ (p - j * (K * B)) % L.getD j 0 → mm fdE K F (dm K L (pad N d)) i ((L.take j).sum + x) = mm fdE K F (dm K L (pad N (trn d tb p 1))) i ((L.take j).sum + x) := fun x hx hn =>
    mm_congr (fun _ _ => rfl) (fun t ht => one_dm u d tb hp hj hx (.inr hn))
  by_cases h4 : K ≤ i
  · rw [if_pos (.inr h4)]
    refine cn_one (u := fun x => mm fdE K F (dm K L (pad N d)) i ((L.take j).sum + x)) (v := fun x => mm fdE K F (dm K L (pad N (trn d tb p 1))) i ((L.take j).sum + x)) ?_ _ h2 same
    exact hF.hit (m := M) u.km h4 hi h1 (fun t ht hn => one_dm u d tb hp hj h2 (.inl hn)) (one_dm_ne u d tb hp hj hb)
  · have hlt : i < K := by omega
    by_cases h5 : i = (p - j * (K * B)) / L.getD j 0
    · rw [if_pos (.inl h5)]
      refine cn_one (u := fun x => mm fdE K F (dm K L (pad N d)) i ((L.take j).sum + x)) (v := fun x => mm fdE K F (dm K L (pad N (trn d tb p 1))) i ((L.take j).sum + x)) ?_ _ h2 same
      show mm _ _ _ _ _ _ ≠ mm _ _ _ _ _ _
      rw [hF.low hlt, hF.low hlt, h5]
      exact one_dm_ne u d tb hp hj hb
    · rw [if_neg (by omega)]
      refine cn_zero _ (fun x hx => ?_)
      rw [hF.low hlt, hF.low hlt]
      exact one_dm u d tb hp hj hx (.inl h5)
end Go.Proofs.Ytgokkppojhokbaa
