/-
  StripeAlone: the numbers.
-/
import Derived.Test.YtleefagabbnkeaaBl10
import Derived.Test.YtleefagabbnkeaaSb10
import Derived.Test.YtleefagabbnkeaaAo10
import Derived.Deep.CutBlock
namespace Go.Proofs.Ytleefagabbnkeaa
open Go.RowKit
/-- How many of the first n values are unlike. -/
def cn (u v : Nat → BitVec 8) : Nat → Nat
  | 0 => 0
  | n + 1 => cn u v n + (if u n = v n then 0 else 1)
theorem cn_le (u v : Nat → BitVec 8) : ∀ n, cn u v n ≤ n
  | 0 => Nat.le_refl _
  | n + 1 => by
    have h := cn_le u v n
    unfold cn
    split <;> omega
theorem cn_zero {u v : Nat → BitVec 8} : ∀ n, (∀ i, i < n → u i = v i) → cn u v n = 0
  | 0, _ => rfl
  | n + 1, h => by
    unfold cn
    rw [cn_zero n (fun i hi => h i (by omega)), if_pos (h n (by omega))]
theorem cn_one {u v : Nat → BitVec 8} {x : Nat} (hne : u x ≠ v x) : ∀ n, x < n → (∀ i, i < n → i ≠ x → u i = v i) → cn u v n = 1
  | 0, hx, _ => by omega
  | n + 1, hx, h => by
    unfold cn
    by_cases e : x = n
    · subst e
      rw [cn_zero x (fun i hi => h i (by omega) (by omega)), if_neg hne]
    · rw [cn_one hne n (by omega) (fun i hi => h i (by omega)), if_pos (h n (by omega) (by omega))]
theorem cn_eq {u v : Nat → BitVec 8} {n : Nat} (h : u n = v n) : cn u v (n + 1) = cn u v n := by
  show cn u v n + _ = _
  rw [if_pos h]; rfl
theorem cn_ne {u v : Nat → BitVec 8} {n : Nat} (h : u n ≠ v n) : cn u v (n + 1) = cn u v n + 1 := by
  show cn u v n + _ = _
  rw [if_neg h]
/-- The bytes, k of them turned from place p on. -/
def trn (d tb : Nat → BitVec 8) (p k : Nat) (x : Nat) : BitVec 8 := if p ≤ x ∧ x < p + k then d x ^^^ tb (x - p) else d x
theorem trn_out {d tb : Nat → BitVec 8} {p k x : Nat} (h : x < p ∨ p + k ≤ x) : trn d tb p k x = d x := by
  unfold trn; rw [if_neg (by omega)]
theorem trn_in {d tb : Nat → BitVec 8} {p k x : Nat} (h1 : p ≤ x) (h2 : x < p + k) : trn d tb p k x = d x ^^^ tb (x - p) := by
  unfold trn; rw [if_pos ⟨h1, h2⟩]
theorem pad_in {n : Nat} {d : Nat → BitVec 8} {x : Nat} (h : x < n) : pad n d x = d x := by unfold pad; rw [if_pos h]
theorem pad_trn {n : Nat} {d tb : Nat → BitVec 8} {p k x : Nat} (h : x < p ∨ p + k ≤ x) : pad n (trn d tb p k) x = pad n d x := by
  unfold pad; rw [trn_out h]
theorem bls_get (k s : Nat) (hs : 1 ≤ s) : ∀ f l t, l ≤ f → t < (bls k s f l).length → (bls k s f l).getD t 0 = (min (l - t * s) s + k - 1) / k
  | 0, l, t, _, h => by simp [bls] at h
  | f + 1, l, t, hf, ht => by
    unfold bls at ht ⊢
    by_cases h : l = 0
    · rw [if_pos h] at ht; simp at ht
    · rw [if_neg h] at ht ⊢
      cases t with
      | zero => show (min l s + k - 1) / k = _; rw [Nat.zero_mul, Nat.sub_zero]
      | succ t =>
        have ih := bls_get k s hs f (l - s) t (by omega) (by simpa using ht)
        show (bls k s f (l - s)).getD t 0 = _
        rw [ih, Nat.succ_mul, Nat.sub_sub, Nat.add_comm s]
/-- A stripe's block: how long it is, where it lies. -/
theorem nu_get {h : Hd} {N K M B : Nat} {L : List Nat} (u : h.Nu N K M B L) {c : Nat} (hc : c < L.length) : L.getD c 0 = (min (N - c * (K * B)) (K * B) + K - 1) / K ∧ (L.take c).sum = c * B ∧ c * (K * B) < N ∧ L.getD c 0 ≤ B ∧ 1 ≤ L.getD c 0 ∧ min (N - c * (K * B)) (K * B) ≤ K * L.getD c 0 := by
  have hk := u.k1
  have hb := u.b1
  have hs : 1 ≤ K * B := Nat.mul_le_mul hk hb
  have e := u.l
  have h1 : L.getD c 0 = (min (N - c * (K * B)) (K * B) + K - 1) / K := by
    rw [e] at hc ⊢
    exact bls_get K (K * B) hs N N c (Nat.le_refl _) hc
  have h2 : (L.take c).sum = c * B ∧ c * (K * B) < N := by
    rw [e] at hc ⊢
    exact bls_take K B hk hb N N c (Nat.le_refl _) hc
  have h3 := cdk_le (min (N - c * (K * B)) (K * B)) K hk (by omega)
  refine ⟨h1, h2.1, h2.2, ?_, ?_, ?_⟩
  · rw [h1]
    have h4 : (min (N - c * (K * B)) (K * B) + K - 1) / K ≤ (K * B + K - 1) / K := Nat.div_le_div_right (by omega)
    rw [kbk K B hk] at h4
    exact h4
  · rw [h1]; exact h3.2.1
  · rw [h1]; exact h3.2.2
/-- The stripe of a place. -/
theorem nu_at {h : Hd} {N K M B : Nat} {L : List Nat} (u : h.Nu N K M B L) {p : Nat} (hp : p < N) : p / (K * B) < L.length := by
  have hs : 1 ≤ K * B := Nat.mul_le_mul u.k1 u.b1
  have h1 := bls_count K (K * B) hs N N (Nat.le_refl _)
  rw [← u.l] at h1
  exact Nat.div_lt_of_lt_mul (by rw [Nat.mul_comm]; omega)
/-- A place of a block, in the object. -/
theorem dm_pl {h : Hd} {N K M B : Nat} {L : List Nat} (u : h.Nu N K M B L) (g : Nat → BitVec 8) {c t x : Nat} (hc : c < L.length) (hx : x < L.getD c 0) : dm K L g t ((L.take c).sum + x) = g (c * (K * B) + t * L.getD c 0 + x) := by
  rw [dm_at K L g c t x hc hx, (nu_get u hc).2.1]
  congr 3
  rw [Nat.mul_left_comm]
theorem lin_lt {t K l x : Nat} (ht : t < K) (hx : x < l) : t * l + x < K * l := by
  have h : (t + 1) * l ≤ K * l := Nat.mul_le_mul_right l ht
  rw [Nat.succ_mul] at h
  omega
/-- Other stripes' blocks are as they were. -/
theorem alone_other {h : Hd} {N K M B : Nat} {L : List Nat} (u : h.Nu N K M B L) {F : Nat → Nat → BitVec 8} (d tb : Nat → BitVec 8) {p k j c : Nat} (hj : j = p / (K * B)) (hk : p + k ≤ (j + 1) * (K * B)) (hc : c < L.length) (hne : c ≠ j) (i x : Nat) (hx : x < L.getD c 0) :
    mm fdE K F (dm K L (pad N d)) i ((L.take c).sum + x) = mm fdE K F (dm K L (pad N (trn d tb p k))) i ((L.take c).sum + x) := by
  refine mm_congr (fun _ _ => rfl) (fun t ht => ?_)
  rw [dm_pl u _ hc hx, dm_pl u _ hc hx, pad_trn ?_]
  obtain ⟨_, _, _, hB, _, _⟩ := nu_get u hc
  have h1 := lin_lt ht hx
  have h2 : K * L.getD c 0 ≤ K * B := Nat.mul_le_mul_left K hB
  have h3 : j * (K * B) ≤ p := by rw [hj]; exact Nat.div_mul_le_self _ _
  rcases Nat.lt_or_ge c j with h4 | h4
  · left
    have h5 : (c + 1) * (K * B) ≤ j * (K * B) := Nat.mul_le_mul_right _ h4
    rw [Nat.succ_mul] at h5
    omega
  · right
    have h5 : (j + 1) * (K * B) ≤ c * (K * B) := Nat.mul_le_mul_right _ (by omega)
    omega
/-- Where one byte lies: its shard, its place in the block. -/
theorem row_pl {h : Hd} {N K M B : Nat} {L : List Nat} (u : h.Nu N K M B L) {p j : Nat} (hp : p < N) (hj : j = p / (K * B)) : (p - j * (K * B)) / L.getD j 0 < K ∧ (p - j * (K * B)) % L.getD j 0 < L.getD j 0 ∧ p = j * (K * B) + (p - j * (K * B)) / L.getD j 0 * L.getD j 0 + (p - j * (K * B)) % L.getD j 0 := by
  have hl : j < L.length := by rw [hj]; exact nu_at u hp
  obtain ⟨_, _, h3, _, h5, h6⟩ := nu_get u hl
  have hs : 1 ≤ K * B := Nat.mul_le_mul u.k1 u.b1
  have h7 : j * (K * B) ≤ p := by rw [hj]; exact Nat.div_mul_le_self _ _
  have h8 : p < j * (K * B) + K * B := by rw [hj]; have := Nat.lt_div_mul_add (a := p) (b := K * B) (by omega); omega
  refine ⟨?_, Nat.mod_lt _ (by omega), ?_⟩
  · refine Nat.div_lt_of_lt_mul ?_
    rw [Nat.mul_comm (L.getD j 0) K]
    omega
  · have := Nat.div_add_mod (p - j * (K * B)) (L.getD j 0)
    rw [Nat.mul_comm] at this
    omega
/-- If one byte alone is turned: the data's rows. -/
theorem one_dm {h : Hd} {N K M B : Nat} {L : List Nat} (u : h.Nu N K M B L) (d tb : Nat → BitVec 8) {p j t x : Nat} (hp : p < N) (hj : j = p / (K * B)) (hx : x < L.getD j 0) (hne : t ≠ (p - j * (K * B)) / L.getD j 0 ∨ x ≠ (p - j * (K * B)) % L.getD j 0) :
    dm K L (pad N d) t ((L.take j).sum + x) = dm K L (pad N (trn d tb p 1)) t ((L.take j).sum + x) := by
  have hl : j < L.length := by rw [hj]; exact nu_at u hp
  rw [dm_pl u _ hl hx, dm_pl u _ hl hx, pad_trn ?_]
  obtain ⟨h1, h2, h3⟩ := row_pl u hp hj
  have hpos : 0 < L.getD j 0 := by omega
  have key : j * (K * B) + t * L.getD j 0 + x ≠ p := by
    intro e
    have e2 : p - j * (K * B) = x + t * L.getD j 0 := by omega
    have q1 : (p - j * (K * B)) / L.getD j 0 = t := by rw [e2, Nat.add_mul_div_right _ _ hpos, Nat.div_eq_of_lt hx, Nat.zero_add]
    have q2 : (p - j * (K * B)) % L.getD j 0 = x := by rw [e2, Nat.add_mul_mod_self_right, Nat.mod_eq_of_lt hx]
    rcases hne with h | h
    · exact h q1.symm
    · exact h q2.symm
  omega
theorem xor_ne {a b : BitVec 8} (h : b ≠ 0#8) : a ≠ a ^^^ b := by
  intro e
  apply h
  have : a ^^^ a = a ^^^ (a ^^^ b) := congrArg (a ^^^ ·) e
  rw [← BitVec.xor_assoc, BitVec.xor_self, BitVec.zero_xor] at this
  exact this.symm
theorem one_dm_ne {h : Hd} {N K M B : Nat} {L : List Nat} (u : h.Nu N K M B L) (d tb : Nat → BitVec 8) {p j : Nat} (hp : p < N) (hj : j = p / (K * B)) (hb : tb 0 ≠ 0#8) :
    dm K L (pad N d) ((p - j * (K * B)) / L.getD j 0) ((L.take j).sum + (p - j * (K * B)) % L.getD j 0) ≠ dm K L (pad N (trn d tb p 1)) ((p - j * (K * B)) / L.getD j 0) ((L.take j).sum + (p - j * (K * B)) % L.getD j 0) := by
  have hl : j < L.length := by rw [hj]; exact nu_at u hp
  obtain ⟨h1, h2, h3⟩ := row_pl u hp hj
  rw [dm_pl u _ hl h2, dm_pl u _ hl h2, ← h3, pad_in hp, pad_in hp, trn_in (Nat.le_refl _) (by omega), Nat.sub_self]
  exact xor_ne hb
/-- Data that differ in one row alone: a word's last places differ, too. -/
theorem Fac.hit {k m : Nat} {F A C : Nat → Nat → BitVec 8} (h : Fac k F) (hkm : k + m ≤ 255) {i r c : Nat} (hi : k ≤ i) (hi2 : i < k + m) (hr : r < k) (ho : ∀ t, t < k → t ≠ r → A t c = C t c) (hne : A r c ≠ C r c) : mm fdE k F A i c ≠ mm fdE k F C i c := by
  intro e
  apply hne
  obtain ⟨Z, hz⟩ := h.has (p := fun t => if t = r then i else t) (fun t ht => by split <;> omega) (fun a ha b hb hab => by split <;> split <;> omega)
  have key : ∀ D : Nat → Nat → BitVec 8, D r c = mm fdE k Z (fun t c => mm fdE k F D (if t = r then i else t) c) r c := fun D => by
    have e : mm fdE k Z (fun t c => mm fdE k F D (if t = r then i else t) c) r c = mm fdE k Z (mm fdE k (fun t j => F (if t = r then i else t) j) D) r c := mm_congr (fun _ _ => rfl) (fun _ _ => rfl)
    rw [e, ← mm_assoc, mm_congr (A' := dl fdE) (B' := D) (fun t ht => hz r hr t ht) (fun _ _ => rfl), mm_dl_l hr]
  rw [key A, key C]
  refine mm_congr (fun _ _ => rfl) (fun t ht => ?_)
  by_cases q : t = r
  · rw [if_pos q]; exact e
  · rw [if_neg q, h.low ht, h.low ht]; exact ho t ht q
/-- How many bytes of a block are unlike. -/
def unl (K : Nat) (F : Nat → Nat → BitVec 8) (L : List Nat) (D D' : Nat → Nat → BitVec 8) (i c : Nat) : Nat := cn (fun x => mm fdE K F D i ((L.take c).sum + x)) (fun x => mm fdE K F D' i ((L.take c).sum + x)) (L.getD c 0)
theorem unl_other {h : Hd} {N K M B : Nat} {L : List Nat} (u : h.Nu N K M B L) {F : Nat → Nat → BitVec 8} (d tb : Nat → BitVec 8) {p k j c : Nat} (hj : j = p / (K * B)) (hk : p + k ≤ (j + 1) * (K * B)) (hc : c < L.length) (hne : c ≠ j) (i : Nat) : unl K F L (dm K L (pad N d)) (dm K L (pad N (trn d tb p k))) i c = 0 :=
  cn_zero _ (fun x hx => alone_other u d tb hj hk hc hne i x hx)
theorem unl_one {h : Hd} {N K M B : Nat} {L : List Nat} (u : h.Nu N K M B L) {F : Nat → Nat → BitVec 8} (hF : Fac K F) (d tb : Nat → BitVec 8) {p j : Nat} (hp : p < N) (hj : j = p / (K * B)) (hb : tb 0 ≠ 0#8) (i : Nat) (hi : i < K + M) :
    unl K F L (dm K L (pad N d)) (dm K L (pad N (trn d tb p 1))) i j = if i = (p - j * (K * B)) / L.getD j 0 ∨ K ≤ i then 1 else 0 := by
  obtain ⟨h1, h2, h3⟩ := row_pl u hp hj
  have same : ∀ x, x < L.getD j 0 → x ≠ (p - j * (K * B)) % L.getD j 0 → mm fdE K F (dm K L (pad N d)) i ((L.take j).sum + x) = mm fdE K F (dm K L (pad N (trn d tb p 1))) i ((L.take j).sum + x) := fun x hx hn =>
    mm_congr (fun _ _ => rfl) (fun t ht => one_dm u d tb hp hj hx (.inr hn))
  by_cases h4 : K ≤ i
  · rw [if_pos (.inr h4)]
    refine cn_one (u := fun x => mm fdE K F (dm K L (pad N d)) i ((L.take j).sum + x)) (v := fun x => mm fdE K F (dm K L (pad N (trn d tb p 1))) i ((L.take j).sum + x)) ?_ _ h2 same
    exact hF.hit (m := M) u.km h4 hi h1 (fun t ht hn => one_dm u d tb hp hj h2 (.inl hn)) (one_dm_ne u d tb hp hj hb)
  · have hlt : i < K := by omega
    by_cases h5 : i = (p - j * (K * B)) / L.getD j 0
    · rw [if_pos (.inl h5)]
      refine cn_one (u := fun x => mm fdE K F (dm K L (pad N d)) i ((L.take j).sum + x)) (v := fun x => mm fdE K F (dm K L (pad N (trn d tb p 1))) i ((L.take j).sum + x)) ?_ _ h2 same
      show mm _ _ _ _ _ _ ≠ mm _ _ _ _ _ _
      rw [hF.low hlt, hF.low hlt, h5]
      exact one_dm_ne u d tb hp hj hb
    · rw [if_neg (by omega)]
      refine cn_zero _ (fun x hx => ?_)
      rw [hF.low hlt, hF.low hlt]
      exact one_dm u d tb hp hj hx (.inl h5)
end Go.Proofs.Ytleefagabbnkeaa
/-
  StripeAlone: unlike.
-/
namespace Go.Proofs.Ytleefagabbnkeaa
open Go.RowKit
theorem infoQ : (Try.prog.info? 24).map (fun i => (i.zero, i.size, i.bytes)) = some (some (.slice none 0 0), 1, 24) := by kernel_rfl
theorem infoN : (Try.prog.info? 3).map (fun i => (i.zero, i.size, i.bytes)) = some (some (.int .i64 0), 1, 8) := by kernel_rfl
theorem makeN (n : Nat) (hn : n ≤ 1048576) (w : World) : (Instr.makeSlice 24 (.int .i64 (n : Int)) (.int .i64 (n : Int))).run Try.prog w = .ok (.slice (some ⟨w.heap.size, 0, none⟩) n n) (w.alloc (.cells (Array.replicate n (.int .i64 0)) 3)) := by
  have h := make_any Try.underlying24 infoN rfl (by decide) n (by omega) (by omega) w
  rw [Nat.mul_one] at h
  exact h
/-- An own list of rows of numbers. -/
def Oq (w : World) (base : Nat) (v : Value) (us : List Value) : Prop := w.ownsRow base 24 1 v us.length us
theorem Oq.own {w : World} {base : Nat} {v : Value} {us : List Value} (h : Oq w base v us) : w.ownsRow base 24 1 v us.length us := h
theorem Oq.nil (w : World) (base : Nat) : Oq w base (.slice none 0 0) [] := World.ownsRow_nil _ _ _ _
theorem Oq.below {w w' : World} {base : Nat} {v : Value} {us : List Value} (h : Oq w base v us) (hb : Below w.heap.size w w') : Oq w' base v us := own_below h hb
theorem Oq.rd {w : World} {base : Nat} {v : Value} {us : List Value} (h : Oq w base v us) : ∃ p cap, v = .slice p us.length cap ∧ us.length ≤ cap ∧ (0 < us.length → ∃ g, p = some ⟨g, 0, none⟩ ∧ ∀ i, i < us.length → w.cell? ⟨g, i, none⟩ = some (us.getD i (.slice none 0 0))) := by
  rcases h.2 with ⟨hv, h0⟩ | ⟨g, cap, c, hv, hg, hh, hc, hm, hs, ht⟩
  · exact ⟨none, 0, by rw [h0]; exact hv, by omega, fun h1 => by omega⟩
  · refine ⟨some ⟨g, 0, none⟩, cap, hv, hc, fun _ => ⟨g, rfl, fun i hi => ?_⟩⟩
    rw [cell_of_row w g i _ _ _ hh]
    rw [Nat.mul_one] at ht
    have h1 : (c.toList.take us.length)[i]? = some (us.getD i (.slice none 0 0)) := by rw [ht]; simp [List.getD, hi]
    rw [List.getElem?_take_of_lt hi] at h1
    simpa using h1
/-- Rows of n numbers each, in blocks of their own. -/
def RwQ (w : World) (us : List Value) (n : Nat) (f : Nat → Nat → Nat) : Prop := ∀ i, i < us.length → ∃ R, us.getD i (.slice none 0 0) = .slice (some ⟨R, 0, none⟩) n n ∧ Ov w 3 R (fun c => .int .i64 (f i c : Int)) n
theorem RwQ.below {w w' : World} {us : List Value} {n : Nat} {f : Nat → Nat → Nat} (h : RwQ w us n f) (hb : Below w.heap.size w w') : RwQ w' us n f := fun i hi => by
  obtain ⟨R, e, hO⟩ := h i hi
  exact ⟨R, e, hO.below hb⟩
theorem RwQ.push {w w' : World} {us : List Value} {n base R : Nat} {v : Value} {f : Nat → Nat → Nat} (h : RwQ w us n f) (hv : Oq w base v us) (hg : w.grownBy w' v.ownBlock) (hR : Ov w 3 R (fun c => .int .i64 (f us.length c : Int)) n) : RwQ w' (us ++ [.slice (some ⟨R, 0, none⟩) n n]) n f := fun i hi => by
  rw [List.length_append, List.length_singleton] at hi
  by_cases hlt : i < us.length
  · obtain ⟨R', e, hO⟩ := h i hlt
    refine ⟨R', ?_, hO.grown hv hg (by decide)⟩
    rw [← e]
    simp [List.getD, List.getElem?_append_left hlt]
  · obtain rfl : i = us.length := by omega
    exact ⟨R, by simp [List.getD], hR.grown hv hg (by decide)⟩
set_option maxHeartbeats 16000000 in
set_option maxRecDepth 1000000 in
/-- append(v, x) of one row of numbers. -/
theorem wpList_apQ {w : World} {ops : Array Oper} {rest : List Oper} {o : Oper} {a : Act} {Q : Exit → Act → World → Prop} (hgd : o.guard = none) (s x : Operand) (ho : o.op = .call { callee := .builtin .append, args := #[s, x], argTypes := #[44, 44] })
    (base : Nat) (v : Value) (us : List Value) (hs : a.eval s = v) (hown : Oq w base v us) (ad : Addr) (c : Nat) (u : Value) (hu : u.oneCell' = true) (hx : a.eval x = .slice (some ad) 1 c) (hr : w.cell? ad = some u) (hm : us.length + 1 ≤ 1000000) (hbase : base ≤ w.heap.size)
    (h : ∀ v' w', Oq w' base v' (us ++ [u]) → w.grownBy w' v.ownBlock → wpList Try.prog ops Q rest (a.put o.dst v') w') : wpList Try.prog ops Q (o :: rest) a w := by
  obtain ⟨i0, hi, hz0, hz1, hz2⟩ := info_parts infoQ
  have S : ∀ j t, ([u] : List Value)[j]? = some t → w.cell? (ad.add j) = some t := by
    intro j t ht
    match j with
    | 0 =>
      simp at ht
      rw [show ad.add 0 = ad by unfold Addr.add; split <;> simp_all, hr, ht]
    | j + 1 => simp at ht
  refine wpList_append_own _ hgd _ _ 44 ho base 24 i0 (.slice none 0 0) 1 24 Try.underlying44 hi hz0 hz1 hz2 rfl (by decide) v us.length _ hs hown ad 1 c [u] hx rfl S (by intro t ht; simp at ht; subst ht; exact hu) (by unfold maxLen; omega) (by omega) hbase ?_
  intro v' w' ho' hg _
  refine h v' w' ?_ hg
  unfold Oq
  simpa using ho'
/-- What a list of shards has at one place: its block's row and that row's values. -/
theorem sh_row {w : World} {v : Value} {n : Nat} {l : Nat → Nat} {N : Nat → Nat → BitVec 8} {b : Nat} (h : NmE w v n l N) (e : v = .slice (some ⟨b, 0, none⟩) n n) {c : Nat} (hc : c < n) : ∃ q cq, w.cell? ⟨b, c, none⟩ = some (.slice q (l c) cq) ∧ (0 < l c → ∃ b2 o2, q = some ⟨b2, o2, none⟩ ∧ ∀ x, x < l c → w.cell? ⟨b2, o2 + x, none⟩ = some (.int .u8 (el (N c x)))) := by
  subst e
  obtain ⟨b', o', rows, e, hc', hr⟩ := nm_at h (by omega)
  injection e with e
  injection e with e1 e2 _
  subst e1 e2
  obtain ⟨q, cq, e3, h3⟩ := nr_un (hr c hc)
  refine ⟨q, cq, ?_, h3⟩
  rw [← e3, ← hc' c hc, Nat.zero_add]
theorem meas10 {t N : Nat} (h : t < N) : N - (intOf (.int .i64 ((t + 1 : Nat) : Int))).toNat < N - (intOf (.int .i64 (t : Int))).toNat := by
  simp only [intOf, Int.toNat_natCast]; omega
theorem w10 {t N : Nat} (h : t < N) (hN : N ≤ 1048576) : wrap64 ((t : Int) + 1) = ((t + 1 : Nat) : Int) := by unfold wrap64; omega
section
attribute [local irreducible] Calls el Ov NmE NrE Oq RwQ cn
set_option maxHeartbeats 16000000 in
set_option maxRecDepth 1000000 in
theorem unlike_any {w : World} {g1 g2 r : Nat} {vs1 vs2 : Nat → Value} {L : List Nat} {A B : Nat → Nat → Nat → BitVec 8} (hr : r ≤ 255) (hL : L.length ≤ 1048576) (hl : ∀ c, L.getD c 0 ≤ 65536)
    (S1 : ∀ i, i < r → w.cell? ⟨g1, i * 17 + 16, none⟩ = some (vs1 i)) (R1 : ∀ i, i < r → (∃ b, vs1 i = .slice (some ⟨b, 0, none⟩) L.length L.length) ∧ NmE w (vs1 i) L.length (fun c => L.getD c 0) (A i))
    (S2 : ∀ i, i < r → w.cell? ⟨g2, i * 17 + 16, none⟩ = some (vs2 i)) (R2 : ∀ i, i < r → (∃ b, vs2 i = .slice (some ⟨b, 0, none⟩) L.length L.length) ∧ NmE w (vs2 i) L.length (fun c => L.getD c 0) (B i)) :
    Calls Try.prog 9 #[.slice (some ⟨g1, 0, none⟩) r r, .slice (some ⟨g2, 0, none⟩) r r] w fun e w' => ∃ v us, e = .returned v ∧ Oq w' w.heap.size v us ∧ us.length = r ∧ RwQ w' us L.length (fun i c => cn (A i c) (B i c) (L.getD c 0)) ∧ Below w.heap.size w w' := by
  have al : ∀ (W : World) (o : Obj), Below W.heap.size W (W.alloc o) := fun W o => (Below.refl _ _).alloc (Nat.le_refl _) o
  have HS := (show Hid (_ ∧ _ ∧ _ ∧ _) from ⟨S1, R1, S2, R2⟩)
  have HL := (show Hid (r ≤ 255 ∧ L.length ≤ 1048576 ∧ ∀ c, L.getD c 0 ≤ 65536) from ⟨hr, hL, hl⟩)
  clear S1 R1 S2 R2 hr hL hl
  go_enter Try.func9, Try.ntmps9
  go_wp2
  go_loopw [5, 6] (fun v i wr => ∃ (t : Nat) (us : List Value), t ≤ r ∧ i = .int .i64 (t : Int) ∧ us.length = t ∧ Hid (Oq wr w.heap.size v us) ∧ Hid (RwQ wr us L.length (fun i c => cn (A i c) (B i c) (L.getD c 0))) ∧ Hid (Below w.heap.size w wr)) (fun _ i _ => r - (intOf i).toNat)
  case atStart => exact ⟨0, [], Nat.zero_le _, rfl, rfl, Oq.nil _ _, (by show RwQ _ _ _ _; unfold RwQ; intro i hi; simp at hi), Below.refl _ _⟩
  case round =>
    obtain ⟨t, us, ht, rfl, hul, hO, hR, hB⟩ := hrel
    obtain ⟨W0, hW0⟩ : ∃ W0, W0 = wr := ⟨_, rfl⟩
    subst hW0
    by_cases hlt : t < r
    · have j1 : (t : Int) < (r : Int) := by omega
      have HT := (show Hid (t < r) from hlt)
      have WT := (show Hid _ from w10 hlt (Nat.le_trans HL.out.1 (by decide)))
      obtain ⟨⟨b1, e1⟩, N1⟩ := HS.out.2.1 t hlt
      obtain ⟨⟨b2, e2⟩, N2⟩ := HS.out.2.2.2 t hlt
      have c1 := cell_below (HS.out.1 t hlt) hB.out
      rw [e1] at c1
      have c2 := (show Hid (w.cell? ⟨g2, t * 17 + 16, none⟩ = some (.slice (some ⟨b2, 0, none⟩) L.length L.length)) from e2 ▸ HS.out.2.2.1 t hlt)
      have c1' := (show Hid (w.cell? ⟨g1, t * 17 + 16, none⟩ = some (.slice (some ⟨b1, 0, none⟩) L.length L.length)) from e1 ▸ HS.out.1 t hlt)
      have RW1 := (show Hid (∀ c, c < L.length → ∃ q cq, w.cell? ⟨b1, c, none⟩ = some (.slice q (L.getD c 0) cq) ∧ (0 < L.getD c 0 → ∃ b2 o2, q = some ⟨b2, o2, none⟩ ∧ ∀ x, x < L.getD c 0 → w.cell? ⟨b2, o2 + x, none⟩ = some (.int .u8 (el (A t c x))))) from fun c hc => sh_row N1 e1 hc)
      have RW2 := (show Hid (∀ c, c < L.length → ∃ q cq, w.cell? ⟨b2, c, none⟩ = some (.slice q (L.getD c 0) cq) ∧ (0 < L.getD c 0 → ∃ b2 o2, q = some ⟨b2, o2, none⟩ ∧ ∀ x, x < L.getD c 0 → w.cell? ⟨b2, o2 + x, none⟩ = some (.int .u8 (el (B t c x))))) from fun c hc => sh_row N2 e2 hc)
      have hm := makeN L.length HL.out.2.1
      have HO1 := (show Hid (Ov (W0.alloc (.cells (Array.replicate L.length (.int .i64 0)) 3)) 3 W0.heap.size (fun x => .int .i64 ((if x < 0 then cn (A t x) (B t x) (L.getD x 0) else 0 : Nat) : Int)) L.length) from (ov_new W0 3 (.int .i64 0) L.length).congr (fun i _ => by rw [if_neg (by omega)]; rfl))
      have HB1 := (show Hid (Below W0.heap.size W0 (W0.alloc (.cells (Array.replicate L.length (.int .i64 0)) 3))) from al _ _)
      have HUL := (show Hid (us.length = t) from hul)
      clear N1 N2 e1 e2 ht hlt hul
      go_wp2
      clear hm c1
      go_loopw [8] (fun i wr => ∃ c : Nat, c ≤ L.length ∧ i = .int .i64 (c : Int) ∧ Hid (Ov wr 3 W0.heap.size (fun x => .int .i64 ((if x < c then cn (A t x) (B t x) (L.getD x 0) else 0 : Nat) : Int)) L.length) ∧ Hid (Below W0.heap.size W0 wr)) (fun i _ => L.length - (intOf i).toNat)
      case atStart => exact ⟨0, Nat.zero_le _, rfl, HO1, HB1⟩
      case round =>
        clear HO1 HB1
        obtain ⟨c, hc, rfl, hOq, hBq⟩ := hrel
        obtain ⟨W1, hW1⟩ : ∃ W1, W1 = wr := ⟨_, rfl⟩
        subst hW1
        by_cases hlc : c < L.length
        · have j2 : (c : Int) < (L.length : Int) := by omega
          have HC := (show Hid (c < L.length) from hlc)
          have WC := (show Hid _ from w10 hlc HL.out.2.1)
          have d2 := cell_below c2.out (bt hB.out hBq.out)
          obtain ⟨q1, cq1, a1, x1⟩ := RW1.out c hlc
          obtain ⟨q2, cq2, a2, x2⟩ := RW2.out c hlc
          have hlen := HL.out.2.2 c
          obtain ⟨l, hl⟩ : ∃ l, l = L.getD c 0 := ⟨_, rfl⟩
          rw [← hl] at a1 a2 x1 x2 hlen
          have HLN := (show Hid (l = L.getD c 0 ∧ l ≤ 65536) from ⟨hl, hlen⟩)
          have A1 := (show Hid _ from a1)
          have A2 := (show Hid _ from a2)
          have X1 := (show Hid _ from x1)
          have X2 := (show Hid _ from x2)
          have HO2 := (show Hid (Ov W1 3 W0.heap.size (fun x => .int .i64 ((if x = c then cn (A t c) (B t c) 0 else if x < c then cn (A t x) (B t x) (L.getD x 0) else 0 : Nat) : Int)) L.length) from hOq.out.congr (fun x _ => by
            by_cases e : x = c
            · subst e; rw [if_neg (Nat.lt_irrefl _), if_pos rfl]; unfold cn; rfl
            · rw [if_neg e]))
          clear a1 a2 x1 x2 hlen hl hlc hc hOq
          go_wp2
          clear d2
          go_loopw [9] (fun i wr => ∃ k : Nat, k ≤ l ∧ i = .int .i64 (k : Int) ∧ Hid (Ov wr 3 W0.heap.size (fun x => .int .i64 ((if x = c then cn (A t c) (B t c) k else if x < c then cn (A t x) (B t x) (L.getD x 0) else 0 : Nat) : Int)) L.length) ∧ Hid (Below W0.heap.size W0 wr)) (fun i _ => l - (intOf i).toNat)
          case atStart => exact ⟨0, Nat.zero_le _, rfl, HO2, hBq⟩
          case round =>
            clear HO2
            obtain ⟨k, hk, rfl, hOz, hBz⟩ := hrel
            have HBz := (show Hid (Below w.heap.size w wr) from bt hB.out hBz.out)
            have z1 := cell_below c1'.out HBz.out
            have z2 := cell_below c2.out HBz.out
            have z3 := cell_below A1.out HBz.out
            have z4 := cell_below A2.out HBz.out
            by_cases hlk : k < l
            · have j3 : (k : Int) < (l : Int) := by omega
              have HK := (show Hid (k < l) from hlk)
              have WK := (show Hid _ from w10 hlk (Nat.le_trans HLN.out.2 (by decide)))
              obtain ⟨y1, o1, e1, Y1⟩ := X1.out (by omega)
              obtain ⟨y2, o2, e2, Y2⟩ := X2.out (by omega)
              rw [e1] at z3
              rw [e2] at z4
              have z5 := cell_below (Y1 k hlk) HBz.out
              have z6 := cell_below (Y2 k hlk) HBz.out
              have DN := (show Hid (∀ z, Ov (wr.drewN z) 3 W0.heap.size (fun x => .int .i64 ((if x = c then cn (A t c) (B t c) k else if x < c then cn (A t x) (B t x) (L.getD x 0) else 0 : Nat) : Int)) L.length ∧ Below W0.heap.size W0 (wr.drewN z)) from fun z => ⟨Ov.below hOz.out (below_drewN (Below.refl _ _) z), below_drewN hBz.out z⟩)
              clear Y1 Y2 hOz hBz HBz hk hlk e1 e2
              by_cases e : A t c k = B t c k
              · have e1 : (el (A t c k) != el (B t c k)) = false := by rw [e]; simp
                have CE := (show Hid _ from cn_eq (u := A t c) (v := B t c) (n := k) e)
                clear e
                go_wp2
                go_quiet (fail)
                obtain ⟨hOd, hbd⟩ := DN.out nq
                go_wp2
                go_roundw
                case rel => exact ⟨k + 1, HK.out, by rw [WK.out], (by show Ov _ _ _ _ _; rw [CE.out]; exact hOd), hbd⟩
                case measure => rw [WK.out]; exact meas10 HK.out
              · have e1 : (el (A t c k) != el (B t c k)) = true := by simp; exact fun h => e (el_inj h)
                have CE := (show Hid _ from cn_ne (u := A t c) (v := B t c) (n := k) e)
                have hy := cn_le (A t c) (B t c) k
                clear e
                go_wp2
                go_quiet (fail)
                obtain ⟨hOd, hbd⟩ := DN.out nq
                clear DN z1 z2 z3 z4 z5 z6 e1
                generalize wr.drewN nq = wd at *
                have HOd := (show Hid _ from hOd)
                have g1 := hOd.cell HC.out
                rw [if_pos rfl] at g1
                have g2 := hOd.frozen c
                have hcl := HC.out
                have jc : (c : Int) < (L.length : Int) := by omega
                obtain ⟨y, hyy⟩ : ∃ y, y = cn (A t c) (B t c) k := ⟨_, rfl⟩
                rw [← hyy] at g1 hy
                have wy : wrap64 ((y : Int) + 1) = (y : Int) + 1 := by have := HLN.out.2; have := HK.out; unfold wrap64; omega
                have HYY := (show Hid _ from hyy)
                clear hyy hOd hy
                go_wp2
                go_roundw
                case rel =>
                  refine ⟨k + 1, HK.out, by rw [WK.out], (HOd.out.set HC.out (.int .i64 ((y : Int) + 1))).congr (fun x _ => ?_), hbd.setCell (Nat.le_refl _) _⟩
                  by_cases e : x = c
                  · rw [if_pos e, if_pos e, CE.out, ← HYY.out, Int.natCast_add]; rfl
                  · rw [if_neg e, if_neg e, if_neg e]
                case measure => rw [WK.out]; exact meas10 HK.out
            · have j3 : ¬ (k : Int) < (l : Int) := by omega
              obtain rfl : k = l := by omega
              go_wp2
              go_roundw
              case rel =>
                refine ⟨c + 1, HC.out, by rw [WC.out], hOz.out.congr (fun x _ => ?_), hBz⟩
                by_cases e : x = c
                · subst e; rw [if_pos rfl, if_pos (Nat.lt_succ_self _), HLN.out.1]
                · rw [if_neg e]
                  by_cases e2 : x < c
                  · rw [if_pos e2, if_pos (by omega)]
                  · rw [if_neg e2, if_neg (by omega)]
              case measure => rw [WC.out]; exact meas10 HC.out
        · have j2 : ¬ (c : Int) < (L.length : Int) := by omega
          obtain rfl : c = L.length := by omega
          have hOf := (show Hid (Ov W1 3 W0.heap.size (fun x => .int .i64 ((cn (A t x) (B t x) (L.getD x 0) : Nat) : Int)) L.length) from hOq.out.congr (fun x hx => by rw [if_pos hx]))
          have HO3 := (show Hid (Oq (W1.alloc (.cells #[.slice (some ⟨W0.heap.size, 0, none⟩) L.length L.length] 24)) w.heap.size u5 us) from (hO.out.below hBq.out).below (al _ _))
          have HR3 := (show Hid (RwQ (W1.alloc (.cells #[.slice (some ⟨W0.heap.size, 0, none⟩) L.length L.length] 24)) us L.length (fun i c => cn (A i c) (B i c) (L.getD c 0))) from (hR.out.below hBq.out).below (al _ _))
          have HF3 := (show Hid (Ov (W1.alloc (.cells #[.slice (some ⟨W0.heap.size, 0, none⟩) L.length L.length] 24)) 3 W0.heap.size (fun x => .int .i64 ((cn (A t x) (B t x) (L.getD x 0) : Nat) : Int)) L.length) from hOf.out.below (al _ _))
          have B3 := (show Hid (Below w.heap.size w (W1.alloc (.cells #[.slice (some ⟨W0.heap.size, 0, none⟩) L.length L.length] 24))) from bt (bt hB.out hBq.out) (al _ _))
          have rc := cell_of_row (W1.alloc (.cells #[.slice (some ⟨W0.heap.size, 0, none⟩) L.length L.length] 24)) W1.heap.size 0 _ _ (0, 0) (heap_alloc_new W1 _)
          have hu9 := (show Hid (us.length + 1 ≤ 1000000) from by have := HL.out.1; have := HT.out; have := HUL.out; show _ ≤ _; omega)
          clear hOf hOq
          go_wp2_with (first
            | (at_builtin; refine wpList_apQ rfl (.tmp 100) (.tmp 102) rfl w.heap.size u5 us rfl HO3.out ⟨W1.heap.size, 0, none⟩ 1 (.slice (some ⟨W0.heap.size, 0, none⟩) L.length L.length) rfl rfl rc hu9.out B3.out.size ?_; intro v7 w7 ho7 hg7))
          go_roundw
          case rel =>
            refine ⟨t + 1, _, HT.out, by rw [WT.out], by rw [List.length_append, HUL.out]; rfl, ho7, ?_, below_append (t := 24) B3.out B3.out.size hg7 HO3.out.own (Nat.le_refl _)⟩
            refine HR3.out.push HO3.out hg7 ?_
            rw [HUL.out]
            exact HF3.out
          case measure => rw [WT.out]; exact meas10 HT.out
    · have j1 : ¬ (t : Int) < (r : Int) := by omega
      obtain rfl : t = r := by omega
      go_wp2
      go_ret
      exact ⟨_, rfl, us, hO.out, hul, hR.out, hB.out⟩
end
end Go.Proofs.Ytleefagabbnkeaa
/-
  StripeAlone: the walk.
-/
namespace Go.Proofs.Ytleefagabbnkeaa
open Go.RowKit
/-- A row of bytes of the law's own that is written over. -/
def Ot (w : World) (base g N cap : Nat) (f : Nat → BitVec 8) : Prop := w.ownsRow base 5 1 (.slice (some ⟨g, 0, none⟩) N cap) N (vs f N)
theorem Ot.of {w : World} {base N : Nat} {v : Value} {d : Nat → BitVec 8} (h : Ow w base v ([] ++ ls d N)) (h0 : 0 < N) : ∃ g cap, v = .slice (some ⟨g, 0, none⟩) N cap ∧ N ≤ cap ∧ base ≤ g ∧ Ot w base g N cap d := by
  unfold Ow at h
  rw [List.nil_append, ls_len, vs_congr (f := fn (ls d N)) (g := d) (fun i hi => ls_get d N i hi)] at h
  rcases h.2 with ⟨_, h1⟩ | ⟨g, cap, cur, hv, hg, _, hc, _⟩
  · omega
  · exact ⟨g, cap, hv, hc, hg, by unfold Ot; rw [← hv]; exact h⟩
theorem Ot.nr {w : World} {base g N cap : Nat} {f : Nat → BitVec 8} (h : Ot w base g N cap f) : NrE w (.slice (some ⟨g, 0, none⟩) N cap) N f := by
  refine ⟨_, _, rfl, .inr ⟨g, 0, rfl, fun i hi => ?_⟩⟩
  rw [Nat.zero_add, World.ownsRow.cellAt h i (by omega), vs_at f N i hi]
  rfl
theorem Ot.cell {w : World} {base g N cap : Nat} {f : Nat → BitVec 8} (h : Ot w base g N cap f) {i : Nat} (hi : i < N) : w.cell? ⟨g, i, none⟩ = some (.int .u8 (el (f i))) := by
  rw [World.ownsRow.cellAt h i (by omega), vs_at f N i hi]
theorem Ot.frozen {w : World} {base g N cap : Nat} {f : Nat → BitVec 8} (h : Ot w base g N cap f) (i : Nat) : w.frozen? ⟨g, i, none⟩ = false := World.ownsRow.frozenAt h i
theorem Ot.set {w : World} {base g N cap : Nat} {f f' : Nat → BitVec 8} (h : Ot w base g N cap f) (j : Nat) (b : BitVec 8) (e : ∀ i, i < N → f' i = if i = j then b else f i) : Ot (w.setCell ⟨g, j, none⟩ (.int .u8 (el b))) base g N cap f' := by
  have h1 := (World.ownsRow.stored h j (.int .u8 (el b))).1
  have e2 : (vs f N).set j (.int .u8 (el b)) = vs f' N := by
    apply List.ext_getElem?
    intro i
    rw [List.getElem?_set]
    by_cases hi : i < N
    · rw [vs_at f' N i hi, e i hi]
      by_cases q : j = i
      · subst q; rw [if_pos rfl, if_pos (by rw [vs_len]; exact hi), if_pos rfl]
      · rw [if_neg q, vs_at f N i hi, if_neg (fun h => q h.symm)]
    · rw [List.getElem?_eq_none (by rw [vs_len]; omega : (vs f' N).length ≤ i), List.getElem?_eq_none (by rw [vs_len]; omega : (vs f N).length ≤ i), vs_len]
      by_cases q : j = i
      · rw [if_pos q, if_neg (by omega)]
      · rw [if_neg q]
  unfold Ot
  rw [← e2]
  exact h1
theorem Ot.drew {w : World} {base g N cap : Nat} {f : Nat → BitVec 8} (h : Ot w base g N cap f) : Ot w.drew base g N cap f := World.ownsRow.drew h
/-- The shards of Split: where their blocks are told. -/
theorem sp_last {w : World} {g n : Nat} {h : Hd} {vs : Nat → Value} (H : Ov w 42 g (flat (spc h n vs)) (n * 17)) (i : Nat) (hi : i < n) : w.cell? ⟨g, i * 17 + 16, none⟩ = some (vs i) := by
  have S := ov_sds (hs := fun i => { h with ix := (i : Int) }) (vs := vs) H (fun i hi => by unfold spc; rw [if_pos hi])
  obtain ⟨p, c, e, _, hh⟩ := S
  injection e with e1 e2 e3
  obtain ⟨b, o, e4, hs⟩ := hh (by omega)
  rw [← e1] at e4
  injection e4 with e4
  injection e4 with e5 e6 _
  have := (hs i hi).last
  rw [← e5, ← e6, Nat.zero_add] at this
  exact this
theorem unl_cn {K : Nat} {F F' : Nat → Nat → BitVec 8} (h : Fac K F) (h' : Fac K F') (L : List Nat) (D D' : Nat → Nat → BitVec 8) (i c : Nat) : cn (fun x => mm fdE K F D i ((L.take c).sum + x)) (fun x => mm fdE K F' D' i ((L.take c).sum + x)) (L.getD c 0) = unl K F L D D' i c := by
  unfold unl
  congr 1
  funext x
  exact h'.word_one h i _
/-- The numbers of the walk. -/
structure Alo (N K B p j s e l row E J U V : Nat) (L : List Nat) : Prop where
  eE : E = (j + 1) * s
  eJ : J = j * s
  eU : U = p - j * s
  eV : V = e - j * s
  es : s = K * B
  ej : j = p / s
  jl : j < L.length
  el : l = L.getD j 0
  ee : e = min N ((j + 1) * s)
  erow : row = (p - j * s) / l
  z : ¬ (s : Int) = 0
  w1 : wrap64 ((K : Int) * (B : Int)) = (s : Int)
  q1 : (p : Int).tdiv (s : Int) = (j : Int)
  w2 : wrap64 (j : Int) = (j : Int)
  w3 : wrap64 ((j : Int) + 1) = (j : Int) + 1
  w4 : wrap64 (((j : Int) + 1) * (s : Int)) = (E : Int)
  m : min (N : Int) (E : Int) = (e : Int)
  pe : p < e
  eN : e ≤ N
  ejs : e ≤ (j + 1) * s
  w5 : wrap64 ((j : Int) * (s : Int)) = (J : Int)
  w6 : wrap64 ((p : Int) - (J : Int)) = (U : Int)
  w7 : wrap64 ((e : Int) - (J : Int)) = (V : Int)
  w8 : wrap64 ((V : Int) + (K : Int)) = (V : Int) + (K : Int)
  w9 : wrap64 ((V : Int) + (K : Int) - 1) = (V : Int) + (K : Int) - 1
  q2 : ((V : Int) + (K : Int) - 1).tdiv (K : Int) = (l : Int)
  w10 : wrap64 (l : Int) = (l : Int)
  z2 : ¬ (l : Int) = 0
  q3 : (U : Int).tdiv (l : Int) = (row : Int)
  w11 : wrap64 (row : Int) = (row : Int)
  zk : ¬ (K : Int) = 0
  rk : row < K
theorem wnat {n : Nat} (h : n ≤ 1099511627776) : wrap64 (n : Int) = (n : Int) := by unfold wrap64; omega
theorem wnat1 {n : Nat} (h : n ≤ 1099511627776) : wrap64 ((n : Int) + 1) = (n : Int) + 1 := by unfold wrap64; omega
theorem alo_of {h : Hd} {N K M B p s : Nat} {L : List Nat} (u : h.Nu N K M B L) (hs0 : s = K * B) (hp : p < N) : ∃ j e l row E J U V, Alo N K B p j s e l row E J U V L := by
  subst hs0
  have k1 := u.k1
  have km := u.km
  have b1 := u.b1
  have b2 := u.b2
  have n1 := u.n1
  have hs : 1 ≤ K * B := Nat.mul_le_mul k1 b1
  have hsB : K * B ≤ 255 * 65536 := Nat.mul_le_mul (by omega) b2
  have jl := nu_at u hp
  obtain ⟨g1, _, g3, _, g5, g6⟩ := nu_get u jl
  obtain ⟨r1, r2, r3⟩ := row_pl u hp rfl
  have d1 : p / (K * B) * (K * B) ≤ p := Nat.div_mul_le_self _ _
  have d2 : p < p / (K * B) * (K * B) + K * B := by have := Nat.lt_div_mul_add (a := p) (b := K * B) (by omega); omega
  have d3 : p / (K * B) ≤ p := Nat.div_le_self _ _
  have d4 : (p / (K * B) + 1) * (K * B) = p / (K * B) * (K * B) + K * B := Nat.succ_mul _ _
  have gl : L.getD (p / (K * B)) 0 ≤ 1048576 + 255 := by rw [g1]; exact Nat.le_trans (Nat.div_le_self _ _) (by omega)
  have en : min N ((p / (K * B) + 1) * (K * B)) - p / (K * B) * (K * B) = min (N - p / (K * B) * (K * B)) (K * B) := by omega
  refine ⟨p / (K * B), _, _, _, _, _, _, _, ⟨rfl, rfl, rfl, rfl, rfl, rfl, jl, rfl, rfl, rfl, by omega, ?_, ?_, ?_, ?_, ?_, ?_, ?_, ?_, ?_, ?_, ?_, ?_, ?_, ?_, ?_, ?_, ?_, ?_, ?_, ?_, r1⟩⟩
  · rw [← Int.natCast_mul]; unfold wrap64; omega
  · rw [← Int.ofNat_tdiv]
  · exact wnat (Nat.le_trans d3 (by omega))
  · exact wnat1 (Nat.le_trans d3 (by omega))
  · rw [show ((p / (K * B) : Nat) : Int) + 1 = ((p / (K * B) + 1 : Nat) : Int) by omega, ← Int.natCast_mul]; unfold wrap64; omega
  · omega
  · omega
  · omega
  · omega
  · rw [← Int.natCast_mul]; unfold wrap64; omega
  · unfold wrap64; omega
  · unfold wrap64; omega
  · unfold wrap64; omega
  · unfold wrap64; omega
  · rw [en, show ((min (N - p / (K * B) * (K * B)) (K * B) : Nat) : Int) + (K : Int) - 1 = ((min (N - p / (K * B) * (K * B)) (K * B) + K - 1 : Nat) : Int) by omega, ← Int.ofNat_tdiv, g1]
  · unfold wrap64; omega
  · omega
  · rw [← Int.ofNat_tdiv]
  · exact wnat (by omega)
  · omega
theorem kb_w {h : Hd} {N K M B : Nat} {L : List Nat} (u : h.Nu N K M B L) : wrap64 ((K : Int) * (B : Int)) = ((K * B : Nat) : Int) := by
  have hsB : K * B ≤ 255 * 65536 := Nat.mul_le_mul (by have := u.km; omega) u.b2
  rw [← Int.natCast_mul]
  exact wnat (by omega)
theorem al_in {k m nt en p N : Nat} (hm : m = min nt (en - p)) (h : k < m) (he : en ≤ N) (hn : N ≤ 1048576) : (k : Int) < (nt : Int) ∧ (p : Int) + (k : Int) < (en : Int) ∧ (p : Int) + (k : Int) < (N : Int) ∧ wrap64 ((p : Int) + (k : Int)) = (p : Int) + (k : Int) ∧ wrap64 ((k : Int) + 1) = ((k + 1 : Nat) : Int) ∧ p + k < N ∧ k < nt ∧ 0 < nt := by
  refine ⟨by omega, by omega, by omega, by unfold wrap64; omega, by unfold wrap64; omega, by omega, by omega, by omega⟩
theorem al_out {k m nt en p N : Nat} (hm : m = min nt (en - p)) (h : k ≤ m) (h2 : ¬ k < m) (he : en ≤ N) (hn : N ≤ 1048576) (hp : p < en) : k = m ∧ ((¬ (k : Int) < (nt : Int)) ∨ ((k : Int) < (nt : Int) ∧ ¬ (p : Int) + (k : Int) < (en : Int) ∧ wrap64 ((p : Int) + (k : Int)) = (p : Int) + (k : Int))) := by
  refine ⟨by omega, ?_⟩
  by_cases h3 : k < nt
  · exact .inr ⟨by omega, by omega, by unfold wrap64; omega⟩
  · exact .inl (by omega)
theorem al_ix {p k N : Nat} (h : p + k < N) (hN : N ≤ 1048576) : IntKind.i64.wrap ((p : Int) + (k : Int)) = (p : Int) + (k : Int) ∧ (0 : Int) ≤ (p : Int) + (k : Int) ∧ ¬ ((p : Int) + (k : Int) < 0) ∧ ¬ ((N : Int) ≤ (p : Int) + (k : Int)) ∧ ((p : Int) + (k : Int)).toNat = p + k := by
  refine ⟨by rw [IntKind.wrap_i64]; omega, by omega, by omega, by omega, by omega⟩
theorem cell_blk {w : World} {b o : Nat} {v : Value} (h : w.cell? ⟨b, o, none⟩ = some v) : b < w.heap.size := by
  rcases Nat.lt_or_ge b w.heap.size with h1 | h1
  · exact h1
  · exfalso
    have e : w.heap[b]? = none := Array.getElem?_eq_none h1
    unfold World.cell? at h
    simp [e] at h
/-- A cell of elder memory stays where a younger row is written. -/
theorem cell_set {w0 wr : World} {b o g i : Nat} {v u : Value} (h : w0.cell? ⟨b, o, none⟩ = some v) (hr : wr.cell? ⟨b, o, none⟩ = some v) (hg : w0.heap.size ≤ g) : (wr.setCell ⟨g, i, none⟩ u).drew.cell? ⟨b, o, none⟩ = some v := by
  have h1 := cell_blk h
  have e : (wr.setCell ⟨g, i, none⟩ u).cell? ⟨b, o, none⟩ = some v := by
    rw [World.cell?_setCell_other _ _ _ _ (fun e => by injection e; omega)]; exact hr
  exact e
theorem al_n1 {nt : Nat} (h : nt ≠ 1) : ((nt : Int) == 1) = false ∧ ¬ (nt : Int) = 1 := by
  refine ⟨?_, by omega⟩
  rw [beq_eq_false_iff_ne]; omega
theorem al_km {K M t : Nat} (h : t < K + M) : (t : Int) < (K : Int) + (M : Int) := by omega
theorem al_kn {K M t : Nat} (h : t ≤ K + M) (h2 : ¬ t < K + M) : t = K + M ∧ ¬ (t : Int) < (K : Int) + (M : Int) := by omega
theorem al_lt {a b : Nat} (h : a < b) : (a : Int) < (b : Int) ∧ ¬ (b : Int) ≤ (a : Int) := by omega
theorem al_nlt {a b : Nat} (h : a ≤ b) (h2 : ¬ a < b) : a = b ∧ ¬ (a : Int) < (b : Int) := by omega
theorem al_w {t N : Nat} (h : t < N) (hN : N ≤ 1048576) : wrap64 ((t : Int) + 1) = ((t + 1 : Nat) : Int) := by unfold wrap64; omega
theorem al_ne {a b : Nat} (h : a ≠ b) : ((a : Int) != (b : Int)) = true ∧ ((a : Int) == (b : Int)) = false ∧ ¬ (a : Int) = (b : Int) := by
  refine ⟨?_, ?_, by omega⟩
  · rw [bne_iff_ne]; omega
  · rw [beq_eq_false_iff_ne]; omega
theorem al_eq (a : Nat) : ((a : Int) != (a : Int)) = false ∧ ((a : Int) == (a : Int)) = true := by simp
/-- The three ways of a shard. -/
theorem al_ways (t row K : Nat) (hr : row < K) : (t = row ∧ t < K) ∨ (t ≠ row ∧ K ≤ t) ∨ (t ≠ row ∧ t < K) := by omega
theorem el_z10 {b : BitVec 8} (h : b = 0#8) : (el b != 0) = false := by subst h; rfl
theorem el_nz10 {b : BitVec 8} (h : b ≠ 0#8) : (el b != 0) = true := by rw [bne_iff_ne]; exact fun e => h (el_inj (b := 0#8) e)
/-- What unlike tells, put together. -/
theorem unl_rows {w : World} {B n K M : Nat} {v : Value} {us : List Value} {f f' : Nat → Nat → Nat} (hO : Oq w B v us) (hR : RwQ w us n f) (hl : us.length = K + M) (h0 : 0 < K + M) (e : ∀ i c, f i c = f' i c) : ∃ g8 c8, v = .slice (some ⟨g8, 0, none⟩) (K + M) c8 ∧ ∀ i, i < K + M → ∃ R, w.cell? ⟨g8, i, none⟩ = some (.slice (some ⟨R, 0, none⟩) n n) ∧ ∀ c, c < n → w.cell? ⟨R, c, none⟩ = some (.int .i64 (f' i c : Int)) := by
  obtain ⟨p, cap, ev, _, h⟩ := hO.rd
  rw [hl] at ev h
  obtain ⟨g8, e8, hc⟩ := h h0
  subst e8
  refine ⟨g8, cap, ev, fun i hi => ?_⟩
  obtain ⟨R, e1, hov⟩ := hR i (by omega)
  refine ⟨R, by rw [hc i hi, e1], fun c hcn => ?_⟩
  rw [hov.cell hcn, e]
theorem nu_le {h : Hd} {N K M B : Nat} {L : List Nat} (u : h.Nu N K M B L) (c : Nat) : L.getD c 0 ≤ 65536 := by
  by_cases hc : c < L.length
  · exact Nat.le_trans (nu_get u hc).2.2.2.1 u.b2
  · rw [List.getD_eq_getElem?_getD, List.getElem?_eq_none (by omega)]; simp
theorem alo_other {h : Hd} {N K M B p j s e l row E J U V m nt : Nat} {L : List Nat} (u : h.Nu N K M B L) (A : Alo N K B p j s e l row E J U V L) (hm : m = min nt (e - p)) {F : Nat → Nat → BitVec 8} (d tb : Nat → BitVec 8) (i c : Nat) (hc : c < L.length) (hne : c ≠ j) : unl K F L (dm K L (pad N d)) (dm K L (pad N (trn d tb p m))) i c = 0 := by
  have h1 := A.ej
  have h2 := A.ejs
  have h3 := A.pe
  rw [A.es] at h1 h2
  exact unl_other u d tb h1 (by omega) hc hne i
theorem alo_one {h : Hd} {N K M B p j s e l row E J U V m nt : Nat} {L : List Nat} (u : h.Nu N K M B L) (A : Alo N K B p j s e l row E J U V L) (hm : m = min nt (e - p)) (hp : p < N) {F : Nat → Nat → BitVec 8} (hF : Fac K F) (d tb : Nat → BitVec 8) {ob : Bool} (hob : ob = (decide (nt = 1) && decide (tb 0 ≠ 0#8))) (h1 : ob = true) (i : Nat) (hi : i < K + M) : unl K F L (dm K L (pad N d)) (dm K L (pad N (trn d tb p m))) i j = if i = row ∨ K ≤ i then 1 else 0 := by
  rw [h1] at hob
  have h2 : nt = 1 ∧ tb 0 ≠ 0#8 := by simpa using hob.symm
  have h3 := A.ej
  have h4 := A.pe
  have h5 := A.erow
  have h6 : m = 1 := by omega
  rw [A.es] at h3
  rw [A.es, A.el] at h5
  rw [h6, h5]
  exact unl_one u hF d tb hp h3 h2.2 i hi
theorem al_ge {a b : Nat} (h : a ≤ b) : (a : Int) ≤ (b : Int) ∧ ¬ (b : Int) < (a : Int) := by omega
theorem trn_succ (d tb : Nat → BitVec 8) (p k i : Nat) : trn d tb p (k + 1) i = if i = p + k then trn d tb p k (p + k) ^^^ tb k else trn d tb p k i := by
  by_cases e : i = p + k
  · subst e; rw [if_pos rfl, trn_in (by omega) (by omega), trn_out (by omega), Nat.add_sub_cancel_left]
  · rw [if_neg e]
    by_cases e2 : p ≤ i ∧ i < p + k
    · rw [trn_in e2.1 (by omega), trn_in e2.1 e2.2]
    · rw [trn_out (by omega), trn_out (by omega)]
theorem NrE.some {w : World} {p : Option Addr} {n c : Nat} {f : Nat → BitVec 8} (h : NrE w (.slice p n c) n f) (h0 : 0 < n) : ∃ b o, p = some ⟨b, o, none⟩ ∧ ∀ i, i < n → w.cell? ⟨b, o + i, none⟩ = some (.int .u8 (el (f i))) := by
  obtain ⟨p', c', e, h⟩ := nr_un h
  injection e with e1 e2 e3
  subst e1
  exact h h0
end Go.Proofs.Ytleefagabbnkeaa
/-
  StripeAlone: the walk.
-/
namespace Go.Proofs.Ytleefagabbnkeaa
open Go.RowKit
section
attribute [local irreducible] Calls el Hd.cs plC PlAt NrE NmE NmT Fac mm dm flat spc str bstr Ov Ot Oq RwQ cn unl trn pad
set_option maxHeartbeats 16000000 in
set_option maxRecDepth 1000000 in
theorem stripeAlone_walk (x : Hd) (pd : Option Addr) (n c : Nat) (d : Nat → BitVec 8) (vp : Value) (at0 : Int) (pt : Option Addr) (nt cq : Nat) (tb : Nat → BitVec 8) (w : World) (hnc : n ≤ c) (hD : NrE w (.slice pd n c) n d) (hT : NrE w (.slice pt nt cq) nt tb) :
    Calls Try.prog 3 #[.agg (plC x (.slice pd n c) vp), .int .i64 at0, .slice pt nt cq] w fun e w' => e = .returned (.bool true) ∧ Below w.heap.size w w' := by
  have al : ∀ (W : World) (o : Obj), Below W.heap.size W (W.alloc o) := fun W o => (Below.refl _ _).alloc (Nat.le_refl _) o
  have H0 := (show Hid _ from PlAt.new w x (.slice pd n c) vp)
  have HD := (show Hid _ from NrE.below hD (al w (.cells (plC x (.slice pd n c) vp) 26)))
  have HA := (show Hid _ from al w (.cells (plC x (.slice pd n c) vp) 26))
  have HT := (show Hid _ from hT)
  have AW := (show Hid _ from awake10)
  clear hD hT
  go_enter Try.func3, Try.ntmps3
  go_upto_if 52 with (first
    | (go_at_call 5; refine (AW.out _).mono ?_; rintro e w1 ⟨rfl, hb1⟩; have P1 := (show Hid _ from H0.out.below hb1); have D1 := (show Hid _ from NrE.below HD.out hb1); clear H0 HD)
    | (refine wpList_ldPl rfl _ rfl w.heap.size rfl P1.out ?_)
    | (go_at_call 6; refine (fit_any x pd n c vp d w1 hnc D1.out).mono ?_; rintro e w2 ⟨K, M, B, N, ep, ct, key, q, r, rfl, hf, hr, hN2, hb2⟩; have N2 := (show Hid _ from hN2); have HF := (show Hid _ from hf); clear P1 D1 hN2 hf)
    | (refine wpList_alHd rfl rfl ?_; intro wa Za hba hsa)
    | (refine wpList_stHd (ftH x K M B key ep ct) rfl _ _ rfl rfl w2.heap.size rfl rfl Za ?_; intro w3 H3 hBu3; have hb3 := (show Hid (Below w2.heap.size w2 w3) from hba.trans hBu3.bl); have N3 := (show Hid _ from NrE.below N2.out hb3.out); clear Za hba hBu3 N2)
    | (refine wpList_loadHd rfl _ rfl w2.heap.size rfl H3 ?_)
    | (go_at_call 7; obtain ⟨L, NU, SPL⟩ := ft_split x HF.out q r hr d w3 N3.out; refine SPL.mono ?_; rintro e w4 ⟨g, F, vs, rfl, hF, hO, hR, hg, hb4⟩; have FA := (show Hid _ from hF); have O4 := (show Hid _ from hO); have R4 := (show Hid _ from hR); have H4 := (show Hid (HdAt w4 w2.heap.size (ftH x K M B key ep ct)) from HdAt.below H3 hb4); have a8 := (show w4.cell? ⟨w2.heap.size, 8, none⟩ = some (.int .i64 (K : Int)) from (HdAt.cells H4.out).1); have a9 := (show w4.cell? ⟨w2.heap.size, 9, none⟩ = some (.int .i64 (M : Int)) from (HdAt.cells H4.out).2.1); have a10 := (show w4.cell? ⟨w2.heap.size, 10, none⟩ = some (.int .i64 (B : Int)) from (HdAt.cells H4.out).2.2.1); have x1 := wrap_km HF.out.km; have x2 : ((K : Int) + (M : Int) != (K : Int) + (M : Int)) = false := (by simp); have hbw4 := (show Hid (Below w.heap.size w w4) from bt (bt (bt (bt HA.out hb1) hb2) hb3.out) hb4); clear hF hO hR SPL; have ZZ := (show Hid _ from kb_w NU.out.1)))
  rcases Nat.eq_zero_or_pos N with hN0 | hN0
  · subst hN0
    obtain ⟨b0, eb0⟩ := (R4.out 0 (by have := HF.out.k1; omega)).1
    have b16 := (show w4.cell? ⟨g, 16, none⟩ = some (.slice (some ⟨b0, 0, none⟩) L.length L.length) from (by have h := sp_last O4.out 0 (by have := HF.out.k1; omega); rw [eb0] at h; exact h))
    have hl0 : (L.length : Int) = 0 := (by have := NU.out.1.r; omega)
    have jk : ¬ (K : Int) + (M : Int) ≤ 0 := (by have := HF.out.k1; omega)
    have jk2 : (0 : Int) < (K : Int) + (M : Int) := (by omega)
    go_wp2
    go_ret
    exact ⟨rfl, hbw4.out⟩
  have j0 : ¬ (N : Int) = 0 := (by omega)
  have j0b : ((N : Int) == 0) = false := by simp; omega
  obtain ⟨s, hs⟩ : ∃ s, s = K * B := ⟨_, rfl⟩
  have y1 := (show wrap64 ((K : Int) * (B : Int)) = (s : Int) from (by rw [hs]; exact ZZ.out))
  have HS := (show Hid _ from hs)
  clear hs
  have PK := (show Hid _ from fun X => pick10 at0 N hN0 (Nat.le_trans HF.out.n1 (by decide)) X)
  have N4 := (show Hid _ from NrE.below N3.out hb4)
  obtain ⟨q', r', eq', hq'⟩ := nr_un N4.out
  injection eq' with eq1 eq2 eq3
  subst eq1
  obtain ⟨bq, oq, rfl, _⟩ := hq' hN0
  clear hq' eq2 eq3
  go_upto_block 0 with (first
    | (go_at_call 8; refine (PK.out _).mono ?_; rintro e w5 ⟨p, rfl, hp, h⟩; obtain rfl := h.symm; clear PK; obtain ⟨j, en, l, row, E, J, U, V, AL⟩ := alo_of NU.out.1 HS.out hp; have HAL := (show Hid _ from AL); have v1 := AL.z; have v2 := AL.q1; have v3 := AL.w2; have v4 := AL.w3; have v7 := AL.w4; have v6 : (∀ (ts : Array TypeId) (ty : TypeId) (W : World), (Builtin.min_ ts ty #[.int .i64 (N : Int), .int .i64 (E : Int)]).run Try.prog W = .ok (.int .i64 (en : Int)) W) := (fun ts ty W => by rw [min2_of N E ts ty W, AL.ee, AL.eE]); clear AL)
    | (at_builtin; refine wpList_app rfl (.const (.slice none 0 0)) (.tmp 80) rfl w4.heap.size (.slice none 0 0) [] rfl (Ow.nil _ _) ⟨bq, oq, none⟩ N r (ls d N) rfl (nr_rd N4.out) (ls_len _ _) (by have := HF.out.n1; simp; omega) (Nat.le_refl _) ?_; intro v5 w5 ho5 hg5 _))
  obtain ⟨g5, cap5, e5, hc5, hg5', hOt⟩ := Ot.of ho5 hN0
  subst e5
  have B5 := (show Hid (Below w4.heap.size w4 w5) from below_append (t := 5) (k := 1) (Below.refl _ _) (Nat.le_refl _) hg5 (World.ownsRow_nil _ _ _ _) (Nat.le_refl _))
  have O5 := (show Hid (Ot w5 w4.heap.size g5 N cap5 (trn d tb p 0)) from (by
    have e : trn d tb p 0 = d := funext fun x => trn_out (by omega)
    show Ot _ _ _ _ _ _
    rw [e]; exact hOt))
  have HP := (show Hid (p < N ∧ w4.heap.size ≤ g5 ∧ N ≤ cap5) from ⟨hp, hg5', hc5⟩)
  clear ho5 hg5 hOt v1 v2 v3 v4 v7 v6 y1 hc5 hg5' hp
  obtain ⟨m, hm⟩ : ∃ m, m = min nt (en - p) := ⟨_, rfl⟩
  have HM := (show Hid _ from hm)
  clear hm
  go_cut [15] from 82 to 110 (fun a wx => Hid (Ot wx w4.heap.size g5 N cap5 (trn d tb p m) ∧ Below w4.heap.size w4 wx))
  case first =>
    go_wp2_with fail
    go_loopw [15] (fun i wr => ∃ k : Nat, k ≤ m ∧ i = .int .i64 (k : Int) ∧ Hid (Ot wr w4.heap.size g5 N cap5 (trn d tb p k)) ∧ Hid (Below w4.heap.size w4 wr)) (fun i _ => m - (intOf i).toNat)
    case atStart => exact ⟨0, Nat.zero_le _, rfl, O5, B5⟩
    case round =>
      obtain ⟨k, hk, rfl, hOk, hBk⟩ := hrel
      by_cases hlt : k < m
      · have HK := (show Hid (k < m) from hlt)
        obtain ⟨j1, j2, j3, wpk, wk, i1, i2, i3⟩ := al_in HM.out hlt HAL.out.eN HF.out.n1
        have WK := (show Hid _ from wk)
        have g1 := hOk.out.cell i1
        have g2 := hOk.out.frozen (p + k)
        obtain ⟨bt', ot', rfl, ht9⟩ := HT.out.some i3
        have g3 := cell_below (ht9 k i2) (hbw4.out.trans (hBk.out.mono hbw4.out.size))
        have ex := el_xor (trn d tb p k (p + k)) (tb k)
        have NX := (show Hid (Ot (wr.drew.setCell ⟨g5, p + k, none⟩ (.int .u8 (el (trn d tb p k (p + k) ^^^ tb k)))) w4.heap.size g5 N cap5 (trn d tb p (k + 1))) from hOk.out.drew.set (p + k) _ (fun i hi => trn_succ d tb p k i))
        have NB := (show Hid (Below w4.heap.size w4 (wr.drew.setCell ⟨g5, p + k, none⟩ (.int .u8 (el (trn d tb p k (p + k) ^^^ tb k))))) from hBk.out.drew.setCell HP.out.2.1 _)
        have II := (show Hid _ from al_ix i1 HF.out.n1)
        clear ht9 hlt hk wk i1 i2 i3
        obtain ⟨y, hy⟩ : ∃ y, y = trn d tb p k (p + k) := ⟨_, rfl⟩
        obtain ⟨z, hz⟩ : ∃ z, z = tb k := ⟨_, rfl⟩
        rw [← hy] at g1 ex NX NB
        rw [← hz] at g3 ex NX NB
        clear hy hz
        obtain ⟨e9, j4, j5, j6, j7⟩ := II.out
        go_wp2
        go_region
        go_wp2
        go_roundw
        case rel => exact ⟨k + 1, HK.out, by rw [WK.out], NX, NB⟩
        case measure => rw [WK.out]; exact meas10 HK.out
      · obtain ⟨rfl, hq | ⟨j1, j2, wpk⟩⟩ := al_out HM.out hk hlt HAL.out.eN HF.out.n1 HAL.out.pe
        all_goals
          go_wp2_with fail
          go_meet
          case rel => exact ⟨hOk.out, hBk.out⟩
  case rest =>
  obtain ⟨w6, hw6⟩ : ∃ w6, w6 = wc := ⟨_, rfl⟩
  rw [← hw6] at hcut ⊢
  have O6 := (show Hid (Ot w6 w4.heap.size g5 N cap5 (trn d tb p m)) from hcut.out.1)
  have B6 := (show Hid (Below w4.heap.size w4 w6) from hcut.out.2)
  have BW6 := (show Hid (Below w.heap.size w w6) from bt hbw4.out B6.out)
  have H6 := (show Hid (HdAt w6 w2.heap.size (ftH x K M B key ep ct)) from H4.out.below B6.out)
  clear hw6 hcut O5 B5 N4 N3 a8 a9 a10
  obtain ⟨ob, hob⟩ : ∃ ob : Bool, ob = (decide (nt = 1) && decide (tb 0 ≠ 0#8)) := ⟨_, rfl⟩
  have HOB := (show Hid _ from hob)
  clear hob
  go_upto_region 18 with fail
  go_cut [16] from 111 to 119 (fun v wx => v = .bool ob ∧ Hid (wx = w6))
  case first =>
    by_cases h1 : nt = 1
    · obtain ⟨bt', ot', rfl, ht9⟩ := HT.out.some (h1 ▸ Nat.one_pos)
      have g3 := cell_below (ht9 0 (h1 ▸ Nat.one_pos)) BW6.out
      rw [Nat.add_zero] at g3
      subst h1
      by_cases h2 : tb 0 = 0#8
      · have e1 := el_z10 h2
        have hb := HOB.out
        rw [h2] at hb
        clear ht9 h2
        go_wp2_with fail
        go_meet
        case rel => exact ⟨by rw [hb]; rfl, rfl⟩
      · have e1 := el_nz10 h2
        have hb : ob = true := by rw [HOB.out]; simp [h2]
        clear ht9 h2
        go_wp2_with fail
        go_meet
        case rel => exact ⟨by rw [hb], rfl⟩
    · have hb : ob = false := by rw [HOB.out]; simp [h1]
      obtain ⟨e1, e2⟩ := al_n1 h1
      clear h1
      go_wp2_with fail
      go_meet
      case rel => exact ⟨by rw [hb], rfl⟩
  case rest =>
  obtain ⟨rfl, hw9⟩ := hcut
  have hw8 := hw9.out
  subst hw8
  have AL := HAL.out
  have n1 := AL.w5
  have n2 := AL.w6
  have n3 := AL.w7
  have n4 := AL.w8
  have n5 := AL.w9
  have n6 := AL.q2
  have n7 := AL.w10
  have n8 := AL.z2
  have n9 := AL.q3
  have n10 := AL.w11
  have n11 := AL.zk
  have a8 := (show wc.cell? ⟨w2.heap.size, 8, none⟩ = some (.int .i64 (K : Int)) from (HdAt.cells H6.out).1)
  clear AL
  have n11b : ((K : Int) == 0) = false := beq_eq_false_iff_ne.2 n11
  have n8b : ((l : Int) == 0) = false := beq_eq_false_iff_ne.2 n8
  have nk : ¬ K = 0 := fun h => n11 (by rw [h]; rfl)
  have nl : ¬ l = 0 := fun h => n8 (by rw [h]; rfl)
  go_wp2_with (first
    | (refine wpList_loadHd rfl _ rfl w2.heap.size rfl H6.out ?_)
    | (go_at_call 7; obtain ⟨L2, NU2, SPL⟩ := ft_split x HF.out (some ⟨g5, 0, none⟩) cap5 HP.out.2.2 (trn d tb p m) wc O6.out.nr; obtain rfl : L2 = L := NU2.out.1.l.trans NU.out.1.l.symm; refine SPL.mono ?_; rintro e w7 ⟨g7, F7, vs7, rfl, hF, hO, hR, hg7, hb7⟩; have FA7 := (show Hid _ from hF); have O7 := (show Hid _ from hO); have R7 := (show Hid _ from hR); clear hF hO hR SPL; have B7 := (show Hid _ from hb7); clear hb7)
    | (go_at_call 9; refine (unlike_any (w := w7) (r := K + M) (vs1 := vs) (vs2 := vs7) (L := L2) (A := fun i c x => mm fdE K F (dm K L2 (pad N d)) i ((L2.take c).sum + x)) (B := fun i c x => mm fdE K F7 (dm K L2 (pad N (trn d tb p m))) i ((L2.take c).sum + x)) HF.out.km (Nat.le_trans NU2.out.1.r NU2.out.1.n1) (nu_le NU2.out.1) (fun i hi => sp_last ((O4.out.below B6.out).below B7.out) i hi) (fun i hi => ⟨(R4.out i hi).1, (((R4.out i hi).2.below B6.out).below B7.out).nm⟩) (fun i hi => sp_last O7.out i hi) (fun i hi => ⟨(R7.out i hi).1, (R7.out i hi).2.nm⟩)).mono ?_; rintro e w8 ⟨v8, us, rfl, hOq, hul, hRq, hb8⟩; obtain ⟨g8, c8, e8, hrows⟩ := unl_rows (K := K) (M := M) hOq hRq hul (Nat.lt_of_lt_of_le HF.out.k1 (Nat.le_add_right _ _)) (fun i c => unl_cn FA.out FA7.out L2 _ _ i c); subst e8; have RQ := (show Hid _ from hrows); have B8 := (show Hid _ from hb8); clear hOq hul hRq hb8 hrows))
  have H8 := (show Hid (HdAt w8 w2.heap.size (ftH x K M B key ep ct)) from (H6.out.below B7.out).below B8.out)
  have BW8 := (show Hid (Below w.heap.size w w8) from bt (bt BW6.out B7.out) B8.out)
  have UO := (show Hid _ from fun i c hc hne => alo_other (F := F) NU2.out.1 HAL.out HM.out d tb i c hc hne)
  have UN := (show Hid _ from fun h1 i hi => alo_one NU2.out.1 HAL.out HM.out HP.out.1 FA.out d tb HOB.out h1 i hi)
  have HK8 := (show Hid (K + M ≤ 1048576 ∧ L2.length ≤ 1048576 ∧ j < L2.length ∧ row < K) from ⟨Nat.le_trans HF.out.km (by decide), Nat.le_trans NU2.out.1.r NU2.out.1.n1, HAL.out.jl, HAL.out.rk⟩)
  have a8 := (show w8.cell? ⟨w2.heap.size, 8, none⟩ = some (.int .i64 (K : Int)) from (HdAt.cells H8.out).1)
  clear n1 n2 n3 n4 n5 n6 n7 n8 n9 n10 n11 n11b n8b nk nl HT O4 R4 O7 R7 O6 H6 H4 B6 hg7
  go_loopw [21] (fun i wr => ∃ t : Nat, t ≤ K + M ∧ i = .int .i64 (t : Int) ∧ wr = w8) (fun i _ => K + M - (intOf i).toNat)
  case atStart => exact ⟨0, Nat.zero_le _, rfl, rfl⟩
  case round =>
    obtain ⟨t, ht, rfl, hw⟩ := hrel
    obtain rfl := hw.symm
    by_cases hlt : t < K + M
    · have HTT := (show Hid (t < K + M) from hlt)
      have j1 := al_km hlt
      have WT := (show Hid _ from al_w hlt HK8.out.1)
      obtain ⟨R, r1, hcells⟩ := RQ.out t hlt
      have HC := (show Hid _ from hcells)
      clear hcells hlt ht hw
      go_wp2
      go_loopw [22] (fun i wr => ∃ c : Nat, c ≤ L2.length ∧ i = .int .i64 (c : Int) ∧ wr = w8) (fun i _ => L2.length - (intOf i).toNat)
      case atStart => exact ⟨0, Nat.zero_le _, rfl, rfl⟩
      case round =>
        obtain ⟨c, hc, rfl, hw⟩ := hrel
        obtain rfl := hw.symm
        by_cases hlc : c < L2.length
        · have HCC := (show Hid (c < L2.length) from hlc)
          obtain ⟨k1, k2⟩ := al_lt hlc
          have WC := (show Hid _ from al_w hlc HK8.out.2.1)
          by_cases hcj : c = j
          · have b1 : ((c : Int) != (j : Int)) = false := by rw [hcj]; exact (al_eq j).1
            clear hcj hlc hc hw
            go_wp2
            go_roundw
            case rel => exact ⟨c + 1, HCC.out, by rw [WC.out], by trivial⟩
            case measure => rw [WC.out]; exact meas10 HCC.out
          · obtain ⟨b1, b2, b3⟩ := al_ne hcj
            have v0 := HC.out c hlc
            rw [UO.out t c hlc hcj] at v0
            have v1 := (show w8.cell? ⟨R, c, none⟩ = some (.int .i64 0) from v0)
            clear v0 hcj hlc hc hw
            go_wp2
            go_roundw
            case rel => exact ⟨c + 1, HCC.out, by rw [WC.out], by trivial⟩
            case measure => rw [WC.out]; exact meas10 HCC.out
        · obtain ⟨-, k1⟩ := al_nlt hc hlc
          clear hc hlc hw
          by_cases hob : ob = true
          · have vj := HC.out j HK8.out.2.2.1
            rw [UN.out hob t HTT.out] at vj
            obtain ⟨k2, k3⟩ := al_lt HK8.out.2.2.1
            subst hob
            rcases al_ways t row K HK8.out.2.2.2 with ⟨h1, h2⟩ | ⟨h1, h2⟩ | ⟨h1, h2⟩
            · rw [if_pos (.inl h1)] at vj
              have v1 := (show w8.cell? ⟨R, j, none⟩ = some (.int .i64 1) from vj)
              have b1 : ((t : Int) != (row : Int)) = false := by rw [h1]; exact (al_eq row).1
              have b2 : ((t : Int) == (row : Int)) = true := by rw [h1]; exact (al_eq row).2
              obtain ⟨b3, b4⟩ := al_lt h2
              clear vj h1 h2
              go_wp2
              go_roundw
              case rel => exact ⟨t + 1, HTT.out, by rw [WT.out], by trivial⟩
              case measure => rw [WT.out]; exact meas10 HTT.out
            · rw [if_pos (.inr h2)] at vj
              have v1 := (show w8.cell? ⟨R, j, none⟩ = some (.int .i64 1) from vj)
              obtain ⟨b1, b2, b3⟩ := al_ne h1
              obtain ⟨b4, b5⟩ := al_ge h2
              clear vj h1 h2
              go_wp2
              go_roundw
              case rel => exact ⟨t + 1, HTT.out, by rw [WT.out], by trivial⟩
              case measure => rw [WT.out]; exact meas10 HTT.out
            · rw [if_neg (fun h => h.elim h1 (fun h3 => Nat.lt_irrefl _ (Nat.lt_of_lt_of_le h2 h3)))] at vj
              have v1 := (show w8.cell? ⟨R, j, none⟩ = some (.int .i64 0) from vj)
              obtain ⟨b1, b2, b3⟩ := al_ne h1
              obtain ⟨b4, b5⟩ := al_lt h2
              clear vj h1 h2
              go_wp2
              go_roundw
              case rel => exact ⟨t + 1, HTT.out, by rw [WT.out], by trivial⟩
              case measure => rw [WT.out]; exact meas10 HTT.out
          · have hob2 : ob = false := by simpa using hob
            clear hob
            subst hob2
            go_wp2
            go_roundw
            case rel => exact ⟨t + 1, HTT.out, by rw [WT.out], by trivial⟩
            case measure => rw [WT.out]; exact meas10 HTT.out
    · obtain ⟨-, j1⟩ := al_kn ht hlt
      clear ht hlt hw
      go_wp2
      go_ret
      exact ⟨rfl, BW8.out⟩
end
end Go.Proofs.Ytleefagabbnkeaa
