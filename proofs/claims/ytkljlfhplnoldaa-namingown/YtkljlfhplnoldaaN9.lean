/-
  Names and keys as mathematics: digits, a key's name, a name's key; the order; rising lists.
-/
import Derived.Test.YtkljlfhplnoldaaRows
import Derived.Sort.KeysCollected
namespace Go.Proofs.Ytkljlfhplnoldaa
/-- A text: its bytes. -/
abbrev Tx := List UInt8
/-- The digit of a number below 16. -/
def dig (n : Nat) : UInt8 := if n < 10 then UInt8.ofNat (48 + n) else UInt8.ofNat (87 + n)
/-- The number of a digit; -1 of any other byte. -/
def nu (c : UInt8) : Int := if 48 ≤ c.toNat ∧ c.toNat ≤ 57 then (c.toNat : Int) - 48 else if 97 ≤ c.toNat ∧ c.toNat ≤ 102 then (c.toNat : Int) - 87 else -1
/-- A byte's two digits. -/
def d2 (b : UInt8) : Tx := [dig (b.toNat / 16), dig (b.toNat % 16)]
/-- A key's digits. -/
def dgs (k : Tx) : Tx := k.flatMap d2
/-- A key's name. -/
def nm (k : Tx) : Tx := 111 :: dgs k
/-- Is it a key? -/
def fitK (k : Tx) : Prop := 1 ≤ k.length ∧ k.length ≤ 255
/-- The bytes that digits say. -/
def prs : Tx → Option Tx
  | [] => some []
  | [_] => none
  | a :: b :: t => if nu a < 0 ∨ nu b < 0 then none else (prs t).map (UInt8.ofNat (16 * nu a + nu b).toNat :: ·)
/-- A name's key. -/
def ky (s : Tx) : Option Tx := if s.head? = some 111 ∧ 3 ≤ s.length ∧ s.length ≤ 511 ∧ s.length % 2 = 1 then prs s.tail else none
theorem dig_lt : ∀ m < 16, ∀ n < 16, (dig m < dig n ↔ m < n) := by decide
theorem dig_inj : ∀ m < 16, ∀ n < 16, dig m = dig n → m = n := by decide
theorem nu_dig : ∀ n < 16, nu (dig n) = (n : Int) := by decide
theorem dig_rng : ∀ n < 16, (48 ≤ (dig n).toNat ∧ (dig n).toNat ≤ 57) ∨ (97 ≤ (dig n).toNat ∧ (dig n).toNat ≤ 102) := by decide
theorem nu_rng (c : UInt8) : -1 ≤ nu c ∧ nu c ≤ 15 := by
  unfold nu
  split
  · omega
  · split <;> omega
set_option maxRecDepth 100000 in
theorem dig_nu (c : UInt8) (h : ¬ nu c < 0) : dig (nu c).toNat = c := by
  have hc : ∀ n < 256, ¬ nu (UInt8.ofNat n) < 0 → dig (nu (UInt8.ofNat n)).toNat = UInt8.ofNat n := by decide
  have := hc c.toNat (UInt8.toNat_lt c)
  simp at this
  exact this (by omega)
theorem hi16 (b : UInt8) : b.toNat / 16 < 16 := by have := UInt8.toNat_lt b; omega
theorem lo16 (b : UInt8) : b.toNat % 16 < 16 := by omega
theorem d2_nu (b : UInt8) : ¬ (nu (dig (b.toNat / 16)) < 0 ∨ nu (dig (b.toNat % 16)) < 0) ∧ UInt8.ofNat (16 * nu (dig (b.toNat / 16)) + nu (dig (b.toNat % 16))).toNat = b := by
  rw [nu_dig _ (hi16 b), nu_dig _ (lo16 b)]
  refine ⟨by omega, ?_⟩
  apply UInt8.toNat_inj.1
  have := UInt8.toNat_lt b
  simp
  omega
theorem dgs_cons (b : UInt8) (k : Tx) : dgs (b :: k) = dig (b.toNat / 16) :: dig (b.toNat % 16) :: dgs k := rfl
theorem dgs_app (a b : Tx) : dgs (a ++ b) = dgs a ++ dgs b := by simp [dgs]
theorem dgs_len (k : Tx) : (dgs k).length = 2 * k.length := by
  induction k with
  | nil => rfl
  | cons b k ih => rw [dgs_cons]; simp [ih]; omega
theorem nm_len (k : Tx) : (nm k).length = 1 + 2 * k.length := by simp [nm, dgs_len]; omega
theorem prs_dgs (k : Tx) : prs (dgs k) = some k := by
  induction k with
  | nil => rfl
  | cons b k ih =>
    rw [dgs_cons]
    unfold prs
    rw [if_neg (d2_nu b).1, ih, (d2_nu b).2]
    rfl
theorem dgs_prs : ∀ (s k : Tx), prs s = some k → dgs k = s
  | [], k, h => by simp [prs] at h; subst h; rfl
  | [_], k, h => by simp [prs] at h
  | a :: b :: t, k, h => by
    unfold prs at h
    split at h
    · cases h
    · rename_i hn
      cases ht : prs t with
      | none => rw [ht] at h; cases h
      | some k' =>
        rw [ht] at h
        simp at h
        subst h
        have ih := dgs_prs t k' ht
        have ha := nu_rng a
        have hb := nu_rng b
        rw [dgs_cons, ih]
        have e : (UInt8.ofNat (16 * nu a + nu b).toNat).toNat = (16 * nu a + nu b).toNat := by
          simp
          omega
        have e1 : (16 * nu a + nu b).toNat / 16 = (nu a).toNat := by omega
        have e2 : (16 * nu a + nu b).toNat % 16 = (nu b).toNat := by omega
        rw [e, e1, e2, dig_nu a (fun x => hn (.inl x)), dig_nu b (fun x => hn (.inr x))]
theorem dgs_nu (k : Tx) : ∀ c ∈ dgs k, ¬ nu c < 0 := by
  intro c hc
  induction k with
  | nil => simp [dgs] at hc
  | cons b k ih =>
    rw [dgs_cons] at hc
    rcases List.mem_cons.1 hc with rfl | hc
    · rw [nu_dig _ (hi16 b)]; omega
    · rcases List.mem_cons.1 hc with rfl | hc
      · rw [nu_dig _ (lo16 b)]; omega
      · exact ih hc
theorem prs_no {t u : Tx} {a b : UInt8} {i : Nat} (h : t.drop i = a :: b :: u) (hn : nu a < 0 ∨ nu b < 0) : prs t = none := by
  cases hp : prs t with
  | none => rfl
  | some k =>
    exfalso
    have e := dgs_prs t k hp
    have ha : a ∈ t := List.mem_of_mem_drop (i := i) (by rw [h]; simp)
    have hb : b ∈ t := List.mem_of_mem_drop (i := i) (by rw [h]; simp)
    rw [← e] at ha hb
    rcases hn with hn | hn
    · exact dgs_nu k a ha hn
    · exact dgs_nu k b hb hn
/-- Two digits more. -/
theorem dgs_more {t u done : Tx} {a b : UInt8} {j : Nat} (h : t.drop (2 * j) = a :: b :: u) (hd : dgs done = t.take (2 * j)) (ha : ¬ nu a < 0) (hb : ¬ nu b < 0) : dgs (done ++ [UInt8.ofNat (16 * nu a + nu b).toNat]) = t.take (2 * (j + 1)) := by
  have ra := nu_rng a
  have rb := nu_rng b
  have e : (UInt8.ofNat (16 * nu a + nu b).toNat).toNat = (16 * nu a + nu b).toNat := by simp; omega
  have e1 : (16 * nu a + nu b).toNat / 16 = (nu a).toNat := by omega
  have e2 : (16 * nu a + nu b).toNat % 16 = (nu b).toNat := by omega
  have e3 : t.take (2 * (j + 1)) = t.take (2 * j) ++ [a, b] := by
    rw [show 2 * (j + 1) = 2 * j + 2 by omega, List.take_add, h]; rfl
  rw [dgs_app, hd, e3]
  congr 1
  show d2 _ ++ [] = _
  rw [List.append_nil, d2, e, e1, e2, dig_nu a ha, dig_nu b hb]
theorem ky_nm {k : Tx} (h : fitK k) : ky (nm k) = some k := by
  unfold ky
  rw [if_pos ⟨rfl, by rw [nm_len]; unfold fitK at h; omega, by rw [nm_len]; unfold fitK at h; omega, by rw [nm_len]; omega⟩]
  exact prs_dgs k
theorem nm_ky {s k : Tx} (h : ky s = some k) : nm k = s ∧ fitK k := by
  unfold ky at h
  split at h
  · rename_i hc
    obtain ⟨h1, h2, h3, h4⟩ := hc
    cases s with
    | nil => simp at h1
    | cons c t =>
      simp at h1
      subst h1
      have e := dgs_prs t k h
      have el := dgs_len k
      rw [e] at el
      simp at h2 h3 h4
      refine ⟨by rw [nm, e], ?_⟩
      unfold fitK
      omega
  · cases h
/-- The digits' order is the keys'. -/
theorem dgs_lt : ∀ a b : Tx, dgs a < dgs b ↔ a < b
  | [], [] => by simp [dgs]
  | [], y :: b => by simp [dgs, d2]
  | x :: a, [] => by simp [dgs, d2]
  | x :: a, y :: b => by
    rw [dgs_cons, dgs_cons]
    simp only [List.cons_lt_cons_iff]
    rw [dgs_lt a b, dig_lt _ (hi16 x) _ (hi16 y), dig_lt _ (lo16 x) _ (lo16 y)]
    have E1 : dig (x.toNat / 16) = dig (y.toNat / 16) ↔ x.toNat / 16 = y.toNat / 16 := ⟨dig_inj _ (hi16 x) _ (hi16 y), fun h => by rw [h]⟩
    have E2 : dig (x.toNat % 16) = dig (y.toNat % 16) ↔ x.toNat % 16 = y.toNat % 16 := ⟨dig_inj _ (lo16 x) _ (lo16 y), fun h => by rw [h]⟩
    rw [E1, E2, UInt8.lt_iff_toNat_lt, ← UInt8.toNat_inj]
    constructor
    · rintro (h | ⟨h1, h2 | ⟨h2, h3⟩⟩)
      · left; omega
      · left; omega
      · right; exact ⟨by omega, h3⟩
    · rintro (h | ⟨h1, h2⟩)
      · by_cases hx : x.toNat / 16 < y.toNat / 16
        · exact .inl hx
        · exact .inr ⟨by omega, .inl (by omega)⟩
      · exact .inr ⟨by omega, .inr ⟨by omega, h2⟩⟩
theorem nm_lt (a b : Tx) : nm a < nm b ↔ a < b := by
  unfold nm
  rw [List.cons_lt_cons_iff, dgs_lt]
  constructor
  · rintro (h | h)
    · exact absurd h (by decide)
    · exact h.2
  · exact fun h => .inr ⟨rfl, h⟩
theorem dgs_inj {a b : Tx} (h : dgs a = dgs b) : a = b := by
  have := prs_dgs a
  rw [h, prs_dgs b] at this
  exact (Option.some.inj this).symm
theorem nm_inj {a b : Tx} : nm a = nm b ↔ a = b := ⟨fun h => dgs_inj (List.cons.inj h).2, fun h => by rw [h]⟩
theorem dgs_pre : ∀ a b : Tx, dgs a <+: dgs b ↔ a <+: b
  | [], b => by simp [dgs]
  | x :: a, [] => by simp [dgs, d2]
  | x :: a, y :: b => by
    rw [dgs_cons, dgs_cons, List.cons_prefix_cons, List.cons_prefix_cons, List.cons_prefix_cons, dgs_pre a b]
    have E1 : dig (x.toNat / 16) = dig (y.toNat / 16) ↔ x.toNat / 16 = y.toNat / 16 := ⟨dig_inj _ (hi16 x) _ (hi16 y), fun h => by rw [h]⟩
    have E2 : dig (x.toNat % 16) = dig (y.toNat % 16) ↔ x.toNat % 16 = y.toNat % 16 := ⟨dig_inj _ (lo16 x) _ (lo16 y), fun h => by rw [h]⟩
    rw [E1, E2, ← UInt8.toNat_inj]
    constructor
    · rintro ⟨h1, h2, h3⟩; exact ⟨by omega, h3⟩
    · rintro ⟨h1, h2⟩; exact ⟨by omega, by omega, h2⟩
theorem nm_pre (a b : Tx) : nm a <+: nm b ↔ a <+: b := by
  unfold nm
  rw [List.cons_prefix_cons, dgs_pre]
  simp
/-- Rising. -/
def Ris (l : List Tx) : Prop := l.Pairwise (· < ·)
theorem ris_ext {a b : List Tx} (ha : Ris a) (hb : Ris b) (h : ∀ x, x ∈ a ↔ x ∈ b) : a = b := by
  have na : a.Nodup := ha.imp fun h e => by subst e; exact List.lt_irrefl _ h
  have nb : b.Nodup := hb.imp fun h e => by subst e; exact List.lt_irrefl _ h
  have hp : a.Perm b := (List.perm_ext_iff_of_nodup na nb).2 h
  exact hp.eq_of_pairwise (le := fun a b : Tx => a < b) (fun x y _ _ h1 h2 => absurd (List.lt_trans h1 h2) (List.lt_irrefl _)) ha hb
/-- Sorted, each once: rising. -/
theorem ris_sort {l : List Tx} (h : l.Nodup) : Ris (l.mergeSort leB) := by
  have tr : ∀ a b c : Tx, leB a b = true → leB b c = true → leB a c = true := fun a b c h1 h2 => by simp only [leB, decide_eq_true_eq] at *; exact List.le_trans h1 h2
  have to : ∀ a b : Tx, (leB a b || leB b a) = true := fun a b => by simp only [leB, Bool.or_eq_true, decide_eq_true_eq]; exact List.le_total a b
  have hs := List.pairwise_mergeSort tr to l
  have hn : (l.mergeSort leB).Nodup := (List.mergeSort_perm l leB).nodup_iff.2 h
  refine (hs.and hn).imp ?_
  rintro a b ⟨h1, h2⟩
  simp only [leB, decide_eq_true_eq] at h1
  by_cases hlt : a < b
  · exact hlt
  · exact absurd (List.le_antisymm h1 (List.not_lt.1 hlt)) h2
/-- The keys among names that begin with a prefix. -/
def Unds (ns : List Tx) (p : Tx) (x : Tx) : Prop := ∃ n ∈ ns, ky n = some x ∧ p <+: x
/-- What Under answers. -/
def IsU (ns : List Tx) (p : Tx) (l : List Tx) : Prop := Ris l ∧ ∀ x, x ∈ l ↔ Unds ns p x
theorem IsU.eq {ns : List Tx} {p : Tx} {a b : List Tx} (ha : IsU ns p a) (hb : IsU ns p b) : a = b := ris_ext ha.1 hb.1 fun x => by rw [ha.2, hb.2]
/-- A rising list with one text more. -/
def ins (t : Tx) : List Tx → List Tx
  | [] => [t]
  | x :: r => if t < x then t :: x :: r else x :: ins t r
theorem mem_ins (t x : Tx) (l : List Tx) : x ∈ ins t l ↔ x = t ∨ x ∈ l := by
  induction l with
  | nil => simp [ins]
  | cons y r ih =>
    unfold ins
    split
    · simp
    · rw [List.mem_cons, ih, List.mem_cons]
      constructor
      · rintro (h | h | h)
        · exact .inr (.inl h)
        · exact .inl h
        · exact .inr (.inr h)
      · rintro (h | h | h)
        · exact .inr (.inl h)
        · exact .inl h
        · exact .inr (.inr h)
theorem ris_ins {t : Tx} {l : List Tx} (h : Ris l) (ht : t ∉ l) : Ris (ins t l) := by
  induction l with
  | nil => exact List.pairwise_singleton _ _
  | cons y r ih =>
    have h' := List.pairwise_cons.1 h
    unfold ins
    split
    · rename_i hlt
      refine List.pairwise_cons.2 ⟨fun a ha => ?_, h⟩
      rcases List.mem_cons.1 ha with rfl | ha
      · exact hlt
      · exact List.lt_trans hlt (h'.1 a ha)
    · rename_i hlt
      refine List.pairwise_cons.2 ⟨fun a ha => ?_, ih h'.2 fun hm => ht (List.mem_cons_of_mem _ hm)⟩
      rcases (mem_ins t a r).1 ha with rfl | ha
      · by_cases hya : y < a
        · exact hya
        · exact absurd (List.le_antisymm (List.not_lt.1 hya) (List.not_lt.1 hlt)) fun e => ht (e ▸ List.mem_cons_self)
      · exact h'.1 a ha
theorem ris_nil : Ris [] := List.Pairwise.nil
/-- One name more. -/
theorem unds_snoc (ns : List Tx) (n p x : Tx) : Unds (ns ++ [n]) p x ↔ Unds ns p x ∨ (ky n = some x ∧ p <+: x) := by
  unfold Unds
  constructor
  · rintro ⟨m, hm, h⟩
    rcases List.mem_append.1 hm with hm | hm
    · exact .inl ⟨m, hm, h⟩
    · rw [List.mem_singleton.1 hm] at h; exact .inr h
  · rintro (⟨m, hm, h⟩ | h)
    · exact ⟨m, List.mem_append_left _ hm, h⟩
    · exact ⟨n, List.mem_append_right _ (List.mem_singleton.2 rfl), h⟩
theorem isU_nil (p : Tx) : IsU [] p [] := ⟨ris_nil, fun x => by simp [Unds]⟩
theorem isU_skip {ns l : List Tx} {n p : Tx} (h : IsU ns p l) (hn : ∀ x, ky n = some x → p <+: x → x ∈ l) : IsU (ns ++ [n]) p l := by
  refine ⟨h.1, fun x => ?_⟩
  rw [unds_snoc, ← h.2]
  exact ⟨.inl, fun h' => h'.elim id fun ⟨a, b⟩ => hn x a b⟩
theorem isU_ins {ns l : List Tx} {n p x : Tx} (h : IsU ns p l) (hx : ky n = some x) (hp : p <+: x) (hl : x ∉ l) : IsU (ns ++ [n]) p (ins x l) := by
  refine ⟨ris_ins h.1 hl, fun y => ?_⟩
  rw [unds_snoc, ← h.2, mem_ins]
  constructor
  · rintro (rfl | h1)
    · exact .inr ⟨hx, hp⟩
    · exact .inl h1
  · rintro (h1 | ⟨h1, _⟩)
    · exact .inr h1
    · rw [hx] at h1; exact .inl (Option.some.inj h1).symm
end Go.Proofs.Ytkljlfhplnoldaa
