/-
  Votes as mathematics: writings and their order, what places show, the groups, the verdict.
-/
import Derived.Test.YtefomnlgpldgnaaRows
import Derived.WalkKit
namespace Go.Proofs.Ytefomnlgpldgnaa
/-- A writing: Epoch, Count, Size. -/
abbrev Wg := Int × Int × Int
def older (a b : Wg) : Bool := if a.1 ≠ b.1 then decide (a.1 < b.1) else if a.2.1 ≠ b.2.1 then decide (a.2.1 < b.2.1) else decide (a.2.2 < b.2.2)
theorem older_iff (a b : Wg) : older a b = true ↔ a.1 < b.1 ∨ (a.1 = b.1 ∧ (a.2.1 < b.2.1 ∨ (a.2.1 = b.2.1 ∧ a.2.2 < b.2.2))) := by
  unfold older
  split
  · simp only [decide_eq_true_eq]; omega
  · split
    · simp only [decide_eq_true_eq]; omega
    · simp only [decide_eq_true_eq]; omega
theorem older_irrefl (a : Wg) : older a a = false := by
  cases h : older a a with
  | false => rfl
  | true => rw [older_iff] at h; omega
theorem older_trans {a b c : Wg} (h : older a b = true) (h' : older b c = true) : older a c = true := by
  rw [older_iff] at *; omega
theorem older_asymm {a b : Wg} (h : older a b = true) : older b a = false := by
  cases h' : older b a with
  | false => rfl
  | true => rw [older_iff] at *; omega
theorem older_total {a b : Wg} (h : a ≠ b) : older a b = true ∨ older b a = true := by
  rw [older_iff, older_iff]
  obtain ⟨a1, a2, a3⟩ := a
  obtain ⟨b1, b2, b3⟩ := b
  simp only [ne_eq, Prod.mk.injEq, not_and] at h
  by_cases h1 : a1 = b1
  · by_cases h2 : a2 = b2
    · have := h h1 h2; simp only; omega
    · simp only; omega
  · simp only; omega
theorem older_ntrans {a b c : Wg} (h : older a b = false) (h' : older b c = false) : older a c = false := by
  cases h2 : older a c with
  | false => rfl
  | true =>
    have e1 := mt (older_iff a b).2 (by simp [h])
    have e2 := mt (older_iff b c).2 (by simp [h'])
    rw [older_iff] at h2
    omega
/-- What place i shows: a kind and a writing. -/
abbrev Shs := Nat → Int × Wg
def sh (s : Shs) (k : Wg) (i : Nat) : Bool := decide ((s i).1 = 2) && decide ((s i).2 = k)
theorem sh_iff (s : Shs) (k : Wg) (i : Nat) : sh s k i = true ↔ (s i).1 = 2 ∧ (s i).2 = k := by unfold sh; simp
/-- The places that show a writing, rising. -/
def plc (s : Shs) (n : Nat) (k : Wg) : List Nat := (List.range n).filter (sh s k)
theorem plc_zero (s : Shs) (k : Wg) : plc s 0 k = [] := rfl
theorem plc_succ (s : Shs) (n : Nat) (k : Wg) : plc s (n + 1) k = plc s n k ++ (if sh s k n = true then [n] else []) := by
  unfold plc
  rw [List.range_succ, List.filter_append]
  congr 1
  by_cases h : sh s k n = true <;> simp [h]
theorem plc_len (s : Shs) (n : Nat) (k : Wg) : (plc s n k).length ≤ n := by
  unfold plc
  have := List.length_filter_le (sh s k) (List.range n)
  simpa using this
theorem mem_plc {s : Shs} {n : Nat} {k : Wg} {i : Nat} : i ∈ plc s n k ↔ i < n ∧ sh s k i = true := by unfold plc; simp
theorem plc_pos {s : Shs} {n : Nat} {k : Wg} (h : ∃ i, i < n ∧ sh s k i = true) : plc s n k ≠ [] := by
  obtain ⟨i, hi⟩ := h
  exact List.ne_nil_of_mem (mem_plc.2 hi)
/-- Hidden places. -/
def hdn (s : Shs) (i : Nat) : Bool := !decide ((s i).1 = 2) && !decide ((s i).1 = 1)
def hds (s : Shs) (n : Nat) : List Nat := (List.range n).filter (hdn s)
def hid (s : Shs) (n : Nat) : Nat := (hds s n).length
theorem hds_succ (s : Shs) (n : Nat) : hds s (n + 1) = hds s n ++ (if hdn s n = true then [n] else []) := by
  unfold hds
  rw [List.range_succ, List.filter_append]
  congr 1
  by_cases h : hdn s n = true <;> simp [h]
theorem hid_le (s : Shs) (n : Nat) : hid s n ≤ n := by
  unfold hid hds
  have := List.length_filter_le (hdn s) (List.range n)
  simpa using this
/-- The groups: the newest first. -/
abbrev Grp := Wg × List Nat
structure IsG (s : Shs) (n : Nat) (l : List Grp) : Prop where
  ord : l.Pairwise fun a b => older b.1 a.1 = true
  all : ∀ k, (∃ i, i < n ∧ sh s k i = true) ↔ ∃ p ∈ l, p.1 = k
  pls : ∀ p ∈ l, p.2 = plc s n p.1
theorem IsG.mem {s : Shs} {n : Nat} {l : List Grp} (h : IsG s n l) (p : Grp) : p ∈ l ↔ (∃ i, i < n ∧ sh s p.1 i = true) ∧ p.2 = plc s n p.1 := by
  constructor
  · intro hp
    exact ⟨(h.all p.1).2 ⟨p, hp, rfl⟩, h.pls p hp⟩
  · rintro ⟨h1, h2⟩
    obtain ⟨q, hq, e⟩ := (h.all p.1).1 h1
    have := h.pls q hq
    have e2 : p = q := by
      apply Prod.ext
      · exact e.symm
      · rw [h2, this, e]
    rw [e2]; exact hq
theorem IsG.eq {s : Shs} {n : Nat} {a b : List Grp} (ha : IsG s n a) (hb : IsG s n b) : a = b := by
  have ni : ∀ {l : List Grp}, (l.Pairwise fun a b => older b.1 a.1 = true) → l.Nodup := fun h => h.imp fun {x y} h e => by subst e; rw [older_irrefl] at h; cases h
  have hp : a.Perm b := (List.perm_ext_iff_of_nodup (ni ha.ord) (ni hb.ord)).2 fun p => by rw [ha.mem, hb.mem]
  exact hp.eq_of_pairwise (le := fun a b : Grp => older b.1 a.1 = true) (fun x y _ _ h1 h2 => by rw [older_asymm h1] at h2; cases h2) ha.ord hb.ord
theorem IsG.pos {s : Shs} {n : Nat} {l : List Grp} (h : IsG s n l) : ∀ p ∈ l, p.2 ≠ [] := fun p hp => by
  rw [h.pls p hp]; exact plc_pos ((h.mem p).1 hp).1
theorem IsG.len {s : Shs} {n : Nat} {l : List Grp} (h : IsG s n l) : ∀ p ∈ l, p.2.length ≤ n := fun p hp => by
  rw [h.pls p hp]; exact plc_len s n p.1
/-- How many places show an older writing than one of the list. -/
def mo (s : Shs) (n : Nat) (k : Wg) : Nat := ((List.range n).filter fun i => decide ((s i).1 = 2) && older (s i).2 k).length
theorem filter_lt {l : List Nat} {p q : Nat → Bool} (h : ∀ i, p i = true → q i = true) {j : Nat} (hj : j ∈ l) (h1 : q j = true) (h2 : p j = false) : (l.filter p).length < (l.filter q).length := by
  induction l with
  | nil => cases hj
  | cons a r ih =>
    rcases List.mem_cons.1 hj with e | hr
    · subst e
      have hle : (r.filter p).length ≤ (r.filter q).length := by
        clear ih hj
        induction r with
        | nil => exact Nat.le_refl _
        | cons b t iht =>
          by_cases hb : p b = true
          · rw [List.filter_cons_of_pos hb, List.filter_cons_of_pos (h b hb)]; simp; exact iht
          · rw [List.filter_cons_of_neg hb]
            by_cases hb' : q b = true
            · rw [List.filter_cons_of_pos hb']; simp; omega
            · rw [List.filter_cons_of_neg hb']; exact iht
      rw [List.filter_cons_of_neg (by simp [h2]), List.filter_cons_of_pos h1]
      simp; omega
    · have := ih hr
      by_cases hb : p a = true
      · rw [List.filter_cons_of_pos hb, List.filter_cons_of_pos (h a hb)]; simp; exact this
      · rw [List.filter_cons_of_neg hb]
        by_cases hb' : q a = true
        · rw [List.filter_cons_of_pos hb']; simp; omega
        · rw [List.filter_cons_of_neg hb']; exact this
theorem mo_lt {s : Shs} {n : Nat} {k k' : Wg} (h : older k k' = true) {i : Nat} (hi : i < n) (hs : sh s k i = true) : mo s n k < mo s n k' := by
  obtain ⟨h1, h2⟩ := (sh_iff s k i).1 hs
  refine filter_lt (j := i) ?_ (List.mem_range.2 hi) ?_ ?_
  · intro j hj
    simp only [Bool.and_eq_true] at hj ⊢
    exact ⟨hj.1, older_trans hj.2 h⟩
  · simp only [h1, h2, h, decide_true, Bool.and_self]
  · simp [h2, older_irrefl]
theorem mo_le (s : Shs) (n : Nat) (k : Wg) : mo s n k ≤ n := by
  unfold mo
  have := List.length_filter_le (fun i => decide ((s i).1 = 2) && older (s i).2 k) (List.range n)
  simpa using this
theorem mo_lt_n {s : Shs} {n : Nat} {k : Wg} {i : Nat} (hi : i < n) (hs : sh s k i = true) : mo s n k < n := by
  obtain ⟨h1, h2⟩ := (sh_iff s k i).1 hs
  have := filter_lt (l := List.range n) (p := fun i => decide ((s i).1 = 2) && older (s i).2 k) (q := fun _ => true) (fun _ _ => rfl) (List.mem_range.2 hi) rfl (by simp [h2, older_irrefl])
  rw [show (List.range n).filter (fun _ => true) = List.range n from List.filter_eq_self.2 fun _ _ => rfl, List.length_range] at this
  exact this
theorem IsG.lenG {s : Shs} {n : Nat} {l : List Grp} (h : IsG s n l) : l.length ≤ n := by
  have key : ∀ r : List Grp, (r.Pairwise fun a b => older b.1 a.1 = true) → (∀ p ∈ r, ∃ i, i < n ∧ sh s p.1 i = true) → ∀ p q, r = p :: q → r.length ≤ mo s n p.1 + 1 := by
    intro r
    induction r with
    | nil => intro _ _ p q e; cases e
    | cons a t ih =>
      intro ho hx p q e
      injection e with e1 e2
      subst e1 e2
      cases t with
      | nil => simp
      | cons b t' =>
        have h1 := ih (List.pairwise_cons.1 ho).2 (fun p hp => hx p (List.mem_cons_of_mem _ hp)) b t' rfl
        obtain ⟨i, hi, hs⟩ := hx b (by simp)
        have := mo_lt ((List.pairwise_cons.1 ho).1 b (by simp)) hi hs
        simp only [List.length_cons] at h1 ⊢
        omega
  cases l with
  | nil => exact Nat.zero_le _
  | cons p q =>
    obtain ⟨i, hi, hs⟩ := ((h.mem p).1 (by simp)).1
    have := key _ h.ord (fun p hp => ((h.mem p).1 hp).1) p q rfl
    have := mo_lt_n hi hs
    omega
end Go.Proofs.Ytefomnlgpldgnaa
