/-
  Votes as mathematics: the verdict by the counts alone; places that change about; hidden ones; few writings count.
-/
import Derived.Test.YtefomnlgpldgnaaVj17
import Derived.Test.YtefomnlgpldgnaaVt17
namespace Go.Proofs.Ytefomnlgpldgnaa
/-- How many places show a writing. -/
def cn (s : Shs) (n : Nat) (k : Wg) : Nat := (plc s n k).length
theorem cn_succ (s : Shs) (n : Nat) (k : Wg) : cn s (n + 1) k = cn s n k + (if sh s k n = true then 1 else 0) := by
  unfold cn
  rw [plc_succ, List.length_append]
  by_cases h : sh s k n = true <;> simp [h]
theorem cn_pos {s : Shs} {n : Nat} {k : Wg} (h : cn s n k ≠ 0) : ∃ i, i < n ∧ sh s k i = true := by
  unfold cn at h
  cases e : plc s n k with
  | nil => rw [e] at h; exact absurd rfl h
  | cons a r =>
    have : a ∈ plc s n k := by rw [e]; exact List.mem_cons_self
    exact ⟨a, mem_plc.1 this⟩
theorem cn_ne {s : Shs} {n : Nat} {k : Wg} {i : Nat} (hi : i < n) (h : sh s k i = true) : cn s n k ≠ 0 := by
  unfold cn
  intro e
  exact plc_pos ⟨i, hi, h⟩ (List.length_eq_zero_iff.1 e)
theorem cn_le_n (s : Shs) (n : Nat) (k : Wg) : cn s n k ≤ n := plc_len s n k
/-- The verdict by the counts alone. -/
def IsJ (K M : Int) (s : Shs) (n : Nat) (v : Vd) : Prop :=
  (v.kd = 1 ∧ K ≤ (cn s n v.wg : Int) ∧ (∀ k', K ≤ (cn s n k' : Int) → k' = v.wg ∨ older k' v.wg = true) ∧ v.pl = plc s n v.wg) ∨
  ((∀ k', (cn s n k' : Int) < K) ∧ v.kd = (if M < (hid s n : Int) then 3 else 2) ∧ v.wg = (0, 0, 0) ∧ v.pl = [])
theorem jdg_is {K M B : Int} {s : Shs} {n : Nat} (hf : fitB K M B n = true) : IsJ K M s n (jdg K M B s n) := by
  have hK : 1 ≤ K := by have := (fitB_iff K M B n).1 hf; omega
  have hin : ∀ k, K ≤ (cn s n k : Int) → (k, plc s n k) ∈ grps s n := fun k hk => ((isG_grps s n).mem _).2 ⟨cn_pos (by intro e; rw [e] at hk; omega), rfl⟩
  unfold jdg
  rw [if_pos hf]
  unfold vjd
  cases h : (grps s n).find? (cnts K) with
  | some p =>
    have hmem := List.mem_of_find?_eq_some h
    have hc : cnts K p = true := List.find?_some h
    have hp := (isG_grps s n).pls p hmem
    left
    refine ⟨rfl, ?_, fun k' hk' => ?_, hp⟩
    · unfold cnts at hc
      simp only [decide_eq_true_eq] at hc
      show K ≤ ((plc s n p.1).length : Int)
      rw [← hp]; exact hc
    · obtain ⟨_, l1, l2, e, hno⟩ := List.find?_eq_some_iff_append.1 h
      have hm := hin k' hk'
      have ho := (isG_grps s n).ord
      rw [e] at hm ho
      rcases List.mem_append.1 hm with h1 | h1
      · have h2 := hno _ h1
        have h3 : cnts K (k', plc s n k') = true := decide_eq_true hk'
        rw [h3] at h2; cases h2
      · rcases List.mem_cons.1 h1 with h2 | h2
        · left; rw [← h2]
        · right
          have := (List.pairwise_append.1 ho).2.1
          exact (List.pairwise_cons.1 this).1 _ h2
  | none =>
    right
    have h0 : ∀ k', (cn s n k' : Int) < K := fun k' => by
      rcases Int.lt_or_le (cn s n k' : Int) K with h1 | h1
      · exact h1
      · have h2 := List.find?_eq_none.1 h _ (hin k' h1)
        exact absurd (show cnts K (k', plc s n k') = true from decide_eq_true h1) h2
    by_cases h1 : M < (hid s n : Int)
    · simp only [if_pos h1]; exact ⟨h0, trivial, trivial, trivial⟩
    · simp only [if_neg h1]; exact ⟨h0, trivial, trivial, trivial⟩
theorem IsJ.like {K M : Int} {s s' : Shs} {n : Nat} {v v' : Vd} (h : IsJ K M s n v) (h' : IsJ K M s' n v') (hc : ∀ k, cn s' n k = cn s n k) (hh : hid s' n = hid s n) : v'.kd = v.kd ∧ v'.wg = v.wg ∧ v'.pl.length = v.pl.length := by
  rcases h with ⟨a1, a2, a3, a4⟩ | ⟨a1, a2, a3, a4⟩
  · rcases h' with ⟨b1, b2, b3, b4⟩ | ⟨b1, b2, b3, b4⟩
    · have e : v'.wg = v.wg := by
        rcases a3 v'.wg (by rw [← hc]; exact b2) with h1 | h1
        · exact h1
        · rcases b3 v.wg (by rw [hc]; exact a2) with h2 | h2
          · exact h2.symm
          · rw [older_asymm h1] at h2; cases h2
      refine ⟨by rw [a1, b1], e, ?_⟩
      rw [a4, b4, e]; exact hc _
    · have := b1 v.wg; rw [hc] at this; omega
  · rcases h' with ⟨b1, b2, b3, b4⟩ | ⟨b1, b2, b3, b4⟩
    · have := a1 v'.wg; rw [← hc] at this; omega
    · exact ⟨by rw [a2, b2, hh], by rw [a3, b3], by rw [a4, b4]⟩
/-- Two places change about. -/
def swp (i j t : Nat) : Nat := if t = i then j else if t = j then i else t
theorem swp_lt {i j t n : Nat} (hi : i < n) (hj : j < n) (ht : t < n) : swp i j t < n := by unfold swp; split; exact hj; split; exact hi; exact ht
theorem swp_swp (i j t : Nat) : swp i j (swp i j t) = t := by
  unfold swp
  by_cases h1 : t = i
  · subst h1
    by_cases h2 : j = t
    · simp [h2]
    · simp [h2]
  · by_cases h2 : t = j
    · subst h2; simp [h1]
    · simp [h1, h2]
theorem swp_perm {i j n : Nat} (hi : i < n) (hj : j < n) : ((List.range n).map (swp i j)).Perm (List.range n) := by
  refine (List.perm_ext_iff_of_nodup ?_ List.nodup_range).2 fun t => ?_
  · unfold List.Nodup
    rw [List.pairwise_map]
    exact List.Pairwise.imp (fun {a b} h e => h (by have := congrArg (swp i j) e; rwa [swp_swp, swp_swp] at this)) List.nodup_range
  · rw [List.mem_map, List.mem_range]
    constructor
    · rintro ⟨a, ha, rfl⟩; exact swp_lt hi hj (List.mem_range.1 ha)
    · intro h; exact ⟨swp i j t, List.mem_range.2 (swp_lt hi hj h), swp_swp i j t⟩
theorem filt_swp {i j n : Nat} (hi : i < n) (hj : j < n) (p : Nat → Bool) : ((List.range n).filter fun t => p (swp i j t)).length = ((List.range n).filter p).length := by
  have h1 := (List.Perm.filter p (swp_perm hi hj)).length_eq
  rw [List.filter_map, List.length_map] at h1
  exact h1
theorem cn_swp {s s' : Shs} {i j n : Nat} (hi : i < n) (hj : j < n) (hs : ∀ t, t < n → s' t = s (swp i j t)) (k : Wg) : cn s' n k = cn s n k := by
  rw [← show ((List.range n).filter fun t => sh s k (swp i j t)).length = cn s n k from filt_swp hi hj (sh s k)]
  unfold cn plc
  congr 1
  refine List.filter_congr fun t ht => ?_
  unfold sh
  rw [hs t (List.mem_range.1 ht)]
theorem hid_swp {s s' : Shs} {i j n : Nat} (hi : i < n) (hj : j < n) (hs : ∀ t, t < n → s' t = s (swp i j t)) : hid s' n = hid s n := by
  rw [← show ((List.range n).filter fun t => hdn s (swp i j t)).length = hid s n from filt_swp hi hj (hdn s)]
  unfold hid hds
  congr 1
  refine List.filter_congr fun t ht => ?_
  unfold hdn
  rw [hs t (List.mem_range.1 ht)]
theorem jdg_swp {K M B : Int} {s s' : Shs} {i j n : Nat} (hi : i < n) (hj : j < n) (hs : ∀ t, t < n → s' t = s (swp i j t)) : (jdg K M B s' n).kd = (jdg K M B s n).kd ∧ (jdg K M B s' n).wg = (jdg K M B s n).wg ∧ (jdg K M B s' n).pl.length = (jdg K M B s n).pl.length := by
  cases hf : fitB K M B n with
  | true => exact (jdg_is hf).like (jdg_is hf) (cn_swp hi hj hs) (hid_swp hi hj hs)
  | false => unfold jdg; rw [hf]; exact ⟨rfl, rfl, rfl⟩
/-- A place more. -/
theorem cn_upd {s s' : Shs} {i : Nat} {k : Wg} (h0 : sh s k i = false) (h1 : sh s' k i = true) (hs : ∀ t, t ≠ i → s' t = s t) : ∀ n, cn s' n k = cn s n k + (if i < n then 1 else 0)
  | 0 => rfl
  | n + 1 => by
    rw [cn_succ, cn_succ, cn_upd h0 h1 hs n]
    by_cases e : n = i
    · subst e
      rw [h0, h1]; simp
    · have : sh s' k n = sh s k n := by unfold sh; rw [hs n e]
      rw [this]
      by_cases h : i < n
      · simp only [if_pos h, if_pos (show i < n + 1 by omega)]; omega
      · simp only [if_neg h, if_neg (show ¬ i < n + 1 by omega)]; omega
theorem cn_same {s s' : Shs} {n : Nat} {k : Wg} (h : ∀ t, t < n → sh s' k t = sh s k t) : cn s' n k = cn s n k := by
  unfold cn plc
  congr 1
  exact List.filter_congr fun t ht => h t (List.mem_range.1 ht)
theorem jdg_more {K M B : Int} {s s' : Shs} {i n : Nat} (hi : i < n) (h1 : (s i).1 = 1) (hv : (jdg K M B s n).kd = 1) (hs : ∀ t, t ≠ i → s' t = s t) (hs' : s' i = (2, (jdg K M B s n).wg)) :
    (jdg K M B s' n).kd = 1 ∧ (jdg K M B s' n).wg = (jdg K M B s n).wg ∧ (jdg K M B s' n).pl.length = (jdg K M B s n).pl.length + 1 := by
  cases hf : fitB K M B n with
  | false => unfold jdg at hv; rw [hf] at hv; simp at hv
  | true =>
    have hJ := jdg_is (s := s) hf
    have hJ' := jdg_is (s := s') hf
    generalize jdg K M B s n = v at *
    generalize jdg K M B s' n = v' at *
    have hsi : ∀ k, sh s k i = false := fun k => by unfold sh; simp [h1]
    have e1 : cn s' n v.wg = cn s n v.wg + 1 := by
      rw [cn_upd (hsi _) (by unfold sh; simp [hs']) hs, if_pos hi]
    have e2 : ∀ k, k ≠ v.wg → cn s' n k = cn s n k := fun k hk => cn_same fun t _ => by
      by_cases e : t = i
      · rw [e, hsi]
        unfold sh
        rw [hs']
        simp only [decide_true, Bool.true_and, decide_eq_false_iff_not]; exact fun h => hk h.symm
      · unfold sh; rw [hs t e]
    rcases hJ with ⟨a1, a2, a3, a4⟩ | ⟨a1, a2, a3, a4⟩
    · rcases hJ' with ⟨b1, b2, b3, b4⟩ | ⟨b1, b2, b3, b4⟩
      · have e : v'.wg = v.wg := by
          by_cases hne : v'.wg = v.wg
          · exact hne
          · rw [e2 _ hne] at b2
            rcases a3 _ b2 with h | h
            · exact h
            · rcases b3 v.wg (by rw [e1]; omega) with h' | h'
              · exact h'.symm
              · rw [older_asymm h] at h'; cases h'
        refine ⟨b1, e, ?_⟩
        rw [a4, b4, e]; exact e1
      · have := b1 v.wg; rw [e1] at this; omega
    · rw [a2] at hv; split at hv <;> cases hv
/-- Some places are hidden. -/
theorem cn_le {s s' : Shs} {k : Wg} : ∀ n, (∀ i, i < n → sh s' k i = true → sh s k i = true) → cn s' n k ≤ cn s n k
  | 0, _ => Nat.le_refl _
  | n + 1, h => by
    have ih := cn_le n fun i hi => h i (by omega)
    rw [cn_succ, cn_succ]
    by_cases e : sh s' k n = true
    · rw [if_pos e, if_pos (h n (by omega) e)]; omega
    · rw [if_neg e]; split <;> omega
theorem cn_hid {s s' : Shs} {k : Wg} : ∀ n, (∀ i, i < n → sh s k i = true → sh s' k i = true ∨ hdn s' i = true) → cn s n k ≤ cn s' n k + hid s' n
  | 0, _ => Nat.zero_le _
  | n + 1, h => by
    have ih := cn_hid n fun i hi => h i (by omega)
    rw [cn_succ, cn_succ, hid_succ]
    by_cases e : sh s k n = true
    · rw [if_pos e]
      rcases h n (by omega) e with e1 | e1
      · rw [if_pos e1]; split <;> omega
      · rw [if_pos e1]; split <;> omega
    · rw [if_neg e]; split <;> split <;> omega
theorem hid_zero {s : Shs} {n : Nat} (h : ∀ i, i < n → hdn s i = false) : hid s n = 0 := by
  unfold hid hds
  rw [List.length_eq_zero_iff, List.filter_eq_nil_iff]
  intro i hi
  rw [h i (List.mem_range.1 hi)]; simp
structure Hdd (s p : Shs) (n : Nat) : Prop where
  bare : ∀ i, i < n → hdn s i = false
  part : ∀ i, i < n → p i = s i ∨ hdn p i = true
theorem Hdd.le {s p : Shs} {n : Nat} (h : Hdd s p n) (k : Wg) : cn p n k ≤ cn s n k := cn_le n fun i hi hp => by
  rcases h.part i hi with e | e
  · unfold sh at hp ⊢; rw [← e]; exact hp
  · exact absurd ((sh_iff _ _ _).1 hp).1 (by unfold hdn at e; simp at e; exact e.1)
theorem Hdd.ge {s p : Shs} {n : Nat} (h : Hdd s p n) (k : Wg) : cn s n k ≤ cn p n k + hid p n := cn_hid n fun i hi hs => by
  rcases h.part i hi with e | e
  · left; unfold sh at hs ⊢; rw [e]; exact hs
  · exact .inr e
theorem Hdd.one {K M B : Int} {s p : Shs} {n : Nat} (h : Hdd s p n) (hf : fitB K M B n = true) : (jdg K M B s n).kd = 1 ∨ (jdg K M B s n).kd = 2 := by
  have hM : 1 ≤ M := by have := (fitB_iff K M B n).1 hf; omega
  rcases jdg_is (s := s) hf with ⟨a1, _⟩ | ⟨_, a2, _⟩
  · exact .inl a1
  · right
    rw [a2, hid_zero h.bare, if_neg (by omega)]
theorem Hdd.told {K M B : Int} {s p : Shs} {n : Nat} (h : Hdd s p n) (hf : fitB K M B n = true) (hw : (jdg K M B p n).kd = 1) :
    (jdg K M B s n).kd = 1 ∧ K ≤ (cn s n (jdg K M B p n).wg : Int) ∧ older (jdg K M B s n).wg (jdg K M B p n).wg = false ∧ (jdg K M B p n).pl.length = cn p n (jdg K M B p n).wg := by
  rcases jdg_is (s := p) hf with ⟨a1, a2, a3, a4⟩ | ⟨_, a2, _⟩
  · have hle := h.le (jdg K M B p n).wg
    have hc : K ≤ (cn s n (jdg K M B p n).wg : Int) := by omega
    rcases jdg_is (s := s) hf with ⟨b1, b2, b3, b4⟩ | ⟨b1, _⟩
    · refine ⟨b1, hc, ?_, by rw [a4]; rfl⟩
      rcases b3 _ hc with e | e
      · rw [← e]; exact older_irrefl _
      · exact older_asymm e
    · have := b1 (jdg K M B p n).wg; omega
  · rw [a2] at hw; split at hw <;> cases hw
theorem pss_snd {K : Int} {h : Nat} {l : List Grp} : (pss K h l).2 = true ↔ ∀ q ∈ l, cnts K q = false := by
  unfold pss
  cases e : l.findIdx? (cnts K) with
  | some i =>
    obtain ⟨hi, h1, _⟩ := List.findIdx?_eq_some_iff_getElem.1 e
    simp only [Bool.false_eq_true, false_iff]
    intro h2
    rw [h2 _ (List.getElem_mem hi)] at h1; cases h1
  | none =>
    rw [List.findIdx?_eq_none_iff] at e
    simp only [true_iff]
    exact e
theorem Hdd.gone {K M B : Int} {s p : Shs} {n : Nat} (h : Hdd s p n) (hf : fitB K M B n = true) (hv : (jdg K M B s n).kd = 2) :
    (pss K (hid p n) (grps p n)).2 = true ∧ (jdg K M B p n).kd = (if (hid p n : Int) ≤ M then 2 else 3) := by
  have h0 : ∀ k, (cn s n k : Int) < K := by
    rcases jdg_is (s := s) hf with ⟨a1, _⟩ | ⟨a1, _⟩
    · rw [a1] at hv; cases hv
    · exact a1
  have h1 : ∀ k, (cn p n k : Int) < K := fun k => by have := h.le k; have := h0 k; omega
  constructor
  · rw [pss_snd]
    intro q hq
    have hp := (isG_grps p n).pls q hq
    have := h1 q.1
    unfold cnts
    rw [hp]
    unfold cn at this
    simpa using this
  · rcases jdg_is (s := p) hf with ⟨_, a2, _⟩ | ⟨_, a2, _⟩
    · have := h1 (jdg K M B p n).wg; omega
    · rw [a2]
      by_cases hh : M < (hid p n : Int)
      · rw [if_pos hh, if_neg (by omega)]
      · rw [if_neg hh, if_pos (by omega)]
theorem Hdd.stays {K M B : Int} {s p : Shs} {n : Nat} (h : Hdd s p n) (hf : fitB K M B n = true) (hv : (jdg K M B s n).kd = 1) (hc : K + (hid p n : Int) ≤ (cn s n (jdg K M B s n).wg : Int)) :
    (jdg K M B p n).kd = 1 ∧ (jdg K M B p n).wg = (jdg K M B s n).wg := by
  have hge := h.ge (jdg K M B s n).wg
  have hcp : K ≤ (cn p n (jdg K M B s n).wg : Int) := by omega
  rcases jdg_is (s := s) hf with ⟨a1, a2, a3, a4⟩ | ⟨_, a2, _⟩
  · rcases jdg_is (s := p) hf with ⟨b1, b2, b3, b4⟩ | ⟨b1, _⟩
    · refine ⟨b1, ?_⟩
      rcases b3 _ hcp with e | e
      · exact e.symm
      · have := h.le (jdg K M B p n).wg
        rcases a3 (jdg K M B p n).wg (by omega) with e' | e'
        · exact e'
        · rw [older_asymm e] at e'; cases e'
    · have := b1 (jdg K M B s n).wg; omega
  · rw [a2] at hv; split at hv <;> cases hv
theorem pss_has {K : Int} {h : Nat} {l : List Grp} (ho : l.Pairwise fun a b => older b.1 a.1 = true) {q : Grp} (hq : q ∈ l) (hp : pq K h q = true) (hn : ∀ r ∈ l, older q.1 r.1 = true → cnts K r = false) : q ∈ (pss K h l).1 := by
  obtain ⟨i, hi, e⟩ := List.getElem_of_mem hq
  unfold pss
  cases hf : l.findIdx? (cnts K) with
  | none => exact List.mem_filter.2 ⟨hq, hp⟩
  | some j =>
    refine List.mem_filter.2 ⟨?_, hp⟩
    obtain ⟨hj, h1, _⟩ := List.findIdx?_eq_some_iff_getElem.1 hf
    rw [List.mem_take_iff_getElem]
    refine ⟨i, ?_, e⟩
    rcases Nat.lt_or_ge j i with hlt | hge
    · have h2 := List.pairwise_iff_getElem.1 ho j i hj hi hlt
      rw [e] at h2
      rw [hn _ (List.getElem_mem hj) h2] at h1; cases h1
    · omega
theorem Hdd.may {K M B : Int} {s p : Shs} {n : Nat} (h : Hdd s p n) (hf : fitB K M B n = true) (hv : (jdg K M B s n).kd = 1) (he : ∀ i, i < n → hdn p i = true → (s i).1 = 2 → cn p n (s i).2 ≠ 0) :
    ∃ q ∈ (pss K (hid p n) (grps p n)).1, q.1 = (jdg K M B s n).wg := by
  have hK : 1 ≤ K := by have := (fitB_iff K M B n).1 hf; omega
  rcases jdg_is (s := s) hf with ⟨a1, a2, a3, a4⟩ | ⟨_, a2, _⟩
  · generalize (jdg K M B s n).wg = k at *
    obtain ⟨i, hi, hs⟩ := cn_pos (s := s) (n := n) (k := k) (by omega)
    have hp0 : cn p n k ≠ 0 := by
      rcases h.part i hi with e | e
      · exact cn_ne hi (by unfold sh at hs ⊢; rw [e]; exact hs)
      · have h2 := (sh_iff _ _ _).1 hs
        have := he i hi e h2.1
        rwa [h2.2] at this
    refine ⟨(k, plc p n k), pss_has (isG_grps p n).ord (((isG_grps p n).mem _).2 ⟨cn_pos hp0, rfl⟩) ?_ (fun r hr ho => ?_), rfl⟩
    · have := h.ge k
      unfold pq
      unfold cn at this a2
      simp only [decide_eq_true_eq]
      omega
    · have hr2 := (isG_grps p n).pls r hr
      have hle := h.le r.1
      cases hc : cnts K r with
      | false => rfl
      | true =>
        unfold cnts at hc
        rw [hr2] at hc
        simp only [decide_eq_true_eq] at hc
        rcases a3 r.1 (by unfold cn at hle ⊢; omega) with e | e
        · rw [← e, older_irrefl] at ho; cases ho
        · rw [older_asymm e] at ho; cases ho
  · rw [a2] at hv; split at hv <;> cases hv
/-- Few writings count. -/
def totG (l : List Grp) : Nat := (l.map fun p => p.2.length).sum
def cntG (K : Int) (l : List Grp) : Nat := (l.filter (cnts K)).length
def xctG (K : Int) (l : List Grp) : Nat := (l.filter fun p => decide ((p.2.length : Int) = K)).length
theorem tot_snoc (l : List Grp) (p : Grp) : totG (l ++ [p]) = totG l + p.2.length := by unfold totG; simp
theorem cnt_snoc (K : Int) (l : List Grp) (p : Grp) : cntG K (l ++ [p]) = cntG K l + (if K ≤ (p.2.length : Int) then 1 else 0) := by
  unfold cntG
  rw [List.filter_append, List.length_append]
  by_cases h : K ≤ (p.2.length : Int)
  · have e : cnts K p = true := decide_eq_true h
    rw [List.filter_cons_of_pos e, if_pos h]; rfl
  · have e : ¬ cnts K p = true := by unfold cnts; simpa using h
    rw [List.filter_cons_of_neg e, if_neg h]; rfl
theorem xct_snoc (K : Int) (l : List Grp) (p : Grp) : xctG K (l ++ [p]) = xctG K l + (if (p.2.length : Int) = K then 1 else 0) := by
  unfold xctG
  rw [List.filter_append, List.length_append]
  by_cases h : (p.2.length : Int) = K
  · rw [List.filter_cons_of_pos (by simpa using h), if_pos h]; rfl
  · rw [List.filter_cons_of_neg (by simpa using h), if_neg h]; rfl
theorem take_one {l : List Grp} {t : Nat} (ht : t < l.length) : l.take (t + 1) = l.take t ++ [l.getD t ((0, 0, 0), [])] := by
  rw [List.take_add_one, List.getElem?_eq_getElem ht, List.getD_eq_getElem?_getD, List.getElem?_eq_getElem ht]; rfl
theorem cnt_cons (K : Int) (p : Grp) (l : List Grp) : cntG K (p :: l) = cntG K l + (if K ≤ (p.2.length : Int) then 1 else 0) := by
  unfold cntG
  by_cases h : K ≤ (p.2.length : Int)
  · have e : cnts K p = true := decide_eq_true h
    rw [List.filter_cons_of_pos e, if_pos h]; rfl
  · have e : ¬ cnts K p = true := by unfold cnts; simpa using h
    rw [List.filter_cons_of_neg e, if_neg h]; rfl
theorem xct_cons (K : Int) (p : Grp) (l : List Grp) : xctG K (p :: l) = xctG K l + (if (p.2.length : Int) = K then 1 else 0) := by
  unfold xctG
  by_cases h : (p.2.length : Int) = K
  · rw [List.filter_cons_of_pos (by simpa using h), if_pos h]; rfl
  · rw [List.filter_cons_of_neg (by simpa using h), if_neg h]; rfl
theorem cnt_tot (K : Nat) : ∀ l : List Grp, K * cntG K l + cntG K l ≤ totG l + xctG K l ∧ xctG K l ≤ cntG K l
  | [] => ⟨by simp [cntG, totG, xctG], by simp [cntG, xctG]⟩
  | p :: l => by
    have ih := cnt_tot K l
    rw [cnt_cons, xct_cons, show totG (p :: l) = p.2.length + totG l from by unfold totG; simp]
    by_cases h : (K : Int) ≤ (p.2.length : Int)
    · rw [if_pos h, Nat.mul_add]
      by_cases h2 : (p.2.length : Int) = K
      · rw [if_pos h2]; omega
      · rw [if_neg h2]; omega
    · rw [if_neg h, if_neg (by omega)]
      simp only [Nat.add_zero]; omega
/-- How many places show a writing, whichever. -/
def shd (s : Shs) (n : Nat) : Nat := ((List.range n).filter fun i => decide ((s i).1 = 2)).length
theorem shd_succ (s : Shs) (n : Nat) : shd s (n + 1) = shd s n + (if (s n).1 = 2 then 1 else 0) := by
  unfold shd
  rw [List.range_succ, List.filter_append, List.length_append]
  by_cases h : (s n).1 = 2 <;> simp [h]
theorem shd_le (s : Shs) (n : Nat) : shd s n ≤ n := by
  unfold shd
  have := List.length_filter_le (fun i => decide ((s i).1 = 2)) (List.range n)
  simpa using this
theorem sum_one {s : Shs} {n : Nat} : ∀ {ks : List Wg}, ks.Nodup → (ks.map fun k => if sh s k n = true then 1 else 0).sum = if (s n).1 = 2 ∧ (s n).2 ∈ ks then 1 else 0
  | [], _ => by simp
  | k :: r, h => by
    have h' := List.nodup_cons.1 h
    rw [List.map_cons, List.sum_cons, sum_one h'.2]
    by_cases e : sh s k n = true
    · have h2 := (sh_iff _ _ _).1 e
      rw [if_pos e, if_neg (by rw [h2.2]; exact fun x => h'.1 x.2), if_pos ⟨h2.1, by rw [h2.2]; exact List.mem_cons_self⟩]
    · rw [if_neg e]
      by_cases h3 : (s n).1 = 2 ∧ (s n).2 ∈ r
      · rw [if_pos h3, if_pos ⟨h3.1, List.mem_cons_of_mem _ h3.2⟩]
      · rw [if_neg h3, if_neg]
        rintro ⟨h4, h5⟩
        rcases List.mem_cons.1 h5 with h6 | h6
        · exact e ((sh_iff _ _ _).2 ⟨h4, h6⟩)
        · exact h3 ⟨h4, h6⟩
theorem sum_cn (s : Shs) {ks : List Wg} (h : ks.Nodup) : ∀ n, (∀ i, i < n → (s i).1 = 2 → (s i).2 ∈ ks) → (ks.map fun k => cn s n k).sum = shd s n
  | 0, _ => by
    show _ = 0
    clear h
    induction ks with
    | nil => rfl
    | cons k r ih => rw [List.map_cons, List.sum_cons, ih fun i hi => absurd hi (Nat.not_lt_zero i)]; rfl
  | n + 1, hm => by
    have h1 : (fun k => cn s (n + 1) k) = fun k => cn s n k + (if sh s k n = true then 1 else 0) := funext fun k => cn_succ s n k
    have h2 : ∀ (l : List Wg) (f g : Wg → Nat), (l.map fun k => f k + g k).sum = (l.map f).sum + (l.map g).sum := by
      intro l f g
      induction l with
      | nil => rfl
      | cons a r ih => simp only [List.map_cons, List.sum_cons, ih]; omega
    rw [h1, h2, sum_cn s h n (fun i hi => hm i (by omega)), sum_one h, shd_succ]
    by_cases e : (s n).1 = 2
    · rw [if_pos e, if_pos ⟨e, hm n (by omega) e⟩]
    · rw [if_neg e, if_neg (fun x => e x.1)]
theorem kys_nodup (s : Shs) (n : Nat) : (kys s n).Nodup := (kys_ord s n).imp fun {x y} h e => by subst e; rw [older_irrefl] at h; cases h
theorem tot_grps (s : Shs) (n : Nat) : totG (grps s n) = shd s n := by
  rw [← sum_cn s (kys_nodup s n) n fun i hi h => (kys_mem s _ n).2 ⟨i, hi, (sh_iff _ _ _).2 ⟨h, rfl⟩⟩]
  unfold totG grps cn
  rw [List.map_map]; rfl
theorem few {K M B : Int} {s : Shs} {n : Nat} (hf : fitB K M B n = true) : cntG K (grps s n) ≤ 2 ∧ (cntG K (grps s n) = 2 → K = M ∧ xctG K (grps s n) = 2) := by
  obtain ⟨h1, h2⟩ := (fitB_iff K M B n).1 hf
  obtain ⟨k, rfl⟩ : ∃ k : Nat, K = (k : Int) := ⟨K.toNat, by omega⟩
  obtain ⟨h3, h4⟩ := cnt_tot k (grps s n)
  have h5 := shd_le s n
  rw [← tot_grps] at h5
  generalize cntG (k : Int) (grps s n) = c at *
  generalize xctG (k : Int) (grps s n) = e at *
  generalize totG (grps s n) = t at *
  have h6 : c ≤ 2 := by
    rcases Nat.lt_or_ge 2 c with h | h
    · have := Nat.mul_le_mul_left k (show 3 ≤ c from h)
      omega
    · exact h
  refine ⟨h6, fun h7 => ?_⟩
  subst h7
  omega
theorem cnt_zero {K M B : Int} {s : Shs} {n : Nat} (hf : fitB K M B n = true) : cntG K (grps s n) = 0 ↔ (jdg K M B s n).kd ≠ 1 := by
  have hK : 1 ≤ K := by have := (fitB_iff K M B n).1 hf; omega
  have key : cntG K (grps s n) = 0 ↔ ∀ k, (cn s n k : Int) < K := by
    unfold cntG
    rw [List.length_eq_zero_iff, List.filter_eq_nil_iff]
    constructor
    · intro h k
      rcases Int.lt_or_le (cn s n k : Int) K with h1 | h1
      · exact h1
      · exact absurd (show cnts K (k, plc s n k) = true from decide_eq_true h1) (h _ (((isG_grps s n).mem (k, plc s n k)).2 ⟨cn_pos (by intro e; rw [e] at h1; omega), rfl⟩))
    · intro h p hp hc
      have h1 := (isG_grps s n).pls p hp
      have h2 := h p.1
      have h3 : K ≤ (p.2.length : Int) := of_decide_eq_true hc
      rw [h1] at h3
      unfold cn at h2
      omega
  rw [key]
  rcases jdg_is (s := s) hf with ⟨a1, a2, _⟩ | ⟨a1, a2, _⟩
  · rw [a1]
    simp only [ne_eq, not_true, iff_false]
    intro h
    have := h (jdg K M B s n).wg
    omega
  · rw [a2]
    constructor
    · intro _ h; split at h <;> cases h
    · intro _; exact a1
theorem jdg_one {K M B : Int} {s : Shs} {n : Nat} (hf : fitB K M B n = true) (hv : (jdg K M B s n).kd = 1) : K ≤ ((jdg K M B s n).pl.length : Int) ∧ (jdg K M B s n).pl.length = cn s n (jdg K M B s n).wg ∧ ∀ p ∈ grps s n, K ≤ (p.2.length : Int) → older (jdg K M B s n).wg p.1 = false := by
  rcases jdg_is (s := s) hf with ⟨a1, a2, a3, a4⟩ | ⟨_, a2, _⟩
  · refine ⟨by rw [a4]; exact a2, by rw [a4]; rfl, fun p hp hc => ?_⟩
    have h1 := (isG_grps s n).pls p hp
    rcases a3 p.1 (by unfold cn; rw [← h1]; exact hc) with e | e
    · rw [e]; exact older_irrefl _
    · exact older_asymm e
  · rw [a2] at hv; split at hv <;> cases hv
theorem filt_not (l : List Nat) (p : Nat → Bool) : (l.filter fun i => !p i).length + (l.filter p).length = l.length := by
  induction l with
  | nil => rfl
  | cons a r ih =>
    by_cases h : p a = true
    · rw [List.filter_cons_of_neg (by simp [h]), List.filter_cons_of_pos h, List.length_cons, List.length_cons]; omega
    · rw [List.filter_cons_of_pos (by simp [h]), List.filter_cons_of_neg h, List.length_cons, List.length_cons]; omega
end Go.Proofs.Ytefomnlgpldgnaa
