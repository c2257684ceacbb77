/-
  Votes as mathematics: what may be the verdict, if hidden places show something.
-/
import Derived.Test.YtcoegbbhmdbafaaVy17
namespace Go.Proofs.Ytcoegbbhmdbafaa
/-- Hidden places show this instead. -/
def flS (s : Shs) (x : Int × Wg) : Shs := fun i => if hdn s i = true then x else s i
theorem hdn_iff (s : Shs) (i : Nat) : hdn s i = true ↔ (s i).1 ≠ 2 ∧ (s i).1 ≠ 1 := by unfold hdn; simp
/-- All places that show another writing are as before. -/
theorem plc_fl_ne {s : Shs} {n : Nat} {k k' : Wg} (h : k' ≠ k) : plc (flS s (2, k)) n k' = plc s n k' := List.filter_congr fun i _ => by
  unfold sh flS
  by_cases hh : hdn s i = true
  · rw [if_pos hh]
    have := (hdn_iff s i).1 hh
    have e : ¬ k = k' := fun e => h e.symm
    simp [this.1, e]
  · rw [if_neg hh]
theorem plc_fl_none {s : Shs} {n : Nat} {k' k0 : Wg} : plc (flS s (1, k0)) n k' = plc s n k' := List.filter_congr fun i _ => by
  unfold sh flS
  by_cases hh : hdn s i = true
  · rw [if_pos hh]
    have := (hdn_iff s i).1 hh
    simp [this.1]
  · rw [if_neg hh]
theorem sh_fl {s : Shs} {k : Wg} (i : Nat) : sh (flS s (2, k)) k i = (sh s k i || hdn s i) := by
  unfold sh flS
  by_cases hh : hdn s i = true
  · rw [if_pos hh, hh]; simp
  · rw [if_neg hh]
    simp [hh]
theorem plc_fl_len (s : Shs) (k : Wg) : ∀ n, (plc (flS s (2, k)) n k).length = (plc s n k).length + hid s n
  | 0 => rfl
  | n + 1 => by
    rw [plc_succ, plc_succ, hid_succ, List.length_append, List.length_append, plc_fl_len s k n, sh_fl]
    by_cases hh : hdn s n = true
    · have h0 : sh s k n = false := by
        cases e : sh s k n with
        | false => rfl
        | true => exact absurd ((sh_iff _ _ _).1 e).1 ((hdn_iff s n).1 hh).1
      rw [hh, h0]; simp; omega
    · have hf : hdn s n = false := by simpa using hh
      rw [hf]
      by_cases h0 : sh s k n = true <;> simp [h0] <;> omega
theorem hid_fl {s : Shs} {x : Int × Wg} (hx : x.1 = 2 ∨ x.1 = 1) (n : Nat) : hid (flS s x) n = 0 := by
  unfold hid hds
  rw [List.length_eq_zero_iff, List.filter_eq_nil_iff]
  intro i _ h
  have := (hdn_iff _ _).1 h
  unfold flS at this
  by_cases hh : hdn s i = true
  · rw [if_pos hh] at this
    rcases hx with e | e
    · exact this.1 e
    · exact this.2 e
  · rw [if_neg hh] at this
    exact hh ((hdn_iff _ _).2 this)
/-- The groups, if the hidden places show a writing that is shown. -/
theorem grps_fl {s : Shs} {n : Nat} {k : Wg} (hk : ∃ i, i < n ∧ sh s k i = true) : grps (flS s (2, k)) n = (kys s n).map fun k' => (k', plc (flS s (2, k)) n k') := by
  refine (isG_grps _ n).eq ⟨?_, fun k' => ?_, fun p hp => ?_⟩
  · rw [List.pairwise_map]; exact kys_ord s n
  · constructor
    · rintro ⟨i, hi, h⟩
      refine ⟨_, List.mem_map.2 ⟨k', ?_, rfl⟩, rfl⟩
      rw [kys_mem]
      by_cases e : k' = k
      · rw [e]; exact hk
      · have := mem_plc (s := flS s (2, k)) (n := n) (k := k') (i := i) |>.2 ⟨hi, h⟩
        rw [plc_fl_ne e] at this
        exact ⟨i, mem_plc.1 this⟩
    · rintro ⟨p, hp, rfl⟩
      obtain ⟨k', hk', rfl⟩ := List.mem_map.1 hp
      rw [kys_mem] at hk'
      obtain ⟨i, hi, h⟩ := hk'
      refine ⟨i, hi, ?_⟩
      have := (sh_iff _ _ _).1 h
      rw [sh_iff]
      unfold flS
      have hh : ¬ hdn s i = true := fun hh => ((hdn_iff s i).1 hh).1 this.1
      rw [if_neg hh]
      exact this
  · obtain ⟨k', _, rfl⟩ := List.mem_map.1 hp
    rfl
theorem grps_none {s : Shs} {n : Nat} {k0 : Wg} : grps (flS s (1, k0)) n = grps s n := by
  refine (isG_grps _ n).eq ⟨(isG_grps s n).ord, fun k' => ?_, fun p hp => ?_⟩
  · rw [← (isG_grps s n).all k']
    constructor
    · rintro ⟨i, hi, h⟩
      have := mem_plc (s := flS s (1, k0)) (n := n) (k := k') (i := i) |>.2 ⟨hi, h⟩
      rw [plc_fl_none] at this
      exact ⟨i, mem_plc.1 this⟩
    · rintro ⟨i, hi, h⟩
      have := mem_plc (s := s) (n := n) (k := k') (i := i) |>.2 ⟨hi, h⟩
      rw [← plc_fl_none (k0 := k0)] at this
      exact ⟨i, mem_plc.1 this⟩
  · rw [plc_fl_none]; exact (isG_grps s n).pls p hp
/-- Is this group the verdict, if all hidden places show it? -/
def isV (K M B : Int) (s : Shs) (n : Nat) (k : Wg) : Bool := decide ((jdg K M B (flS s (2, k)) n).kd = 1) && decide ((jdg K M B (flS s (2, k)) n).wg = k)
theorem find_map_key {l : List Wg} {f : Wg → List Nat} {K : Int} : ((l.map fun k' => (k', f k')).find? (cnts K)).map (·.1) = l.find? fun k' => decide (K ≤ ((f k').length : Int)) := by
  induction l with
  | nil => rfl
  | cons a r ih =>
    rw [List.map_cons, List.find?_cons, List.find?_cons]
    unfold cnts
    by_cases h : K ≤ ((f a).length : Int)
    · simp [h]
    · simp only [h, decide_false]
      exact ih
theorem isV_find {K M B : Int} {s : Shs} {n : Nat} (hf : fitB K M B n = true) (k : Wg) : isV K M B s n k = decide (((grps (flS s (2, k)) n).find? (cnts K)).map (·.1) = some k) := by
  unfold isV jdg
  rw [if_pos hf]
  unfold vjd
  cases h : (grps (flS s (2, k)) n).find? (cnts K) with
  | some p => simp
  | none =>
    simp only [Option.map_none]
    split <;> simp
theorem isV_iff {K M B : Int} {s : Shs} {n : Nat} (hf : fitB K M B n = true) {i : Nat} (hi : i < (grps s n).length) :
    isV K M B s n ((grps s n).getD i ((0, 0, 0), [])).1 = true ↔ pq K (hid s n) ((grps s n).getD i ((0, 0, 0), [])) = true ∧ ∀ j, j < i → cnts K ((grps s n).getD j ((0, 0, 0), [])) = false := by
  have hlen : i < (kys s n).length := by unfold grps at hi; simpa using hi
  have hget : ∀ j (hj : j < (kys s n).length), (grps s n).getD j ((0, 0, 0), []) = ((kys s n)[j], plc s n (kys s n)[j]) := by
    intro j hj
    unfold grps
    simp [List.getD, hj]
  rw [hget i hlen]
  obtain ⟨k, hk⟩ : ∃ k, (kys s n)[i] = k := ⟨_, rfl⟩
  rw [hk]
  have hsk : ∃ i, i < n ∧ sh s k i = true := (kys_mem s k n).1 (hk ▸ List.getElem_mem _)
  have hnd : ∀ j, (hj : j < i) → (kys s n)[j]'(by omega) ≠ k := by
    intro j hj e
    have := List.pairwise_iff_getElem.1 (kys_ord s n) j i (by omega) hlen hj
    rw [e, hk, older_irrefl] at this
    cases this
  have hpk : decide (K ≤ ((plc (flS s (2, k)) n k).length : Int)) = pq K (hid s n) (k, plc s n k) := by
    unfold pq
    rw [plc_fl_len]
    simp
  have hpj : ∀ j, (hj : j < i) → decide (K ≤ ((plc (flS s (2, k)) n ((kys s n)[j]'(by omega))).length : Int)) = cnts K ((grps s n).getD j ((0, 0, 0), [])) := by
    intro j hj
    rw [hget j (by omega), plc_fl_ne (hnd j hj)]
    rfl
  rw [isV_find hf, grps_fl hsk, find_map_key, decide_eq_true_iff, List.find?_eq_some_iff_getElem, ← hpk]
  constructor
  · rintro ⟨h1, j, hj, e, h2⟩
    have hji : j = i := by
      rcases Nat.lt_trichotomy j i with h | h | h
      · exact absurd e (hnd j h)
      · exact h
      · have := h2 i h
        rw [hk, h1] at this
        cases this
    subst hji
    refine ⟨h1, fun j' hj' => ?_⟩
    have := h2 j' hj'
    rw [hpj j' hj'] at this
    simpa using this
  · rintro ⟨h1, h2⟩
    refine ⟨h1, i, hlen, hk, fun j hj => ?_⟩
    rw [hpj j hj, h2 j hj]
    rfl
theorem any_no {K : Int} {a : Grp} {r : List Grp} {V : Grp → Bool} {h : Nat} (H : ∀ i, i < (a :: r).length → (V ((a :: r).getD i ((0, 0, 0), [])) = true ↔ pq K h ((a :: r).getD i ((0, 0, 0), [])) = true ∧ ∀ j, j < i → cnts K ((a :: r).getD j ((0, 0, 0), [])) = false)) (hc : cnts K a = false) :
    ∀ i, i < r.length → (V (r.getD i ((0, 0, 0), [])) = true ↔ pq K h (r.getD i ((0, 0, 0), [])) = true ∧ ∀ j, j < i → cnts K (r.getD j ((0, 0, 0), [])) = false) := fun i hi => by
  have h1 := H (i + 1) (by simp; omega)
  rw [List.getD_cons_succ] at h1
  rw [h1]
  constructor
  · rintro ⟨h2, h3⟩
    exact ⟨h2, fun j hj => by have := h3 (j + 1) (by omega); rwa [List.getD_cons_succ] at this⟩
  · rintro ⟨h2, h3⟩
    refine ⟨h2, fun j hj => ?_⟩
    cases j with
    | zero => exact hc
    | succ j => rw [List.getD_cons_succ]; exact h3 j (by omega)
/-- Those that may be the verdict: up to the first that counts. -/
theorem filtV {K : Int} {h : Nat} {V : Grp → Bool} : ∀ (l : List Grp), (∀ i, i < l.length → (V (l.getD i ((0, 0, 0), [])) = true ↔ pq K h (l.getD i ((0, 0, 0), [])) = true ∧ ∀ j, j < i → cnts K (l.getD j ((0, 0, 0), [])) = false)) → l.filter V = (pss K h l).1
  | [], _ => rfl
  | a :: r, H => by
    have ha : V a = pq K h a := by
      have := H 0 (by simp)
      rw [Bool.eq_iff_iff]
      exact this.trans ⟨fun x => x.1, fun x => ⟨x, fun j hj => absurd hj (Nat.not_lt_zero j)⟩⟩
    cases hc : cnts K a with
    | true =>
      have hr : r.filter V = [] := by
        rw [List.filter_eq_nil_iff]
        intro p hp hv
        obtain ⟨i, hi, e⟩ := List.getElem_of_mem hp
        have h1 := H (i + 1) (by simp; omega)
        rw [List.getD_cons_succ, List.getD_eq_getElem?_getD, List.getElem?_eq_getElem hi, Option.getD_some, e] at h1
        have := (h1.1 hv).2 0 (by omega)
        rw [show (a :: r).getD 0 ((0, 0, 0), []) = a from rfl, hc] at this
        cases this
      unfold pss
      rw [List.findIdx?_cons, hc]
      simp only [if_true, List.take_succ_cons, List.take_zero]
      by_cases hv : V a = true
      · rw [List.filter_cons_of_pos hv, hr, List.filter_cons_of_pos (by rw [← ha]; exact hv)]; rfl
      · rw [List.filter_cons_of_neg hv, hr, List.filter_cons_of_neg (by rw [← ha]; exact hv)]; rfl
    | false =>
      have ih := filtV r (any_no H hc)
      unfold pss at ih ⊢
      rw [List.findIdx?_cons, hc]
      cases hq : r.findIdx? (cnts K) with
      | some i =>
        rw [hq] at ih
        simp only [Bool.false_eq_true, if_false, Option.map_some, List.take_succ_cons] at ih ⊢
        by_cases hv : V a = true
        · rw [List.filter_cons_of_pos hv, List.filter_cons_of_pos (by rw [← ha]; exact hv), ih]
        · rw [List.filter_cons_of_neg hv, List.filter_cons_of_neg (by rw [← ha]; exact hv), ih]
      | none =>
        rw [hq] at ih
        simp only [Bool.false_eq_true, if_false, Option.map_none] at ih ⊢
        by_cases hv : V a = true
        · rw [List.filter_cons_of_pos hv, List.filter_cons_of_pos (by rw [← ha]; exact hv), ih]
        · rw [List.filter_cons_of_neg hv, List.filter_cons_of_neg (by rw [← ha]; exact hv), ih]
theorem pss_isV {K M B : Int} {s : Shs} {n : Nat} (hf : fitB K M B n = true) : (grps s n).filter (fun p => isV K M B s n p.1) = (pss K (hid s n) (grps s n)).1 := filtV _ fun _ hi => isV_iff hf hi
theorem pss_none {K M B : Int} {s : Shs} {n : Nat} (hf : fitB K M B n = true) (k0 : Wg) : decide ((jdg K M B (flS s (1, k0)) n).kd = 2) = (pss K (hid s n) (grps s n)).2 := by
  have hM : (0 : Int) ≤ M := by have := (fitB_iff K M B n).1 hf; omega
  unfold jdg
  rw [if_pos hf, grps_none, hid_fl (.inr rfl)]
  unfold vjd pss
  cases hq : (grps s n).findIdx? (cnts K) with
  | some i =>
    obtain ⟨hi, h1, _⟩ := List.findIdx?_eq_some_iff_getElem.1 hq
    cases h2 : (grps s n).find? (cnts K) with
    | some p => simp
    | none =>
      rw [List.find?_eq_none] at h2
      exact absurd h1 (h2 _ (List.getElem_mem hi))
  | none =>
    rw [List.findIdx?_eq_none_iff] at hq
    have h2 : (grps s n).find? (cnts K) = none := by
      rw [List.find?_eq_none]
      intro p hp h
      rw [hq p hp] at h
      cases h
    rw [h2]
    have : ¬ M < ((0 : Nat) : Int) := by omega
    simp only [if_neg this, decide_true]
end Go.Proofs.Ytcoegbbhmdbafaa
