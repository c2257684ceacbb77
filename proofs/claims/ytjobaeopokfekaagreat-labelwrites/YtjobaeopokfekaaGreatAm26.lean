/-
  A drive as mathematics: what a loss of power leaves, name by name; a file written aside.
-/
import Derived.Test.YtjobaeopokfekaaGreatDsH
namespace Go.Proofs.YtjobaeopokfekaaGreat
open Go.RowKit Go.Maps Go.Sort
/-- All names are texts. -/
def SK (D : Dir) : Prop := ∃ es, D = .map es ∧ ∀ p ∈ es, ∃ x : Tx, p.1 = .string x
theorem ins_mem {x p : Lit × DataW Unit} : ∀ l : List (Lit × DataW Unit), p ∈ DataW.insert x l → p = x ∨ p ∈ l
  | [], h => by simp [DataW.insert] at h; exact .inl h
  | y :: r, h => by
    unfold DataW.insert at h
    split at h
    · rcases List.mem_cons.1 h with h | h
      · exact .inl h
      · exact .inr h
    · rcases List.mem_cons.1 h with h | h
      · exact .inr (by simp [h])
      · rcases ins_mem r h with h | h
        · exact .inl h
        · exact .inr (by simp [h])
theorem SK.fol1 {D : Dir} (h : SK D) (l : Ld) : SK (fol1 D l) := by
  obtain ⟨es, rfl, hk⟩ := h
  unfold Go.Proofs.YtjobaeopokfekaaGreat.fol1
  split
  · exact ⟨_, rfl, fun p hp => hk p (List.mem_filter.1 hp).1⟩
  · refine ⟨_, rfl, fun p hp => ?_⟩
    rcases ins_mem _ hp with h | h
    · exact ⟨l.1, by rw [h]⟩
    · exact hk p (List.mem_filter.1 h).1
theorem SK.fol {D : Dir} (h : SK D) (c : List Ld) : SK (fol D c) := by
  unfold Go.Proofs.YtjobaeopokfekaaGreat.fol
  induction c generalizing D with
  | nil => exact h
  | cons l c ih => exact ih (h.fol1 l)
theorem SK.crf {σ : Ds} (h : SK σ.sf) (dirs : List Bool) : ∀ k, SK (crf σ dirs k)
  | 0 => h
  | k + 1 => by
    rw [crf_succ]
    split
    · exact (SK.crf h dirs k).fol _
    · exact SK.crf h dirs k
theorem SK.has {D : Dir} (h : SK D) : ∀ x ∈ nms D, has D (.string x) = true := by
  intro x hx
  obtain ⟨es, rfl, hk⟩ := h
  obtain ⟨p, hp, rfl⟩ := List.mem_map.1 (nms_mem.1 hx)
  obtain ⟨y, hy⟩ := hk p hp
  rw [has_eq, List.any_eq_true]
  refine ⟨p, hp, ?_⟩
  rw [hy]
  simp [strOf, Lit.sameKey]
theorem SK.of {w : World} {m : List Nat} {s : Nat} {D : Dir} (h : MpAt w m s D) : SK D := by
  obtain ⟨es, e, hko⟩ := World.ownsMap.keysOf h
  refine ⟨es, e, fun p hp => ?_⟩
  obtain ⟨v, hv⟩ := hko p hp
  obtain ⟨y, _, hy, _⟩ := Maps.keyOf_str undSD hv
  exact ⟨y, hy⟩
/-- A drive behind a loss of power. -/
theorem crn_ci {K Z : Nat} {τ : Ds} (cuts : List Int) (h : CI K 0 Z τ) (hk : ∀ x ∈ nms τ.sf, has τ.sf (.string x) = true) : ∀ k, k ≤ (nms τ.sf).length → CI K k Z (crn τ cuts k) ∧ ∀ y, has τ.sf (.string y) = true → has (crn τ cuts k).sf (.string y) = true
  | 0, _ => ⟨h, fun _ h => h⟩
  | k + 1, hle => by
    obtain ⟨h1, h2⟩ := crn_ci cuts h hk k (by omega)
    have hx := hk ((nms τ.sf).getD k []) (by simp [show k < (nms τ.sf).length by omega])
    rw [crn_succ]
    exact ⟨h1.step (h2 _ hx) _, fun y hy => has_crs h1.ti _ (h2 y hy)⟩
theorem crn_pend (τ : Ds) (cuts : List Int) : ∀ k, (crn τ cuts k).pend = τ.pend
  | 0 => rfl
  | k + 1 => by rw [crn_succ]; exact crn_pend τ cuts k
theorem Okk.crash {m : Nat} {σ : Ds} {w : World} {db : Nat} {F : Nat → Prop} (h : Okk m σ) (hm : m ≤ 134217728) (dirs : List Bool) (cuts : List Int) (hD : DrAt w db σ F) : Okk m (σ.crash dirs cuts) := by
  obtain ⟨_, _, mm, rv, st, sf, pv, S, R⟩ := hD
  have h1 := cr1_ci h (h.okp hm) R dirs
  have hsk : SK σ.sf := by
    rcases R.dirs with ⟨_, _, _, e, _⟩ | ⟨s, f, _, _, _, _, _, _, hM⟩
    · exact ⟨[], e, fun p hp => by simp at hp⟩
    · exact SK.of hM
  have hk : ∀ x ∈ nms (cr1 σ dirs).sf, has (cr1 σ dirs).sf (.string x) = true := (hsk.crf dirs σ.pend.length).has
  obtain ⟨h2, _⟩ := crn_ci cuts h1 hk _ (Nat.le_refl _)
  have hl : (nms (cr1 σ dirs).sf).length ≤ 2 * m := by
    have h9 := h1.sz
    rw [nms_len]
    obtain ⟨es, e, _⟩ := h1.ti
    rw [e] at h9 ⊢
    simpa [strKeys, Maps.size] using h9
  have hu := h2.u1
  have hmul : (nms (cr1 σ dirs).sf).length * m ≤ m * 268435456 := by
    have : (nms (cr1 σ dirs).sf).length * m ≤ 268435456 * m := Nat.mul_le_mul_right m (by omega)
    rw [Nat.mul_comm m 268435456]
    exact this
  have hp : (crn (cr1 σ dirs) cuts (nms (cr1 σ dirs).sf).length).pend = [] := crn_pend _ _ _
  unfold Ds.crash
  refine ⟨?_, ?_, fun i => (h2.bo i).2, fun i => (h2.bo i).1, h2.ti, h2.ti, h2.sz, ?_, ?_, h2.nn, h2.nn⟩
  · have := h2.u0
    show _ ≤ (crn (cr1 σ dirs) cuts (nms (cr1 σ dirs).sf).length).used
    omega
  · show (crn (cr1 σ dirs) cuts (nms (cr1 σ dirs).sf).length).used ≤ _
    omega
  · show Maps.size (crn (cr1 σ dirs) cuts (nms (cr1 σ dirs).sf).length).sf + 2 * (crn (cr1 σ dirs) cuts (nms (cr1 σ dirs).sf).length).pend.length ≤ _
    rw [hp]
    have := h2.sz
    simp only [List.length_nil]
    omega
  · intro c hc
    have hc' : c ∈ (crn (cr1 σ dirs) cuts (nms (cr1 σ dirs).sf).length).pend := hc
    rw [hp] at hc'
    simp at hc'
/-- The bodies to which names lead are there. -/
structure Wfd (σ : Ds) : Prop where
  st : ∀ y j, lk σ.st y = some j → j < σ.bs.length
  sf : ∀ y j, lk σ.sf y = some j → j < σ.bs.length
  pn : ∀ c ∈ σ.pend, ∀ l ∈ c, ∀ j, l.2 = some j → j < σ.bs.length
  ms : IsMap σ.st
  mf : IsMap σ.sf
theorem lk_has {D : Dir} {y : Tx} {j : Nat} (h : lk D y = some j) : has D (.string y) = true := by
  cases e : has D (.string y) with
  | true => rfl
  | false =>
    unfold lk at h
    rw [atKey_of_not_has e] at h
    cases h
theorem lk_len {w : World} {m : List Nat} {s : Nat} {D : Dir} (hM : MpAt w m s D) {y : Tx} {j : Nat} (h : lk D y = some j) : y.length ≤ maxLen := by
  have h1 := lk_has h
  obtain ⟨es, rfl, hk⟩ := SK.of hM
  rw [has_eq, List.any_eq_true] at h1
  obtain ⟨p, hp, h2⟩ := h1
  obtain ⟨z, hz⟩ := hk p hp
  rw [hz] at h2
  have e : z = y := by simpa [Lit.sameKey] using h2
  subst e
  refine (key_has hM (x := z) ?_).2
  show z ∈ es.map _
  exact List.mem_map.2 ⟨p, hp, by rw [hz]; rfl⟩
theorem wfd_of {w : World} {db : Nat} {σ : Ds} {F : Nat → Prop} (h : DrAt w db σ F) {k : Nat} (ok : Okk k σ) : Wfd σ := by
  obtain ⟨_, _, m, rv, st, sf, pv, S, R⟩ := h
  refine ⟨fun y j e => ?_, fun y j e => ?_, fun c hc l hl j e => ?_, ok.ts.isMap, ok.tf.isMap⟩
  · rcases R.dirs with ⟨_, _, e1, _⟩ | ⟨s, f, _, _, _, _, _, m1, m2⟩
    · rw [e1, lk_none] at e; cases e
    · have := (look_dir m1 (lk_len m1 e)).2 j e
      rw [R.len] at this; exact this
  · rcases R.dirs with ⟨_, _, _, e1, _⟩ | ⟨s, f, _, _, _, _, _, m1, m2⟩
    · rw [e1, lk_none] at e; cases e
    · have := (look_dir m2 (lk_len m2 e)).2 j e
      rw [R.len] at this; exact this
  · obtain ⟨cv, p1, p2, p3⟩ := R.pnd
    obtain ⟨i, hi, e9⟩ := List.getElem_of_mem hc
    have := (p3 i hi).ids l (by simp [List.getD, hi]; rw [e9]; exact hl) j e
    rw [R.len] at this; exact this
theorem lk_fol1 {D : Dir} (hm : IsMap D) (l : Ld) (y : Tx) : lk (fol1 D l) y = if y = l.1 then l.2 else lk D y := by
  unfold fol1
  split
  · rename_i h
    by_cases e : y = l.1
    · subst e; rw [if_pos rfl, lk_del_same, h]
    · rw [if_neg e, lk_del_other e]
  · rename_i i h
    by_cases e : y = l.1
    · subst e; rw [if_pos rfl, lk_put_same hm, h]
    · rw [if_neg e, lk_put_other e]
theorem lk_fol_lt {D : Dir} {n : Nat} (hm : IsMap D) (h : ∀ y j, lk D y = some j → j < n) (c : List Ld) (hc : ∀ l ∈ c, ∀ j, l.2 = some j → j < n) : ∀ y j, lk (fol D c) y = some j → j < n := by
  unfold Go.Proofs.YtjobaeopokfekaaGreat.fol
  induction c generalizing D with
  | nil => exact h
  | cons l c ih =>
    refine ih (fol1_isMap hm l) (fun y j e => ?_) (fun l' hl' => hc l' (by simp [hl']))
    rw [lk_fol1 hm] at e
    split at e
    · exact hc l (by simp) j e
    · exact h y j e
theorem Wfd.change {σ : Ds} (h : Wfd σ) (c : List Ld) (hc : ∀ l ∈ c, ∀ j, l.2 = some j → j < σ.bs.length) : Wfd (σ.change c) := by
  refine ⟨lk_fol_lt h.ms h.st c hc, h.sf, fun c' hc' l hl j e => ?_, fol_isMap h.ms c, h.mf⟩
  have h9 : c' ∈ σ.pend ∨ c' = c := by simpa [Ds.change] using hc'
  rcases h9 with h9 | rfl
  · exact h.pn c' h9 l hl j e
  · exact hc l hl j e
theorem Wfd.set {σ : Ds} (h : Wfd σ) (i : Nat) (b : Bd) (u : Int) : Wfd { (σ.setBody i b) with used := u } := by
  have hl : (σ.bs.set i b).length = σ.bs.length := List.length_set
  refine ⟨fun y j e => ?_, fun y j e => ?_, fun c hc l hl' j e => ?_, h.ms, h.mf⟩
  · show j < (σ.bs.set i b).length
    rw [hl]; exact h.st y j e
  · show j < (σ.bs.set i b).length
    rw [hl]; exact h.sf y j e
  · show j < (σ.bs.set i b).length
    rw [hl]; exact h.pn c hc l hl' j e
theorem lk_put {D : Dir} (hm : IsMap D) (x y : Tx) (i : Nat) : lk (D.put (.string x) (ip i)) y = if y = x then some i else lk D y := lk_fol1 hm (x, some i) y
theorem strKeys_nodup {D : Dir} (t : Tidy D) (s : SK D) : (strKeys D).Nodup := by
  obtain ⟨es, rfl, hp⟩ := t
  obtain ⟨es', e, hk⟩ := s
  injection e with e
  subst e
  show (es.map fun p => strOf p.1).Nodup
  refine List.pairwise_map.2 (hp.imp_of_mem fun {p q} hp' hq' hne e => hne ?_)
  obtain ⟨a, ha⟩ := hk p hp'
  obtain ⟨b, hb⟩ := hk q hq'
  rw [ha, hb] at e ⊢
  exact congrArg _ e
theorem strKeys_has {D : Dir} (s : SK D) {x : Tx} : x ∈ strKeys D ↔ has D (.string x) = true := by
  obtain ⟨es, rfl, hk⟩ := s
  rw [has_eq, List.any_eq_true]
  show x ∈ es.map (fun p => strOf p.1) ↔ _
  rw [List.mem_map]
  constructor
  · rintro ⟨p, hp', rfl⟩
    obtain ⟨a, ha⟩ := hk p hp'
    exact ⟨p, hp', by rw [ha]; simp [Lit.sameKey, strOf]⟩
  · rintro ⟨p, hp', hs⟩
    obtain ⟨a, ha⟩ := hk p hp'
    rw [ha] at hs
    exact ⟨p, hp', by rw [ha]; simpa [Lit.sameKey, strOf] using hs⟩
/-- A directory in order. -/
structure Td (D : Dir) : Prop where
  t : Tidy D
  s : SK D
  n : NN D
theorem Td.nil : Td (.map []) := ⟨tidy_empty, ⟨[], rfl, fun p hp => by simp at hp⟩, nn_nil⟩
theorem Td.mem {D : Dir} (h : Td D) {x : Tx} : x ∈ nms D ↔ ∃ i, lk D x = some i := by
  rw [nms_mem, strKeys_has h.s]
  exact ⟨fun e => h.n x e, fun ⟨i, e⟩ => lk_has e⟩
theorem Td.fol1 {D : Dir} (h : Td D) (l : Ld) : Td (fol1 D l) := ⟨(fol1_tidy h.t l).1, h.s.fol1 l, fol1_nn h.t h.n l⟩
theorem Td.put {D : Dir} (h : Td D) (x : Tx) (i : Nat) : Td (D.put (.string x) (ip i)) := h.fol1 (x, some i)
theorem Td.fol {D : Dir} (h : Td D) (c : List Ld) : Td (fol D c) := ⟨(fol_tidy h.t c).1, h.s.fol c, fol_nn h.t h.n c⟩
theorem Td.fols {D : Dir} (h : Td D) : ∀ cs : List (List Ld), Td (cs.foldl Go.Proofs.YtjobaeopokfekaaGreat.fol D)
  | [] => h
  | c :: cs => Td.fols (h.fol c) cs
theorem nms_nodup {D : Dir} (h : Td D) : (nms D).Nodup := (List.mergeSort_perm (strKeys D) _).nodup_iff.2 (strKeys_nodup h.t h.s)
theorem nms_ext {D D' : Dir} (h : Td D) (h' : Td D') (e : ∀ x, (∃ i, lk D x = some i) ↔ ∃ i, lk D' x = some i) : nms D = nms D' := by
  have hp : (strKeys D).Perm (strKeys D') := (List.perm_ext_iff_of_nodup (strKeys_nodup h.t h.s) (strKeys_nodup h'.t h'.s)).2 fun x => by
    rw [← nms_mem, ← nms_mem, h.mem, h'.mem]
    exact e x
  exact nms_perm hp
theorem td_of {w : World} {db k : Nat} {σ : Ds} {F : Nat → Prop} (h : DrAt w db σ F) (ok : Okk k σ) : Td σ.st ∧ Td σ.sf := by
  obtain ⟨_, _, m, rv, st, sf, pv, S, R⟩ := h
  rcases R.dirs with ⟨_, _, e1, e2, _⟩ | ⟨s, f, _, _, _, _, _, m1, m2⟩
  · rw [e1, e2]; exact ⟨Td.nil, Td.nil⟩
  · exact ⟨⟨ok.ts, SK.of m1, ok.nn⟩, ⟨ok.tf, SK.of m2, ok.nf⟩⟩
/-- Behind the first k names' turns. -/
structure Cd (τ : Ds) (cuts : List Int) (k : Nat) (ρ : Ds) : Prop where
  td : Td ρ.sf
  dn : ∀ j, j < k → ∃ i, lk ρ.sf ((nms τ.sf).getD j []) = some i ∧ ρ.body i = ⟨lft (τ.body ((lk τ.sf ((nms τ.sf).getD j [])).getD 0)) (cuts.getD j 0), (lft (τ.body ((lk τ.sf ((nms τ.sf).getD j [])).getD 0)) (cuts.getD j 0)).length⟩ ∧ i < ρ.bs.length
  ot : ∀ x, (∀ j, j < k → x ≠ (nms τ.sf).getD j []) → lk ρ.sf x = lk τ.sf x
  ol : ∀ i, i < τ.bs.length → ρ.body i = τ.body i
  le : τ.bs.length ≤ ρ.bs.length
theorem crs1_body (ρ : Ds) (x : Tx) (cut : Int) (i : Nat) : (crs1 ρ x cut).body i = if i < ρ.bs.length then ρ.body i else if i = ρ.bs.length then ⟨lft (ρ.body ((lk ρ.sf x).getD 0)) cut, (lft (ρ.body ((lk ρ.sf x).getD 0)) cut).length⟩ else ⟨[], 0⟩ := by
  unfold crs1
  rw [body_snoc]
theorem nod_ne {xs : List Tx} (h : xs.Nodup) {i j : Nat} (hi : i < xs.length) (hj : j < xs.length) (hne : i ≠ j) : xs.getD i [] ≠ xs.getD j [] := by
  simp only [List.getD, List.getElem?_eq_getElem hi, List.getElem?_eq_getElem hj, Option.getD_some]
  exact fun e => hne ((List.getElem_inj h).1 e)
theorem cd_run {τ : Ds} (cuts : List Int) (ht : Td τ.sf) (hw : ∀ y j, lk τ.sf y = some j → j < τ.bs.length) : ∀ k, k ≤ (nms τ.sf).length → Cd τ cuts k (crn τ cuts k)
  | 0, _ => ⟨ht, fun j hj => absurd hj (Nat.not_lt_zero _), fun x _ => rfl, fun i _ => rfl, Nat.le_refl _⟩
  | k + 1, hk => by
    have ih := cd_run cuts ht hw k (by omega)
    rw [crn_succ]
    obtain ⟨x, hx⟩ : ∃ x, x = (nms τ.sf).getD k [] := ⟨_, rfl⟩
    have hk' : k < (nms τ.sf).length := by omega
    have hxm : x ∈ nms τ.sf := by rw [hx]; simp [hk']
    obtain ⟨i0, hi0⟩ := ht.mem.1 hxm
    have hnd := nms_nodup ht
    have hl := ih.ot x (fun j hj e => nod_ne hnd hk' (by omega) (by omega) (hx ▸ e))
    rw [hi0] at hl
    have hb0 := ih.ol i0 (hw x i0 hi0)
    rw [← hx]
    generalize hρ : crn τ cuts k = ρ at ih hl hb0 ⊢
    refine ⟨ih.td.put _ _, fun j hj => ?_, fun y hy => ?_, fun i hi => ?_, ?_⟩
    · by_cases e : j = k
      · subst e
        refine ⟨ρ.bs.length, ?_, ?_, ?_⟩
        · show lk (ρ.sf.put (.string x) (ip ρ.bs.length)) _ = _
          rw [lk_put ih.td.t.isMap, if_pos hx.symm]
        · rw [crs1_body, if_neg (Nat.lt_irrefl _), if_pos rfl, hl, ← hx, hi0]
          simp only [Option.getD_some]
          rw [hb0]
        · simp [crs1]
      · obtain ⟨i, h1, h2, h3⟩ := ih.dn j (by omega)
        refine ⟨i, ?_, ?_, ?_⟩
        · show lk (ρ.sf.put (.string x) (ip ρ.bs.length)) _ = _
          rw [lk_put ih.td.t.isMap, if_neg (fun e9 => nod_ne hnd (by omega) hk' e (e9.trans hx)), h1]
        · rw [crs1_body, if_pos h3, h2]
        · simp [crs1]; omega
    · show lk (ρ.sf.put (.string x) (ip ρ.bs.length)) y = _
      rw [lk_put ih.td.t.isMap, if_neg (by rw [hx]; exact hy k (by omega))]
      exact ih.ot y (fun j hj => hy j (by omega))
    · rw [crs1_body, if_pos (by have := ih.le; omega)]
      exact ih.ol i hi
    · have := ih.le
      simp [crs1]; omega
/-- What stands behind a loss of power. -/
structure Cw (τ ρ : Ds) (cuts : List Int) : Prop where
  nm : nms ρ.sf = nms τ.sf
  td : Td ρ.sf
  bd : ∀ j, j < (nms τ.sf).length → ρ.body ((lk ρ.sf ((nms τ.sf).getD j [])).getD 0) = ⟨lft (τ.body ((lk τ.sf ((nms τ.sf).getD j [])).getD 0)) (cuts.getD j 0), (lft (τ.body ((lk τ.sf ((nms τ.sf).getD j [])).getD 0)) (cuts.getD j 0)).length⟩
theorem Cd.whole {τ ρ : Ds} {cuts : List Int} (ht : Td τ.sf) (h : Cd τ cuts (nms τ.sf).length ρ) : Cw τ ρ cuts := by
  refine ⟨nms_ext h.td ht fun x => ?_, h.td, fun j hj => ?_⟩
  · by_cases hx : x ∈ nms τ.sf
    · obtain ⟨j, hj, e⟩ := List.getElem_of_mem hx
      obtain ⟨i, h1, _, _⟩ := h.dn j hj
      have e9 : (nms τ.sf).getD j [] = x := by simp [hj, e]
      rw [e9] at h1
      exact ⟨fun _ => ht.mem.1 hx, fun _ => ⟨i, h1⟩⟩
    · rw [h.ot x (fun j hj e => hx (by rw [e]; simp [hj]))]
  · obtain ⟨i, h1, h2, _⟩ := h.dn j hj
    rw [h1]
    exact h2
theorem crash_cw {σ : Ds} (dirs : List Bool) (cuts : List Int) (ht : Td (cr1 σ dirs).sf) (hw : ∀ y j, lk (cr1 σ dirs).sf y = some j → j < σ.bs.length) : Cw (cr1 σ dirs) (σ.crash dirs cuts) cuts := by
  have h := cd_run cuts ht hw _ (Nat.le_refl _)
  have h9 := h.whole ht
  exact ⟨h9.nm, h9.td, h9.bd⟩
/-- All that stands under names is safe. -/
def Sf (σ : Ds) : Prop := ∀ x i, lk σ.sf x = some i → (σ.body i).safe = (σ.body i).data.length
theorem Cw.sf {τ ρ : Ds} {cuts : List Int} (h : Cw τ ρ cuts) : Sf ρ := by
  intro x i hx
  have hm : x ∈ nms τ.sf := by rw [← h.nm]; exact h.td.mem.2 ⟨i, hx⟩
  obtain ⟨j, hj, e⟩ := List.getElem_of_mem hm
  have h1 := h.bd j hj
  have e9 : (nms τ.sf).getD j [] = x := by simp [hj, e]
  rw [e9, hx] at h1
  simp only [Option.getD_some] at h1
  rw [h1]
theorem lft_safe (x : Bd) (h : x.safe = x.data.length) (cut : Int) : lft x cut = x.data := by
  unfold lft
  apply List.take_of_length_le
  omega
theorem crash_pend (σ : Ds) (dirs : List Bool) (cuts : List Int) : (σ.crash dirs cuts).pend = [] := crn_pend _ _ _
/-- What holds of every drive that acts have made. -/
structure Iv (σ : Ds) : Prop where
  eq : σ.st = σ.pend.foldl fol σ.sf
  ns : ∀ x i, lk σ.sf x = some i → isN x = true
  np : ∀ c ∈ σ.pend, ∀ l ∈ c, ∀ i, l.2 = some i → isN l.1 = true
  td : Td σ.sf
theorem lk_fol_p {P : Tx → Prop} {D : Dir} (hm : IsMap D) (h : ∀ y j, lk D y = some j → P y) (c : List Ld) (hc : ∀ l ∈ c, ∀ j, l.2 = some j → P l.1) : ∀ y j, lk (fol D c) y = some j → P y := by
  unfold Go.Proofs.YtjobaeopokfekaaGreat.fol
  induction c generalizing D with
  | nil => exact h
  | cons l c ih =>
    refine ih (fol1_isMap hm l) (fun y j e => ?_) (fun l' hl' => hc l' (by simp [hl']))
    rw [lk_fol1 hm] at e
    split at e
    · rename_i e9; subst e9; exact hc l (by simp) j e
    · exact h y j e
theorem lk_fols_p {P : Tx → Prop} : ∀ (cs : List (List Ld)) {D : Dir}, IsMap D → (∀ y j, lk D y = some j → P y) → (∀ c ∈ cs, ∀ l ∈ c, ∀ j, l.2 = some j → P l.1) → ∀ y j, lk (cs.foldl fol D) y = some j → P y
  | [], _, _, h, _ => h
  | c :: cs, D, hm, h, hc => lk_fols_p cs (fol_isMap hm c) (lk_fol_p hm h c (hc c (by simp))) (fun c' hc' => hc c' (by simp [hc']))
theorem Iv.new (r : Nat) : Iv (Ds.new r) := ⟨rfl, fun x i e => (by rw [show (Ds.new r).sf = .map [] from rfl, lk_none] at e; cases e), fun c hc => (by simp [Ds.new] at hc), Td.nil⟩
theorem Iv.change {σ : Ds} (h : Iv σ) (c : List Ld) (hc : ∀ l ∈ c, ∀ i, l.2 = some i → isN l.1 = true) : Iv (σ.change c) := by
  refine ⟨?_, h.ns, fun c' hc' l hl i e => ?_, h.td⟩
  · show fol σ.st c = (σ.pend ++ [c]).foldl fol σ.sf
    rw [List.foldl_append, ← h.eq]
    rfl
  · have h9 : c' ∈ σ.pend ∨ c' = c := by simpa [Ds.change] using hc'
    rcases h9 with h9 | rfl
    · exact h.np c' h9 l hl i e
    · exact hc l hl i e
theorem Iv.bs {σ : Ds} (h : Iv σ) (bs : List Bd) (u : Int) : Iv { σ with bs := bs, used := u } := ⟨h.eq, h.ns, h.np, h.td⟩
theorem Iv.create {σ : Ds} (h : Iv σ) (y : Tx) : Iv (σ.create y).2 := by
  unfold Ds.create
  split
  · rename_i hn
    split
    · exact h
    · refine (h.bs _ σ.used).change _ (fun l hl i e => ?_)
      simp at hl; subst hl; exact hn
  · exact h
theorem Iv.append {σ : Ds} (h : Iv σ) (y e : Tx) : Iv (σ.append y e).2 := by
  unfold Ds.append
  split
  · exact h
  · split
    · exact h
    · split
      · exact h
      · exact h.bs _ _
theorem Iv.sync {σ : Ds} (h : Iv σ) (y : Tx) : Iv (σ.sync y).2 := by
  unfold Ds.sync
  split
  · exact h
  · exact h.bs _ σ.used
theorem Iv.rename {σ : Ds} (h : Iv σ) (y z : Tx) : Iv (σ.rename y z).2 := by
  unfold Ds.rename
  split
  · rename_i hz
    split
    · exact h
    · split
      · exact h
      · refine h.change _ (fun l hl i e => ?_)
        simp at hl
        rcases hl with rfl | rfl
        · cases e
        · exact hz
  · exact h
theorem Iv.syncDir {σ : Ds} (h : Iv σ) : Iv σ.syncDir := by
  refine ⟨?_, lk_fols_p _ h.td.t.isMap h.ns h.np, fun c hc => by simp [Ds.syncDir] at hc, h.td.fols _⟩
  show σ.st = ([] : List (List Ld)).foldl fol (σ.pend.foldl fol σ.sf)
  rw [h.eq]
  rfl
theorem Iv.crf {σ : Ds} (h : Iv σ) (dirs : List Bool) : ∀ k, k ≤ σ.pend.length → Td (crf σ dirs k) ∧ ∀ x i, lk (crf σ dirs k) x = some i → isN x = true
  | 0, _ => ⟨h.td, h.ns⟩
  | k + 1, hk => by
    obtain ⟨h1, h2⟩ := Iv.crf h dirs k (by omega)
    have hm : σ.pend.getD k [] ∈ σ.pend := by
      have hl : k < σ.pend.length := by omega
      rw [List.getD, List.getElem?_eq_getElem hl]
      exact List.getElem_mem _
    rw [crf_succ]
    split
    · exact ⟨h1.fol _, lk_fol_p h1.t.isMap h2 _ (h.np _ hm)⟩
    · exact ⟨h1, h2⟩
theorem crn_td {τ : Ds} (cuts : List Int) (ht : Td τ.sf) (hn : ∀ x i, lk τ.sf x = some i → isN x = true) : ∀ k, k ≤ (nms τ.sf).length → Td (crn τ cuts k).sf ∧ ∀ x i, lk (crn τ cuts k).sf x = some i → isN x = true
  | 0, _ => ⟨ht, hn⟩
  | k + 1, hk => by
    obtain ⟨h1, h2⟩ := crn_td cuts ht hn k (by omega)
    rw [crn_succ]
    refine ⟨h1.put _ _, fun x i e => ?_⟩
    have e' : lk ((crn τ cuts k).sf.put (.string ((nms τ.sf).getD k [])) (ip (crn τ cuts k).bs.length)) x = some i := e
    rw [lk_put h1.t.isMap] at e'
    split at e'
    · rename_i e9
      obtain ⟨i', hi'⟩ := ht.mem.1 (show (nms τ.sf).getD k [] ∈ nms τ.sf by simp [show k < (nms τ.sf).length by omega])
      rw [e9]
      exact hn _ i' hi'
    · exact h2 x i e'
theorem Iv.crash {σ : Ds} (h : Iv σ) (dirs : List Bool) (cuts : List Int) : Iv (σ.crash dirs cuts) := by
  obtain ⟨h1, h2⟩ := h.crf dirs σ.pend.length (Nat.le_refl _)
  obtain ⟨h3, h4⟩ := crn_td (τ := cr1 σ dirs) cuts h1 h2 _ (Nat.le_refl _)
  refine ⟨?_, h4, fun c hc => ?_, h3⟩
  · rw [crash_pend]; rfl
  · rw [crash_pend] at hc; cases hc
theorem crf_lt {σ : Ds} (hw : Wfd σ) (hi : Iv σ) (dirs : List Bool) : ∀ k, k ≤ σ.pend.length → ∀ y j, lk (crf σ dirs k) y = some j → j < σ.bs.length
  | 0, _ => hw.sf
  | k + 1, hk => by
    have ih := crf_lt hw hi dirs k (by omega)
    have hm : σ.pend.getD k [] ∈ σ.pend := by
      have hl : k < σ.pend.length := by omega
      rw [List.getD, List.getElem?_eq_getElem hl]
      exact List.getElem_mem _
    rw [crf_succ]
    split
    · exact lk_fol_lt (hi.crf dirs k (by omega)).1.t.isMap ih _ (hw.pn _ hm)
    · exact ih
theorem create_eq {σ : Ds} {x : Tx} (h : (σ.create x).1 = 0) : isN x = true ∧ (σ.create x).2 = ({ σ with bs := σ.bs ++ [⟨[], 0⟩] } : Ds).change [(x, some σ.bs.length)] := by
  unfold Ds.create at h ⊢
  split at h
  · rename_i hn
    rw [if_pos hn]
    split at h
    · cases h
    · rename_i h2
      rw [if_neg h2]
      exact ⟨hn, rfl⟩
  · cases h
/-- A drive on which the file stands whose bytes are these, so many of them safe. -/
structure Jb (x : Tx) (σ0 : Ds) (b : Bd) (σ : Ds) : Prop where
  st : σ.st = fol σ0.st [(x, some σ0.bs.length)]
  sf : σ.sf = σ0.sf
  pn : σ.pend = σ0.pend ++ [[(x, some σ0.bs.length)]]
  bl : σ.bs.length = σ0.bs.length + 1
  bd : σ.body σ0.bs.length = b
theorem Jb.find {x : Tx} {σ0 σ : Ds} {b : Bd} (h : Jb x σ0 b σ) (hw : Wfd σ0) (hn : isN x = true) : σ.find x = .inr σ0.bs.length := by
  unfold Ds.find
  rw [if_pos hn, h.st]
  show (match lk (fol1 σ0.st (x, some σ0.bs.length)) x with | none => _ | some i => _) = _
  rw [lk_fol1 hw.ms, if_pos rfl]
theorem jb_create {σ : Ds} {x : Tx} (h : (σ.create x).1 = 0) : isN x = true ∧ Jb x σ ⟨[], 0⟩ (σ.create x).2 := by
  obtain ⟨h1, h2⟩ := create_eq h
  refine ⟨h1, ?_⟩
  rw [h2]
  refine ⟨rfl, rfl, rfl, by simp [Ds.change], ?_⟩
  show (σ.bs ++ [(⟨[], 0⟩ : Bd)]).getD σ.bs.length ⟨[], 0⟩ = _
  simp
theorem Jb.set {x : Tx} {σ0 σ : Ds} {b : Bd} (h : Jb x σ0 b σ) (c : Bd) (u : Int) : Jb x σ0 c { (σ.setBody σ0.bs.length c) with used := u } := by
  refine ⟨h.st, h.sf, h.pn, ?_, ?_⟩
  · show (σ.bs.set _ _).length = _
    rw [List.length_set]; exact h.bl
  · show (σ.setBody σ0.bs.length c).body σ0.bs.length = c
    rw [body_set, if_pos ⟨rfl, by rw [h.bl]; omega⟩]
theorem jb_append {σ0 σ : Ds} {x d : Tx} (h : Jb x σ0 ⟨[], 0⟩ σ) (hw : Wfd σ0) (hn : isN x = true) (ha : (σ.append x d).1 = 0) : Jb x σ0 ⟨d, 0⟩ (σ.append x d).2 := by
  unfold Ds.append at ha ⊢
  rw [h.find hw hn] at ha ⊢
  dsimp only at ha ⊢
  split at ha
  · rename_i e
    subst e
    rw [if_pos rfl]
    exact h
  · rename_i e
    rw [if_neg e]
    split at ha
    · cases ha
    · rename_i e2
      rw [if_neg e2, h.bd]
      exact h.set _ _
theorem jb_sync {σ0 σ : Ds} {x d : Tx} (h : Jb x σ0 ⟨d, 0⟩ σ) (hw : Wfd σ0) (hn : isN x = true) : (σ.sync x).1 = 0 ∧ Jb x σ0 ⟨d, d.length⟩ (σ.sync x).2 := by
  unfold Ds.sync
  rw [h.find hw hn]
  dsimp only
  rw [h.bd]
  exact ⟨rfl, h.set _ σ.used⟩
theorem size_nms' {D : Dir} (h : Tidy D) : Maps.size D = (nms D).length := by
  rw [nms_len]
  obtain ⟨es, rfl, _⟩ := h
  simp [strKeys, Maps.size]
/-- A file written aside, its other bodies as they were. -/
structure Je (x : Tx) (σ0 : Ds) (b : Bd) (σ : Ds) : Prop where
  j : Jb x σ0 b σ
  ob : ∀ i, i < σ0.bs.length → σ.body i = σ0.body i
theorem je_create {σ : Ds} {x : Tx} (h : (σ.create x).1 = 0) : Je x σ ⟨[], 0⟩ (σ.create x).2 := by
  refine ⟨(jb_create h).2, fun i hi => ?_⟩
  rw [(create_eq h).2]
  show Ds.body { σ with bs := σ.bs ++ [⟨[], 0⟩] } i = _
  exact body_add σ i
theorem je_append {σ0 σ : Ds} {x d : Tx} (h : Je x σ0 ⟨[], 0⟩ σ) (hw : Wfd σ0) (hn : isN x = true) (ha : (σ.append x d).1 = 0) : Je x σ0 ⟨d, 0⟩ (σ.append x d).2 := by
  refine ⟨jb_append h.j hw hn ha, fun i hi => ?_⟩
  rw [← h.ob i hi]
  unfold Ds.append
  rw [h.j.find hw hn]
  dsimp only
  split
  · rfl
  · split
    · rfl
    · show (σ.setBody σ0.bs.length _).body i = _
      rw [body_set, if_neg (by omega)]
theorem je_sync {σ0 σ : Ds} {x d : Tx} (h : Je x σ0 ⟨d, 0⟩ σ) (hw : Wfd σ0) (hn : isN x = true) : (σ.sync x).1 = 0 ∧ Je x σ0 ⟨d, d.length⟩ (σ.sync x).2 := by
  obtain ⟨h1, h2⟩ := jb_sync h.j hw hn
  refine ⟨h1, h2, fun i hi => ?_⟩
  rw [← h.ob i hi]
  unfold Ds.sync
  rw [h.j.find hw hn]
  dsimp only
  rw [body_set, if_neg (by omega)]
theorem je_rename {σ0 σ : Ds} {x y : Tx} {b : Bd} (h : Je x σ0 b σ) (hw : Wfd σ0) (hn : isN x = true) (hy : isN y = true) (hne : x ≠ y) : (σ.rename x y).1 = 0 ∧ (σ.rename x y).2 = σ.change [(x, none), (y, some σ0.bs.length)] := by
  unfold Ds.rename
  rw [if_pos hy, h.j.find hw hn]
  dsimp only
  rw [if_neg hne]
  exact ⟨rfl, rfl⟩
theorem create_fail {σ : Ds} {x : Tx} (h : (σ.create x).1 ≠ 0) : (σ.create x).2 = σ := by
  unfold Ds.create at h ⊢
  split
  · rename_i hn
    rw [if_pos hn] at h
    split
    · rfl
    · rename_i h2
      rw [if_neg h2] at h
      exact absurd rfl h
  · rfl
theorem append_fail {σ : Ds} {x d : Tx} (h : (σ.append x d).1 ≠ 0) : (σ.append x d).2 = σ := by
  unfold Ds.append at h ⊢
  split
  · rfl
  · rename_i i hi
    rw [hi] at h
    dsimp only at h
    split
    · rfl
    · rename_i h2
      rw [if_neg h2] at h
      split
      · rfl
      · rename_i h3
        rw [if_neg h3] at h
        exact absurd rfl h
end Go.Proofs.YtjobaeopokfekaaGreat
