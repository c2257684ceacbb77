/-
  What was made safe stays: the mathematics.
-/
import Derived.Test.YtaddgmbglhdfdaaKn11
namespace Go.Proofs.Ytaddgmbglhdfdaa
open Go.RowKit Go.Maps Go.Sort
/-- The bodies to which names lead are there. -/
structure Wfd (σ : Ds) : Prop where
  st : ∀ y j, lk σ.st y = some j → j < σ.bs.length
  sf : ∀ y j, lk σ.sf y = some j → j < σ.bs.length
  pn : ∀ c ∈ σ.pend, ∀ l ∈ c, ∀ j, l.2 = some j → j < σ.bs.length
  ms : IsMap σ.st
  mf : IsMap σ.sf
theorem lk_has {D : Dir} {y : Tx} {j : Nat} (h : lk D y = some j) : has D (.string y) = true := by
  cases e : has D (.string y) with
  | true => rfl
  | false =>
    unfold lk at h
    rw [atKey_of_not_has e] at h
    cases h
theorem lk_len {w : World} {m : List Nat} {s : Nat} {D : Dir} (hM : MpAt w m s D) {y : Tx} {j : Nat} (h : lk D y = some j) : y.length ≤ maxLen := by
  have h1 := lk_has h
  obtain ⟨es, rfl, hk⟩ := SK.of hM
  rw [has_eq, List.any_eq_true] at h1
  obtain ⟨p, hp, h2⟩ := h1
  obtain ⟨z, hz⟩ := hk p hp
  rw [hz] at h2
  have e : z = y := by simpa [Lit.sameKey] using h2
  subst e
  refine (key_has hM (x := z) ?_).2
  show z ∈ es.map _
  exact List.mem_map.2 ⟨p, hp, by rw [hz]; rfl⟩
theorem wfd_of {w : World} {db : Nat} {σ : Ds} {F : Nat → Prop} (h : DrAt w db σ F) {k : Nat} (ok : Okk k σ) : Wfd σ := by
  obtain ⟨_, _, m, rv, st, sf, pv, S, R⟩ := h
  refine ⟨fun y j e => ?_, fun y j e => ?_, fun c hc l hl j e => ?_, ok.ts.isMap, ok.tf.isMap⟩
  · rcases R.dirs with ⟨_, _, e1, _⟩ | ⟨s, f, _, _, _, _, _, m1, m2⟩
    · rw [e1, lk_none] at e; cases e
    · have := (look_dir m1 (lk_len m1 e)).2 j e
      rw [R.len] at this; exact this
  · rcases R.dirs with ⟨_, _, _, e1, _⟩ | ⟨s, f, _, _, _, _, _, m1, m2⟩
    · rw [e1, lk_none] at e; cases e
    · have := (look_dir m2 (lk_len m2 e)).2 j e
      rw [R.len] at this; exact this
  · obtain ⟨cv, p1, p2, p3⟩ := R.pnd
    obtain ⟨i, hi, e9⟩ := List.getElem_of_mem hc
    have := (p3 i hi).ids l (by simp [List.getD, hi]; rw [e9]; exact hl) j e
    rw [R.len] at this; exact this
theorem lk_fol1 {D : Dir} (hm : IsMap D) (l : Ld) (y : Tx) : lk (fol1 D l) y = if y = l.1 then l.2 else lk D y := by
  unfold fol1
  split
  · rename_i h
    by_cases e : y = l.1
    · subst e; rw [if_pos rfl, lk_del_same, h]
    · rw [if_neg e, lk_del_other e]
  · rename_i i h
    by_cases e : y = l.1
    · subst e; rw [if_pos rfl, lk_put_same hm, h]
    · rw [if_neg e, lk_put_other e]
/-- A file of these bytes stands under the name, and only there. -/
structure Jm (x d : Tx) (D : Dir) (bs : List Bd) (i : Nat) : Prop where
  lx : lk D x = some i
  bd : bs.getD i ⟨[], 0⟩ = ⟨d, d.length⟩
  il : i < bs.length
  ot : ∀ y, y ≠ x → lk D y ≠ some i
theorem Jm.fol {x d : Tx} {D : Dir} {bs : List Bd} {i : Nat} (h : Jm x d D bs i) (hm : IsMap D) (c : List Ld) (hc : ∀ l ∈ c, l.1 ≠ x ∧ l.2 ≠ some i) : Jm x d (fol D c) bs i := by
  unfold Go.Proofs.Ytaddgmbglhdfdaa.fol
  induction c generalizing D with
  | nil => exact h
  | cons l c ih =>
    have hl := hc l (by simp)
    refine ih ?_ (fol1_isMap hm l) (fun l' hl' => hc l' (by simp [hl']))
    refine ⟨?_, h.bd, h.il, fun y hy => ?_⟩
    · rw [lk_fol1 hm, if_neg (Ne.symm hl.1)]; exact h.lx
    · rw [lk_fol1 hm]
      split
      · exact hl.2
      · exact h.ot y hy
theorem Jm.add {x d : Tx} {D : Dir} {bs : List Bd} {i : Nat} (h : Jm x d D bs i) (b : Bd) : Jm x d D (bs ++ [b]) i := ⟨h.lx, by rw [getD_app _ _ _ h.il]; exact h.bd, by simp; have := h.il; omega, h.ot⟩
theorem Jm.set {x d : Tx} {D : Dir} {bs : List Bd} {i : Nat} (h : Jm x d D bs i) (j : Nat) (b : Bd) (hj : j ≠ i) : Jm x d D (bs.set j b) i := ⟨h.lx, by rw [List.getD, List.getElem?_set_ne hj]; exact h.bd, by rw [List.length_set]; exact h.il, h.ot⟩
/-- The invariant of P11.13. -/
structure Jk (x d : Tx) (σ : Ds) : Prop where
  ex : ∃ i, Jm x d σ.st σ.bs i ∧ Jm x d σ.sf σ.bs i ∧ ∀ c ∈ σ.pend, ∀ l ∈ c, l.1 ≠ x ∧ l.2 ≠ some i
  wf : Wfd σ
theorem lk_fol_lt {D : Dir} {n : Nat} (hm : IsMap D) (h : ∀ y j, lk D y = some j → j < n) (c : List Ld) (hc : ∀ l ∈ c, ∀ j, l.2 = some j → j < n) : ∀ y j, lk (fol D c) y = some j → j < n := by
  unfold Go.Proofs.Ytaddgmbglhdfdaa.fol
  induction c generalizing D with
  | nil => exact h
  | cons l c ih =>
    refine ih (fol1_isMap hm l) (fun y j e => ?_) (fun l' hl' => hc l' (by simp [hl']))
    rw [lk_fol1 hm] at e
    split at e
    · exact hc l (by simp) j e
    · exact h y j e
theorem lk_fols_lt {n : Nat} : ∀ (cs : List (List Ld)) {D : Dir}, IsMap D → (∀ y j, lk D y = some j → j < n) → (∀ c ∈ cs, ∀ l ∈ c, ∀ j, l.2 = some j → j < n) → (∀ y j, lk (cs.foldl fol D) y = some j → j < n) ∧ IsMap (cs.foldl fol D)
  | [], _, hm, h, _ => ⟨h, hm⟩
  | c :: cs, D, hm, h, hc => lk_fols_lt cs (fol_isMap hm c) (lk_fol_lt hm h c (hc c (by simp))) (fun c' hc' => hc c' (by simp [hc']))
theorem Jm.fols {x d : Tx} {bs : List Bd} {i : Nat} : ∀ (cs : List (List Ld)) {D : Dir}, Jm x d D bs i → IsMap D → (∀ c ∈ cs, ∀ l ∈ c, l.1 ≠ x ∧ l.2 ≠ some i) → Jm x d (cs.foldl Go.Proofs.Ytaddgmbglhdfdaa.fol D) bs i
  | [], _, h, _, _ => h
  | c :: cs, D, h, hm, hc => Jm.fols cs (h.fol hm c (hc c (by simp))) (fol_isMap hm c) (fun c' hc' => hc c' (by simp [hc']))
theorem Wfd.add {σ : Ds} (h : Wfd σ) (b : Bd) : Wfd { σ with bs := σ.bs ++ [b] } := by
  refine ⟨fun y j e => ?_, fun y j e => ?_, fun c hc l hl j e => ?_, h.ms, h.mf⟩
  · have := h.st y j e; simp; omega
  · have := h.sf y j e; simp; omega
  · have := h.pn c hc l hl j e; simp; omega
theorem Wfd.change {σ : Ds} (h : Wfd σ) (c : List Ld) (hc : ∀ l ∈ c, ∀ j, l.2 = some j → j < σ.bs.length) : Wfd (σ.change c) := by
  refine ⟨lk_fol_lt h.ms h.st c hc, h.sf, fun c' hc' l hl j e => ?_, fol_isMap h.ms c, h.mf⟩
  have h9 : c' ∈ σ.pend ∨ c' = c := by simpa [Ds.change] using hc'
  rcases h9 with h9 | rfl
  · exact h.pn c' h9 l hl j e
  · exact hc l hl j e
theorem Wfd.set {σ : Ds} (h : Wfd σ) (i : Nat) (b : Bd) (u : Int) : Wfd { (σ.setBody i b) with used := u } := by
  have hl : (σ.bs.set i b).length = σ.bs.length := List.length_set
  refine ⟨fun y j e => ?_, fun y j e => ?_, fun c hc l hl' j e => ?_, h.ms, h.mf⟩
  · show j < (σ.bs.set i b).length
    rw [hl]; exact h.st y j e
  · show j < (σ.bs.set i b).length
    rw [hl]; exact h.sf y j e
  · show j < (σ.bs.set i b).length
    rw [hl]; exact h.pn c hc l hl' j e
theorem Jk.change {x d : Tx} {σ : Ds} (h : Jk x d σ) (c : List Ld) (hn : ∀ l ∈ c, l.1 ≠ x) (hc : ∀ l ∈ c, ∀ j, l.2 = some j → j < σ.bs.length) (hi : ∀ i, Jm x d σ.st σ.bs i → ∀ l ∈ c, l.2 ≠ some i) : Jk x d (σ.change c) := by
  obtain ⟨⟨i, h1, h2, h3⟩, hw⟩ := h
  refine ⟨⟨i, h1.fol hw.ms c (fun l hl => ⟨hn l hl, hi i h1 l hl⟩), h2, fun c' hc' l hl => ?_⟩, hw.change c hc⟩
  have h9 : c' ∈ σ.pend ∨ c' = c := by simpa [Ds.change] using hc'
  rcases h9 with h9 | rfl
  · exact h3 c' h9 l hl
  · exact ⟨hn l hl, hi i h1 l hl⟩
theorem Jk.add {x d : Tx} {σ : Ds} (h : Jk x d σ) (b : Bd) : Jk x d { σ with bs := σ.bs ++ [b] } := by
  obtain ⟨⟨i, h1, h2, h3⟩, hw⟩ := h
  exact ⟨⟨i, h1.add b, h2.add b, h3⟩, hw.add b⟩
theorem Jk.set {x d : Tx} {σ : Ds} (h : Jk x d σ) (j : Nat) (b : Bd) (u : Int) (hj : ∀ i, Jm x d σ.st σ.bs i → j ≠ i) : Jk x d { (σ.setBody j b) with used := u } := by
  obtain ⟨⟨i, h1, h2, h3⟩, hw⟩ := h
  exact ⟨⟨i, h1.set j b (hj i h1), h2.set j b (hj i h1), h3⟩, hw.set j b u⟩
theorem find_lk {σ : Ds} {y : Tx} {j : Nat} (h : σ.find y = .inr j) : lk σ.st y = some j := (find_inr h).2
theorem jm_other {x d y : Tx} {σ : Ds} (hy : y ≠ x) {j : Nat} (hj : lk σ.st y = some j) : ∀ i, Jm x d σ.st σ.bs i → j ≠ i := fun i hi e => by subst e; exact hi.ot y hy hj
theorem Jk.create {x d y : Tx} {σ : Ds} (h : Jk x d σ) (hy : y ≠ x) : Jk x d (σ.create y).2 := by
  unfold Ds.create
  split
  · split
    · exact h
    · refine (h.add ⟨[], 0⟩).change _ (fun l hl => ?_) (fun l hl j e => ?_) (fun i hi l hl e => ?_)
      · simp at hl; subst hl; exact hy
      · simp at hl; subst hl; injection e with e; subst e; simp
      · simp at hl; subst hl
        injection e with e
        obtain ⟨i', h1, _, _⟩ := h.ex
        have e9 := h1.lx
        have e8 := hi.lx
        have e7 : lk σ.st x = some i := e8
        rw [e9] at e7
        injection e7 with e7
        have := h1.il
        omega
  · exact h
theorem Jk.append {x d y e : Tx} {σ : Ds} (h : Jk x d σ) (hy : y ≠ x) : Jk x d (σ.append y e).2 := by
  unfold Ds.append
  split
  · exact h
  · rename_i j hj
    split
    · exact h
    · split
      · exact h
      · exact h.set j _ _ (jm_other hy (find_lk hj))
theorem Jk.sync {x d y : Tx} {σ : Ds} (h : Jk x d σ) : Jk x d (σ.sync y).2 := by
  unfold Ds.sync
  split
  · exact h
  · rename_i j hj
    by_cases hy : y = x
    · subst hy
      obtain ⟨⟨i, h1, h2, h3⟩, hw⟩ := h
      have e : j = i := by have := find_lk hj; rw [h1.lx] at this; injection this with this; exact this.symm
      subst e
      have hb : σ.body j = ⟨d, d.length⟩ := h1.bd
      have hs : σ.bs.set j ⟨(σ.body j).data, (σ.body j).data.length⟩ = σ.bs := by
        rw [hb]
        apply List.ext_getElem?
        intro t
        rw [List.getElem?_set]
        split
        · rename_i e; subst e
          have := h1.bd
          rw [if_pos h1.il]
          rw [List.getD, List.getElem?_eq_getElem h1.il] at this
          rw [List.getElem?_eq_getElem h1.il]
          exact congrArg some this.symm
        · rfl
      have e9 : σ.setBody j ⟨(σ.body j).data, (σ.body j).data.length⟩ = σ := by
        unfold Ds.setBody; rw [hs]
      rw [e9]
      exact ⟨⟨j, h1, h2, h3⟩, hw⟩
    · exact h.set j _ σ.used (jm_other hy (find_lk hj))
theorem Jk.rename {x d y z : Tx} {σ : Ds} (h : Jk x d σ) (hy : y ≠ x) (hz : z ≠ x) : Jk x d (σ.rename y z).2 := by
  unfold Ds.rename
  split
  · split
    · exact h
    · rename_i j hj
      split
      · exact h
      · refine h.change _ (fun l hl => ?_) (fun l hl t e => ?_) (fun i hi l hl e => ?_)
        · simp at hl; rcases hl with rfl | rfl; exact hy; exact hz
        · simp at hl
          rcases hl with rfl | rfl
          · cases e
          · injection e with e; subst e; exact h.wf.st y j (find_lk hj)
        · simp at hl
          rcases hl with rfl | rfl
          · cases e
          · injection e with e; exact jm_other hy (find_lk hj) i hi e
  · exact h
theorem Jk.remove {x d y : Tx} {σ : Ds} (h : Jk x d σ) (hy : y ≠ x) : Jk x d (σ.remove y).2 := by
  unfold Ds.remove
  split
  · exact h
  · refine h.change _ (fun l hl => ?_) (fun l hl t e => ?_) (fun i hi l hl e => ?_)
    · simp at hl; subst hl; exact hy
    · simp at hl; subst hl; cases e
    · simp at hl; subst hl; cases e
theorem Jk.syncDir {x d : Tx} {σ : Ds} (h : Jk x d σ) : Jk x d σ.syncDir := by
  obtain ⟨⟨i, h1, h2, h3⟩, hw⟩ := h
  obtain ⟨h4, h5⟩ := lk_fols_lt σ.pend hw.mf hw.sf hw.pn
  exact ⟨⟨i, h1, h2.fols σ.pend hw.mf h3, fun c hc => by simp [Ds.syncDir] at hc⟩, ⟨hw.st, h4, fun c hc => by simp [Ds.syncDir] at hc, hw.ms, h5⟩⟩
theorem Jk.flip {x d y p : Tx} {a : Int} {σ : Ds} (h : Jk x d σ) (hy : y ≠ x) : Jk x d (σ.flip y a p).2 := by
  unfold Ds.flip
  split
  · exact h
  · rename_i j hj
    exact h.set j _ σ.used (jm_other hy (find_lk (harm_inr hj).2.2))
theorem Jk.cut {x d y : Tx} {a : Int} {σ : Ds} (h : Jk x d σ) (hy : y ≠ x) : Jk x d (σ.cut y a).2 := by
  unfold Ds.cut
  split
  · exact h
  · rename_i j hj
    exact h.set j _ _ (jm_other hy (find_lk (harm_inr hj).2.2))
/-- What a loss of power leaves of a file that is safe. -/
theorem lft_all (d : Tx) (cut : Int) : lft ⟨d, d.length⟩ cut = d := by
  unfold lft
  dsimp only
  have e : d.length + (min (max cut 0) ((d.length : Int) - (d.length : Int))).toNat = d.length := by omega
  first
    | (rw [e, List.take_length])
    | (apply List.take_of_length_le; omega)
structure Jc (x d : Tx) (σ : Ds) : Prop where
  ex : ∃ i, Jm x d σ.sf σ.bs i
  mf : IsMap σ.sf
  wf : ∀ y j, lk σ.sf y = some j → j < σ.bs.length
theorem lk_put {D : Dir} (hm : IsMap D) (x y : Tx) (i : Nat) : lk (D.put (.string x) (ip i)) y = if y = x then some i else lk D y := lk_fol1 hm (x, some i) y
theorem Jc.step {x d : Tx} {σ : Ds} (h : Jc x d σ) (y : Tx) (cut : Int) : Jc x d (crs1 σ y cut) := by
  obtain ⟨⟨i, h1⟩, hm, hw⟩ := h
  refine ⟨?_, hm.put _ _, fun z j e => ?_⟩
  · by_cases hy : y = x
    · subst hy
      have hb : σ.body i = ⟨d, d.length⟩ := h1.bd
      have e0 : (lk σ.sf y).getD 0 = i := by rw [h1.lx]; rfl
      refine ⟨σ.bs.length, ?_, ?_, ?_, fun z hz => ?_⟩
      · show lk (σ.sf.put (.string y) (ip σ.bs.length)) y = _
        rw [lk_put hm, if_pos rfl]
      · show (σ.bs ++ [_]).getD σ.bs.length ⟨[], 0⟩ = _
        rw [e0, hb, lft_all]
        simp
      · show σ.bs.length < (σ.bs ++ [_]).length
        simp
      · show lk (σ.sf.put (.string y) (ip σ.bs.length)) z ≠ _
        rw [lk_put hm, if_neg hz]
        intro e
        have := hw z _ e
        omega
    · refine ⟨i, ?_, ?_, ?_, fun z hz => ?_⟩
      · show lk (σ.sf.put (.string y) (ip σ.bs.length)) x = _
        rw [lk_put hm, if_neg (Ne.symm hy)]
        exact h1.lx
      · show (σ.bs ++ [_]).getD i ⟨[], 0⟩ = _
        rw [getD_app _ _ _ h1.il]
        exact h1.bd
      · show i < (σ.bs ++ [_]).length
        have := h1.il
        simp
        omega
      · show lk (σ.sf.put (.string y) (ip σ.bs.length)) z ≠ _
        rw [lk_put hm]
        split
        · intro e
          injection e with e
          have := h1.il
          omega
        · exact h1.ot z hz
  · have e' : lk (σ.sf.put (.string y) (ip σ.bs.length)) z = some j := e
    rw [lk_put hm] at e'
    show j < (σ.bs ++ [_]).length
    split at e'
    · injection e' with e'
      subst e'
      simp
    · have := hw z j e'
      simp
      omega
theorem Jc.crn {x d : Tx} {τ : Ds} (h : Jc x d τ) (cuts : List Int) : ∀ k, Jc x d (crn τ cuts k)
  | 0 => h
  | k + 1 => by rw [crn_succ]; exact (Jc.crn h cuts k).step _ _
theorem crf_ok {x d : Tx} {σ : Ds} {i : Nat} (h2 : Jm x d σ.sf σ.bs i) (h3 : ∀ c ∈ σ.pend, ∀ l ∈ c, l.1 ≠ x ∧ l.2 ≠ some i) (hw : Wfd σ) (dirs : List Bool) : ∀ k, k ≤ σ.pend.length → Jm x d (crf σ dirs k) σ.bs i ∧ IsMap (crf σ dirs k) ∧ ∀ y j, lk (crf σ dirs k) y = some j → j < σ.bs.length
  | 0, _ => ⟨h2, hw.mf, hw.sf⟩
  | k + 1, hk => by
    obtain ⟨k1, k2, k3⟩ := crf_ok h2 h3 hw dirs k (by omega)
    have hm : σ.pend.getD k [] ∈ σ.pend := by
      have hl : k < σ.pend.length := by omega
      rw [List.getD, List.getElem?_eq_getElem hl]
      exact List.getElem_mem _
    rw [crf_succ]
    split
    · exact ⟨k1.fol k2 _ (h3 _ hm), fol_isMap k2 _, lk_fol_lt k2 k3 _ (hw.pn _ hm)⟩
    · exact ⟨k1, k2, k3⟩
theorem Jk.crash {x d : Tx} {σ : Ds} (h : Jk x d σ) (dirs : List Bool) (cuts : List Int) : Jk x d (σ.crash dirs cuts) ∧ (σ.crash dirs cuts).pend = [] := by
  obtain ⟨⟨i, h1, h2, h3⟩, hw⟩ := h
  obtain ⟨k1, k2, k3⟩ := crf_ok h2 h3 hw dirs σ.pend.length (Nat.le_refl _)
  have h4 : Jc x d (cr1 σ dirs) := ⟨⟨i, k1⟩, k2, k3⟩
  have h5 := h4.crn cuts (nms (cr1 σ dirs).sf).length
  have hp : (crn (cr1 σ dirs) cuts (nms (cr1 σ dirs).sf).length).pend = [] := crn_pend _ _ _
  unfold Ds.crash
  obtain ⟨i', j1⟩ := h5.ex
  refine ⟨⟨⟨i', j1, j1, fun c hc => ?_⟩, ⟨h5.wf, h5.wf, fun c hc => ?_, h5.mf, h5.mf⟩⟩, hp⟩
  · have hc' : c ∈ (crn (cr1 σ dirs) cuts (nms (cr1 σ dirs).sf).length).pend := hc
    rw [hp] at hc'; cases hc'
  · have hc' : c ∈ (crn (cr1 σ dirs) cuts (nms (cr1 σ dirs).sf).length).pend := hc
    rw [hp] at hc'; cases hc'
/-- Does an act do something to the file of that name? -/
def tch (k : Int) (x y nm : Tx) : Bool :=
  if k = 0 ∨ k = 1 ∨ k = 4 ∨ k = 14 ∨ k = 15 then decide (x = nm) else if k = 3 then decide (x = nm ∨ y = nm) else decide (k = 16)
theorem Jk.step {nm d : Tx} {σ : Ds} (h : Jk nm d σ) (a : Atp) (ht : tch a.1 a.2.1.x a.2.1.y nm = false) : Jk nm d (σ.step a) := by
  obtain ⟨q, s, l⟩ := a
  show Jk nm d (σ.act q s.x s.y s.n l).2
  have ht' : tch q s.x s.y nm = false := ht
  unfold tch at ht'
  by_cases e0 : q = 0
  · subst e0; rw [act_0]; rw [if_pos (by decide)] at ht'; exact h.create (by simpa using ht')
  by_cases e1 : q = 1
  · subst e1; rw [act_1]; rw [if_pos (by decide)] at ht'; exact h.append (by simpa using ht')
  by_cases e2 : q = 2
  · subst e2; rw [act_2]; exact h.sync
  by_cases e3 : q = 3
  · subst e3; rw [act_3]; rw [if_neg (by decide), if_pos rfl] at ht'
    have h9 : ¬ s.x = nm ∧ ¬ s.y = nm := by simpa using ht'
    exact h.rename h9.1 h9.2
  by_cases e4 : q = 4
  · subst e4; rw [act_4]; rw [if_pos (by decide)] at ht'; exact h.remove (by simpa using ht')
  by_cases e5 : q = 5
  · subst e5; rw [act_5]; exact h.syncDir
  by_cases e6 : q = 6
  · subst e6; rw [act_6]; exact h
  by_cases e10 : q = 10
  · subst e10; rw [act_10]; exact h
  by_cases e13 : q = 13
  · subst e13; rw [act_13]; exact (h.crash _ _).1
  by_cases e14 : q = 14
  · subst e14; rw [act_14]; rw [if_pos (by decide)] at ht'; exact h.flip (by simpa using ht')
  by_cases e15 : q = 15
  · subst e15; rw [act_15]; rw [if_pos (by decide)] at ht'; exact h.cut (by simpa using ht')
  by_cases e16 : q = 16
  · subst e16; rw [if_neg (by decide), if_neg (by decide)] at ht'; simp at ht'
  rw [act_no σ s.x s.y s.n l e0 e1 e2 e3 e4 e5 e6 e10 e13 e14 e15 e16]
  exact h
/-- What is read of it. -/
theorem Jk.read {nm d : Tx} {σ : Ds} (h : Jk nm d σ) (hn : isN nm = true) : σ.read nm = (0, d) ∧ σ.loose nm = (0, 0) := by
  obtain ⟨⟨i, h1, _, _⟩, _⟩ := h
  have hf : σ.find nm = .inr i := by unfold Ds.find; rw [if_pos hn, h1.lx]
  have hb : σ.body i = ⟨d, d.length⟩ := h1.bd
  constructor
  · unfold Ds.read; rw [hf]; simp only [hb]
  · unfold Ds.loose; rw [hf]; simp only [hb]; simp
end Go.Proofs.Ytaddgmbglhdfdaa
