/-
  Between old and new: the mathematics of DriveBetween.
-/
import Derived.Test.YtaddgmbglhdfdaaKw11
import Derived.Test.YtaddgmbglhdfdaaKq11
import Derived.Test.YtaddgmbglhdfdaaKt11
namespace Go.Proofs.Ytaddgmbglhdfdaa
open Go.RowKit Go.Maps Go.Sort
/-- What a list of files has under a name. -/
def cnt (L : List (Tx × Tx)) (x : Tx) : Option Tx := (L.find? fun f => f.1 == x).map (·.2)
theorem cnt_none {L : List (Tx × Tx)} {x : Tx} (h : x ∉ L.map (·.1)) : cnt L x = none := by
  unfold cnt
  rw [List.find?_eq_none.2 (fun f hf => by
    simp only [beq_iff_eq]
    intro e
    exact h (List.mem_map.2 ⟨f, hf, e⟩))]
  rfl
theorem cnt_mem : ∀ {L : List (Tx × Tx)}, (L.map (·.1)).Nodup → ∀ {f : Tx × Tx}, f ∈ L → cnt L f.1 = some f.2
  | [], _, f, h => by cases h
  | g :: L, hd, f, h => by
    have hd' : g.1 ∉ L.map (·.1) ∧ (L.map (·.1)).Nodup := by
      rw [List.map_cons] at hd
      exact List.nodup_cons.1 hd
    unfold cnt
    rw [List.find?_cons]
    rcases List.mem_cons.1 h with rfl | h1
    · simp
    · have hne : (g.1 == f.1) = false := by
        simp only [beq_eq_false_iff_ne]
        intro e
        exact hd'.1 (by rw [e]; exact List.mem_map.2 ⟨f, h1, rfl⟩)
      simp only [hne]
      exact cnt_mem hd'.2 h1
theorem crl_names (τ : Ds) (cuts : List Int) : (crl τ cuts).map (·.1) = nms τ.sf := by
  unfold crl
  rw [List.map_map]
  have h9 := map_range (nms τ.sf) [] id
  rw [List.map_id] at h9
  exact h9.symm
theorem cnt_crl {τ : Ds} (ht : Td τ.sf) (cuts : List Int) (x : Tx) : (lk τ.sf x = none ∧ cnt (crl τ cuts) x = none) ∨ ∃ i j, lk τ.sf x = some i ∧ j < (nms τ.sf).length ∧ cnt (crl τ cuts) x = some (lft (τ.body i) (cuts.getD j 0)) := by
  by_cases hx : x ∈ nms τ.sf
  · right
    obtain ⟨i, hi⟩ := ht.mem.1 hx
    obtain ⟨j, hj, e⟩ := List.getElem_of_mem hx
    have e9 : (nms τ.sf).getD j [] = x := by simp [hj, e]
    refine ⟨i, j, hi, hj, ?_⟩
    have h1 := cnt_mem (L := crl τ cuts) (by rw [crl_names]; exact nms_nodup ht) (f := ((nms τ.sf).getD j [], lft (τ.body ((lk τ.sf ((nms τ.sf).getD j [])).getD 0)) (cuts.getD j 0))) (List.mem_map.2 ⟨j, by simpa using hj, rfl⟩)
    rw [e9, hi] at h1
    exact h1
  · left
    refine ⟨?_, cnt_none (by rw [crl_names]; exact hx)⟩
    cases h : lk τ.sf x with
    | none => rfl
    | some i => exact absurd (ht.mem.2 ⟨i, h⟩) hx
/-- How many bytes of a body may be loose. -/
def Lo (m : Nat) (σ : Ds) : Prop := ∀ i, (σ.body i).data.length ≤ (σ.body i).safe + m
theorem Lo.mono {m m' : Nat} {σ : Ds} (h : Lo m σ) (hm : m ≤ m') : Lo m' σ := fun i => by have := h i; omega
theorem Lo.set {m : Nat} {σ : Ds} (h : Lo m σ) (i : Nat) (b : Bd) (u : Int) (hb : b.data.length ≤ b.safe + m) : Lo m { (σ.setBody i b) with used := u } := by
  intro j
  show ((σ.setBody i b).body j).data.length ≤ ((σ.setBody i b).body j).safe + m
  rw [body_set]
  split
  · exact hb
  · exact h j
theorem Lo.change {m : Nat} {σ : Ds} (h : Lo m σ) (c : List Ld) : Lo m (σ.change c) := h
theorem Lo.crs {m : Nat} {ρ : Ds} (h : Lo m ρ) (x : Tx) (cut : Int) : Lo m (crs1 ρ x cut) := by
  intro i
  rw [crs1_body]
  split
  · exact h i
  · split
    · exact Nat.le_add_right _ _
    · exact Nat.zero_le _
theorem Lo.crn {m : Nat} {τ : Ds} (h : Lo m τ) (cuts : List Int) : ∀ k, Lo m (crn τ cuts k)
  | 0 => h
  | k + 1 => by rw [crn_succ]; exact (Lo.crn h cuts k).crs _ _
theorem Lo.step {m : Nat} {σ : Ds} (h : Lo m σ) (a : Atp) : Lo (m + a.2.2.d.length) (σ.step a) := by
  obtain ⟨q, s, l⟩ := a
  show Lo (m + l.d.length) (σ.act q s.x s.y s.n l).2
  have h' : Lo (m + l.d.length) σ := h.mono (by omega)
  by_cases e0 : q = 0
  · subst e0; rw [act_0]
    unfold Ds.create
    dsimp only
    split
    · split
      · exact h'
      · refine Lo.change (fun i => ?_) _
        rw [body_add]; exact h' i
    · exact h'
  by_cases e1 : q = 1
  · subst e1; rw [act_1]
    unfold Ds.append
    dsimp only
    split
    · exact h'
    · rename_i j hj
      split
      · exact h'
      · split
        · exact h'
        · refine h'.set j _ _ ?_
          have := h j
          show ((σ.body j).data ++ l.d).length ≤ (σ.body j).safe + _
          rw [List.length_append]
          omega
  by_cases e2 : q = 2
  · subst e2; rw [act_2]
    unfold Ds.sync
    dsimp only
    split
    · exact h'
    · exact h'.set _ _ σ.used (Nat.le_add_right _ _)
  by_cases e3 : q = 3
  · subst e3; rw [act_3]
    unfold Ds.rename
    dsimp only
    split
    · split
      · exact h'
      · split
        · exact h'
        · exact h'.change _
    · exact h'
  by_cases e4 : q = 4
  · subst e4; rw [act_4]
    unfold Ds.remove
    dsimp only
    split
    · exact h'
    · exact h'.change _
  by_cases e5 : q = 5
  · subst e5; rw [act_5]; exact h'
  by_cases e6 : q = 6
  · subst e6; rw [act_6]; exact h'
  by_cases e10 : q = 10
  · subst e10; rw [act_10]; exact h'
  by_cases e13 : q = 13
  · subst e13; rw [act_13]
    have h9 : Lo (m + l.d.length) (cr1 σ l.dirs) := h'
    exact h9.crn l.cuts _
  by_cases e14 : q = 14
  · subst e14; rw [act_14]
    unfold Ds.flip
    dsimp only
    split
    · exact h'
    · rename_i i _
      refine h'.set i _ σ.used ?_
      have := h' i
      rw [flp_len]
      exact this
  by_cases e15 : q = 15
  · subst e15; rw [act_15]
    unfold Ds.cut
    dsimp only
    split
    · exact h'
    · rename_i i _
      refine h'.set i _ _ ?_
      have := h' i
      show ((σ.body i).data.take s.n.toNat).length ≤ min (σ.body i).safe (min s.n.toNat (σ.body i).data.length) + _
      rw [List.length_take]
      omega
  by_cases e16 : q = 16
  · subst e16; rw [act_16]; intro i; simp [Ds.new, Ds.body]
  rw [act_no σ s.x s.y s.n l e0 e1 e2 e3 e4 e5 e6 e10 e13 e14 e15 e16]
  exact h'
/-- How many bytes acts bear. -/
def dsz (L : List Atp) : Nat := (L.map fun a => a.2.2.d.length).sum
theorem dsz_succ (L : List Atp) (k : Nat) (h : k < L.length) : dsz (L.take (k + 1)) = dsz (L.take k) + (L[k]).2.2.d.length := by
  unfold dsz
  rw [List.take_add_one, List.getElem?_eq_getElem h, List.map_append, List.sum_append]
  simp
theorem dsz_aesz (L : List Atp) : dsz L ≤ aesz L := by
  unfold dsz aesz
  induction L with
  | nil => exact Nat.le_refl _
  | cons a L ih =>
    simp only [List.map_cons, List.sum_cons]
    have : a.2.2.d.length ≤ aez a := by unfold aez; omega
    omega
theorem Lo.run {m : Nat} {σ : Ds} (h : Lo m σ) (L : List Atp) : Lo (m + dsz L) (σ.run L) := by
  unfold Ds.run dsz
  induction L generalizing σ m with
  | nil => exact h
  | cons a L ih =>
    have h9 := ih (h.step a)
    simp only [List.map_cons, List.sum_cons, List.foldl_cons]
    exact h9.mono (by omega)
theorem Lo.ldr : ∀ (L : List (Tx × Tx)) (σ ρ : Ds), Lo 0 σ → Go.Proofs.Ytaddgmbglhdfdaa.ldr σ L = some ρ → Lo 0 ρ := by
  intro L
  induction L with
  | nil =>
    intro σ ρ h e
    simp only [Go.Proofs.Ytaddgmbglhdfdaa.ldr, Option.some.injEq] at e
    subst e
    exact h
  | cons f L ih =>
    intro σ ρ h e
    unfold Go.Proofs.Ytaddgmbglhdfdaa.ldr at e
    split at e
    · refine ih (ld1 σ f) ρ (fun i => ?_) e
      show (Ds.body { σ with bs := σ.bs ++ [⟨f.2, f.2.length⟩] } i).data.length ≤ (Ds.body { σ with bs := σ.bs ++ [⟨f.2, f.2.length⟩] } i).safe + 0
      rw [body_app]
      split
      · exact Nat.le_refl _
      · exact h i
    · cases e
theorem Lo.new (r : Nat) : Lo 0 (Ds.new r) := fun i => by simp [Ds.new, Ds.body]
theorem Lo.start {how room : Int} {L : List (Tx × Tx)} {σ : Ds} (h : Ds.start how room L = some σ) : Lo 0 σ := by
  unfold Ds.start at h
  split at h
  · split at h
    · injection h with h; subst h; exact Lo.new _
    · cases h
  · split at h
    · unfold Ds.load at h
      split at h
      · exact Lo.ldr L _ σ (Lo.new _) h
      · cases h
    · injection h with h; subst h; exact Lo.new _
/-- How many names there may be. -/
structure Sn (m : Nat) (σ : Ds) : Prop where
  sz : Maps.size σ.sf + σ.pend.length ≤ m
  on : ∀ c ∈ σ.pend, ∀ D : Dir, Tidy D → Maps.size (fol D c) ≤ Maps.size D + 1
theorem Sn.mono {m m' : Nat} {σ : Ds} (h : Sn m σ) (hm : m ≤ m') : Sn m' σ := ⟨Nat.le_trans h.sz hm, h.on⟩
theorem on_one (x : Tx) (o : Option Nat) : ∀ D : Dir, Tidy D → Maps.size (fol D [(x, o)]) ≤ Maps.size D + 1 := fun _ h => (fol1_tidy h (x, o)).2
theorem on_two (x y : Tx) (i : Nat) : ∀ D : Dir, Tidy D → Maps.size (fol D [(x, none), (y, some i)]) ≤ Maps.size D + 1 := fun D h => by
  have h1 : Maps.size (fol1 D (x, none)) ≤ Maps.size D := by
    have := size_del (k := .string x) h
    show Maps.size (D.del (.string x)) ≤ _
    omega
  have h2 := (fol1_tidy (fol1_tidy h (x, none)).1 (y, some i)).2
  show Maps.size (fol1 (fol1 D (x, none)) (y, some i)) ≤ _
  omega
theorem Sn.change {m : Nat} {σ : Ds} (h : Sn m σ) (c : List Ld) (hc : ∀ D : Dir, Tidy D → Maps.size (fol D c) ≤ Maps.size D + 1) : Sn (m + 1) (σ.change c) := by
  have := h.sz
  refine ⟨?_, fun c' hc' => ?_⟩
  · show Maps.size σ.sf + (σ.pend ++ [c]).length ≤ _
    rw [List.length_append]
    simp only [List.length_cons, List.length_nil]
    omega
  · have h9 : c' ∈ σ.pend ∨ c' = c := by simpa [Ds.change] using hc'
    rcases h9 with h9 | rfl
    · exact h.on c' h9
    · exact hc
theorem fols_sz : ∀ (cs : List (List Ld)) {D : Dir}, Tidy D → (∀ c ∈ cs, ∀ D : Dir, Tidy D → Maps.size (fol D c) ≤ Maps.size D + 1) → Maps.size (cs.foldl fol D) ≤ Maps.size D + cs.length
  | [], _, _, _ => Nat.le_refl _
  | c :: cs, D, ht, hc => by
    have h1 := fols_sz cs (fol_tidy ht c).1 (fun c' hc' => hc c' (by simp [hc']))
    have h2 := hc c (by simp) D ht
    simp only [List.foldl_cons, List.length_cons]
    omega
theorem Sn.crf {m : Nat} {σ : Ds} (h : Sn m σ) (ht : Tidy σ.sf) (dirs : List Bool) : ∀ k, k ≤ σ.pend.length → Tidy (crf σ dirs k) ∧ Maps.size (crf σ dirs k) ≤ Maps.size σ.sf + k
  | 0, _ => ⟨ht, Nat.le_refl _⟩
  | k + 1, hk => by
    obtain ⟨h1, h2⟩ := Sn.crf h ht dirs k (by omega)
    have hm : σ.pend.getD k [] ∈ σ.pend := by
      have hl : k < σ.pend.length := by omega
      rw [List.getD, List.getElem?_eq_getElem hl]
      exact List.getElem_mem _
    rw [crf_succ]
    split
    · have := h.on _ hm _ h1
      exact ⟨(fol_tidy h1 _).1, by omega⟩
    · exact ⟨h1, by omega⟩
theorem size_nms' {D : Dir} (h : Tidy D) : Maps.size D = (nms D).length := by
  rw [nms_len]
  obtain ⟨es, rfl, _⟩ := h
  simp [strKeys, Maps.size]
theorem crn_nms {τ : Ds} (cuts : List Int) (ht : Td τ.sf) : ∀ k, k ≤ (nms τ.sf).length → Td (crn τ cuts k).sf ∧ nms (crn τ cuts k).sf = nms τ.sf
  | 0, _ => ⟨ht, rfl⟩
  | k + 1, hk => by
    obtain ⟨h1, h2⟩ := crn_nms cuts ht k (by omega)
    rw [crn_succ]
    have hp := h1.put ((nms τ.sf).getD k []) (crn τ cuts k).bs.length
    refine ⟨hp, ?_⟩
    refine Eq.trans (nms_ext hp h1 fun x => ?_) h2
    show (∃ i, lk ((crn τ cuts k).sf.put (.string ((nms τ.sf).getD k [])) (ip (crn τ cuts k).bs.length)) x = some i) ↔ _
    rw [lk_put h1.t.isMap]
    split
    · rename_i e
      have hx : x ∈ nms (crn τ cuts k).sf := by rw [h2, e]; simp [show k < (nms τ.sf).length by omega]
      exact ⟨fun _ => h1.mem.1 hx, fun _ => ⟨_, rfl⟩⟩
    · exact Iff.rfl
theorem Sn.step {m : Nat} {σ : Ds} (h : Sn m σ) (hi : Iv σ) (a : Atp) : Sn (m + 1) (σ.step a) := by
  obtain ⟨q, s, l⟩ := a
  show Sn (m + 1) (σ.act q s.x s.y s.n l).2
  have h' : Sn (m + 1) σ := h.mono (by omega)
  have hz := h.sz
  by_cases e0 : q = 0
  · subst e0; rw [act_0]
    unfold Ds.create
    dsimp only
    split
    · split
      · exact h'
      · exact Sn.change (σ := { σ with bs := σ.bs ++ [⟨[], 0⟩] }) ⟨h.sz, h.on⟩ _ (on_one _ _)
    · exact h'
  by_cases e1 : q = 1
  · subst e1; rw [act_1]
    unfold Ds.append
    dsimp only
    split
    · exact h'
    · split
      · exact h'
      · split
        · exact h'
        · exact ⟨h'.sz, h'.on⟩
  by_cases e2 : q = 2
  · subst e2; rw [act_2]
    unfold Ds.sync
    dsimp only
    split
    · exact h'
    · exact ⟨h'.sz, h'.on⟩
  by_cases e3 : q = 3
  · subst e3; rw [act_3]
    unfold Ds.rename
    dsimp only
    split
    · split
      · exact h'
      · split
        · exact h'
        · exact h.change _ (on_two _ _ _)
    · exact h'
  by_cases e4 : q = 4
  · subst e4; rw [act_4]
    unfold Ds.remove
    dsimp only
    split
    · exact h'
    · exact h.change _ (on_one _ _)
  by_cases e5 : q = 5
  · subst e5; rw [act_5]
    have := fols_sz σ.pend hi.td.t h.on
    refine ⟨?_, fun c hc => by simp [Ds.syncDir] at hc⟩
    show Maps.size (σ.pend.foldl fol σ.sf) + ([] : List (List Ld)).length ≤ _
    simp only [List.length_nil]
    omega
  by_cases e6 : q = 6
  · subst e6; rw [act_6]; exact h'
  by_cases e10 : q = 10
  · subst e10; rw [act_10]; exact h'
  by_cases e13 : q = 13
  · subst e13; rw [act_13]
    obtain ⟨h1, h2⟩ := h.crf hi.td.t l.dirs _ (Nat.le_refl _)
    obtain ⟨h3, h4⟩ := crn_nms (τ := cr1 σ l.dirs) l.cuts (hi.crf l.dirs _ (Nat.le_refl _)).1 _ (Nat.le_refl _)
    refine ⟨?_, fun c hc => by rw [crash_pend] at hc; cases hc⟩
    rw [crash_pend]
    show Maps.size (crn (cr1 σ l.dirs) l.cuts (nms (cr1 σ l.dirs).sf).length).sf + ([] : List (List Ld)).length ≤ _
    rw [size_nms' h3.t, h4]
    have h5 := size_nms' h1
    have h6 : (nms (cr1 σ l.dirs).sf).length = (nms (Go.Proofs.Ytaddgmbglhdfdaa.crf σ l.dirs σ.pend.length)).length := rfl
    simp only [List.length_nil]
    omega
  by_cases e14 : q = 14
  · subst e14; rw [act_14]
    unfold Ds.flip
    dsimp only
    split
    · exact h'
    · exact ⟨h'.sz, h'.on⟩
  by_cases e15 : q = 15
  · subst e15; rw [act_15]
    unfold Ds.cut
    dsimp only
    split
    · exact h'
    · exact ⟨h'.sz, h'.on⟩
  by_cases e16 : q = 16
  · subst e16; rw [act_16]; exact ⟨Nat.zero_le _, fun c hc => by simp [Ds.new] at hc⟩
  rw [act_no σ s.x s.y s.n l e0 e1 e2 e3 e4 e5 e6 e10 e13 e14 e15 e16]
  exact h'
theorem Sn.run {m : Nat} {σ : Ds} (h : Sn m σ) (hi : Iv σ) (L : List Atp) : Sn (m + L.length) (σ.run L) := by
  unfold Ds.run
  induction L generalizing σ m with
  | nil => exact h
  | cons a L ih =>
    have h9 := ih (h.step hi a) (hi.step a)
    simp only [List.length_cons, List.foldl_cons]
    exact h9.mono (by omega)
theorem Sn.new (r m : Nat) : Sn m (Ds.new r) := ⟨Nat.zero_le _, fun c hc => by simp [Ds.new] at hc⟩
theorem ldr_sz : ∀ (L : List (Tx × Tx)) (σ ρ : Ds) (m : Nat), Tidy σ.st → σ.pend = [] → Maps.size σ.st ≤ m → Go.Proofs.Ytaddgmbglhdfdaa.ldr σ L = some ρ → Maps.size ρ.sf ≤ m + L.length ∧ ρ.pend = [] := by
  intro L
  induction L with
  | nil =>
    intro σ ρ m ht hp hm e
    simp only [Go.Proofs.Ytaddgmbglhdfdaa.ldr, Option.some.injEq] at e
    subst e
    exact ⟨hm, hp⟩
  | cons f L ih =>
    intro σ ρ m ht hp hm e
    unfold Go.Proofs.Ytaddgmbglhdfdaa.ldr at e
    split at e
    · obtain ⟨t1, t2⟩ := tidy_put ht f.1 σ.bs.length
      obtain ⟨h1, h2⟩ := ih (ld1 σ f) ρ (m + 1) t1 hp (by show Maps.size (σ.st.put _ _) ≤ _; omega) e
      exact ⟨by simp only [List.length_cons]; omega, h2⟩
    · cases e
theorem Sn.start {how room : Int} {L : List (Tx × Tx)} {σ : Ds} (h : Ds.start how room L = some σ) : Sn L.length σ := by
  unfold Ds.start at h
  split at h
  · split at h
    · injection h with h; subst h; exact Sn.new _ _
    · cases h
  · split at h
    · unfold Ds.load at h
      split at h
      · obtain ⟨h1, h2⟩ := ldr_sz L _ σ 0 tidy_empty rfl (Nat.le_refl _) h
        exact ⟨by rw [h2]; simp only [List.length_nil]; omega, fun c hc => by rw [h2] at hc; cases hc⟩
      · cases h
    · injection h with h; subst h; exact Sn.new _ _
/-- A file written aside, its other bodies as they were. -/
structure Je (x : Tx) (σ0 : Ds) (b : Bd) (σ : Ds) : Prop where
  j : Jb x σ0 b σ
  ob : ∀ i, i < σ0.bs.length → σ.body i = σ0.body i
theorem je_create {σ : Ds} {x : Tx} (h : (σ.create x).1 = 0) : Je x σ ⟨[], 0⟩ (σ.create x).2 := by
  refine ⟨(jb_create h).2, fun i hi => ?_⟩
  rw [(create_eq h).2]
  show Ds.body { σ with bs := σ.bs ++ [⟨[], 0⟩] } i = _
  exact body_add σ i
theorem je_append {σ0 σ : Ds} {x d : Tx} (h : Je x σ0 ⟨[], 0⟩ σ) (hw : Wfd σ0) (hn : isN x = true) (ha : (σ.append x d).1 = 0) : Je x σ0 ⟨d, 0⟩ (σ.append x d).2 := by
  refine ⟨jb_append h.j hw hn ha, fun i hi => ?_⟩
  rw [← h.ob i hi]
  unfold Ds.append
  rw [h.j.find hw hn]
  dsimp only
  split
  · rfl
  · split
    · rfl
    · show (σ.setBody σ0.bs.length _).body i = _
      rw [body_set, if_neg (by omega)]
theorem je_sync {σ0 σ : Ds} {x d : Tx} (h : Je x σ0 ⟨d, 0⟩ σ) (hw : Wfd σ0) (hn : isN x = true) : (σ.sync x).1 = 0 ∧ Je x σ0 ⟨d, d.length⟩ (σ.sync x).2 := by
  obtain ⟨h1, h2⟩ := jb_sync h.j hw hn
  refine ⟨h1, h2, fun i hi => ?_⟩
  rw [← h.ob i hi]
  unfold Ds.sync
  rw [h.j.find hw hn]
  dsimp only
  rw [body_set, if_neg (by omega)]
theorem je_rename {σ0 σ : Ds} {x y : Tx} {b : Bd} (h : Je x σ0 b σ) (hw : Wfd σ0) (hn : isN x = true) (hy : isN y = true) (hne : x ≠ y) : (σ.rename x y).1 = 0 ∧ (σ.rename x y).2 = σ.change [(x, none), (y, some σ0.bs.length)] := by
  unfold Ds.rename
  rw [if_pos hy, h.j.find hw hn]
  dsimp only
  rw [if_neg hne]
  exact ⟨rfl, rfl⟩
theorem crf_pre {σ σ0 : Ds} {more : List (List Ld)} (hs : σ.sf = σ0.sf) (hp : σ.pend = σ0.pend ++ more) (dirs : List Bool) : ∀ k, k ≤ σ0.pend.length → crf σ dirs k = crf σ0 dirs k
  | 0, _ => hs
  | k + 1, hk => by
    have e : σ.pend.getD k [] = σ0.pend.getD k [] := by rw [hp, List.getD, List.getElem?_append_left (by omega), List.getD]
    rw [crf_succ, crf_succ, crf_pre hs hp dirs k (by omega), e]
/-- The name is as a loss of power ahead of all this could have left it. -/
theorem je_as {σ0 σ : Ds} {x y : Tx} {b : Bd} (h : Je x σ0 b σ) (hi : Iv σ0) (hne : x ≠ y) (dirs : List Bool) {more : List (List Ld)} {δ : Ds} (hs : δ.sf = σ.sf) (hp : δ.pend = σ.pend ++ more) : lk (crf δ dirs (σ0.pend.length + 1)) y = lk (crf σ0 dirs σ0.pend.length) y := by
  have hp9 : δ.pend = σ0.pend ++ ([(x, some σ0.bs.length)] :: more) := by rw [hp, h.j.pn, List.append_assoc]; rfl
  have e : δ.pend.getD σ0.pend.length [] = [(x, some σ0.bs.length)] := by rw [hp9, List.getD, List.getElem?_append_right (Nat.le_refl _)]; simp
  rw [crf_succ, crf_pre (hs.trans h.j.sf) hp9 dirs _ (Nat.le_refl _), e]
  split
  · show lk (fol1 (crf σ0 dirs σ0.pend.length) (x, some σ0.bs.length)) y = _
    rw [lk_fol1 (hi.crf dirs _ (Nat.le_refl _)).1.t.isMap, if_neg (fun e => hne e.symm)]
  · rfl
theorem je_len {σ0 σ : Ds} {x : Tx} {b : Bd} (h : Je x σ0 b σ) : σ.pend.length = σ0.pend.length + 1 := by rw [h.j.pn]; simp
/-- What the name has, in a drive of the way. -/
structure Bw (σ0 : Ds) (y d : Tx) (s : Nat) (dirs : List Bool) (δ : Ds) : Prop where
  lf : (lk (crf δ dirs δ.pend.length) y = lk (crf σ0 dirs σ0.pend.length) y ∧ s ≤ 4) ∨ (4 ≤ s ∧ ∃ i, lk (crf δ dirs δ.pend.length) y = some i ∧ δ.body i = ⟨d, d.length⟩)
  ob : ∀ i, i < σ0.bs.length → δ.body i = σ0.body i
theorem bw_je {σ0 σ : Ds} {x y d : Tx} {b : Bd} {s : Nat} (h : Je x σ0 b σ) (hi : Iv σ0) (hne : x ≠ y) (dirs : List Bool) (hs : s ≤ 4) : Bw σ0 y d s dirs σ := by
  refine ⟨.inl ⟨?_, hs⟩, h.ob⟩
  rw [je_len h]
  exact je_as h hi hne dirs rfl (List.append_nil _).symm
theorem bw_four {σ0 σ : Ds} {x y d : Tx} (h : Je x σ0 ⟨d, d.length⟩ σ) (hi : Iv σ0) (hne : x ≠ y) (dirs : List Bool) : Bw σ0 y d 4 dirs (σ.change [(x, none), (y, some σ0.bs.length)]) := by
  have hl : (σ.change [(x, none), (y, some σ0.bs.length)]).pend.length = σ0.pend.length + 1 + 1 := by
    show (σ.pend ++ [_]).length = _
    rw [List.length_append, je_len h]
    rfl
  have e : (σ.change [(x, none), (y, some σ0.bs.length)]).pend.getD (σ0.pend.length + 1) [] = [(x, none), (y, some σ0.bs.length)] := by
    show (σ.pend ++ [_]).getD _ [] = _
    rw [← je_len h]
    simp
  refine ⟨?_, h.ob⟩
  have h1 := je_as h hi hne dirs (δ := σ.change [(x, none), (y, some σ0.bs.length)]) (more := [[(x, none), (y, some σ0.bs.length)]]) rfl rfl
  rw [hl, crf_succ, e]
  split
  · right
    refine ⟨Nat.le_refl _, σ0.bs.length, ?_, h.j.bd⟩
    have hm : IsMap (crf (σ.change [(x, none), (y, some σ0.bs.length)]) dirs (σ0.pend.length + 1)) := by
      rw [crf_succ]
      have hp9 : (σ.change [(x, none), (y, some σ0.bs.length)]).pend = σ0.pend ++ [[(x, some σ0.bs.length)], [(x, none), (y, some σ0.bs.length)]] := by
        show σ.pend ++ [_] = _
        rw [h.j.pn, List.append_assoc]
        rfl
      rw [crf_pre (σ := σ.change [(x, none), (y, some σ0.bs.length)]) h.j.sf hp9 dirs _ (Nat.le_refl _)]
      have := (hi.crf dirs _ (Nat.le_refl _)).1.t.isMap
      split
      · exact fol_isMap this _
      · exact this
    show lk (fol1 (fol1 _ (x, none)) (y, some σ0.bs.length)) y = _
    rw [lk_fol1 (fol1_isMap hm _), if_pos rfl]
  · left
    exact ⟨h1, Nat.le_refl _⟩
theorem bw_five {σ0 σ : Ds} {x y d : Tx} (h : Je x σ0 ⟨d, d.length⟩ σ) (hi : Iv σ0) (dirs : List Bool) : Bw σ0 y d 5 dirs (σ.change [(x, none), (y, some σ0.bs.length)]).syncDir := by
  refine ⟨.inr ⟨by omega, σ0.bs.length, ?_, h.j.bd⟩, h.ob⟩
  show lk ((σ.pend ++ [[(x, none), (y, some σ0.bs.length)]]).foldl fol σ.sf) y = _
  rw [List.foldl_append]
  have hm : IsMap (σ.pend.foldl fol σ.sf) := by
    rw [h.j.sf]
    exact (hi.td.fols _).t.isMap
  show lk (fol1 (fol1 (σ.pend.foldl fol σ.sf) (x, none)) (y, some σ0.bs.length)) y = _
  rw [lk_fol1 (fol1_isMap hm _), if_pos rfl]
/-- An act of the way: no number, no fate. -/
def sAc (x y : Tx) (pd : Option Addr) (nd cd : Nat) : Ac := ⟨x, y, 0, pd, nd, cd, none, 0, 0, none, 0, 0⟩
/-- The five calls of the way. -/
def SLs (x y d : Tx) (pd : Option Addr) (cd : Nat) : List Atp := [(0, sAc x [] none 0 0, ⟨[], [], []⟩), (1, sAc x [] pd d.length cd, ⟨d, [], []⟩), (2, sAc x [] none 0 0, ⟨[], [], []⟩), (3, sAc x y none 0 0, ⟨[], [], []⟩), (5, sAc [] [] none 0 0, ⟨[], [], []⟩)]
/-- The drive behind the first k of them; what the next one answers. -/
def Wy (σ : Ds) (x y d : Tx) : Nat → Ds
  | 0 => σ
  | 1 => (σ.create x).2
  | 2 => ((σ.create x).2.append x d).2
  | 3 => (((σ.create x).2.append x d).2.sync x).2
  | 4 => ((((σ.create x).2.append x d).2.sync x).2.rename x y).2
  | _ => ((((σ.create x).2.append x d).2.sync x).2.rename x y).2.syncDir
def Wc (σ : Ds) (x y d : Tx) : Nat → Nat
  | 0 => (σ.create x).1
  | 1 => ((σ.create x).2.append x d).1
  | 2 => (((σ.create x).2.append x d).2.sync x).1
  | 3 => ((((σ.create x).2.append x d).2.sync x).2.rename x y).1
  | _ => 0
theorem wy_step (σ : Ds) (x y d : Tx) (pd : Option Addr) (cd : Nat) : ∀ k (h : k < (SLs x y d pd cd).length), (Wy σ x y d k).act (SLs x y d pd cd)[k].1 (SLs x y d pd cd)[k].2.1.x (SLs x y d pd cd)[k].2.1.y (SLs x y d pd cd)[k].2.1.n (SLs x y d pd cd)[k].2.2 = ((Wc σ x y d k : Int), Wy σ x y d (k + 1))
  | 0, _ => act_0 _ _ _ _ _
  | 1, _ => act_1 _ _ _ _ _
  | 2, _ => act_2 _ _ _ _ _
  | 3, _ => act_3 _ _ _ _ _
  | 4, _ => act_5 _ _ _ _ _
  | k + 5, h => absurd h (by simp [SLs])
theorem create_fail {σ : Ds} {x : Tx} (h : (σ.create x).1 ≠ 0) : (σ.create x).2 = σ := by
  unfold Ds.create at h ⊢
  split
  · rename_i hn
    rw [if_pos hn] at h
    split
    · rfl
    · rename_i h2
      rw [if_neg h2] at h
      exact absurd rfl h
  · rfl
theorem append_fail {σ : Ds} {x d : Tx} (h : (σ.append x d).1 ≠ 0) : (σ.append x d).2 = σ := by
  unfold Ds.append at h ⊢
  split
  · rfl
  · rename_i i hi
    rw [hi] at h
    dsimp only at h
    split
    · rfl
    · rename_i h2
      rw [if_neg h2] at h
      split
      · rfl
      · rename_i h3
        rw [if_neg h3] at h
        exact absurd rfl h
theorem wy_iv {σ : Ds} {x y d : Tx} (h : Iv σ) : ∀ s, Iv (Wy σ x y d s)
  | 0 => h
  | 1 => h.create x
  | 2 => (h.create x).append x d
  | 3 => ((h.create x).append x d).sync x
  | 4 => (((h.create x).append x d).sync x).rename x y
  | _ + 5 => ((((h.create x).append x d).sync x).rename x y).syncDir
theorem wy_fail {σ0 : Ds} {x y d : Tx} (hw : Wfd σ0) (hx : isN x = true) (hy : isN y = true) (hne : x ≠ y) (s : Nat) (hc : ∀ j, j < s → Wc σ0 x y d j = 0) (hf : Wc σ0 x y d s ≠ 0) : Wy σ0 x y d (s + 1) = Wy σ0 x y d s ∧ s ≤ 1 := by
  rcases s with _ | s
  · exact ⟨create_fail hf, by omega⟩
  have j1 := je_create (hc 0 (by omega))
  rcases s with _ | s
  · exact ⟨append_fail hf, by omega⟩
  have j2 := je_append j1 hw hx (hc 1 (by omega))
  rcases s with _ | s
  · exact absurd (je_sync j2 hw hx).1 hf
  have j3 := (je_sync j2 hw hx).2
  rcases s with _ | s
  · exact absurd (je_rename j3 hw hx hy hne).1 hf
  · exact absurd rfl hf
theorem wy_all {σ0 : Ds} {x y d : Tx} (hw : Wfd σ0) (hi : Iv σ0) (hx : isN x = true) (hy : isN y = true) (hne : x ≠ y) (s : Nat) (hc : ∀ j, j < s → Wc σ0 x y d j = 0) (hs : s ≤ 5) (dirs : List Bool) : Bw σ0 y d s dirs (Wy σ0 x y d s) := by
  rcases s with _ | s
  · exact ⟨.inl ⟨rfl, by omega⟩, fun _ _ => rfl⟩
  have j1 := je_create (hc 0 (by omega))
  rcases s with _ | s
  · exact bw_je j1 hi hne dirs (by omega)
  have j2 := je_append j1 hw hx (hc 1 (by omega))
  rcases s with _ | s
  · exact bw_je j2 hi hne dirs (by omega)
  have j3 := (je_sync j2 hw hx).2
  rcases s with _ | s
  · exact bw_je j3 hi hne dirs (by omega)
  have j4 := (je_rename j3 hw hx hy hne).2
  rcases s with _ | s
  · show Bw σ0 y d 4 dirs (Ds.rename _ x y).2
    rw [j4]
    exact bw_four j3 hi hne dirs
  rcases s with _ | s
  · show Bw σ0 y d 5 dirs (Ds.rename _ x y).2.syncDir
    rw [j4]
    exact bw_five j3 hi dirs
  · omega
/-- What the name has behind the loss of power: the new bytes, or what it could have had ahead of all this. -/
theorem wy_cnt {σ0 : Ds} {x y d : Tx} (hw : Wfd σ0) (hi : Iv σ0) (hx : isN x = true) (hy : isN y = true) (hne : x ≠ y) (s : Nat) (hc : ∀ j, j < s → Wc σ0 x y d j = 0) (hs : s ≤ 5) (hwd : Wfd (Wy σ0 x y d s)) (hid : Iv (Wy σ0 x y d s)) (dirs : List Bool) (cuts : List Int) {m : Nat} (hlo : Lo m σ0) (hsa : ∀ i, (σ0.body i).safe ≤ (σ0.body i).data.length) :
    (4 ≤ s ∧ cnt (tol ((Wy σ0 x y d s).crash dirs cuts) (·.data) ((Wy σ0 x y d s).crash dirs cuts).st) y = some d) ∨ (s ≤ 4 ∧ ∃ k, k ≤ m ∧ ∀ cs : List Int, (∀ j, j < (nms (cr1 σ0 dirs).sf).length → cs.getD j 0 = (k : Int)) → cnt (crl (cr1 σ0 dirs) cs) y = cnt (tol ((Wy σ0 x y d s).crash dirs cuts) (·.data) ((Wy σ0 x y d s).crash dirs cuts).st) y) := by
  have hB := wy_all hw hi hx hy hne s hc hs dirs
  have hcw := crash_cw dirs cuts (hid.crf dirs _ (Nat.le_refl _)).1 (crf_lt hwd hid dirs _ (Nat.le_refl _))
  have ht : tol ((Wy σ0 x y d s).crash dirs cuts) (·.data) ((Wy σ0 x y d s).crash dirs cuts).st = crl (cr1 (Wy σ0 x y d s) dirs) cuts := hcw.tol _ (fun _ => rfl)
  rw [ht]
  generalize Wy σ0 x y d s = δ at *
  have h1 := cnt_crl (τ := cr1 δ dirs) (hid.crf dirs _ (Nat.le_refl _)).1 cuts y
  rcases hB.lf with ⟨e, h4⟩ | ⟨h4, i, e, eb⟩
  · right
    refine ⟨h4, ?_⟩
    have e' : lk (cr1 δ dirs).sf y = lk (cr1 σ0 dirs).sf y := e
    rcases h1 with ⟨l1, c1⟩ | ⟨i, j, l1, hj, c1⟩
    · refine ⟨0, Nat.zero_le _, fun cs _ => ?_⟩
      rcases cnt_crl (τ := cr1 σ0 dirs) (hi.crf dirs _ (Nat.le_refl _)).1 cs y with ⟨l2, c2⟩ | ⟨i, j, l2, _, c2⟩
      · rw [c1, c2]
      · rw [e', l2] at l1; cases l1
    · have hlt : i < σ0.bs.length := crf_lt hw hi dirs _ (Nat.le_refl _) y i (by rw [← l1, e']; rfl)
      have hbd : (cr1 δ dirs).body i = σ0.body i := hB.ob i hlt
      refine ⟨min (max (cuts.getD j 0) 0).toNat ((σ0.body i).data.length - (σ0.body i).safe), by have := hlo i; omega, fun cs hcs => ?_⟩
      rcases cnt_crl (τ := cr1 σ0 dirs) (hi.crf dirs _ (Nat.le_refl _)).1 cs y with ⟨l2, c2⟩ | ⟨i2, j2, l2, hj2, c2⟩
      · rw [e', l2] at l1; cases l1
      · rw [e', l2] at l1
        injection l1 with l1
        subst l1
        rw [c1, c2, hcs j2 hj2, hbd]
        congr 1
        show lft (σ0.body i2) _ = _
        unfold lft
        have := hsa i2
        congr 1
        omega
  · left
    refine ⟨h4, ?_⟩
    rcases h1 with ⟨l1, c1⟩ | ⟨i2, j, l1, hj, c1⟩
    · rw [show lk (cr1 δ dirs).sf y = some i from e] at l1; cases l1
    · rw [show lk (cr1 δ dirs).sf y = some i from e] at l1
      injection l1 with l1
      subst l1
      rw [c1]
      congr 1
      show lft (δ.body i) _ = d
      rw [eb]
      exact lft_safe _ rfl _
end Go.Proofs.Ytaddgmbglhdfdaa
/-
  A drive among memory that it leaves as it is; 'played' and 'content' there.
-/
namespace Go.Proofs.Ytaddgmbglhdfdaa
open Go.RowKit Go.Maps Go.Sort
/-- A drive of the blocks F of the world w, and new ones; all else of w is as it was. -/
structure Dv (w0 w : World) (F : Nat → Prop) (db k : Nat) (σ : Ds) (X : World) : Prop where
  ex : ∃ F', DrAt X db σ F' ∧ ∀ b, F' b → F b ∨ w.heap.size ≤ b
  ok : Okk k σ
  tn : Tn F w X
  fb : ∀ b, F b → w0.heap.size ≤ b ∧ b < w.heap.size
  b0 : Below w0.heap.size w0 w
theorem Dv.start {w0 w : World} {F : Nat → Prop} {db k : Nat} {σ : Ds} (h : DrAt w db σ F) (ok : Okk k σ) (hF : ∀ b, F b → w0.heap.size ≤ b) (hb : Below w0.heap.size w0 w) : Dv w0 w F db k σ w := ⟨⟨F, h, fun _ hb => .inl hb⟩, ok, Tn.refl _ _, fun b hb => ⟨hF b hb, h.2.1 b hb⟩, hb⟩
theorem Dv.bl {w0 w X : World} {F : Nat → Prop} {db k : Nat} {σ : Ds} (h : Dv w0 w F db k σ X) : Below w0.heap.size w0 X := tn_bel h.b0 h.tn (fun b hb => (h.fb b hb).1)
theorem Dv.below {w0 w X X' : World} {F : Nat → Prop} {db k : Nat} {σ : Ds} (h : Dv w0 w F db k σ X) (hb : Below X.heap.size X X') : Dv w0 w F db k σ X' := by
  obtain ⟨⟨F', h1, h2⟩, ok, tn, fb, b0⟩ := h
  exact ⟨⟨F', h1.below hb, h2⟩, ok, tn.trans (Tn.of_below hb), fb, b0⟩
theorem Dv.next {w0 w X X' : World} {F F' : Nat → Prop} {db k k' : Nat} {σ σ' : Ds} (h : Dv w0 w F db k σ X) (hF : ∀ b, F' b → F b ∨ w.heap.size ≤ b) (ok : Okk k' σ') (hD : DrAt X' db σ' (Fn F' X X')) (hT : Tn F' X X') : Dv w0 w F db k' σ' X' := by
  have hz := h.tn.size
  refine ⟨⟨_, hD, ?_⟩, ok, ⟨hT.os.trans h.tn.os, hT.tape.trans h.tn.tape, hT.output.trans h.tn.output, Nat.le_trans hz hT.size, fun g hg hn => ?_⟩, h.fb, h.b0⟩
  · rintro b (hb | hb)
    · exact hF b hb
    · exact .inr (by omega)
  · refine (hT.block g (by omega) (fun hb => ?_)).trans (h.tn.block g hg hn)
    rcases hF g hb with h9 | h9
    · exact hn h9
    · omega
theorem Dv.f0 {w0 w X : World} {F F' : Nat → Prop} {db k : Nat} {σ : Ds} (h : Dv w0 w F db k σ X) (hF : ∀ b, F' b → F b ∨ w.heap.size ≤ b) : ∀ b, F' b → w0.heap.size ≤ b := fun b hb => by
  have hz := h.b0.size
  rcases hF b hb with h9 | h9
  · exact (h.fb b h9).1
  · omega
theorem Dv.do {w0 w X : World} {F : Nat → Prop} {db k : Nat} {σ : Ds} (h : Dv w0 w F db k σ X) (hk : k ≤ 134217728) (a : Atp) (hA : AcAt w0 a.2.1 a.2.2) : Calls Try.prog 18 #[.pointer (some ⟨db, 0, none⟩), .agg (a.2.1.v a.1)] X fun e w' => (∃ u1 u2 u3 u4, e = .returned (.tuple #[.agg (anC (.int .i64 (σ.act a.1 a.2.1.x a.2.1.y a.2.1.n a.2.2).1) u1 u2 u3 u4), .bool true])) ∧ Dv w0 w F db (k + aez a) (σ.step a) w' := by
  obtain ⟨F', h1, h2⟩ := h.ex
  refine (do_any h1 h.ok hk h.bl (h.f0 h2) a.1 a.2.1 a.2.2 hA).mono ?_
  rintro e w' ⟨e1, hD, hT⟩
  exact ⟨e1, h.next h2 (h.ok.act hk h1 a) hD hT⟩
theorem Dv.do1 {w0 w X : World} {F : Nat → Prop} {db k : Nat} {σ : Ds} (h : Dv w0 w F db k σ X) (hk : k ≤ 134217728) (a : Atp) (hA : AcAt w0 a.2.1 a.2.2) : Calls Try.prog 18 #[.pointer (some ⟨db, 0, none⟩), .agg (a.2.1.v a.1)] X fun e w' => (∃ u1 u2 u3 u4, ((anC (.int .i64 (σ.act a.1 a.2.1.x a.2.1.y a.2.1.n a.2.2).1) u1 u2 u3 u4).all fun x => x.oneCell') = true ∧ e = .returned (.tuple #[.agg (anC (.int .i64 (σ.act a.1 a.2.1.x a.2.1.y a.2.1.n a.2.2).1) u1 u2 u3 u4), .bool true])) ∧ Dv w0 w F db (k + aez a) (σ.step a) w' := by
  obtain ⟨F', h1, h2⟩ := h.ex
  refine (do_one h1 h.ok hk h.bl (h.f0 h2) a.1 a.2.1 a.2.2 hA).mono ?_
  rintro e w' ⟨e1, hD, hT⟩
  exact ⟨e1, h.next h2 (h.ok.act hk h1 a) hD hT⟩
theorem Dv.more {w0 w X : World} {F : Nat → Prop} {db k k' : Nat} {σ : Ds} (h : Dv w0 w F db k σ X) (hk : k ≤ k') : Dv w0 w F db k' σ X := ⟨h.ex, h.ok.mono hk, h.tn, h.fb, h.b0⟩
theorem Dv.crash {w0 w X : World} {F : Nat → Prop} {db k : Nat} {σ : Ds} (h : Dv w0 w F db k σ X) (hk : k ≤ 134217728) (pd : Option Addr) (nd cd : Nat) (dirs : List Bool) (hdl : dirs.length = nd) (hd : Bls X pd dirs) (pc : Option Addr) (nc cc : Nat) (cuts : List Int) (hcl : cuts.length = nc) (hc : Ils X pc cuts) (hnd : nd ≤ 1000000000) (hnc : nc ≤ 1000000000) (hcF : 0 < nc → ∀ b o, pc = some ⟨b, o, none⟩ → b < w.heap.size ∧ ¬ F b) : Calls Try.prog 20 #[.pointer (some ⟨db, 0, none⟩), .agg (ftC (.slice pd nd cd) (.slice pc nc cc))] X fun e w' => e = .returned (.int .i64 0) ∧ Dv w0 w F db k (σ.crash dirs cuts) w' := by
  obtain ⟨F', h1, h2⟩ := h.ex
  refine (crash_gen h1 h.ok hk pd nd cd dirs hdl hd pc nc cc cuts hcl hc hnd hnc (fun h0 b o e hFb => by
    have h3 := hcF h0 b o e
    rcases h2 b hFb with h9 | h9
    · exact h3.2 h9
    · omega)).mono ?_
  rintro e w' ⟨e1, hD, hT⟩
  exact ⟨e1, h.next h2 (h.ok.crash hk dirs cuts h1) hD hT⟩
theorem Dv.image {w0 w X : World} {F : Nat → Prop} {db k : Nat} {σ : Ds} (h : Dv w0 w F db k σ X) (hk : k ≤ 134217728) : Calls Try.prog 24 #[.pointer (some ⟨db, 0, none⟩)] X fun e w' => ∃ v, e = .returned v ∧ FsAt w' X.heap.size v (tol σ (·.data) σ.st) ∧ Below X.heap.size X w' := by
  obtain ⟨F', h1, h2⟩ := h.ex
  exact image_any h1 h.ok hk
theorem Dv.pending {w0 w X : World} {F : Nat → Prop} {db k : Nat} {σ : Ds} (h : Dv w0 w F db k σ X) : Calls Try.prog 22 #[.pointer (some ⟨db, 0, none⟩)] X fun e w' => e = .returned (.int .i64 (σ.pend.length : Int)) ∧ w' = X := by
  obtain ⟨F', h1, h2⟩ := h.ex
  exact pending_any h1
theorem Dv.wfd {w0 w X : World} {F : Nat → Prop} {db k : Nat} {σ : Ds} (h : Dv w0 w F db k σ X) : Wfd σ := by
  obtain ⟨F', h1, h2⟩ := h.ex
  exact wfd_of h1 h.ok
section
attribute [local irreducible] Calls GB Ac.v anC DrAt
set_option maxHeartbeats 2000000 in
set_option maxRecDepth 1000000 in
theorem played_gen {w0 w X : World} {G : Nat → Prop} {db k0 : Nat} {σ : Ds} (L : List Atp) (p : Option Addr) (n c : Nat) (hn : L.length = n) (hA : AcsAt w0 p L) (h : Dv w0 w G db k0 σ X) (hb : k0 + aesz L ≤ 134217728) (hnn : n ≤ 134217728) : Calls Try.prog 11 #[.pointer (some ⟨db, 0, none⟩), .slice p n c] X fun e w' => (∃ r, e = .returned r) ∧ Dv w0 w G db (k0 + aesz L) (σ.run L) w' := by
  have P0 := (show Hid (Dv w0 w G db (k0 + aesz (L.take 0)) (σ.run (L.take 0)) X) from h)
  have HA := (show Hid (AcsAt w0 p L) from hA)
  have HB := (show Hid (k0 + aesz L ≤ 134217728) from hb)
  clear h hA hb
  go_enter Try.func11, Try.ntmps11
  go_wp2
  go_loopw [4] (fun i wr => ∃ k : Nat, k ≤ n ∧ i = .int .i64 (k : Int) ∧ Hid (Dv w0 w G db (k0 + aesz (L.take k)) (σ.run (L.take k)) wr)) (fun i _ => n - (intOf i).toNat)
  case atStart => exact ⟨0, Nat.zero_le _, rfl, P0⟩
  case round =>
    obtain ⟨k, hk, rfl, hP⟩ := hrel
    by_cases hlt : k < n
    · have hi : (k : Int) < (n : Int) := by omega
      have hkl : k < L.length := by omega
      obtain ⟨b, o, hp, hS, hAc⟩ := HA.out k hkl
      obtain ⟨a, ha⟩ : ∃ a, a = L[k] := ⟨_, rfl⟩
      have hld := (hS.below hP.out.bl).run
      rw [← ha] at hld hAc
      have h1 := aesz_le L k
      have HD := (show Hid (Calls Try.prog 18 #[.pointer (some ⟨db, 0, none⟩), .agg (a.2.1.v a.1)] wr fun e w' => (∃ u1 u2 u3 u4, e = .returned (.tuple #[.agg (anC (.int .i64 ((σ.run (L.take k)).act a.1 a.2.1.x a.2.1.y a.2.1.n a.2.2).1) u1 u2 u3 u4), .bool true])) ∧ Dv w0 w G db (k0 + aesz (L.take (k + 1))) (σ.run (L.take (k + 1))) w') from by
        have h9 := hP.out.do (by have := HB.out; omega) a hAc
        rw [run_succ σ L k hkl, aesz_succ L k hkl, ← Nat.add_assoc, ← ha]
        exact h9)
      subst hp
      clear hS hAc ha h1 hkl
      go_wp2_with (first
        | (refine wpList_ldAt rfl _ _ rfl b (o + k * 7) rfl _ hld ?_)
        | (go_at_call 18; refine HD.out.mono ?_; rintro e w2 ⟨⟨u1, u2, u3, u4, rfl⟩, hD2⟩; have HR := (show Hid (Dv w0 w G db (k0 + aesz (L.take (k + 1))) (σ.run (L.take (k + 1))) w2) from hD2); clear hD2))
      go_roundw
      case rel => exact ⟨k + 1, by omega, by go_num, HR⟩
      case measure => simp [intOf]; omega
    · obtain rfl : n = k := by omega
      go_wp2
      go_end0
      refine ⟨⟨_, rfl⟩, ?_⟩
      have h9 := hP.out
      rw [List.take_of_length_le (by omega)] at h9
      exact h9
end
theorem cnt_drop {L : List (Tx × Tx)} {x : Tx} {k : Nat} (h : k < L.length) : cnt (L.drop k) x = if (L.getD k ([], [])).1 = x then some (L.getD k ([], [])).2 else cnt (L.drop (k + 1)) x := by
  rw [List.drop_eq_getElem_cons h]
  unfold cnt
  rw [List.find?_cons]
  simp only [List.getD, List.getElem?_eq_getElem h, Option.getD_some]
  by_cases e : L[k].1 = x
  · rw [if_pos e]
    have : (L[k].1 == x) = true := by simpa using e
    simp only [this]
    rfl
  · rw [if_neg e]
    have : (L[k].1 == x) = false := by simpa using e
    simp only [this]
section
attribute [local irreducible] Calls
set_option maxHeartbeats 1000000 in
set_option maxRecDepth 1000000 in
theorem content_any {w : World} {base : Nat} {v : Value} {L : List (Tx × Tx)} (h : FsAt w base v L) (hL : L.length ≤ 1000000000) (x : Tx) : Calls Try.prog 31 #[v, encStr x] w fun e w' => e = .returned (.tuple #[encStr ((cnt L x).getD []), .bool (cnt L x).isSome]) ∧ Below w.heap.size w w' := by
  obtain ⟨n, hn⟩ : ∃ n, n = L.length := ⟨_, rfl⟩
  obtain ⟨p1, c1, rfl⟩ : ∃ p c, v = .slice p n c := by rw [hn]; exact h.len
  have HH := (show Hid (_ ∧ _) from ⟨h, hn⟩)
  rw [← hn] at hL
  clear h hn
  go_enter Try.func31, Try.ntmps31
  go_wp2
  go_loopw [6] (fun i wr => ∃ k : Nat, k ≤ n ∧ i = .int .i64 k ∧ Hid (wr = w ∧ cnt L x = cnt (L.drop k) x)) (fun i _ => n - (intOf i).toNat)
  case atStart => exact ⟨0, Nat.zero_le _, rfl, ⟨rfl, by rw [List.drop_zero]⟩⟩
  case round =>
    obtain ⟨k, hk, rfl, hB⟩ := hrel
    obtain ⟨h9, hc⟩ := hB.out
    subst h9
    by_cases hlt : k < n
    · have hi : (k : Int) < (n : Int) := by omega
      obtain ⟨h1, hn⟩ := HH.out
      obtain ⟨g, cg, pd, cd, e1, e2, e3, e4⟩ := h1.file k (by omega)
      replace e4 := conv_tv e4
      injection e1 with e1 en ec
      subst e1 ec
      rw [cnt_drop (by omega)] at hc
      generalize (L.getD k ([], [])).1 = y at *
      generalize (L.getD k ([], [])).2 = d at *
      generalize d.length = nd at *
      clear en hn hB
      by_cases hy : y = x
      · have hyx : (y == x) = true := by simpa using hy
        rw [if_pos hy] at hc
        have HC := (show Hid (cnt L x = some d) from hc)
        clear hc h1
        go_wp2
        refine bodyPost_ret (results_tmp2 rfl _ _ _) rfl ?_
        rw [HC.out]
        exact ⟨rfl, Below.refl _ _⟩
      · have hyx : (y == x) = false := by simpa using hy
        rw [if_neg hy] at hc
        have HC := (show Hid (wr = wr ∧ cnt L x = cnt (L.drop (k + 1)) x) from ⟨rfl, hc⟩)
        clear hc h1
        go_wp2
        go_roundw
        case rel => exact ⟨k + 1, by omega, by go_num, ⟨trivial, HC.out.2⟩⟩
        case measure => simp [intOf]; omega
    · obtain rfl : k = n := by omega
      have hi : ¬ (k : Int) < (k : Int) := by omega
      have hc2 := (show Hid (cnt L x = none) from by
        rw [List.drop_eq_nil_of_le (by rw [HH.out.2]; exact Nat.le_refl _)] at hc
        exact hc)
      clear hc hB
      go_wp2
      refine bodyPost_ret (results_tmp2 rfl _ _ _) rfl ?_
      rw [hc2.out]
      exact ⟨rfl, Below.refl _ _⟩
end
end Go.Proofs.Ytaddgmbglhdfdaa
