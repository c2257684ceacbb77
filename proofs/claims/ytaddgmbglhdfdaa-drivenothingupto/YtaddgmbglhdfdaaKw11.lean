/-
  A loss of power, as mathematics: what it leaves, name by name; what is loaded.
-/
import Derived.Test.YtaddgmbglhdfdaaKo11
import Derived.Deep.RegionLaw
namespace Go.Proofs.Ytaddgmbglhdfdaa
open Go.RowKit Go.Maps Go.Sort
theorem strKeys_nodup {D : Dir} (t : Tidy D) (s : SK D) : (strKeys D).Nodup := by
  obtain ⟨es, rfl, hp⟩ := t
  obtain ⟨es', e, hk⟩ := s
  injection e with e
  subst e
  show (es.map fun p => strOf p.1).Nodup
  refine List.pairwise_map.2 (hp.imp_of_mem fun {p q} hp' hq' hne e => hne ?_)
  obtain ⟨a, ha⟩ := hk p hp'
  obtain ⟨b, hb⟩ := hk q hq'
  rw [ha, hb] at e ⊢
  exact congrArg _ e
theorem strKeys_has {D : Dir} (s : SK D) {x : Tx} : x ∈ strKeys D ↔ has D (.string x) = true := by
  obtain ⟨es, rfl, hk⟩ := s
  rw [has_eq, List.any_eq_true]
  show x ∈ es.map (fun p => strOf p.1) ↔ _
  rw [List.mem_map]
  constructor
  · rintro ⟨p, hp', rfl⟩
    obtain ⟨a, ha⟩ := hk p hp'
    exact ⟨p, hp', by rw [ha]; simp [Lit.sameKey, strOf]⟩
  · rintro ⟨p, hp', hs⟩
    obtain ⟨a, ha⟩ := hk p hp'
    rw [ha] at hs
    exact ⟨p, hp', by rw [ha]; simpa [Lit.sameKey, strOf] using hs⟩
/-- A directory in order. -/
structure Td (D : Dir) : Prop where
  t : Tidy D
  s : SK D
  n : NN D
theorem Td.nil : Td (.map []) := ⟨tidy_empty, ⟨[], rfl, fun p hp => by simp at hp⟩, nn_nil⟩
theorem Td.mem {D : Dir} (h : Td D) {x : Tx} : x ∈ nms D ↔ ∃ i, lk D x = some i := by
  rw [nms_mem, strKeys_has h.s]
  exact ⟨fun e => h.n x e, fun ⟨i, e⟩ => lk_has e⟩
theorem Td.fol1 {D : Dir} (h : Td D) (l : Ld) : Td (fol1 D l) := ⟨(fol1_tidy h.t l).1, h.s.fol1 l, fol1_nn h.t h.n l⟩
theorem Td.put {D : Dir} (h : Td D) (x : Tx) (i : Nat) : Td (D.put (.string x) (ip i)) := h.fol1 (x, some i)
theorem Td.fol {D : Dir} (h : Td D) (c : List Ld) : Td (fol D c) := ⟨(fol_tidy h.t c).1, h.s.fol c, fol_nn h.t h.n c⟩
theorem Td.fols {D : Dir} (h : Td D) : ∀ cs : List (List Ld), Td (cs.foldl Go.Proofs.Ytaddgmbglhdfdaa.fol D)
  | [] => h
  | c :: cs => Td.fols (h.fol c) cs
theorem nms_nodup {D : Dir} (h : Td D) : (nms D).Nodup := (List.mergeSort_perm (strKeys D) _).nodup_iff.2 (strKeys_nodup h.t h.s)
theorem nms_ext {D D' : Dir} (h : Td D) (h' : Td D') (e : ∀ x, (∃ i, lk D x = some i) ↔ ∃ i, lk D' x = some i) : nms D = nms D' := by
  have hp : (strKeys D).Perm (strKeys D') := (List.perm_ext_iff_of_nodup (strKeys_nodup h.t h.s) (strKeys_nodup h'.t h'.s)).2 fun x => by
    rw [← nms_mem, ← nms_mem, h.mem, h'.mem]
    exact e x
  exact nms_perm hp
theorem td_of {w : World} {db k : Nat} {σ : Ds} {F : Nat → Prop} (h : DrAt w db σ F) (ok : Okk k σ) : Td σ.st ∧ Td σ.sf := by
  obtain ⟨_, _, m, rv, st, sf, pv, S, R⟩ := h
  rcases R.dirs with ⟨_, _, e1, e2, _⟩ | ⟨s, f, _, _, _, _, _, m1, m2⟩
  · rw [e1, e2]; exact ⟨Td.nil, Td.nil⟩
  · exact ⟨⟨ok.ts, SK.of m1, ok.nn⟩, ⟨ok.tf, SK.of m2, ok.nf⟩⟩
theorem map_range {α β : Type} (xs : List α) (d : α) (f : α → β) : xs.map f = (List.range xs.length).map fun j => f (xs.getD j d) := by
  apply List.ext_getElem
  · simp
  · intro i h1 h2
    have hi : i < xs.length := by simpa using h1
    simp [hi]
/-- What a loss of power leaves, behind the choice of changes. -/
def crl (τ : Ds) (cuts : List Int) : List (Tx × Tx) := (List.range (nms τ.sf).length).map fun j => ((nms τ.sf).getD j [], lft (τ.body ((lk τ.sf ((nms τ.sf).getD j [])).getD 0)) (cuts.getD j 0))
/-- Behind the first k names' turns. -/
structure Cd (τ : Ds) (cuts : List Int) (k : Nat) (ρ : Ds) : Prop where
  td : Td ρ.sf
  dn : ∀ j, j < k → ∃ i, lk ρ.sf ((nms τ.sf).getD j []) = some i ∧ ρ.body i = ⟨lft (τ.body ((lk τ.sf ((nms τ.sf).getD j [])).getD 0)) (cuts.getD j 0), (lft (τ.body ((lk τ.sf ((nms τ.sf).getD j [])).getD 0)) (cuts.getD j 0)).length⟩ ∧ i < ρ.bs.length
  ot : ∀ x, (∀ j, j < k → x ≠ (nms τ.sf).getD j []) → lk ρ.sf x = lk τ.sf x
  ol : ∀ i, i < τ.bs.length → ρ.body i = τ.body i
  le : τ.bs.length ≤ ρ.bs.length
theorem crs1_body (ρ : Ds) (x : Tx) (cut : Int) (i : Nat) : (crs1 ρ x cut).body i = if i < ρ.bs.length then ρ.body i else if i = ρ.bs.length then ⟨lft (ρ.body ((lk ρ.sf x).getD 0)) cut, (lft (ρ.body ((lk ρ.sf x).getD 0)) cut).length⟩ else ⟨[], 0⟩ := by
  unfold crs1
  rw [body_snoc]
theorem nod_ne {xs : List Tx} (h : xs.Nodup) {i j : Nat} (hi : i < xs.length) (hj : j < xs.length) (hne : i ≠ j) : xs.getD i [] ≠ xs.getD j [] := by
  simp only [List.getD, List.getElem?_eq_getElem hi, List.getElem?_eq_getElem hj, Option.getD_some]
  exact fun e => hne ((List.getElem_inj h).1 e)
theorem cd_run {τ : Ds} (cuts : List Int) (ht : Td τ.sf) (hw : ∀ y j, lk τ.sf y = some j → j < τ.bs.length) : ∀ k, k ≤ (nms τ.sf).length → Cd τ cuts k (crn τ cuts k)
  | 0, _ => ⟨ht, fun j hj => absurd hj (Nat.not_lt_zero _), fun x _ => rfl, fun i _ => rfl, Nat.le_refl _⟩
  | k + 1, hk => by
    have ih := cd_run cuts ht hw k (by omega)
    rw [crn_succ]
    obtain ⟨x, hx⟩ : ∃ x, x = (nms τ.sf).getD k [] := ⟨_, rfl⟩
    have hk' : k < (nms τ.sf).length := by omega
    have hxm : x ∈ nms τ.sf := by rw [hx]; simp [hk']
    obtain ⟨i0, hi0⟩ := ht.mem.1 hxm
    have hnd := nms_nodup ht
    have hl := ih.ot x (fun j hj e => nod_ne hnd hk' (by omega) (by omega) (hx ▸ e))
    rw [hi0] at hl
    have hb0 := ih.ol i0 (hw x i0 hi0)
    rw [← hx]
    generalize hρ : crn τ cuts k = ρ at ih hl hb0 ⊢
    refine ⟨ih.td.put _ _, fun j hj => ?_, fun y hy => ?_, fun i hi => ?_, ?_⟩
    · by_cases e : j = k
      · subst e
        refine ⟨ρ.bs.length, ?_, ?_, ?_⟩
        · show lk (ρ.sf.put (.string x) (ip ρ.bs.length)) _ = _
          rw [lk_put ih.td.t.isMap, if_pos hx.symm]
        · rw [crs1_body, if_neg (Nat.lt_irrefl _), if_pos rfl, hl, ← hx, hi0]
          simp only [Option.getD_some]
          rw [hb0]
        · simp [crs1]
      · obtain ⟨i, h1, h2, h3⟩ := ih.dn j (by omega)
        refine ⟨i, ?_, ?_, ?_⟩
        · show lk (ρ.sf.put (.string x) (ip ρ.bs.length)) _ = _
          rw [lk_put ih.td.t.isMap, if_neg (fun e9 => nod_ne hnd (by omega) hk' e (e9.trans hx)), h1]
        · rw [crs1_body, if_pos h3, h2]
        · simp [crs1]; omega
    · show lk (ρ.sf.put (.string x) (ip ρ.bs.length)) y = _
      rw [lk_put ih.td.t.isMap, if_neg (by rw [hx]; exact hy k (by omega))]
      exact ih.ot y (fun j hj => hy j (by omega))
    · rw [crs1_body, if_pos (by have := ih.le; omega)]
      exact ih.ol i hi
    · have := ih.le
      simp [crs1]; omega
theorem cr1_body (σ : Ds) (dirs : List Bool) (i : Nat) : (cr1 σ dirs).body i = σ.body i := rfl
/-- What stands behind a loss of power. -/
structure Cw (τ ρ : Ds) (cuts : List Int) : Prop where
  nm : nms ρ.sf = nms τ.sf
  td : Td ρ.sf
  bd : ∀ j, j < (nms τ.sf).length → ρ.body ((lk ρ.sf ((nms τ.sf).getD j [])).getD 0) = ⟨lft (τ.body ((lk τ.sf ((nms τ.sf).getD j [])).getD 0)) (cuts.getD j 0), (lft (τ.body ((lk τ.sf ((nms τ.sf).getD j [])).getD 0)) (cuts.getD j 0)).length⟩
theorem Cd.whole {τ ρ : Ds} {cuts : List Int} (ht : Td τ.sf) (h : Cd τ cuts (nms τ.sf).length ρ) : Cw τ ρ cuts := by
  refine ⟨nms_ext h.td ht fun x => ?_, h.td, fun j hj => ?_⟩
  · by_cases hx : x ∈ nms τ.sf
    · obtain ⟨j, hj, e⟩ := List.getElem_of_mem hx
      obtain ⟨i, h1, _, _⟩ := h.dn j hj
      have e9 : (nms τ.sf).getD j [] = x := by simp [hj, e]
      rw [e9] at h1
      exact ⟨fun _ => ht.mem.1 hx, fun _ => ⟨i, h1⟩⟩
    · rw [h.ot x (fun j hj e => hx (by rw [e]; simp [hj]))]
  · obtain ⟨i, h1, h2, _⟩ := h.dn j hj
    rw [h1]
    exact h2
theorem crash_cw {σ : Ds} (dirs : List Bool) (cuts : List Int) (ht : Td (cr1 σ dirs).sf) (hw : ∀ y j, lk (cr1 σ dirs).sf y = some j → j < σ.bs.length) : Cw (cr1 σ dirs) (σ.crash dirs cuts) cuts := by
  have h := cd_run cuts ht hw _ (Nat.le_refl _)
  have h9 := h.whole ht
  exact ⟨h9.nm, h9.td, h9.bd⟩
theorem Cw.tol {τ ρ : Ds} {cuts : List Int} (h : Cw τ ρ cuts) (T : Bd → Tx) (hT : ∀ d, T ⟨d, d.length⟩ = d) : tol ρ T ρ.sf = crl τ cuts := by
  unfold Go.Proofs.Ytaddgmbglhdfdaa.tol crl
  rw [h.nm, map_range (nms τ.sf) []]
  apply List.map_congr_left
  intro j hj
  rw [h.bd j (by simpa using hj), hT]
/-- All that stands under names is safe. -/
def Sf (σ : Ds) : Prop := ∀ x i, lk σ.sf x = some i → (σ.body i).safe = (σ.body i).data.length
theorem Cw.sf {τ ρ : Ds} {cuts : List Int} (h : Cw τ ρ cuts) : Sf ρ := by
  intro x i hx
  have hm : x ∈ nms τ.sf := by rw [← h.nm]; exact h.td.mem.2 ⟨i, hx⟩
  obtain ⟨j, hj, e⟩ := List.getElem_of_mem hm
  have h1 := h.bd j hj
  have e9 : (nms τ.sf).getD j [] = x := by simp [hj, e]
  rw [e9, hx] at h1
  simp only [Option.getD_some] at h1
  rw [h1]
theorem lft_zero (x : Bd) : lft x 0 = x.data.take x.safe := by unfold lft; simp
theorem lft_most (x : Bd) (h : x.safe ≤ x.data.length) (n : Int) (hn : (x.data.length : Int) ≤ n) : lft x n = x.data := by
  unfold lft
  apply List.take_of_length_le
  omega
theorem lft_safe (x : Bd) (h : x.safe = x.data.length) (cut : Int) : lft x cut = x.data := by
  unfold lft
  apply List.take_of_length_le
  omega
theorem crf_none (σ : Ds) : ∀ k, crf σ [] k = σ.sf
  | 0 => rfl
  | k + 1 => by rw [crf_succ, if_neg (by simp)]; exact crf_none σ k
theorem crf_all (σ : Ds) (dirs : List Bool) (hd : ∀ i, i < σ.pend.length → dirs.getD i false = true) : ∀ k, k ≤ σ.pend.length → crf σ dirs k = (σ.pend.take k).foldl fol σ.sf
  | 0, _ => rfl
  | k + 1, hk => by
    have hl : k < σ.pend.length := by omega
    rw [crf_succ, if_pos (hd k hl), crf_all σ dirs hd k (by omega), List.take_add_one, List.getElem?_eq_getElem hl, List.foldl_append]
    simp [List.getD, hl]
theorem crf_calm (σ : Ds) (dirs : List Bool) (h : σ.pend = []) : crf σ dirs σ.pend.length = σ.sf := by rw [h]; rfl
/-- A loss of power that keeps nothing. -/
theorem crl_none (σ : Ds) : crl (cr1 σ []) [] = tol σ (fun b => b.data.take b.safe) σ.sf := by
  have e : (cr1 σ []).sf = σ.sf := crf_none σ _
  unfold crl tol
  rw [e, map_range (nms σ.sf) []]
  apply List.map_congr_left
  intro j _
  rw [cr1_body]
  simp only [List.getD_nil]
  rw [lft_zero]
/-- One that keeps all. -/
theorem crl_all {σ : Ds} (dirs : List Bool) (hd : ∀ i, i < σ.pend.length → dirs.getD i false = true) (he : σ.st = σ.pend.foldl fol σ.sf) (hs : ∀ i, (σ.body i).safe ≤ (σ.body i).data.length) : crl (cr1 σ dirs) ((tol σ (·.data) σ.st).map fun f => (f.2.length : Int)) = tol σ (·.data) σ.st := by
  have e : (cr1 σ dirs).sf = σ.st := by
    show crf σ dirs σ.pend.length = _
    rw [crf_all σ dirs hd _ (Nat.le_refl _), List.take_length, he]
  unfold crl tol
  rw [e, map_range (nms σ.st) [] (fun x => (x, (σ.body ((lk σ.st x).getD 0)).data))]
  apply List.map_congr_left
  intro j hj
  have hj' : j < (nms σ.st).length := by simpa using hj
  rw [cr1_body]
  congr 1
  apply lft_most _ (hs _)
  simp [List.getD, hj']
/-- One behind which nothing was pending or loose. -/
theorem crl_calm {σ : Ds} (dirs : List Bool) (cuts : List Int) (hp : σ.pend = []) (ht : Td σ.sf) (hs : Sf σ) : crl (cr1 σ dirs) cuts = tol σ (·.data) σ.sf := by
  have e : (cr1 σ dirs).sf = σ.sf := crf_calm σ dirs hp
  unfold crl tol
  rw [e, map_range (nms σ.sf) [] (fun x => (x, (σ.body ((lk σ.sf x).getD 0)).data))]
  apply List.map_congr_left
  intro j hj
  have hj' : j < (nms σ.sf).length := by simpa using hj
  rw [cr1_body]
  congr 1
  obtain ⟨i, hi⟩ := ht.mem.1 (show (nms σ.sf).getD j [] ∈ nms σ.sf by simp [hj'])
  rw [hi]
  exact lft_safe _ (hs _ i hi) _
theorem crash_pend (σ : Ds) (dirs : List Bool) (cuts : List Int) : (σ.crash dirs cuts).pend = [] := crn_pend _ _ _
/-- What holds of every drive that acts have made. -/
structure Iv (σ : Ds) : Prop where
  eq : σ.st = σ.pend.foldl fol σ.sf
  ns : ∀ x i, lk σ.sf x = some i → isN x = true
  np : ∀ c ∈ σ.pend, ∀ l ∈ c, ∀ i, l.2 = some i → isN l.1 = true
  td : Td σ.sf
theorem lk_fol_p {P : Tx → Prop} {D : Dir} (hm : IsMap D) (h : ∀ y j, lk D y = some j → P y) (c : List Ld) (hc : ∀ l ∈ c, ∀ j, l.2 = some j → P l.1) : ∀ y j, lk (fol D c) y = some j → P y := by
  unfold Go.Proofs.Ytaddgmbglhdfdaa.fol
  induction c generalizing D with
  | nil => exact h
  | cons l c ih =>
    refine ih (fol1_isMap hm l) (fun y j e => ?_) (fun l' hl' => hc l' (by simp [hl']))
    rw [lk_fol1 hm] at e
    split at e
    · rename_i e9; subst e9; exact hc l (by simp) j e
    · exact h y j e
theorem lk_fols_p {P : Tx → Prop} : ∀ (cs : List (List Ld)) {D : Dir}, IsMap D → (∀ y j, lk D y = some j → P y) → (∀ c ∈ cs, ∀ l ∈ c, ∀ j, l.2 = some j → P l.1) → ∀ y j, lk (cs.foldl fol D) y = some j → P y
  | [], _, _, h, _ => h
  | c :: cs, D, hm, h, hc => lk_fols_p cs (fol_isMap hm c) (lk_fol_p hm h c (hc c (by simp))) (fun c' hc' => hc c' (by simp [hc']))
theorem Iv.std {σ : Ds} (h : Iv σ) : Td σ.st ∧ ∀ x i, lk σ.st x = some i → isN x = true := by
  rw [h.eq]
  exact ⟨h.td.fols _, lk_fols_p _ h.td.t.isMap h.ns h.np⟩
theorem Iv.new (r : Nat) : Iv (Ds.new r) := ⟨rfl, fun x i e => (by rw [show (Ds.new r).sf = .map [] from rfl, lk_none] at e; cases e), fun c hc => (by simp [Ds.new] at hc), Td.nil⟩
theorem Iv.change {σ : Ds} (h : Iv σ) (c : List Ld) (hc : ∀ l ∈ c, ∀ i, l.2 = some i → isN l.1 = true) : Iv (σ.change c) := by
  refine ⟨?_, h.ns, fun c' hc' l hl i e => ?_, h.td⟩
  · show fol σ.st c = (σ.pend ++ [c]).foldl fol σ.sf
    rw [List.foldl_append, ← h.eq]
    rfl
  · have h9 : c' ∈ σ.pend ∨ c' = c := by simpa [Ds.change] using hc'
    rcases h9 with h9 | rfl
    · exact h.np c' h9 l hl i e
    · exact hc l hl i e
theorem Iv.bs {σ : Ds} (h : Iv σ) (bs : List Bd) (u : Int) : Iv { σ with bs := bs, used := u } := ⟨h.eq, h.ns, h.np, h.td⟩
theorem find_isN {σ : Ds} {y : Tx} {j : Nat} (h : σ.find y = .inr j) : isN y = true := (find_inr h).1
theorem Iv.create {σ : Ds} (h : Iv σ) (y : Tx) : Iv (σ.create y).2 := by
  unfold Ds.create
  split
  · rename_i hn
    split
    · exact h
    · refine (h.bs _ σ.used).change _ (fun l hl i e => ?_)
      simp at hl; subst hl; exact hn
  · exact h
theorem Iv.append {σ : Ds} (h : Iv σ) (y e : Tx) : Iv (σ.append y e).2 := by
  unfold Ds.append
  split
  · exact h
  · split
    · exact h
    · split
      · exact h
      · exact h.bs _ _
theorem Iv.sync {σ : Ds} (h : Iv σ) (y : Tx) : Iv (σ.sync y).2 := by
  unfold Ds.sync
  split
  · exact h
  · exact h.bs _ σ.used
theorem Iv.rename {σ : Ds} (h : Iv σ) (y z : Tx) : Iv (σ.rename y z).2 := by
  unfold Ds.rename
  split
  · rename_i hz
    split
    · exact h
    · split
      · exact h
      · refine h.change _ (fun l hl i e => ?_)
        simp at hl
        rcases hl with rfl | rfl
        · cases e
        · exact hz
  · exact h
theorem Iv.remove {σ : Ds} (h : Iv σ) (y : Tx) : Iv (σ.remove y).2 := by
  unfold Ds.remove
  split
  · exact h
  · refine h.change _ (fun l hl i e => ?_)
    simp at hl; subst hl; cases e
theorem Iv.syncDir {σ : Ds} (h : Iv σ) : Iv σ.syncDir := by
  refine ⟨?_, lk_fols_p _ h.td.t.isMap h.ns h.np, fun c hc => by simp [Ds.syncDir] at hc, h.td.fols _⟩
  show σ.st = ([] : List (List Ld)).foldl fol (σ.pend.foldl fol σ.sf)
  rw [h.eq]
  rfl
theorem Iv.flip {σ : Ds} (h : Iv σ) (y : Tx) (a : Int) (p : Tx) : Iv (σ.flip y a p).2 := by
  unfold Ds.flip
  split
  · exact h
  · exact h.bs _ σ.used
theorem Iv.cut {σ : Ds} (h : Iv σ) (y : Tx) (a : Int) : Iv (σ.cut y a).2 := by
  unfold Ds.cut
  split
  · exact h
  · exact h.bs _ _
theorem Iv.crf {σ : Ds} (h : Iv σ) (dirs : List Bool) : ∀ k, k ≤ σ.pend.length → Td (crf σ dirs k) ∧ ∀ x i, lk (crf σ dirs k) x = some i → isN x = true
  | 0, _ => ⟨h.td, h.ns⟩
  | k + 1, hk => by
    obtain ⟨h1, h2⟩ := Iv.crf h dirs k (by omega)
    have hm : σ.pend.getD k [] ∈ σ.pend := by
      have hl : k < σ.pend.length := by omega
      rw [List.getD, List.getElem?_eq_getElem hl]
      exact List.getElem_mem _
    rw [crf_succ]
    split
    · exact ⟨h1.fol _, lk_fol_p h1.t.isMap h2 _ (h.np _ hm)⟩
    · exact ⟨h1, h2⟩
theorem crn_td {τ : Ds} (cuts : List Int) (ht : Td τ.sf) (hn : ∀ x i, lk τ.sf x = some i → isN x = true) : ∀ k, k ≤ (nms τ.sf).length → Td (crn τ cuts k).sf ∧ ∀ x i, lk (crn τ cuts k).sf x = some i → isN x = true
  | 0, _ => ⟨ht, hn⟩
  | k + 1, hk => by
    obtain ⟨h1, h2⟩ := crn_td cuts ht hn k (by omega)
    rw [crn_succ]
    refine ⟨h1.put _ _, fun x i e => ?_⟩
    have e' : lk ((crn τ cuts k).sf.put (.string ((nms τ.sf).getD k [])) (ip (crn τ cuts k).bs.length)) x = some i := e
    rw [lk_put h1.t.isMap] at e'
    split at e'
    · rename_i e9
      obtain ⟨i', hi'⟩ := ht.mem.1 (show (nms τ.sf).getD k [] ∈ nms τ.sf by simp [show k < (nms τ.sf).length by omega])
      rw [e9]
      exact hn _ i' hi'
    · exact h2 x i e'
theorem Iv.crash {σ : Ds} (h : Iv σ) (dirs : List Bool) (cuts : List Int) : Iv (σ.crash dirs cuts) := by
  obtain ⟨h1, h2⟩ := h.crf dirs σ.pend.length (Nat.le_refl _)
  obtain ⟨h3, h4⟩ := crn_td (τ := cr1 σ dirs) cuts h1 h2 _ (Nat.le_refl _)
  refine ⟨?_, h4, fun c hc => ?_, h3⟩
  · rw [crash_pend]; rfl
  · rw [crash_pend] at hc; cases hc
theorem Iv.step {σ : Ds} (h : Iv σ) (a : Atp) : Iv (σ.step a) := by
  obtain ⟨q, s, l⟩ := a
  show Iv (σ.act q s.x s.y s.n l).2
  by_cases e0 : q = 0
  · subst e0; rw [act_0]; exact h.create _
  by_cases e1 : q = 1
  · subst e1; rw [act_1]; exact h.append _ _
  by_cases e2 : q = 2
  · subst e2; rw [act_2]; exact h.sync _
  by_cases e3 : q = 3
  · subst e3; rw [act_3]; exact h.rename _ _
  by_cases e4 : q = 4
  · subst e4; rw [act_4]; exact h.remove _
  by_cases e5 : q = 5
  · subst e5; rw [act_5]; exact h.syncDir
  by_cases e6 : q = 6
  · subst e6; rw [act_6]; exact h
  by_cases e10 : q = 10
  · subst e10; rw [act_10]; exact h
  by_cases e13 : q = 13
  · subst e13; rw [act_13]; exact h.crash _ _
  by_cases e14 : q = 14
  · subst e14; rw [act_14]; exact h.flip _ _ _
  by_cases e15 : q = 15
  · subst e15; rw [act_15]; exact h.cut _ _
  by_cases e16 : q = 16
  · subst e16; rw [act_16]; exact Iv.new _
  rw [act_no σ s.x s.y s.n l e0 e1 e2 e3 e4 e5 e6 e10 e13 e14 e15 e16]
  exact h
theorem Iv.run {σ : Ds} (h : Iv σ) (L : List Atp) : Iv (σ.run L) := by
  unfold Ds.run
  induction L generalizing σ with
  | nil => exact h
  | cons a L ih => exact ih (h.step a)
theorem crf_lt {σ : Ds} (hw : Wfd σ) (hi : Iv σ) (dirs : List Bool) : ∀ k, k ≤ σ.pend.length → ∀ y j, lk (crf σ dirs k) y = some j → j < σ.bs.length
  | 0, _ => hw.sf
  | k + 1, hk => by
    have ih := crf_lt hw hi dirs k (by omega)
    have hm : σ.pend.getD k [] ∈ σ.pend := by
      have hl : k < σ.pend.length := by omega
      rw [List.getD, List.getElem?_eq_getElem hl]
      exact List.getElem_mem _
    rw [crf_succ]
    split
    · exact lk_fol_lt (hi.crf dirs k (by omega)).1.t.isMap ih _ (hw.pn _ hm)
    · exact ih
/-- A drive while it is loaded. -/
structure Lv (σ : Ds) : Prop where
  td : Td σ.st
  ns : ∀ x i, lk σ.st x = some i → isN x = true
  pe : σ.pend = []
theorem Lv.ldr : ∀ (L : List (Tx × Tx)) (σ ρ : Ds), Lv σ → Go.Proofs.Ytaddgmbglhdfdaa.ldr σ L = some ρ → Iv ρ := by
  intro L
  induction L with
  | nil =>
    intro σ ρ h e
    simp only [Go.Proofs.Ytaddgmbglhdfdaa.ldr, Option.some.injEq] at e
    subst e
    refine ⟨?_, h.ns, fun c hc => ?_, h.td⟩
    · show σ.st = σ.pend.foldl fol σ.st
      rw [h.pe]
      rfl
    · have : c ∈ σ.pend := hc
      rw [h.pe] at this; cases this
  | cons f L ih =>
    intro σ ρ h e
    unfold Go.Proofs.Ytaddgmbglhdfdaa.ldr at e
    split at e
    · rename_i hf
      refine ih (ld1 σ f) ρ ⟨h.td.put _ _, fun x i e9 => ?_, h.pe⟩ e
      have e8 : lk (σ.st.put (.string f.1) (ip σ.bs.length)) x = some i := e9
      rw [lk_put h.td.t.isMap] at e8
      split at e8
      · rename_i e7; rw [e7]; exact hf.1
      · exact h.ns x i e8
    · cases e
theorem Iv.load {room : Int} {L : List (Tx × Tx)} {σ : Ds} (h : Ds.load room L = some σ) : Iv σ := by
  unfold Ds.load at h
  split at h
  · exact Lv.ldr L (Ds.new room.toNat) σ ⟨Td.nil, fun x i e => (by rw [show (Ds.new room.toNat).st = .map [] from rfl, lk_none] at e; cases e), rfl⟩ h
  · cases h
theorem Iv.start {how room : Int} {L : List (Tx × Tx)} {σ : Ds} (h : Ds.start how room L = some σ) : Iv σ := by
  unfold Ds.start at h
  split at h
  · split at h
    · injection h with h; subst h; exact Iv.new _
    · cases h
  · split at h
    · exact Iv.load h
    · injection h with h; subst h; exact Iv.new _
/-- What is loaded stands as it was handed in. -/
structure Lw (L : List (Tx × Tx)) (k : Nat) (σ : Ds) : Prop where
  td : Td σ.st
  ln : σ.bs.length = k
  dn : ∀ j, j < k → lk σ.st (L.getD j ([], [])).1 = some j ∧ σ.body j = ⟨(L.getD j ([], [])).2, (L.getD j ([], [])).2.length⟩
  ot : ∀ x, (∀ j, j < k → x ≠ (L.getD j ([], [])).1) → lk σ.st x = none
theorem lw_run (r : Nat) {L : List (Tx × Tx)} (hd : (L.map (·.1)).Nodup) : ∀ k, k ≤ L.length → Lw L k (ldn r L k)
  | 0, _ => ⟨Td.nil, rfl, fun j hj => absurd hj (Nat.not_lt_zero _), fun x _ => lk_none x⟩
  | k + 1, hk => by
    have ih := lw_run r hd k (by omega)
    have hne : ∀ i j, i < L.length → j < L.length → i ≠ j → (L.getD i ([], [])).1 ≠ (L.getD j ([], [])).1 := by
      intro i j hi hj h e
      have := (List.getElem_inj (i := i) (j := j) (h₀ := by simpa using hi) (h₁ := by simpa using hj) hd).1 (by simpa [List.getD, hi, hj] using e)
      exact h this
    rw [ldn_succ r L k (by omega)]
    generalize ldn r L k = σ at ih ⊢
    refine ⟨ih.td.put _ _, by simp [ld1, ih.ln], fun j hj => ?_, fun x hx => ?_⟩
    · by_cases e : j = k
      · subst e
        refine ⟨?_, ?_⟩
        · show lk (σ.st.put (.string (L.getD j ([], [])).1) (ip σ.bs.length)) _ = _
          rw [lk_put ih.td.t.isMap, if_pos rfl, ih.ln]
        · show Ds.body { σ with bs := σ.bs ++ [_] } j = _
          rw [body_app, if_pos ih.ln.symm]
      · obtain ⟨h1, h2⟩ := ih.dn j (by omega)
        refine ⟨?_, ?_⟩
        · show lk (σ.st.put (.string (L.getD k ([], [])).1) (ip σ.bs.length)) _ = _
          rw [lk_put ih.td.t.isMap, if_neg (hne j k (by omega) (by omega) e), h1]
        · show Ds.body { σ with bs := σ.bs ++ [_] } j = _
          rw [body_app, if_neg (by rw [ih.ln]; exact e), h2]
    · show lk (σ.st.put (.string (L.getD k ([], [])).1) (ip σ.bs.length)) x = _
      rw [lk_put ih.td.t.isMap, if_neg (hx k (by omega))]
      exact ih.ot x (fun j hj => hx j (by omega))
theorem lw_ldr (r : Nat) {L : List (Tx × Tx)} (hd : (L.map (·.1)).Nodup) (hn : ∀ f ∈ L, isN f.1 = true) : ∀ n k, k ≤ L.length → L.length - k = n → ldr (ldn r L k) (L.drop k) = some { ldn r L L.length with sf := (ldn r L L.length).st }
  | 0, k, hk, e => by
    have : k = L.length := by omega
    subst this
    rw [List.drop_length]
    rfl
  | n + 1, k, hk, e => by
    have hlt : k < L.length := by omega
    have hw := lw_run r hd k hk
    have hne : lk (ldn r L k).st (L.getD k ([], [])).1 = none := by
      refine hw.ot _ (fun j hj e9 => ?_)
      have := (List.getElem_inj (i := k) (j := j) (h₀ := by simpa using hlt) (h₁ := by simp; omega) hd).1 (by simpa [List.getD, hlt, show j < L.length by omega] using e9)
      omega
    rw [ldr_step hlt, if_pos ⟨hn _ (by simp [List.getD, hlt]), hne⟩, ← ldn_succ r L k hlt]
    exact lw_ldr r hd hn n (k + 1) hlt (by omega)
/-- What is loaded, where it rises. -/
theorem load_whole {L : List (Tx × Tx)} {D : Dir} (ht : Td D) (hL : L.map (·.1) = nms D) (hn : ∀ x i, lk D x = some i → isN x = true) {room : Int} (hr : 0 ≤ room ∧ room ≤ 1073741824) : ∃ σ, Ds.load room L = some σ ∧ σ.pend = [] ∧ σ.sf = σ.st ∧ ∀ T : Bd → Tx, (∀ d, T ⟨d, d.length⟩ = d) → tol σ T σ.st = L := by
  have hd : (L.map (·.1)).Nodup := by rw [hL]; exact nms_nodup ht
  have hin : ∀ f ∈ L, isN f.1 = true := fun f hf => by
    have h9 : f.1 ∈ nms D := by rw [← hL]; exact List.mem_map.2 ⟨f, hf, rfl⟩
    obtain ⟨i, hi⟩ := ht.mem.1 h9
    exact hn _ i hi
  have hw := lw_run room.toNat hd L.length (Nat.le_refl _)
  have h0 := lw_ldr room.toNat hd hin _ 0 (Nat.zero_le _) rfl
  refine ⟨{ ldn room.toNat L L.length with sf := (ldn room.toNat L L.length).st }, ?_, (ldn_room room.toNat L L.length).2.2, rfl, fun T hT => ?_⟩
  · unfold Ds.load
    rw [if_pos hr]
    simpa [ldn] using h0
  · show tol (ldn room.toNat L L.length) T (ldn room.toNat L L.length).st = L
    have hnm : nms (ldn room.toNat L L.length).st = nms D := by
      refine nms_ext hw.td ht fun x => ?_
      rw [← ht.mem, ← hL]
      constructor
      · rintro ⟨i, hi⟩
        refine Classical.byContradiction fun hx => ?_
        rw [hw.ot x (fun j hj e => hx (by rw [e]; exact List.mem_map.2 ⟨_, by simp [List.getD, hj], rfl⟩))] at hi
        cases hi
      · intro hx
        obtain ⟨f, hf, rfl⟩ := List.mem_map.1 hx
        obtain ⟨j, hj, rfl⟩ := List.getElem_of_mem hf
        have := (hw.dn j hj).1
        simp only [List.getD, List.getElem?_eq_getElem hj, Option.getD_some] at this
        exact ⟨j, this⟩
    unfold tol
    rw [hnm, ← hL, List.map_map]
    apply List.ext_getElem
    · simp
    · intro j h1 h2
      obtain ⟨h3, h4⟩ := hw.dn j h2
      simp only [List.getD, List.getElem?_eq_getElem h2, Option.getD_some] at h3 h4
      simp [h3, h4, hT]
end Go.Proofs.Ytaddgmbglhdfdaa
/-
  Files compared; what is asked of drives that hold much; what a drive of the law's own leaves as it is.
-/
namespace Go.Proofs.Ytaddgmbglhdfdaa
open Go.RowKit Go.Maps Go.Sort
/-- string(row) of a slice that reads as these bytes. -/
theorem conv_tv {w : World} {v : Value} {d : Tx} (h : Tv w v d) : (convert 26 9 v).run Try.prog w = .ok (encStr d) w := by
  rcases h with ⟨rfl, rfl⟩ | ⟨g, c, rfl, hc⟩
  · kernel_rfl
  · exact conv_at hc d.length c rfl
theorem own_cell2 {w : World} {base : Nat} {e : TypeId} {n : Nat} {v : Value} {xs : List Value} (h : w.ownsRow base e 2 v n xs) (i : Nat) (hi : i < n) : ∃ g c cur, v = .slice (some ⟨g, 0, none⟩) n c ∧ w.heap[g]? = some (.cells cur e (0, 0)) ∧ w.cell? ⟨g, i * 2, none⟩ = xs[i * 2]? ∧ w.cell? ⟨g, i * 2 + 1, none⟩ = xs[i * 2 + 1]? := by
  have hl := h.1
  rcases h.2 with ⟨hv, h1⟩ | ⟨g, cap, cur, hv, hg, hb, h1, h2, h3, h4⟩
  · omega
  · refine ⟨g, cap, cur, hv, hb, ?_, ?_⟩
    · rw [cell_of_row w g _ _ _ _ hb, ← h4, List.getElem?_take, if_pos (by omega), Array.getElem?_toList]
    · rw [cell_of_row w g _ _ _ _ hb, ← h4, List.getElem?_take, if_pos (by omega), Array.getElem?_toList]
/-- A file of a list in memory. -/
theorem FsAt.file {w : World} {base : Nat} {v : Value} {L : List (Tx × Tx)} (h : FsAt w base v L) (i : Nat) (hi : i < L.length) : ∃ g c pd cd, v = .slice (some ⟨g, 0, none⟩) L.length c ∧ w.cell? ⟨g, i * 2, none⟩ = some (encStr (L.getD i ([], [])).1) ∧ w.cell? ⟨g, i * 2 + 1, none⟩ = some (.slice pd (L.getD i ([], [])).2.length cd) ∧ Tv w (.slice pd (L.getD i ([], [])).2.length cd) (L.getD i ([], [])).2 := by
  obtain ⟨dv, h1, h2, h3⟩ := h.ex
  obtain ⟨g, c, cur, e1, _, e2, e3⟩ := own_cell2 h2 i hi
  have hz : i < ((L.map (·.1)).zip dv).length := by simp [h1, hi]
  obtain ⟨f1, f2⟩ := flc_at _ i hz
  have hO := h3 i hi
  obtain ⟨p, c', hv⟩ := hO.len
  have e4 : ((L.map (·.1)).zip dv).getD i ([], undef) = ((L.getD i ([], [])).1, dv.getD i undef) := by
    have hd : i < dv.length := by omega
    rw [List.getD, List.getElem?_eq_getElem hz, List.getElem_zip]
    simp [hi, hd]
  rw [e4] at f1 f2
  refine ⟨g, c, p, c', e1, e2.trans f1, ?_, ?_⟩
  · rw [e3.trans f2, ← hv]
  · rw [← hv]; exact hO.tv
theorem FsAt.len {w : World} {base : Nat} {v : Value} {L : List (Tx × Tx)} (h : FsAt w base v L) : ∃ p c, v = .slice p L.length c := own_len h.ex.choose_spec.2.1
/-- Files of a law's own are files that may be loaded. -/
theorem FsAt.fl {w : World} {base : Nat} {p : Option Addr} {n c : Nat} {L : List (Tx × Tx)} (h : FsAt w base (.slice p n c) L) : FlAt w p L := by
  intro i hi
  obtain ⟨g, c', pd, cd, e1, e2, e3, e4⟩ := h.file i hi
  injection e1 with e1
  exact ⟨g, 0, _, e1, by rw [Nat.zero_add]; exact e2, by rw [Nat.zero_add]; exact e3, e4⟩
/-- They stay where their blocks stay. -/
theorem FsAt.keep {w w' : World} {base : Nat} {v : Value} {L : List (Tx × Tx)} (h : FsAt w base v L) (hk : ∀ g, base ≤ g → g < w.heap.size → w'.heap[g]? = w.heap[g]?) : FsAt w' base v L := by
  obtain ⟨dv, h1, h2, h3⟩ := h
  have hrow : ∀ {e : TypeId} {sz n : Nat} {v : Value} {xs : List Value}, w.ownsRow base e sz v n xs → w'.ownsRow base e sz v n xs := by
    intro e sz n v xs h1
    refine ob_same h1 fun g hg => ?_
    rcases h1.2 with ⟨hv, _⟩ | ⟨g', cap, c, hv, hb, hh, _⟩
    · rw [hv] at hg; cases hg
    · rw [hv] at hg
      simp [Value.ownBlock] at hg
      subst hg
      exact hk g' hb (blt hh)
  exact ⟨dv, h1, hrow h2, fun i hi => hrow (h3 i hi)⟩
theorem FsAt.up {w : World} {a b : Nat} {v : Value} {L : List (Tx × Tx)} (h : FsAt w b v L) (hb : a ≤ b) : FsAt w a v L := by
  obtain ⟨dv, h1, h2, h3⟩ := h
  exact ⟨dv, h1, own_up h2 hb, fun i hi => own_up (h3 i hi) hb⟩
theorem Tv.conv {w : World} {v : Value} {d : Tx} (h : Tv w v d) (z : Nat) : (convert 26 9 v).run Try.prog (w.drewN z) = .ok (encStr d) (w.drewN z) := conv_tv (h.below ⟨rfl, rfl, rfl, Nat.le_refl _, fun _ _ => rfl⟩)
theorem size_nms {D : Dir} (h : Tidy D) : Maps.size D = (nms D).length := by
  rw [nms_len]
  obtain ⟨es, rfl, _⟩ := h
  simp [strKeys, Maps.size]
theorem fsz_tol (σ : Ds) (T : Bd → Tx) (D : Dir) (k : Nat) (hk : ∀ i, (T (σ.body i)).length ≤ k) : fsz (tol σ T D) ≤ (nms D).length * (1 + k) := by
  unfold tol fsz
  induction nms D with
  | nil => simp
  | cons x l ih =>
    simp only [List.map_cons, List.sum_cons, List.length_cons]
    have := hk ((lk D x).getD 0)
    rw [Nat.add_mul, Nat.one_mul]
    omega
theorem step_apO {P : Program} {ops : Array Oper} {o : Oper} {a : Act} {w : World} {K : Act → World → Prop} {Q : Exit → Act → World → Prop} {E : Prop}
    (hg : o.guard = none) (s x : Operand) (t : TypeId) (ho : o.op = .call { callee := .builtin .append, args := #[s, x], argTypes := #[t, t] })
    (base : Nat) (e : TypeId) (i : TypeInfo) (z : Value) (size bytes : Nat) (ht : P.underlying t = some (.slice e)) (hi : P.info? e = some i) (hz : i.zero = some z)
    (hsize : i.size = size) (hby : i.bytes = bytes) (hzs : z.cells.size = size) (hsz : 0 < size)
    (v : Value) (n : Nat) (xs : List Value) (hs : a.eval s = v) (hown : w.ownsRow base e size v n xs)
    (ad : Addr) (m c : Nat) (news : List Value) (hx : a.eval x = .slice (some ad) m c) (hl : news.length = m * size) (hnews : ∀ j u, news[j]? = some u → w.cell? (ad.add j) = some u) (h1 : ∀ u ∈ news, u.oneCell' = true)
    (h63 : n + m ≤ maxLen) (hbytes : (n + m) * bytes ≤ 140737488355328) (hbase : base ≤ w.heap.size)
    (h : ∀ v' w', w'.ownsRow base e size v' (n + m) (xs ++ news) → w.grownBy w' v.ownBlock → K (a.put o.dst v') w') :
    if Region.wanted o (yielded ops a.tmps) = true then Oper.wp P o a w K Q else E := by
  have hw : Region.wanted o (yielded ops a.tmps) = true := by simp [Region.wanted, hg]
  rw [if_pos hw]
  exact wp_append_own w s x t ho base e i z size bytes ht hi hz hsize hby hzs hsz v n xs hs hown ad m c news hx hl hnews h1 h63 hbytes hbase (fun v' w' a b _ => h v' w' a b)
section
attribute [local irreducible] Calls
set_option maxHeartbeats 1000000 in
set_option maxRecDepth 1000000 in
theorem same_files {w : World} {b1 b2 : Nat} {u v : Value} {L : List (Tx × Tx)} (h1 : FsAt w b1 u L) (h2 : FsAt w b2 v L) (hL : L.length ≤ 1000000000) : Calls Try.prog 30 #[u, v] w fun e w' => e = .returned (.bool true) ∧ Below w.heap.size w w' := by
  obtain ⟨n, hn⟩ : ∃ n, n = L.length := ⟨_, rfl⟩
  obtain ⟨p1, c1, rfl⟩ : ∃ p c, u = .slice p n c := by rw [hn]; exact own_len h1.ex.choose_spec.2.1
  obtain ⟨p2, c2, rfl⟩ : ∃ p c, v = .slice p n c := by rw [hn]; exact own_len h2.ex.choose_spec.2.1
  have HH := (show Hid (_ ∧ _ ∧ _) from ⟨h1, h2, hn⟩)
  rw [← hn] at hL
  clear h1 h2 hn
  go_enter Try.func30, Try.ntmps30
  go_wp2
  go_loopw [5] (fun i wr => ∃ k : Nat, k ≤ n ∧ i = .int .i64 k ∧ Hid (Below w.heap.size w wr)) (fun i _ => n - (intOf i).toNat)
  case atStart => exact ⟨0, Nat.zero_le _, rfl, Below.refl _ _⟩
  case round =>
    obtain ⟨k, hk, rfl, hB⟩ := hrel
    by_cases hlt : k < n
    · have hi : (k : Int) < (n : Int) := by omega
      obtain ⟨h1, h2, hn⟩ := HH.out
      obtain ⟨g, cg, pd, cd, e1, e2, e3, e4⟩ := (h1.below hB.out).file k (by omega)
      obtain ⟨g', cg', pd', cd', e1', e2', e3', e4'⟩ := (h2.below hB.out).file k (by omega)
      replace e4 := e4.conv
      replace e4' := e4'.conv
      injection e1 with e1 en ec
      injection e1' with e1' en' ec'
      subst e1 ec e1' ec'
      clear en en'
      generalize (L.getD k ([], [])).1 = x at *
      generalize (L.getD k ([], [])).2 = d at *
      generalize d.length = nd at *
      have hxx : (x == x) = true := by simp
      have hdd : (d == d) = true := by simp
      clear h1 h2 hn
      go_wp2
      go_quiet (fail)
      go_wp2
      go_roundw
      case rel => exact ⟨k + 1, by omega, by go_num, hB.out.trans ⟨rfl, rfl, rfl, Nat.le_refl _, fun _ _ => rfl⟩⟩
      case measure => simp [intOf]; omega
    · obtain rfl : k = n := by omega
      have hi : ¬ (k : Int) < (k : Int) := by omega
      go_wp2
      go_ret
      exact ⟨rfl, hB.out⟩
set_option maxRecDepth 1000000 in
theorem image_gen {w : World} {db : Nat} {σ : Ds} {F : Nat → Prop} (h : DrAt w db σ F) (nn : NN σ.st) (hs : Maps.size σ.st ≤ 1000000000) (hl : ∀ i, (σ.body i).data.length ≤ 140737488355328) : Calls Try.prog 24 #[.pointer (some ⟨db, 0, none⟩)] w fun e w' => ∃ v, e = .returned v ∧ FsAt w' w.heap.size v (tol σ (·.data) σ.st) ∧ Below w.heap.size w w' := by
  obtain ⟨hFd, hFw, m, rv, st, sf, pv, S, R⟩ := h
  have c2 := S.cell.2.2.1
  have FI := (show Hid _ from files_im (w := w) (m := m) σ st σ.st (by
    rcases R.dirs with ⟨rfl, rfl, e1, _⟩ | ⟨s, f, rfl, rfl, _, _, _, h1, _⟩
    · exact .inl ⟨rfl, e1⟩
    · exact .inr ⟨s, rfl, h1⟩) nn hs (·.data) hl (fun w' hb i hi => imf_any ((R.below hb).bod i (by rw [← R.len]; exact hi))))
  clear S R nn hs hl hFw hFd
  go_enter Try.func24, Try.ntmps24
  go_wp2_with (go_at_call 60; refine FI.out.mono ?_; rintro e w1 ⟨v, rfl, h1, h2⟩)
  go_ret
  exact ⟨v, rfl, h1, h2⟩
set_option maxRecDepth 1000000 in
theorem safe_gen {w : World} {db : Nat} {σ : Ds} {F : Nat → Prop} (h : DrAt w db σ F) (nf : NN σ.sf) (hs : Maps.size σ.sf ≤ 1000000000) (hl : ∀ i, (σ.body i).data.length ≤ 140737488355328) (sa : ∀ i, (σ.body i).safe ≤ (σ.body i).data.length) : Calls Try.prog 28 #[.pointer (some ⟨db, 0, none⟩)] w fun e w' => ∃ v, e = .returned v ∧ FsAt w' w.heap.size v (tol σ (fun b => b.data.take b.safe) σ.sf) ∧ Below w.heap.size w w' := by
  obtain ⟨hFd, hFw, m, rv, st, sf, pv, S, R⟩ := h
  have c3 := S.cell.2.2.2.1
  have FI := (show Hid _ from files_sa (w := w) (m := m) σ sf σ.sf (by
    rcases R.dirs with ⟨rfl, rfl, _, e1, _⟩ | ⟨s, f, rfl, rfl, _, _, _, _, h1⟩
    · exact .inl ⟨rfl, e1⟩
    · exact .inr ⟨f, rfl, h1⟩) nf hs (fun b => b.data.take b.safe) (fun i => by have := hl i; simp; omega) (fun w' hb i hi => saf_any ((R.below hb).bod i (by rw [← R.len]; exact hi)) (sa i)))
  clear S R nf hs hl sa hFw hFd
  go_enter Try.func28, Try.ntmps28
  go_wp2_with (go_at_call 60; refine FI.out.mono ?_; rintro e w1 ⟨v, rfl, h1, h2⟩)
  go_ret
  exact ⟨v, rfl, h1, h2⟩
end
end Go.Proofs.Ytaddgmbglhdfdaa
