/-
  What a drive shows under one name, through writings and losses of power.
-/
import Derived.Test.YtjobaeopokfekaaGreatAm26
import Derived.Test.YtjobaeopokfekaaGreatLz15
import Derived.Test.YtjobaeopokfekaaGreatWx26
namespace Go.Proofs.YtjobaeopokfekaaGreat
open Go.RowKit Go.Maps Go.Sort
/-- A body that is whole, of such a text. -/
structure Gd (σ : Ds) (Q : Tx → Prop) (i : Nat) : Prop where
  il : i < σ.bs.length
  sf : (σ.body i).safe = (σ.body i).data.length
  qd : Q (σ.body i).data
/-- What a name may lead to. -/
def Lg (σ : Ds) (n : Prop) (Q : Tx → Prop) : Option Nat → Prop
  | none => n
  | some i => Gd σ Q i
theorem Gd.mono {σ τ : Ds} {Q R : Tx → Prop} {i : Nat} (h : Gd σ Q i) (hb : ∀ j, j < σ.bs.length → τ.body j = σ.body j) (hl : σ.bs.length ≤ τ.bs.length) (hq : ∀ d, Q d → R d) : Gd τ R i := by
  have e := hb i h.il
  exact ⟨Nat.lt_of_lt_of_le h.il hl, by rw [e]; exact h.sf, by rw [e]; exact hq _ h.qd⟩
theorem Lg.mono {σ τ : Ds} {n m : Prop} {Q R : Tx → Prop} {o : Option Nat} (h : Lg σ n Q o) (hb : ∀ j, j < σ.bs.length → τ.body j = σ.body j) (hl : σ.bs.length ≤ τ.bs.length) (hn : n → m) (hq : ∀ d, Q d → R d) : Lg τ m R o := by
  cases o with
  | none => exact hn h
  | some i => exact Gd.mono h hb hl hq
/-- What stands under the name, is safe under it and may become safe is whole and of such a text; n: it may be missing. -/
structure La (y : Tx) (n : Prop) (Q : Tx → Prop) (σ : Ds) : Prop where
  st : Lg σ n Q (lk σ.st y)
  sf : Lg σ n Q (lk σ.sf y)
  pn : ∀ c ∈ σ.pend, ∀ l ∈ c, l.1 = y → Lg σ False Q l.2
theorem La.mono {y : Tx} {n m : Prop} {Q R : Tx → Prop} {σ : Ds} (h : La y n Q σ) (hn : n → m) (hq : ∀ d, Q d → R d) : La y m R σ :=
  ⟨h.st.mono (fun _ _ => rfl) (Nat.le_refl _) hn hq, h.sf.mono (fun _ _ => rfl) (Nat.le_refl _) hn hq, fun c hc l hl e => (h.pn c hc l hl e).mono (fun _ _ => rfl) (Nat.le_refl _) id hq⟩
theorem La.new (y : Tx) (r : Nat) (Q : Tx → Prop) : La y True Q (Ds.new r) := ⟨trivial, trivial, fun c hc => by simp [Ds.new] at hc⟩
theorem Je.len {x : Tx} {σ0 σ : Ds} {b : Bd} (h : Je x σ0 b σ) : σ0.bs.length ≤ σ.bs.length := by rw [h.j.bl]; exact Nat.le_succ _
theorem La.je {x y : Tx} (hne : y ≠ x) {n : Prop} {Q : Tx → Prop} {σ0 σ : Ds} {b : Bd} (h : La y n Q σ0) (hw : Wfd σ0) (hj : Je x σ0 b σ) : La y n Q σ := by
  refine ⟨?_, ?_, fun c hc l hl e => ?_⟩
  · rw [hj.j.st]
    show Lg σ n Q (lk (fol1 σ0.st (x, some σ0.bs.length)) y)
    rw [lk_fol1 hw.ms, if_neg hne]
    exact h.st.mono hj.ob hj.len id (fun _ h => h)
  · rw [hj.j.sf]
    exact h.sf.mono hj.ob hj.len id (fun _ h => h)
  · rw [hj.j.pn] at hc
    rcases List.mem_append.1 hc with hc | hc
    · exact (h.pn c hc l hl e).mono hj.ob hj.len id (fun _ h => h)
    · rw [List.mem_singleton] at hc
      subst hc
      rw [List.mem_singleton] at hl
      subst hl
      exact absurd e.symm hne
/-- The change by which the name is led to the new body. -/
abbrev nmC (x y : Tx) (σ0 : Ds) : List Ld := [(x, none), (y, some σ0.bs.length)]
theorem je_gd {x d : Tx} {σ0 σ : Ds} (hj : Je x σ0 ⟨d, d.length⟩ σ) (c : List Ld) (R : Tx → Prop) (hr : R d) : Gd (σ.change c) R σ0.bs.length := by
  have e : (σ.change c).body σ0.bs.length = ⟨d, d.length⟩ := hj.j.bd
  exact ⟨by show _ < σ.bs.length; rw [hj.j.bl]; exact Nat.lt_succ_self _, by rw [e], by rw [e]; exact hr⟩
theorem nm_lk {x y : Tx} {σ0 σ : Ds} {b : Bd} (hw : Wfd σ0) (hj : Je x σ0 b σ) : lk (σ.change (nmC x y σ0)).st y = some σ0.bs.length := by
  show lk (fol1 (fol1 σ.st (x, none)) (y, some σ0.bs.length)) y = _
  have hm : IsMap σ.st := by rw [hj.j.st]; exact fol_isMap hw.ms _
  rw [lk_fol1 (fol1_isMap hm _), if_pos rfl]
theorem La.named {x y d : Tx} (hne : y ≠ x) {n : Prop} {Q : Tx → Prop} {σ0 σ : Ds} (h : La y n Q σ0) (hw : Wfd σ0) (hj : Je x σ0 ⟨d, d.length⟩ σ) : La y n (fun e => Q e ∨ e = d) (σ.change (nmC x y σ0)) := by
  have h1 := (h.je hne hw hj).mono id (fun _ h => Or.inl h : ∀ e, Q e → (Q e ∨ e = d))
  refine ⟨?_, h1.sf.mono (fun _ _ => rfl) (Nat.le_refl _) id (fun _ h => h), fun c hc l hl e => ?_⟩
  · rw [nm_lk hw hj]
    exact je_gd hj _ _ (.inr rfl)
  · have hc' : c ∈ σ.pend ++ [nmC x y σ0] := hc
    rcases List.mem_append.1 hc' with hc | hc
    · exact (h1.pn c hc l hl e).mono (fun _ _ => rfl) (Nat.le_refl _) id (fun _ h => h)
    · rw [List.mem_singleton] at hc
      subst hc
      have hl' : l = (x, none) ∨ l = (y, some σ0.bs.length) := by simpa using hl
      rcases hl' with rfl | rfl
      · exact absurd e.symm hne
      · exact je_gd hj _ _ (.inr rfl)
theorem La.whole {x y d : Tx} {σ0 σ : Ds} (hw : Wfd σ0) (hj : Je x σ0 ⟨d, d.length⟩ σ) (hi : Iv (σ.change (nmC x y σ0))) : La y False (fun e => e = d) (σ.change (nmC x y σ0)).syncDir := by
  have e1 : (σ.change (nmC x y σ0)).syncDir.sf = (σ.change (nmC x y σ0)).st := hi.eq.symm
  have g : Gd (σ.change (nmC x y σ0)).syncDir (fun e => e = d) σ0.bs.length := (je_gd hj (nmC x y σ0) (fun e => e = d) rfl).mono (fun _ _ => rfl) (Nat.le_refl _) (fun _ h => h)
  have e2 := nm_lk (y := y) hw hj
  refine ⟨?_, ?_, fun c hc => by cases hc⟩
  · show Lg _ _ _ (lk (σ.change (nmC x y σ0)).st y)
    rw [e2]; exact g
  · rw [e1, e2]; exact g
theorem lg_fol {σ : Ds} {n : Prop} {Q : Tx → Prop} {y : Tx} : ∀ (c : List Ld) {D : Dir}, IsMap D → Lg σ n Q (lk D y) → (∀ l ∈ c, l.1 = y → Lg σ False Q l.2) → Lg σ n Q (lk (fol D c) y)
  | [], _, _, h, _ => h
  | l :: c, D, hm, h, hc => by
    refine lg_fol (D := fol1 D l) c (fol1_isMap hm l) ?_ (fun l' hl' => hc l' (List.mem_cons_of_mem _ hl'))
    rw [lk_fol1 hm]
    split
    · rename_i e
      exact (hc l (List.mem_cons_self ..) e.symm).mono (fun _ _ => rfl) (Nat.le_refl _) False.elim (fun _ h => h)
    · exact h
theorem La.crf {y : Tx} {n : Prop} {Q : Tx → Prop} {σ : Ds} (h : La y n Q σ) (hi : Iv σ) (dirs : List Bool) : ∀ k, k ≤ σ.pend.length → Lg σ n Q (lk (crf σ dirs k) y)
  | 0, _ => h.sf
  | k + 1, hk => by
    have ih := La.crf h hi dirs k (by omega)
    rw [crf_succ]
    split
    · refine lg_fol _ (hi.crf dirs k (by omega)).1.t.isMap ih ?_
      have hm : σ.pend.getD k [] ∈ σ.pend := by
        have hl : k < σ.pend.length := by omega
        rw [List.getD, List.getElem?_eq_getElem hl]
        exact List.getElem_mem _
      exact h.pn _ hm
    · exact ih
theorem La.crash {y : Tx} {n : Prop} {Q : Tx → Prop} {σ : Ds} (h : La y n Q σ) (hw : Wfd σ) (hi : Iv σ) (dirs : List Bool) (cuts : List Int) : La y n Q (σ.crash dirs cuts) := by
  have ht : Td (cr1 σ dirs).sf := (hi.crf dirs _ (Nat.le_refl _)).1
  have hl : ∀ z j, lk (cr1 σ dirs).sf z = some j → j < (cr1 σ dirs).bs.length := crf_lt hw hi dirs _ (Nat.le_refl _)
  have h1 : Lg σ n Q (lk (cr1 σ dirs).sf y) := h.crf hi dirs _ (Nat.le_refl _)
  have hc := cd_run cuts ht hl _ (Nat.le_refl _)
  have key : Lg (σ.crash dirs cuts) n Q (lk (crn (cr1 σ dirs) cuts (nms (cr1 σ dirs).sf).length).sf y) := by
    by_cases hy : y ∈ nms (cr1 σ dirs).sf
    · obtain ⟨j, hj, e⟩ := List.getElem_of_mem hy
      obtain ⟨i0, hi0⟩ := ht.mem.1 hy
      have e9 : (nms (cr1 σ dirs).sf).getD j [] = y := by simp [hj, e]
      obtain ⟨i, q1, q2, q3⟩ := hc.dn j hj
      rw [e9] at q1 q2
      rw [q1]
      rw [hi0] at h1 q2
      have g : Gd σ Q i0 := h1
      simp only [Option.getD_some] at q2
      have e5 : (cr1 σ dirs).body i0 = σ.body i0 := rfl
      rw [e5, lft_safe _ g.sf] at q2
      refine ⟨q3, ?_, ?_⟩
      · show (Ds.body (crn (cr1 σ dirs) cuts _) i).safe = (Ds.body (crn (cr1 σ dirs) cuts _) i).data.length
        rw [q2]
      · show Q (Ds.body (crn (cr1 σ dirs) cuts _) i).data
        rw [q2]; exact g.qd
    · have hno : lk (cr1 σ dirs).sf y = none := by
        cases e : lk (cr1 σ dirs).sf y with
        | none => rfl
        | some i => exact absurd (ht.mem.2 ⟨i, e⟩) hy
      rw [hc.ot y (fun j hj e => hy (by rw [e]; simp [hj])), hno]
      rw [hno] at h1
      exact h1
  exact ⟨key, key, fun c hc => by rw [crash_pend] at hc; cases hc⟩
/-- A label that was written stands in one of these texts. -/
def Qm (L : List Lbl) (d : Tx) : Prop := ∃ l ∈ L, l.Ok ∧ d = us l.fm
theorem La.read {n : Prop} {L : List Lbl} {σ : Ds} (h : La [108] n (Qm L) σ) : (σ.lread = (110, lb0) ∧ n) ∨ ∃ l ∈ L, σ.lread = (0, l) := by
  have h1 := h.st
  unfold Ds.lread Ds.read Ds.find
  rw [if_pos (show isN [108] = true from rfl)]
  cases e : lk σ.st [108] with
  | none => rw [e] at h1; exact .inl ⟨rfl, h1⟩
  | some i =>
    rw [e] at h1
    obtain ⟨l, hl, ok, hd⟩ := h1.qd
    refine .inr ⟨l, hl, ?_⟩
    show (if (0 : Nat) = 0 then pL (bvs (σ.body i).data) else _) = _
    rw [if_pos rfl, hd, bvs_us, pL_fm l ok]
end Go.Proofs.YtjobaeopokfekaaGreat
/-
  A file written whole through a wound, as mathematics: what comes of each call.
-/
namespace Go.Proofs.YtjobaeopokfekaaGreat
open Go.RowKit Go.Maps Go.Sort
/-- What a wound's gate may have come to behind n calls. -/
structure Gs (n : Int) (g g' : Gt) : Prop where
  c0 : g.calls ≤ g'.calls
  c1 : g'.calls ≤ g.calls + n
  r0 : g.rc ≤ g'.rc
  r1 : g'.rc ≤ g.rc + n
  of : g'.offl = g.offl
  th : g'.th = g.th
  ro : g'.ro = g.ro
  ca : g'.ca = g.ca
  ns : g'.ins = g.ins
  on : g'.off = g.off ∨ (g.th = true ∧ g.ro = 0)
theorem Gs.refl (g : Gt) : Gs 0 g g := ⟨by omega, by omega, by omega, by omega, rfl, rfl, rfl, rfl, rfl, .inl rfl⟩
theorem Gs.trans {n m : Int} {a b c : Gt} (h : Gs n a b) (k : Gs m b c) : Gs (n + m) a c := by
  obtain ⟨h1, h2, h3, h4, h5, h6, h7, h8, h9, h10⟩ := h
  obtain ⟨k1, k2, k3, k4, k5, k6, k7, k8, k9, k10⟩ := k
  refine ⟨by omega, by omega, by omega, by omega, k5.trans h5, k6.trans h6, k7.trans h7, k8.trans h8, k9.trans h9, ?_⟩
  rcases k10 with k10 | ⟨k10, k11⟩
  · rcases h10 with h10 | h10
    · exact .inl (k10.trans h10)
    · exact .inr h10
  · exact .inr ⟨h6 ▸ k10, h7 ▸ k11⟩
theorem Gs.mono {n m : Int} {a b : Gt} (h : Gs n a b) (hm : n ≤ m) : Gs m a b := ⟨h.c0, by have := h.c1; omega, h.r0, by have := h.r1; omega, h.of, h.th, h.ro, h.ca, h.ns, h.on⟩
theorem ahd_gs (g : Gt) (P : DataW Unit) (rm : Bool) : Gs 1 g (ahd g P rm).2 := by
  unfold ahd
  split
  · exact (Gs.refl g).mono (by omega)
  · split
    · exact (Gs.refl g).mono (by omega)
    · split
      · rename_i h
        exact ⟨by show g.calls ≤ g.calls + 1; omega, Int.le_refl _, by show g.rc ≤ g.rc + 1; omega, Int.le_refl _, rfl, rfl, rfl, rfl, rfl, .inr ⟨h.1, h.2.1⟩⟩
      · exact ⟨by show g.calls ≤ g.calls + 1; omega, Int.le_refl _, by show g.rc ≤ g.rc + 1; omega, Int.le_refl _, rfl, rfl, rfl, rfl, rfl, .inl rfl⟩
theorem Gs.gok {n : Int} {g g' : Gt} (h : Gs n g g') (h0 : 0 ≤ g.calls) (h1 : g.calls ≤ 1000) (h2 : 0 ≤ g.rc) (h3 : g.rc ≤ 1000) (hn : n ≤ 1000) : Gok g' := by
  obtain ⟨k1, k2, k3, k4, _⟩ := h
  exact ⟨by omega, by omega, by omega, by omega⟩
/-- Nothing strikes. -/
structure Fr (g : Gt) (P : DataW Unit) : Prop where
  of : g.off = false
  ol : g.offl = false
  th : g.th = false
  pl : P = .map []
theorem Fr.ahd {g : Gt} {P : DataW Unit} (h : Fr g P) (rm : Bool) : (ahd g P rm).1 = (false, 0) ∧ Fr (ahd g P rm).2 P := by
  obtain ⟨h1, h2, h3, h4⟩ := h
  subst h4
  unfold Go.Proofs.YtjobaeopokfekaaGreat.ahd
  rw [if_neg (by rw [h1]; decide), if_neg (by rw [h2]; decide), if_neg (by rw [h3]; simp)]
  exact ⟨rfl, ⟨h1, h2, h3, rfl⟩⟩
/-- What comes of a call that goes to the drive, or not. -/
def K1 (g : Gt) (P : DataW Unit) (σ : Ds) (rm : Bool) (r : Nat × Ds) : Int × (Gt × Ds) := ((if (ahd g P rm).1.2 = 0 then (r.1 : Int) else (ahd g P rm).1.2), ((ahd g P rm).2, (if (ahd g P rm).1.2 = 0 then r.2 else σ)))
def Kap (g : Gt) (P : DataW Unit) (σ : Ds) (x d : Tx) : Int × (Gt × Ds) := ((kans g P σ x d).1, ((ahd g P true).2, (kans g P σ x d).2))
def kf3 (P : DataW Unit) (a : Int × (Gt × Ds)) : Int × (Gt × Ds) := if a.1 = 0 then K1 a.2.1 P a.2.2 false (a.2.2.sync [116]) else a
def kf2 (P : DataW Unit) (d : Tx) (a : Int × (Gt × Ds)) : Int × (Gt × Ds) := if a.1 = 0 then kf3 P (Kap a.2.1 P a.2.2 [116] d) else a
def kfill (g : Gt) (P : DataW Unit) (σ : Ds) (d : Tx) : Int × (Gt × Ds) := kf2 P d (K1 g P σ true (σ.create [116]))
def kw5 (P : DataW Unit) (a : Int × (Gt × Ds)) : Int × (Gt × Ds) := if a.1 = 0 then K1 a.2.1 P a.2.2 false (0, a.2.2.syncDir) else a
def kw4 (P : DataW Unit) (x : Tx) (a : Int × (Gt × Ds)) : Int × (Gt × Ds) := if a.1 = 0 then kw5 P (K1 a.2.1 P a.2.2 false (a.2.2.rename [116] x)) else a
def kwrite (g : Gt) (P : DataW Unit) (σ : Ds) (x d : Tx) : Int × (Gt × Ds) := if wN x = true then kw4 P x (kfill g P σ d) else (91, (g, σ))
theorem kap_gs (g : Gt) (P : DataW Unit) (σ : Ds) (x d : Tx) : Gs 1 g (Kap g P σ x d).2.1 := ahd_gs g P true
theorem k1_gs (g : Gt) (P : DataW Unit) (σ : Ds) (rm : Bool) (r : Nat × Ds) : Gs 1 g (K1 g P σ rm r).2.1 := ahd_gs g P rm
theorem kf3_gs {n : Int} (g : Gt) (P : DataW Unit) (a : Int × (Gt × Ds)) (h : Gs n g a.2.1) : Gs (n + 1) g (kf3 P a).2.1 := by
  unfold kf3
  split
  · exact h.trans (k1_gs _ _ _ _ _)
  · exact h.mono (by omega)
theorem kf2_gs {n : Int} (g : Gt) (P : DataW Unit) (d : Tx) (a : Int × (Gt × Ds)) (h : Gs n g a.2.1) : Gs (n + 2) g (kf2 P d a).2.1 := by
  unfold kf2
  split
  · exact (kf3_gs g P _ (h.trans (kap_gs _ _ _ _ _))).mono (by omega)
  · exact h.mono (by omega)
theorem kfill_gs (g : Gt) (P : DataW Unit) (σ : Ds) (d : Tx) : Gs 3 g (kfill g P σ d).2.1 := (kf2_gs g P d _ (k1_gs g P σ true _)).mono (by omega)
theorem kw5_gs {n : Int} (g : Gt) (P : DataW Unit) (a : Int × (Gt × Ds)) (h : Gs n g a.2.1) : Gs (n + 1) g (kw5 P a).2.1 := by
  unfold kw5
  split
  · exact h.trans (k1_gs _ _ _ _ _)
  · exact h.mono (by omega)
theorem kwrite_gs (g : Gt) (P : DataW Unit) (σ : Ds) (x d : Tx) : Gs 5 g (kwrite g P σ x d).2.1 := by
  unfold kwrite
  split
  · unfold kw4
    split
    · exact (kw5_gs g P _ ((kfill_gs g P σ d).trans (k1_gs _ _ _ _ _))).mono (by omega)
    · exact (kfill_gs g P σ d).mono (by omega)
  · exact (Gs.refl g).mono (by omega)
/-- A file written aside, so many bytes more used. -/
structure W1 (σ0 : Ds) (b : Bd) (δ : Ds) : Prop where
  je : Je [116] σ0 b δ
  us : δ.used ≤ σ0.used + b.data.length
  rm : δ.room = σ0.room
theorem sz_new (bs : List Bd) : sz (bs ++ [⟨[], 0⟩]) (some bs.length) = 0 := by simp [sz]
theorem w1_create {σ : Ds} (h : (σ.create [116]).1 = 0) : W1 σ ⟨[], 0⟩ (σ.create [116]).2 := by
  refine ⟨je_create h, ?_, ?_⟩
  · rw [(create_eq h).2]
    have e : (({ σ with bs := σ.bs ++ [⟨[], 0⟩] } : Ds).change [([116], some σ.bs.length)]).used = σ.used + ((sz (σ.bs ++ [⟨[], 0⟩]) (some σ.bs.length) : Int) - (sz (σ.bs ++ [⟨[], 0⟩]) (lk σ.st [116]) : Int)) := rfl
    rw [e, sz_new]
    simp only [List.length_nil]
    omega
  · rw [(create_eq h).2]; rfl
theorem w1_append {σ0 σ : Ds} {d : Tx} (h : W1 σ0 ⟨[], 0⟩ σ) (hw : Wfd σ0) (ha : (σ.append [116] d).1 = 0) : W1 σ0 ⟨d, 0⟩ (σ.append [116] d).2 := by
  have hu := h.us
  have hr := h.rm
  refine ⟨je_append h.je hw rfl ha, ?_, ?_⟩
  · unfold Ds.append at ha ⊢
    rw [h.je.j.find hw rfl] at ha ⊢
    dsimp only at ha hu ⊢
    split at ha
    · rename_i e
      rw [if_pos e]
      simp only [List.length_nil] at hu
      show σ.used ≤ σ0.used + (d.length : Int)
      omega
    · rename_i e
      rw [if_neg e]
      split at ha
      · cases ha
      · rename_i e2
        rw [if_neg e2]
        simp only [List.length_nil] at hu
        show σ.used + (d.length : Int) ≤ _
        omega
  · unfold Ds.append at ha ⊢
    rw [h.je.j.find hw rfl] at ha ⊢
    dsimp only at ha ⊢
    split at ha
    · rename_i e
      rw [if_pos e]; exact hr
    · rename_i e
      rw [if_neg e]
      split at ha
      · cases ha
      · rename_i e2
        rw [if_neg e2]; exact hr
theorem w1_sync {σ0 σ : Ds} {d : Tx} (h : W1 σ0 ⟨d, 0⟩ σ) (hw : Wfd σ0) : (σ.sync [116]).1 = 0 ∧ W1 σ0 ⟨d, d.length⟩ (σ.sync [116]).2 := by
  obtain ⟨h1, h2⟩ := je_sync h.je hw rfl
  have hu := h.us
  have hr := h.rm
  refine ⟨h1, h2, ?_, ?_⟩
  · unfold Ds.sync
    rw [h.je.j.find hw rfl]
    exact hu
  · unfold Ds.sync
    rw [h.je.j.find hw rfl]
    exact hr
/-- What a writing that was refused leaves. -/
def Bad (x : Tx) (σ0 : Ds) (d : Tx) (δ : Ds) : Prop := δ = σ0 ∨ (∃ b, W1 σ0 b δ ∧ b.data.length ≤ d.length) ∨ ∃ σ, W1 σ0 ⟨d, d.length⟩ σ ∧ δ = σ.change (nmC [116] x σ0)
/-- What a writing that was done leaves. -/
def Good (x : Tx) (σ0 : Ds) (d : Tx) (δ : Ds) : Prop := ∃ σ, W1 σ0 ⟨d, d.length⟩ σ ∧ δ = (σ.change (nmC [116] x σ0)).syncDir
theorem k1_or (g : Gt) (P : DataW Unit) (σ : Ds) (rm : Bool) (r : Nat × Ds) : ((K1 g P σ rm r).1 = 0 ∧ r.1 = 0 ∧ (K1 g P σ rm r).2.2 = r.2) ∨ ((K1 g P σ rm r).1 ≠ 0 ∧ ((K1 g P σ rm r).2.2 = σ ∨ (r.1 ≠ 0 ∧ (K1 g P σ rm r).2.2 = r.2))) := by
  unfold K1
  dsimp only
  by_cases h : (ahd g P rm).1.2 = 0
  · rw [if_pos h, if_pos h]
    by_cases h2 : r.1 = 0
    · exact .inl ⟨by rw [h2]; rfl, h2, rfl⟩
    · exact .inr ⟨by omega, .inr ⟨h2, rfl⟩⟩
  · rw [if_neg h, if_neg h]
    exact .inr ⟨h, .inl rfl⟩
theorem kap_or (g : Gt) (P : DataW Unit) (σ : Ds) (x d : Tx) : ((Kap g P σ x d).1 = 0 ∧ (σ.append x d).1 = 0 ∧ (Kap g P σ x d).2.2 = (σ.append x d).2) ∨ ((Kap g P σ x d).1 ≠ 0 ∧ ((Kap g P σ x d).2.2 = σ ∨ ∃ k, (Kap g P σ x d).2.2 = (σ.append x (d.take k)).2)) := by
  unfold Kap kans
  dsimp only
  by_cases h : (ahd g P true).1.2 = 0
  · rw [if_pos h]
    by_cases h2 : (σ.append x d).1 = 0
    · exact .inl ⟨by rw [h2]; rfl, h2, rfl⟩
    · exact .inr ⟨by dsimp only; omega, .inr ⟨d.length, by rw [List.take_length]⟩⟩
  · rw [if_neg h]
    split
    · exact .inr ⟨h, .inr ⟨_, rfl⟩⟩
    · exact .inr ⟨h, .inl rfl⟩
/-- What fill leaves. -/
theorem kfill_or (g : Gt) (P : DataW Unit) {σ : Ds} (hw : Wfd σ) (x d : Tx) : ((kfill g P σ d).1 = 0 ∧ W1 σ ⟨d, d.length⟩ (kfill g P σ d).2.2) ∨ ((kfill g P σ d).1 ≠ 0 ∧ Bad x σ d (kfill g P σ d).2.2) := by
  unfold kfill kf2
  rcases k1_or g P σ true (σ.create [116]) with ⟨h1, h2, h3⟩ | ⟨h1, h2⟩
  · rw [if_pos h1]
    have w1 := w1_create h2
    rw [← h3] at w1
    generalize K1 g P σ true (σ.create [116]) = a at w1 ⊢
    unfold kf3
    rcases kap_or a.2.1 P a.2.2 [116] d with ⟨k1, k2, k3⟩ | ⟨k1, k2⟩
    · rw [if_pos k1]
      have w2 := w1_append w1 hw k2
      rw [← k3] at w2
      generalize Kap a.2.1 P a.2.2 [116] d = b at w2 ⊢
      obtain ⟨s1, s2⟩ := w1_sync w2 hw
      rcases k1_or b.2.1 P b.2.2 false (b.2.2.sync [116]) with ⟨m1, m2, m3⟩ | ⟨m1, m2⟩
      · exact .inl ⟨m1, by rw [m3]; exact s2⟩
      · refine .inr ⟨m1, .inr (.inl ?_)⟩
        rcases m2 with m2 | ⟨m2, m3⟩
        · rw [m2]; exact ⟨_, w2, Nat.le_refl _⟩
        · exact absurd s1 m2
    · rw [if_neg k1]
      refine .inr ⟨k1, .inr (.inl ?_)⟩
      rcases k2 with k2 | ⟨k, k2⟩
      · rw [k2]; exact ⟨_, w1, Nat.zero_le _⟩
      · rw [k2]
        by_cases e : (a.2.2.append [116] (d.take k)).1 = 0
        · exact ⟨_, w1_append w1 hw e, by show (d.take k).length ≤ _; rw [List.length_take]; omega⟩
        · rw [append_fail e]; exact ⟨_, w1, Nat.zero_le _⟩
  · rw [if_neg h1]
    refine .inr ⟨h1, .inl ?_⟩
    rcases h2 with h2 | ⟨h2, h3⟩
    · exact h2
    · rw [h3, create_fail h2]
theorem kwrite_or (g : Gt) (P : DataW Unit) {σ : Ds} (hw : Wfd σ) (x d : Tx) (hx : wN x = true) : ((kwrite g P σ x d).1 = 0 ∧ Good x σ d (kwrite g P σ x d).2.2) ∨ ((kwrite g P σ x d).1 ≠ 0 ∧ Bad x σ d (kwrite g P σ x d).2.2) := by
  have hx2 : isN x = true ∧ [116] ≠ x := by
    unfold wN at hx
    simp only [Bool.and_eq_true, Bool.not_eq_true', decide_eq_false_iff_not] at hx
    exact ⟨hx.1, fun e => hx.2 e.symm⟩
  unfold kwrite
  rw [if_pos hx]
  unfold kw4
  rcases kfill_or g P hw x d with ⟨h1, h2⟩ | ⟨h1, h2⟩
  · rw [if_pos h1]
    generalize kfill g P σ d = a at h2 ⊢
    obtain ⟨r1, r2⟩ := je_rename h2.je hw rfl hx2.1 hx2.2
    unfold kw5
    rcases k1_or a.2.1 P a.2.2 false (a.2.2.rename [116] x) with ⟨k1, k2, k3⟩ | ⟨k1, k2⟩
    · rw [if_pos k1]
      rw [r2] at k3
      generalize K1 a.2.1 P a.2.2 false (a.2.2.rename [116] x) = b at k3 ⊢
      rcases k1_or b.2.1 P b.2.2 false (0, b.2.2.syncDir) with ⟨m1, m2, m3⟩ | ⟨m1, m2⟩
      · exact .inl ⟨m1, _, h2, by rw [m3, k3]⟩
      · refine .inr ⟨m1, .inr (.inr ⟨_, h2, ?_⟩)⟩
        rcases m2 with m2 | ⟨m2, m3⟩
        · rw [m2, k3]
        · exact absurd rfl m2
    · rw [if_neg k1]
      refine .inr ⟨k1, .inr (.inl ?_)⟩
      rcases k2 with k2 | ⟨k2, k3⟩
      · rw [k2]; exact ⟨_, h2, Nat.le_refl _⟩
      · exact absurd r1 k2
  · rw [if_neg h1]
    exact .inr ⟨h1, h2⟩
theorem k1_free {g : Gt} {P : DataW Unit} (h : Fr g P) (σ : Ds) (rm : Bool) (r : Nat × Ds) : K1 g P σ rm r = ((r.1 : Int), ((ahd g P rm).2, r.2)) ∧ Fr (ahd g P rm).2 P := by
  obtain ⟨h1, h2⟩ := h.ahd rm
  unfold K1
  rw [h1]
  exact ⟨rfl, h2⟩
theorem kap_free {g : Gt} {P : DataW Unit} (h : Fr g P) (σ : Ds) (x d : Tx) : Kap g P σ x d = (((σ.append x d).1 : Int), ((ahd g P true).2, (σ.append x d).2)) ∧ Fr (ahd g P true).2 P := by
  obtain ⟨h1, h2⟩ := h.ahd true
  unfold Kap kans
  rw [h1]
  exact ⟨rfl, h2⟩
/-- Nothing strikes, and there is room: it is written. -/
theorem kwrite_free {g : Gt} {P : DataW Unit} (h : Fr g P) {σ : Ds} (hw : Wfd σ) (x d : Tx) (hx : wN x = true) (hs : Maps.size σ.st < 65536) (hr : σ.used + d.length ≤ (σ.room : Int)) : (kwrite g P σ x d).1 = 0 := by
  have hx2 : isN x = true ∧ [116] ≠ x := by
    unfold wN at hx
    simp only [Bool.and_eq_true, Bool.not_eq_true', decide_eq_false_iff_not] at hx
    exact ⟨hx.1, fun e => hx.2 e.symm⟩
  have hc : (σ.create [116]).1 = 0 := by
    unfold Ds.create
    rw [if_pos (show isN [116] = true from rfl), if_neg (by rintro ⟨_, h9⟩; omega)]
  have w1 := w1_create hc
  obtain ⟨e1, f1⟩ := k1_free h σ true (σ.create [116])
  rw [hc] at e1
  replace e1 : K1 g P σ true (σ.create [116]) = (0, ((Go.Proofs.YtjobaeopokfekaaGreat.ahd g P true).2, (σ.create [116]).2)) := e1
  generalize (ahd g P true).2 = g1 at e1 f1
  generalize (σ.create [116]).2 = σ1 at e1 w1
  have ha : (σ1.append [116] d).1 = 0 := by
    have hu := w1.us
    have hm := w1.rm
    unfold Ds.append
    rw [w1.je.j.find hw rfl]
    dsimp only
    split
    · rfl
    · rw [if_neg (by rw [hm]; simp only [List.length_nil] at hu; omega)]
  have w2 := w1_append w1 hw ha
  obtain ⟨e2, f2⟩ := kap_free f1 σ1 [116] d
  rw [ha] at e2
  replace e2 : Kap g1 P σ1 [116] d = (0, ((Go.Proofs.YtjobaeopokfekaaGreat.ahd g1 P true).2, (σ1.append [116] d).2)) := e2
  generalize (ahd g1 P true).2 = g2 at e2 f2
  generalize (σ1.append [116] d).2 = σ2 at e2 w2
  obtain ⟨s1, w3⟩ := w1_sync w2 hw
  obtain ⟨e3, f3⟩ := k1_free f2 σ2 false (σ2.sync [116])
  rw [s1] at e3
  replace e3 : K1 g2 P σ2 false (σ2.sync [116]) = (0, ((Go.Proofs.YtjobaeopokfekaaGreat.ahd g2 P false).2, (σ2.sync [116]).2)) := e3
  generalize (ahd g2 P false).2 = g3 at e3 f3
  generalize hσ3 : (σ2.sync [116]).2 = σ3 at e3 w3
  obtain ⟨r1, _⟩ := je_rename w3.je hw rfl hx2.1 hx2.2
  obtain ⟨e4, f4⟩ := k1_free f3 σ3 false (σ3.rename [116] x)
  rw [r1] at e4
  replace e4 : K1 g3 P σ3 false (σ3.rename [116] x) = (0, ((Go.Proofs.YtjobaeopokfekaaGreat.ahd g3 P false).2, (σ3.rename [116] x).2)) := e4
  generalize (ahd g3 P false).2 = g4 at e4 f4
  obtain ⟨e5, _⟩ := k1_free f4 (σ3.rename [116] x).2 false (0, (σ3.rename [116] x).2.syncDir)
  have q1 : kfill g P σ d = (0, (g3, σ3)) := by
    unfold kfill
    rw [e1]
    unfold kf2
    dsimp only
    rw [if_pos rfl]
    rw [e2]
    unfold kf3
    dsimp only
    rw [if_pos rfl, e3]
  unfold kwrite
  rw [if_pos hx, q1]
  unfold kw4
  dsimp only
  rw [if_pos rfl]
  rw [e4]
  unfold kw5
  dsimp only
  rw [if_pos rfl]
  rw [e5]; rfl
end Go.Proofs.YtjobaeopokfekaaGreat
/-
  A drive on which labels alone are written: small, in order, whatever befalls it.
-/
namespace Go.Proofs.YtjobaeopokfekaaGreat
open Go.RowKit Go.Maps Go.Sort
/-- Two names at most, files of 31 bytes at most. -/
structure SmD (u : Nat) (σ : Ds) : Prop where
  rm : σ.room = 1048576
  ub : σ.used ≤ (u : Int)
  bl : ∀ i, (σ.body i).data.length ≤ 31
  ns : ∀ y i, lk σ.st y = some i → y = [116] ∨ y = [108]
  nf : ∀ y i, lk σ.sf y = some i → y = [116] ∨ y = [108]
  np : ∀ c ∈ σ.pend, ∀ l ∈ c, ∀ i, l.2 = some i → l.1 = [116] ∨ l.1 = [108]
theorem SmD.new : SmD 0 (Ds.new 1048576) := ⟨rfl, Int.le_refl _, fun i => by simp [Ds.new, Ds.body], fun y i e => by (rw [show (Ds.new 1048576).st = .map [] from rfl, lk_none] at e; cases e), fun y i e => by (rw [show (Ds.new 1048576).sf = .map [] from rfl, lk_none] at e; cases e), fun c hc => by simp [Ds.new] at hc⟩
theorem SmD.mono {u v : Nat} {σ : Ds} (h : SmD u σ) (hv : u ≤ v) : SmD v σ := ⟨h.rm, by have := h.ub; omega, h.bl, h.ns, h.nf, h.np⟩
theorem SmD.w1 {u : Nat} {σ0 δ : Ds} {b : Bd} (h : SmD u σ0) (hw : Wfd σ0) (k : W1 σ0 b δ) (hb : b.data.length ≤ 31) : SmD (u + 31) δ := by
  refine ⟨k.rm.trans h.rm, ?_, fun i => ?_, fun y i e => ?_, fun y i e => ?_, fun c hc l hl i e => ?_⟩
  · have := k.us
    have := h.ub
    omega
  · rcases Nat.lt_trichotomy i σ0.bs.length with hi | hi | hi
    · rw [k.je.ob i hi]; exact h.bl i
    · rw [hi, k.je.j.bd]; exact hb
    · have e : δ.body i = ⟨[], 0⟩ := by
        unfold Ds.body
        rw [List.getD, List.getElem?_eq_none (by rw [k.je.j.bl]; omega)]; rfl
      rw [e]; exact Nat.zero_le _
  · rw [k.je.j.st] at e
    have e' : lk (fol1 σ0.st ([116], some σ0.bs.length)) y = some i := e
    rw [lk_fol1 hw.ms] at e'
    split at e'
    · rename_i e2; exact .inl e2
    · exact h.ns y i e'
  · rw [k.je.j.sf] at e; exact h.nf y i e
  · rw [k.je.j.pn] at hc
    rcases List.mem_append.1 hc with hc | hc
    · exact h.np c hc l hl i e
    · rw [List.mem_singleton] at hc
      subst hc
      rw [List.mem_singleton] at hl
      subst hl
      exact .inl rfl
theorem Iv.je {x : Tx} {σ0 δ : Ds} {b : Bd} (h : Iv σ0) (hj : Je x σ0 b δ) (hn : isN x = true) : Iv δ := by
  refine ⟨?_, fun y i e => ?_, fun c hc l hl i e => ?_, ?_⟩
  · rw [hj.j.st, hj.j.sf, hj.j.pn, List.foldl_append, h.eq]; rfl
  · rw [hj.j.sf] at e; exact h.ns y i e
  · rw [hj.j.pn] at hc
    rcases List.mem_append.1 hc with hc | hc
    · exact h.np c hc l hl i e
    · rw [List.mem_singleton] at hc
      subst hc
      rw [List.mem_singleton] at hl
      subst hl
      exact hn
  · rw [hj.j.sf]; exact h.td
theorem Iv.nm {σ0 σ : Ds} (h : Iv σ) : Iv (σ.change (nmC [116] [108] σ0)) := h.change _ (fun l hl i e => by
  have hl' : l = ([116], none) ∨ l = ([108], some σ0.bs.length) := by simpa using hl
  rcases hl' with rfl | rfl
  · cases e
  · rfl)
theorem SmD.nm {u : Nat} {σ0 σ : Ds} (h : SmD u σ) (hm : IsMap σ.st) : SmD (u + 31) (σ.change (nmC [116] [108] σ0)) := by
  refine ⟨h.rm, ?_, h.bl, fun y i e => ?_, h.nf, fun c hc l hl i e => ?_⟩
  · have e1 : (σ.change (nmC [116] [108] σ0)).used = σ.used + ((sz σ.bs none : Int) - (sz σ.bs (lk σ.st [116]) : Int)) + ((sz σ.bs (some σ0.bs.length) : Int) - (sz σ.bs (lk σ.st [108]) : Int)) := rfl
    have e2 : sz σ.bs (some σ0.bs.length) ≤ 31 := h.bl σ0.bs.length
    have e3 : sz σ.bs none = 0 := rfl
    have := h.ub
    rw [e1, e3]
    omega
  · have e' : lk (fol1 (fol1 σ.st ([116], none)) ([108], some σ0.bs.length)) y = some i := e
    rw [lk_fol1 (fol1_isMap hm _)] at e'
    split at e'
    · rename_i e2; exact .inr e2
    · rw [lk_fol1 hm] at e'
      split at e'
      · cases e'
      · exact h.ns y i e'
  · have hc' : c ∈ σ.pend ++ [nmC [116] [108] σ0] := hc
    rcases List.mem_append.1 hc' with hc | hc
    · exact h.np c hc l hl i e
    · rw [List.mem_singleton] at hc
      subst hc
      have hl' : l = ([116], none) ∨ l = ([108], some σ0.bs.length) := by simpa using hl
      rcases hl' with rfl | rfl
      · cases e
      · exact .inr rfl
theorem SmD.sync {u : Nat} {σ : Ds} (h : SmD u σ) (hi : Iv σ) : SmD u σ.syncDir :=
  ⟨h.rm, h.ub, h.bl, h.ns, fun y i e => h.ns y i (by rw [hi.eq]; exact e), fun c hc => by cases hc⟩
theorem two_names {l : List Tx} (h : l.Nodup) (hm : ∀ x ∈ l, x = [116] ∨ x = [108]) : l.length ≤ 2 := by
  match l, h, hm with
  | [], _, _ => exact Nat.zero_le _
  | [_], _, _ => exact Nat.le_succ 1
  | [_, _], _, _ => exact Nat.le_refl _
  | a :: b :: c :: t, h, hm =>
    exfalso
    have ha := hm a (by simp)
    have hb := hm b (by simp)
    have hc := hm c (by simp)
    simp only [List.nodup_cons, List.mem_cons, not_or] at h
    obtain ⟨⟨h1, h2, _⟩, ⟨h3, _⟩, _⟩ := h
    rcases ha with rfl | rfl <;> rcases hb with rfl | rfl <;> rcases hc with rfl | rfl <;> simp_all
theorem td_two {D : Dir} (ht : Td D) (h : ∀ y i, lk D y = some i → y = [116] ∨ y = [108]) : (nms D).length ≤ 2 :=
  two_names (nms_nodup ht) (fun x hx => by obtain ⟨i, e⟩ := ht.mem.1 hx; exact h x i e)
theorem SmD.size {u : Nat} {σ : Ds} (h : SmD u σ) (ht : Td σ.st) : Maps.size σ.st ≤ 2 := by
  rw [size_nms' ht.t]; exact td_two ht h.ns
theorem SmD.crf {u : Nat} {σ : Ds} (h : SmD u σ) (hi : Iv σ) (dirs : List Bool) : ∀ k, k ≤ σ.pend.length → ∀ y i, lk (crf σ dirs k) y = some i → y = [116] ∨ y = [108]
  | 0, _ => h.nf
  | k + 1, hk => by
    have ih := SmD.crf h hi dirs k (by omega)
    rw [crf_succ]
    split
    · have hm : σ.pend.getD k [] ∈ σ.pend := by
        have hl : k < σ.pend.length := by omega
        rw [List.getD, List.getElem?_eq_getElem hl]
        exact List.getElem_mem _
      exact lk_fol_p (P := fun y => y = [116] ∨ y = [108]) (hi.crf dirs k (by omega)).1.t.isMap ih _ (fun l hl j e => h.np _ hm l hl j e)
    · exact ih
theorem SmD.crash {u : Nat} {σ : Ds} (h : SmD u σ) (hw : Wfd σ) (hi : Iv σ) (hs : ∀ i, (σ.body i).safe ≤ (σ.body i).data.length) (dirs : List Bool) (cuts : List Int) : SmD 62 (σ.crash dirs cuts) := by
  have ht : Td (cr1 σ dirs).sf := (hi.crf dirs _ (Nat.le_refl _)).1
  have hl : ∀ z j, lk (cr1 σ dirs).sf z = some j → j < (cr1 σ dirs).bs.length := crf_lt hw hi dirs _ (Nat.le_refl _)
  have hn := h.crf hi dirs _ (Nat.le_refl _)
  have h2 : (nms (cr1 σ dirs).sf).length ≤ 2 := td_two ht hn
  have hc0 : CI 31 0 (Maps.size (cr1 σ dirs).sf) (cr1 σ dirs) := ⟨ht.n, ht.t, fun i => ⟨hs i, h.bl i⟩, Int.le_refl _, by show (0 : Int) ≤ _; omega, Nat.le_refl _⟩
  obtain ⟨hc, _⟩ := crn_ci cuts hc0 (fun x hx => (SK.has ht.s) x hx) _ (Nat.le_refl _)
  have hd := cd_run cuts ht hl _ (Nat.le_refl _)
  have hcw := hd.whole ht
  have key : ∀ y i, lk (crn (cr1 σ dirs) cuts (nms (cr1 σ dirs).sf).length).sf y = some i → y = [116] ∨ y = [108] := fun y i e => by
    have hm : y ∈ nms (crn (cr1 σ dirs) cuts (nms (cr1 σ dirs).sf).length).sf := hcw.td.mem.2 ⟨i, e⟩
    rw [hcw.nm] at hm
    obtain ⟨j, e2⟩ := ht.mem.1 hm
    exact hn y j e2
  have hroom : ∀ k, (crn (cr1 σ dirs) cuts k).room = σ.room := fun k => by
    induction k with
    | zero => rfl
    | succ k ih => rw [crn_succ]; exact ih
  refine ⟨(hroom _).trans h.rm, ?_, fun i => (hc.bo i).2, key, key, fun c hc' => by rw [crash_pend] at hc'; cases hc'⟩
  have := hc.u1
  have e : (((nms (cr1 σ dirs).sf).length * 31 : Nat) : Int) ≤ 62 := by omega
  show (crn (cr1 σ dirs) cuts (nms (cr1 σ dirs).sf).length).used ≤ _
  exact Int.le_trans this e
/-- All that is kept of the drive from turn to turn. -/
structure KpD (n : Prop) (L : List Lbl) (u : Nat) (σ : Ds) : Prop where
  la : La [108] n (Qm L) σ
  sm : SmD u σ
  iv : Iv σ
theorem KpD.new : KpD True [] 0 (Ds.new 1048576) := ⟨La.new _ _ _, SmD.new, Iv.new _⟩
theorem KpD.mono {n : Prop} {L : List Lbl} {u v : Nat} {σ : Ds} (h : KpD n L u σ) (hv : u ≤ v) : KpD n L v σ := ⟨h.la, h.sm.mono hv, h.iv⟩
theorem KpD.crash {n : Prop} {L : List Lbl} {u : Nat} {σ : Ds} (h : KpD n L u σ) (hw : Wfd σ) (hs : ∀ i, (σ.body i).safe ≤ (σ.body i).data.length) (dirs : List Bool) (cuts : List Int) : KpD n L 62 (σ.crash dirs cuts) :=
  ⟨h.la.crash hw h.iv dirs cuts, h.sm.crash hw h.iv hs dirs cuts, h.iv.crash dirs cuts⟩
theorem nl : ([108] : Tx) ≠ [116] := by decide
theorem KpD.bad {n : Prop} {L : List Lbl} {u : Nat} {σ δ : Ds} (h : KpD n L u σ) (hw : Wfd σ) (l : Lbl) (ok : l.Ok) (hb : Bad [108] σ (us l.fm) δ) : KpD n (L ++ [l]) (u + 62) δ := by
  have h31 : (us l.fm).length = 31 := by rw [us_len, l.fm_len]
  have hq : ∀ d, Qm L d → Qm (L ++ [l]) d := fun d ⟨m, h1, h2⟩ => ⟨m, List.mem_append.2 (.inl h1), h2⟩
  have hq2 : ∀ d, (Qm L d ∨ d = us l.fm) → Qm (L ++ [l]) d := fun d h9 => by
    rcases h9 with h9 | h9
    · exact hq d h9
    · exact ⟨l, List.mem_append.2 (.inr (List.mem_singleton.2 rfl)), ok, h9⟩
  rcases hb with rfl | ⟨b, k, hk⟩ | ⟨σ', k, rfl⟩
  · exact ⟨h.la.mono id hq, h.sm.mono (by omega), h.iv⟩
  · exact ⟨(h.la.je nl hw k.je).mono id hq, (h.sm.w1 hw k (by omega)).mono (by omega), h.iv.je k.je rfl⟩
  · have hm : IsMap σ'.st := by rw [k.je.j.st]; exact fol_isMap hw.ms _
    exact ⟨(h.la.named nl hw k.je).mono id hq2, ((h.sm.w1 hw k (Nat.le_of_eq h31)).nm hm).mono (by omega), (h.iv.je k.je rfl).nm⟩
theorem KpD.good {n : Prop} {L : List Lbl} {u : Nat} {σ δ : Ds} (h : KpD n L u σ) (hw : Wfd σ) (l : Lbl) (ok : l.Ok) (hb : Good [108] σ (us l.fm) δ) : KpD False [l] (u + 62) δ := by
  have h31 : (us l.fm).length = 31 := by rw [us_len, l.fm_len]
  obtain ⟨σ', k, rfl⟩ := hb
  have hm : IsMap σ'.st := by rw [k.je.j.st]; exact fol_isMap hw.ms _
  have hi : Iv (σ'.change (nmC [116] [108] σ)) := (h.iv.je k.je rfl).nm
  exact ⟨(La.whole hw k.je hi).mono id (fun d h9 => ⟨l, List.mem_singleton.2 rfl, ok, h9⟩), (((h.sm.w1 hw k (Nat.le_of_eq h31)).nm hm).sync hi).mono (by omega), hi.syncDir⟩
theorem k1_ok {k : Nat} {g : Gt} {P : DataW Unit} {σ : Ds} {rm : Bool} {r : Nat × Ds} (h : Okk k σ) (h1 : Okk (k + 1) r.2) : Okk (k + 1) (K1 g P σ rm r).2.2 := by
  unfold K1
  dsimp only
  split
  · exact h1
  · exact h.mono (Nat.le_succ _)
theorem kap_ok {k : Nat} {g : Gt} {P : DataW Unit} {σ : Ds} {x d : Tx} (h : Okk k σ) : Okk (k + 1 + d.length) (Kap g P σ x d).2.2 := by
  unfold Kap kans
  dsimp only
  split
  · exact h.append x d
  · split
    · exact (h.append x _).mono (by rw [List.length_take]; omega)
    · exact h.mono (by omega)
theorem kfill_ok {k : Nat} {g : Gt} {P : DataW Unit} {σ : Ds} {d : Tx} (h : Okk k σ) (hk : k ≤ 134217000) : Okk (k + 3 + d.length) (kfill g P σ d).2.2 := by
  unfold kfill kf2
  have h1 := k1_ok (g := g) (P := P) (rm := true) h (h.create (by omega) [116])
  split
  · have h2 := kap_ok (g := (K1 g P σ true (σ.create [116])).2.1) (P := P) (x := [116]) (d := d) h1
    unfold kf3
    split
    · exact (k1_ok h2 (h2.sync [116])).mono (by omega)
    · exact h2.mono (by omega)
  · exact h1.mono (by omega)
theorem kwrite_ok {k : Nat} {g : Gt} {P : DataW Unit} {σ : Ds} {x d : Tx} (h : Okk k σ) (hk : k + d.length ≤ 134217000) : Okk (k + 5 + d.length) (kwrite g P σ x d).2.2 := by
  unfold kwrite
  split
  · have h1 := kfill_ok (g := g) (P := P) (d := d) h (by omega)
    unfold kw4
    split
    · have h2 := k1_ok (g := (kfill g P σ d).2.1) (P := P) (rm := false) h1 (h1.rename (by omega) [116] x)
      unfold kw5
      split
      · exact (k1_ok h2 h2.syncDir).mono (by omega)
      · exact h2.mono (by omega)
    · exact h1.mono (by omega)
  · exact h.mono (by omega)
end Go.Proofs.YtjobaeopokfekaaGreat
