/-
  The mathematics of DriveNothing: a trace beside a drive.
-/
import Derived.Test.YtaddgmbglhdfdaaKw11
import Derived.Test.YtaddgmbglhdfdaaKt11
namespace Go.Proofs.Ytaddgmbglhdfdaa
open Go.RowKit Go.Maps Go.Sort
/-- A trace: names, to what each leads, to what each has led; bodies: their bytes, how many are safe. -/
structure Tr where
  nm : List Tx
  ld : List (Option Nat)
  lds : List (List Nat)
  da : List Tx
  sa : List Nat
structure Tr.Wf (t : Tr) : Prop where
  l1 : t.ld.length = t.nm.length
  l2 : t.lds.length = t.nm.length
  l3 : t.sa.length = t.da.length
  nd : t.nm.Nodup
  b1 : ∀ (i b : Nat), t.ld[i]? = some (some b) → b < t.da.length
  b2 : ∀ (i : Nat) l, t.lds[i]? = some l → ∀ b ∈ l, b < t.da.length
/-- With a name more. -/
def Tr.add (t : Tr) (x : Tx) : Tr := { t with nm := t.nm ++ [x], ld := t.ld ++ [none], lds := t.lds ++ [[]] }
def Tr.at' (t : Tr) (x : Tx) : Tr := if x ∈ t.nm then t else t.add x
def Tr.leadAt (t : Tr) (i : Nat) (o : Option Nat) : Tr := { t with ld := t.ld.set i o, lds := match o with
  | none => t.lds
  | some b => t.lds.set i (t.lds.getD i [] ++ [b]) }
def Tr.fresh (t : Tr) : Tr := { t with lds := t.ld.map fun o => o.toList }
def Tr.bod (t : Tr) (d : Tx) (s : Nat) : Tr := { t with da := t.da ++ [d], sa := t.sa ++ [s] }
def Tr.setS (t : Tr) (b s : Nat) : Tr := { t with sa := t.sa.set b s }
def Tr.new (L : List (Tx × Tx)) : Tr := ⟨L.map (·.1), (List.range L.length).map some, (List.range L.length).map fun i => [i], L.map (·.2), L.map (·.2.length)⟩
/-- What 'follow' makes of a trace. -/
def Fol (t : Tr) (k : Int) (x y : Tx) (n : Int) (t' : Tr) : Prop := ∃ i : Nat, (t.at' x).nm[i]? = some x ∧
  (if k = 0 then t' = ((t.at' x).bod [] 0).leadAt i (some (t.at' x).da.length)
   else if k = 2 then t' = (match (t.at' x).ld.getD i none with | none => t.at' x | some b => (t.at' x).setS b ((t.at' x).da.getD b []).length)
   else if k = 3 then (if x = y then t' = t.at' x else ∃ j : Nat, ((t.at' x).at' y).nm[j]? = some y ∧ t' = (((t.at' x).at' y).leadAt j ((t.at' x).ld.getD i none)).leadAt i none)
   else if k = 4 then t' = (t.at' x).leadAt i none
   else if k = 5 then t' = (t.at' x).fresh
   else if k = 15 then t' = (match (t.at' x).ld.getD i none with | none => t.at' x | some b => if n < (((t.at' x).sa.getD b 0 : Nat) : Int) then (t.at' x).setS b n.toNat else t.at' x)
   else t' = t.at' x)
/-- A trace goes with a drive: its bodies are the drive's by φ. -/
structure Lk (t : Tr) (σ : Ds) (φ : Nat → Nat) : Prop where
  wf : t.Wf
  inj : ∀ a b, a < t.da.length → b < t.da.length → φ a = φ b → a = b
  lt : ∀ a, a < t.da.length → φ a < σ.bs.length
  st : ∀ x j, lk σ.st x = some j ↔ ∃ (i b : Nat), t.nm[i]? = some x ∧ t.ld[i]? = some (some b) ∧ φ b = j
  ev : ∀ x j, (lk σ.sf x = some j ∨ ∃ c ∈ σ.pend, (x, some j) ∈ c) → ∃ (i : Nat) (l : List Nat) (b : Nat), t.nm[i]? = some x ∧ t.lds[i]? = some l ∧ b ∈ l ∧ φ b = j
  sa : ∀ b, b < t.da.length → t.sa.getD b 0 = (σ.body (φ b)).safe
/-- Its bytes are the drive's. -/
def Da (t : Tr) (σ : Ds) (φ : Nat → Nat) : Prop := ∀ b, b < t.da.length → t.da.getD b [] = (σ.body (φ b)).data
/-- Its bytes are the drive's, where nothing stands. -/
def Dp (t : Tr) (σ : Ds) (φ : Nat → Nat) : Prop := ∀ b, b < t.da.length → (∃ i : Nat, t.ld[i]? = some (some b)) ∨ t.da.getD b [] = (σ.body (φ b)).data
theorem Da.dp {t : Tr} {σ : Ds} {φ : Nat → Nat} (h : Da t σ φ) : Dp t σ φ := fun b hb => .inr (h b hb)
theorem Tr.Wf.uniq {t : Tr} (h : t.Wf) {i j : Nat} {x : Tx} (hi : t.nm[i]? = some x) (hj : t.nm[j]? = some x) : i = j := by
  obtain ⟨a, ha⟩ := List.getElem?_eq_some_iff.1 hi
  obtain ⟨b, hb⟩ := List.getElem?_eq_some_iff.1 hj
  exact (List.getElem_inj h.nd).1 (ha.trans hb.symm)
theorem Tr.at_in {t : Tr} {x : Tx} (h : x ∈ t.nm) : t.at' x = t := if_pos h
theorem Tr.at_new {t : Tr} {x : Tx} (h : x ∉ t.nm) : t.at' x = t.add x := if_neg h
theorem get_app {α : Type} (l : List α) (x : α) (i : Nat) : (l ++ [x])[i]? = if i < l.length then l[i]? else if i = l.length then some x else none := by
  by_cases h : i < l.length
  · rw [if_pos h, List.getElem?_append_left h]
  · rw [if_neg h, List.getElem?_append_right (by omega)]
    by_cases e : i = l.length
    · subst e; simp
    · rw [if_neg e]
      have : 0 < i - l.length := by omega
      simp; omega
theorem Tr.Wf.add {t : Tr} (h : t.Wf) {x : Tx} (hx : x ∉ t.nm) : (t.add x).Wf := by
  refine ⟨by simp [Tr.add, h.l1], by simp [Tr.add, h.l2], h.l3, ?_, fun i b e => ?_, fun i l e b hb => ?_⟩
  · show (t.nm ++ [x]).Nodup
    rw [List.nodup_append]
    exact ⟨h.nd, by simp, fun a ha b hb e => by simp at hb; subst hb; exact hx (e ▸ ha)⟩
  · have e' : (t.ld ++ [none])[i]? = some (some b) := e
    rw [get_app] at e'
    split at e'
    · exact h.b1 i b e'
    · split at e'
      · simp at e'
      · cases e'
  · have e' : (t.lds ++ [[]])[i]? = some l := e
    rw [get_app] at e'
    split at e'
    · exact h.b2 i l e' b hb
    · split at e'
      · injection e' with e'; subst e'; cases hb
      · cases e'
theorem Lk.add {t : Tr} {σ : Ds} {φ : Nat → Nat} (h : Lk t σ φ) {x : Tx} (hx : x ∉ t.nm) : Lk (t.add x) σ φ := by
  refine ⟨h.wf.add hx, h.inj, h.lt, fun y j => ?_, fun y j hy => ?_, h.sa⟩
  · rw [h.st y j]
    constructor
    · rintro ⟨i, b, h1, h2, h3⟩
      have hi := (List.getElem?_eq_some_iff.1 h1).1
      refine ⟨i, b, ?_, ?_, h3⟩
      · show (t.nm ++ [x])[i]? = _
        rw [get_app, if_pos hi, h1]
      · show (t.ld ++ [none])[i]? = _
        rw [get_app, if_pos (by rw [h.wf.l1]; exact hi), h2]
    · rintro ⟨i, b, h1, h2, h3⟩
      have h1' : (t.nm ++ [x])[i]? = some y := h1
      have h2' : (t.ld ++ [none])[i]? = some (some b) := h2
      rw [get_app] at h1' h2'
      rw [h.wf.l1] at h2'
      split at h2'
      · rename_i hi
        rw [if_pos hi] at h1'
        exact ⟨i, b, h1', h2', h3⟩
      · split at h2'
        · simp at h2'
        · cases h2'
  · obtain ⟨i, l, b, h1, h2, h3⟩ := h.ev y j hy
    have hi := (List.getElem?_eq_some_iff.1 h1).1
    refine ⟨i, l, b, ?_, ?_, h3⟩
    · show (t.nm ++ [x])[i]? = _
      rw [get_app, if_pos hi, h1]
    · show (t.lds ++ [[]])[i]? = _
      rw [get_app, if_pos (by rw [h.wf.l2]; exact hi), h2]
theorem Lk.at' {t : Tr} {σ : Ds} {φ : Nat → Nat} (h : Lk t σ φ) (x : Tx) : Lk (t.at' x) σ φ := by
  by_cases hx : x ∈ t.nm
  · rw [Tr.at_in hx]; exact h
  · rw [Tr.at_new hx]; exact h.add hx
theorem at_da (t : Tr) (x : Tx) : (t.at' x).da = t.da ∧ (t.at' x).sa = t.sa := by
  unfold Tr.at'
  split <;> exact ⟨rfl, rfl⟩
theorem Da.at' {t : Tr} {σ : Ds} {φ : Nat → Nat} (h : Da t σ φ) (x : Tx) : Da (t.at' x) σ φ := by
  unfold Da
  rw [(at_da t x).1]
  exact h
theorem set_get {α : Type} (l : List α) (i j : Nat) (v : α) : (l.set i v)[j]? = if i = j then (if j < l.length then some v else none) else l[j]? := by
  rw [List.getElem?_set]
  by_cases e : i = j
  · subst e; simp
  · simp [e]
theorem Tr.Wf.leadAt {t : Tr} (h : t.Wf) (i : Nat) (o : Option Nat) (ho : ∀ b, o = some b → b < t.da.length) : (t.leadAt i o).Wf := by
  refine ⟨by simp [Tr.leadAt, h.l1], ?_, h.l3, h.nd, fun j b e => ?_, fun j l e b hb => ?_⟩
  · cases o <;> simp [Tr.leadAt, h.l2]
  · have e' : (t.ld.set i o)[j]? = some (some b) := e
    rw [set_get] at e'
    split at e'
    · split at e'
      · injection e' with e'; exact ho b e'
      · cases e'
    · exact h.b1 j b e'
  · cases o with
    | none => exact h.b2 j l e b hb
    | some b0 =>
      have e' : (t.lds.set i (t.lds.getD i [] ++ [b0]))[j]? = some l := e
      rw [set_get] at e'
      split at e'
      · split at e'
        · rename_i e1 e2
          subst e1
          injection e' with e'
          subst e'
          rcases List.mem_append.1 hb with hb | hb
          · refine h.b2 i (t.lds.getD i []) ?_ b hb
            rw [List.getD, List.getElem?_eq_getElem e2]; rfl
          · simp at hb; subst hb; exact ho b rfl
        · cases e'
      · exact h.b2 j l e' b hb
/-- What has led stays among what has led. -/
theorem led_keep {t : Tr} (i : Nat) (o : Option Nat) {x : Tx} {j : Nat} {φ : Nat → Nat} (h : ∃ (i : Nat) (l : List Nat) (b : Nat), t.nm[i]? = some x ∧ t.lds[i]? = some l ∧ b ∈ l ∧ φ b = j) : ∃ (i' : Nat) (l : List Nat) (b : Nat), (t.leadAt i o).nm[i']? = some x ∧ (t.leadAt i o).lds[i']? = some l ∧ b ∈ l ∧ φ b = j := by
  obtain ⟨i', l, b, h1, h2, h3, h4⟩ := h
  cases o with
  | none => exact ⟨i', l, b, h1, h2, h3, h4⟩
  | some b0 =>
    by_cases e : i = i'
    · subst e
      have hl := (List.getElem?_eq_some_iff.1 h2).1
      refine ⟨i, l ++ [b0], b, h1, ?_, by simp [h3], h4⟩
      show (t.lds.set i (t.lds.getD i [] ++ [b0]))[i]? = _
      rw [set_get, if_pos rfl, if_pos hl, List.getD, h2]
      rfl
    · refine ⟨i', l, b, h1, ?_, h3, h4⟩
      show (t.lds.set i (t.lds.getD i [] ++ [b0]))[i']? = _
      rw [set_get, if_neg e, h2]
/-- What is led to has led. -/
theorem led_new {t : Tr} {i : Nat} {b : Nat} {x : Tx} (h : t.Wf) (hi : t.nm[i]? = some x) : ∃ l : List Nat, (t.leadAt i (some b)).lds[i]? = some l ∧ b ∈ l := by
  have hl : i < t.lds.length := by rw [h.l2]; exact (List.getElem?_eq_some_iff.1 hi).1
  refine ⟨t.lds.getD i [] ++ [b], ?_, by simp⟩
  show (t.lds.set i (t.lds.getD i [] ++ [b]))[i]? = _
  rw [set_get, if_pos rfl, if_pos hl]
/-- What stands behind one name led elsewhere. -/
theorem st_lead {t : Tr} {φ : Nat → Nat} (h : t.Wf) {i : Nat} {x : Tx} (hi : t.nm[i]? = some x) (o : Option Nat) (y : Tx) (j : Nat) : (∃ (i' b : Nat), (t.leadAt i o).nm[i']? = some y ∧ (t.leadAt i o).ld[i']? = some (some b) ∧ φ b = j) ↔ if y = x then (∃ b, o = some b ∧ φ b = j) else ∃ (i' b : Nat), t.nm[i']? = some y ∧ t.ld[i']? = some (some b) ∧ φ b = j := by
  have hl : i < t.ld.length := by rw [h.l1]; exact (List.getElem?_eq_some_iff.1 hi).1
  have hs : ∀ i' : Nat, (t.leadAt i o).ld[i']? = if i = i' then some o else t.ld[i']? := fun i' => by
    show (t.ld.set i o)[i']? = _
    rw [set_get]
    split
    · rename_i e; subst e; rw [if_pos hl]
    · rfl
  constructor
  · rintro ⟨i', b, h1, h2, h3⟩
    rw [hs] at h2
    have h1' : t.nm[i']? = some y := h1
    by_cases e : i = i'
    · subst e
      rw [if_pos rfl] at h2
      have : y = x := by rw [hi] at h1'; injection h1' with e; exact e.symm
      rw [if_pos this]
      injection h2 with h2
      exact ⟨b, h2, h3⟩
    · rw [if_neg e] at h2
      have : ¬ y = x := fun e9 => e (h.uniq hi (e9 ▸ h1'))
      rw [if_neg this]
      exact ⟨i', b, h1', h2, h3⟩
  · intro h9
    by_cases e : y = x
    · rw [if_pos e] at h9
      obtain ⟨b, h1, h2⟩ := h9
      refine ⟨i, b, by rw [e]; exact hi, ?_, h2⟩
      rw [hs, if_pos rfl, h1]
    · rw [if_neg e] at h9
      obtain ⟨i', b, h1, h2, h3⟩ := h9
      refine ⟨i', b, h1, ?_, h3⟩
      rw [hs, if_neg (fun e9 => e (by subst e9; rw [hi] at h1; injection h1 with h1; exact h1.symm)), h2]
end Go.Proofs.Ytaddgmbglhdfdaa
/-
  The mathematics of DriveNothing: each act followed.
-/
namespace Go.Proofs.Ytaddgmbglhdfdaa
open Go.RowKit Go.Maps Go.Sort
/-- One name is led elsewhere. -/
theorem Lk.lead {t : Tr} {σ σ' : Ds} {φ : Nat → Nat} (h : Lk t σ φ) {i : Nat} {x : Tx} (hi : t.nm[i]? = some x) (o : Option Nat) (ho : ∀ b, o = some b → b < t.da.length) (hst : ∀ y, lk σ'.st y = if y = x then o.map φ else lk σ.st y)
    (hev : ∀ y j, (lk σ'.sf y = some j ∨ ∃ c ∈ σ'.pend, (y, some j) ∈ c) → (lk σ.sf y = some j ∨ ∃ c ∈ σ.pend, (y, some j) ∈ c) ∨ (y = x ∧ o.map φ = some j)) (hbs : σ'.bs = σ.bs) : Lk (t.leadAt i o) σ' φ := by
  have hb : ∀ k, σ'.body k = σ.body k := fun k => by unfold Ds.body; rw [hbs]
  refine ⟨h.wf.leadAt i o ho, h.inj, fun a ha => by rw [hbs]; exact h.lt a ha, fun y j => ?_, fun y j hy => ?_, fun b hb' => by rw [hb]; exact h.sa b hb'⟩
  · rw [st_lead h.wf hi, hst]
    by_cases e : y = x
    · rw [if_pos e, if_pos e]
      cases o with
      | none => simp
      | some b => simp
    · rw [if_neg e, if_neg e]
      exact h.st y j
  · rcases hev y j hy with h1 | ⟨e, h1⟩
    · exact led_keep i o (h.ev y j h1)
    · cases o with
      | none => cases h1
      | some b =>
        obtain ⟨l, h2, h3⟩ := led_new (b := b) h.wf hi
        injection h1 with h1
        exact ⟨i, l, b, by rw [e]; exact hi, h2, h3, h1⟩
/-- A new body. -/
theorem Lk.bod {t : Tr} {σ : Ds} {φ : Nat → Nat} (h : Lk t σ φ) : Lk (t.bod [] 0) { σ with bs := σ.bs ++ [⟨[], 0⟩] } (fun a => if a = t.da.length then σ.bs.length else φ a) := by
  have hl : (t.bod [] 0).da.length = t.da.length + 1 := by simp [Tr.bod]
  have hn : ∀ a, a < t.da.length → (if a = t.da.length then σ.bs.length else φ a) = φ a := fun a ha => if_neg (by omega)
  refine ⟨⟨h.wf.l1, h.wf.l2, by simp [Tr.bod, h.wf.l3], h.wf.nd, fun i b e => by have := h.wf.b1 i b e; omega, fun i l e b hb => by have := h.wf.b2 i l e b hb; omega⟩, fun a b ha hb e => ?_, fun a ha => ?_, fun y j => ?_, fun y j hy => ?_, fun b hb => ?_⟩
  · by_cases h1 : a = t.da.length
    · by_cases h2 : b = t.da.length
      · omega
      · rw [if_pos h1, if_neg h2] at e
        have := h.lt b (by omega)
        omega
    · by_cases h2 : b = t.da.length
      · rw [if_neg h1, if_pos h2] at e
        have := h.lt a (by omega)
        omega
      · rw [if_neg h1, if_neg h2] at e
        exact h.inj a b (by omega) (by omega) e
  · simp only [List.length_append, List.length_singleton]
    by_cases h1 : a = t.da.length
    · rw [if_pos h1]; omega
    · rw [if_neg h1]
      have := h.lt a (by omega)
      omega
  · show lk σ.st y = some j ↔ _
    rw [h.st y j]
    constructor
    · rintro ⟨i, b, h1, h2, h3⟩
      exact ⟨i, b, h1, h2, by rw [hn b (h.wf.b1 i b h2)]; exact h3⟩
    · rintro ⟨i, b, h1, h2, h3⟩
      rw [hn b (h.wf.b1 i b h2)] at h3
      exact ⟨i, b, h1, h2, h3⟩
  · obtain ⟨i, l, b, h1, h2, h3, h4⟩ := h.ev y j hy
    exact ⟨i, l, b, h1, h2, h3, by rw [hn b (h.wf.b2 i l h2 b h3)]; exact h4⟩
  · rw [body_app]
    by_cases h1 : b = t.da.length
    · rw [if_pos h1, if_pos rfl]
      simp [Tr.bod, List.getD, h1, ← h.wf.l3]
    · have hb' : b < t.da.length := by omega
      rw [if_neg h1, if_neg (by have := h.lt b hb'; omega), ← h.sa b hb']
      show (t.sa ++ [0]).getD b 0 = _
      simp only [List.getD]
      rw [List.getElem?_append_left (by rw [h.wf.l3]; exact hb')]
/-- A body's bytes or how many are safe. -/
theorem Lk.bs {t : Tr} {σ σ' : Ds} {φ : Nat → Nat} (h : Lk t σ φ) (sa' : List Nat) (e1 : σ'.st = σ.st) (e2 : σ'.sf = σ.sf) (e3 : σ'.pend = σ.pend) (e4 : σ'.bs.length = σ.bs.length) (hl : sa'.length = t.sa.length) (hs : ∀ b, b < t.da.length → sa'.getD b 0 = (σ'.body (φ b)).safe) : Lk { t with sa := sa' } σ' φ := by
  refine ⟨⟨h.wf.l1, h.wf.l2, hl.trans h.wf.l3, h.wf.nd, h.wf.b1, h.wf.b2⟩, h.inj, fun a ha => by rw [e4]; exact h.lt a ha, fun y j => by rw [e1]; exact h.st y j, fun y j hy => ?_, hs⟩
  rw [e2, e3] at hy
  exact h.ev y j hy
theorem act_ne {σ : Ds} {k : Int} {x y : Tx} {n : Int} {l : Al} (h : (σ.act k x y n l).1 ≠ 0) : (σ.act k x y n l).2 = σ := by
  by_cases e0 : k = 0
  · subst e0
    rw [act_0] at h ⊢
    simp only [Ds.create] at h ⊢
    split <;> rename_i h1
    · split <;> rename_i h2
      · rfl
      · rw [if_pos h1, if_neg h2] at h; exact absurd rfl h
    · rfl
  by_cases e1 : k = 1
  · subst e1
    rw [act_1] at h ⊢
    simp only [Ds.append] at h ⊢
    cases hf : σ.find x with
    | inl e => rfl
    | inr i =>
      rw [hf] at h
      simp only at h ⊢
      split <;> rename_i h1
      · rfl
      · split <;> rename_i h2
        · rfl
        · rw [if_neg h1, if_neg h2] at h; exact absurd rfl h
  by_cases e2 : k = 2
  · subst e2
    rw [act_2] at h ⊢
    simp only [Ds.sync] at h ⊢
    cases hf : σ.find x with
    | inl e => rfl
    | inr i => rw [hf] at h; exact absurd rfl h
  by_cases e3 : k = 3
  · subst e3
    rw [act_3] at h ⊢
    simp only [Ds.rename] at h ⊢
    split <;> rename_i h1
    · rw [if_pos h1] at h
      cases hf : σ.find x with
      | inl e => rfl
      | inr i =>
        rw [hf] at h
        simp only at h ⊢
        split <;> rename_i h2
        · rfl
        · rw [if_neg h2] at h; exact absurd rfl h
    · rfl
  by_cases e4 : k = 4
  · subst e4
    rw [act_4] at h ⊢
    simp only [Ds.remove] at h ⊢
    cases hf : σ.find x with
    | inl e => rfl
    | inr i => rw [hf] at h; exact absurd rfl h
  by_cases e5 : k = 5
  · subst e5; exact absurd rfl h
  by_cases e6 : k = 6
  · subst e6; rfl
  by_cases e10 : k = 10
  · subst e10; rfl
  by_cases e13 : k = 13
  · subst e13; exact absurd rfl h
  by_cases e14 : k = 14
  · subst e14
    rw [act_14] at h ⊢
    simp only [Ds.flip] at h ⊢
    cases hf : σ.harm x n with
    | inl e => rfl
    | inr i => rw [hf] at h; exact absurd rfl h
  by_cases e15 : k = 15
  · subst e15
    rw [act_15] at h ⊢
    simp only [Ds.cut] at h ⊢
    cases hf : σ.harm x n with
    | inl e => rfl
    | inr i => rw [hf] at h; exact absurd rfl h
  by_cases e16 : k = 16
  · subst e16; exact absurd rfl h
  rw [act_no σ x y n l e0 e1 e2 e3 e4 e5 e6 e10 e13 e14 e15 e16]
/-- What a name that stands leads to in the trace. -/
theorem Lk.get {t : Tr} {σ : Ds} {φ : Nat → Nat} (h : Lk t σ φ) {x : Tx} {j : Nat} (hj : lk σ.st x = some j) : t.at' x = t ∧ ∀ i : Nat, t.nm[i]? = some x → ∃ b, t.ld.getD i none = some b ∧ t.ld[i]? = some (some b) ∧ φ b = j ∧ b < t.da.length := by
  obtain ⟨i, b, h1, h2, h3⟩ := (h.st x j).1 hj
  refine ⟨Tr.at_in (List.mem_of_getElem? h1), fun i' h4 => ?_⟩
  have e := h.wf.uniq h1 h4
  subst e
  exact ⟨b, by rw [List.getD, h2]; rfl, h2, h3, h.wf.b1 i b h2⟩
theorem harm_inr2 {σ : Ds} {x : Tx} {n : Int} {i : Nat} (h : σ.harm x n = .inr i) : 0 ≤ n ∧ σ.find x = .inr i := by
  unfold Ds.harm at h
  split at h
  · split at h
    · cases h
    · exact ⟨by omega, h⟩
  · cases h
/-- A body that stands has other bytes. -/
theorem Lk.setD {t : Tr} {σ : Ds} {φ : Nat → Nat} (h : Lk t σ φ) (hd : Da t σ φ) {i b : Nat} (hi : t.ld[i]? = some (some b)) (B : Bd) (u : Int) (s : Nat) (hs : B.safe = s) : Lk (t.setS b s) { (σ.setBody (φ b) B) with used := u } φ ∧ Dp (t.setS b s) { (σ.setBody (φ b) B) with used := u } φ := by
  have hb := h.wf.b1 i b hi
  have hbd : ∀ k, Ds.body { (σ.setBody (φ b) B) with used := u } k = if k = φ b ∧ φ b < σ.bs.length then B else σ.body k := fun k => body_set σ (φ b) k B
  constructor
  · refine h.bs (t.sa.set b s) rfl rfl rfl (by simp [Ds.setBody]) (by simp) (fun a ha => ?_)
    rw [hbd]
    simp only [List.getD]
    rw [set_get]
    by_cases e : b = a
    · subst e
      rw [if_pos rfl, if_pos (by rw [h.wf.l3]; exact hb), if_pos ⟨rfl, h.lt b hb⟩, hs]
      rfl
    · rw [if_neg e, if_neg (fun h9 => e (h.inj b a hb ha h9.1.symm))]
      exact h.sa a ha
  · intro a ha
    have ha' : a < t.da.length := ha
    rw [hbd]
    by_cases e : b = a
    · subst e
      exact .inl ⟨i, hi⟩
    · rw [if_neg (fun h9 => e (h.inj b a hb ha' h9.1.symm))]
      exact .inr (hd a ha')
theorem setS_same {t : Tr} {b : Nat} (hb : b < t.sa.length) : t.setS b (t.sa.getD b 0) = t := by
  unfold Tr.setS
  have : t.sa.set b (t.sa.getD b 0) = t.sa := by
    apply List.ext_getElem?
    intro i
    rw [set_get]
    split
    · rename_i e; subst e; rw [if_pos hb, List.getD, List.getElem?_eq_getElem hb]; rfl
    · rfl
  rw [this]
theorem Lk.used {t : Tr} {σ : Ds} {φ : Nat → Nat} (h : Lk t σ φ) (hd : Da t σ φ) {i b : Nat} (hi : t.ld[i]? = some (some b)) (B : Bd) (u : Int) (hs : B.safe = (σ.body (φ b)).safe) : Lk t { (σ.setBody (φ b) B) with used := u } φ ∧ Dp t { (σ.setBody (φ b) B) with used := u } φ := by
  have hb := h.wf.b1 i b hi
  have h9 := h.setD hd hi B u (t.sa.getD b 0) (by rw [h.sa b hb]; exact hs)
  rw [setS_same (by rw [h.wf.l3]; exact hb)] at h9
  exact h9
theorem find_ne {σ : Ds} {x : Tx} {e : Nat} (h : σ.find x = .inl e) : e ≠ 0 := by
  unfold Ds.find at h
  split at h
  · split at h
    · injection h with h; omega
    · cases h
  · injection h with h; omega
theorem harm_ne {σ : Ds} {x : Tx} {n : Int} {e : Nat} (h : σ.harm x n = .inl e) : e ≠ 0 := by
  unfold Ds.harm at h
  split at h
  · split at h
    · injection h with h; omega
    · exact find_ne h
  · injection h with h; omega
theorem fol_one {D : Dir} (hm : IsMap D) (l : Ld) (y : Tx) : lk (fol D [l]) y = if y = l.1 then l.2 else lk D y := lk_fol1 hm l y
theorem fol_two {D : Dir} (hm : IsMap D) (l m : Ld) (y : Tx) : lk (fol D [l, m]) y = if y = m.1 then m.2 else if y = l.1 then l.2 else lk D y := by
  show lk (fol1 (fol1 D l) m) y = _
  rw [lk_fol1 (fol1_isMap hm l), lk_fol1 hm]
theorem fol_lk {t t' : Tr} {σ : Ds} {φ : Nat → Nat} (h : Lk t σ φ) (hd : Da t σ φ) (hi : Iv σ) (hw : Wfd σ) (hs : ∀ i, (σ.body i).safe ≤ (σ.body i).data.length) {k : Int} {x y : Tx} {n : Int} {l : Al} (h13 : k ≠ 13) (h16 : k ≠ 16) (hc : (σ.act k x y n l).1 = 0) (hF : Fol t k x y n t') : ∃ φ', Lk t' (σ.act k x y n l).2 φ' ∧ Dp t' (σ.act k x y n l).2 φ' := by
  obtain ⟨i, hix, hF⟩ := hF
  have hu := h.at' x
  have hdu := hd.at' x
  by_cases e0 : k = 0
  · subst e0
    rw [if_pos rfl] at hF
    rw [act_0] at hc ⊢
    simp only [Ds.create] at hc ⊢
    split at hc
    · rename_i hn
      split at hc
      · cases hc
      · rename_i hn2
        rw [if_pos hn, if_neg hn2, hF]
        have h1 := hu.bod
        generalize t.at' x = u at *
        refine ⟨_, Lk.lead (i := i) (x := x) h1 hix (some u.da.length) (fun b e => by injection e with e; simp [Tr.bod]; omega) (fun z => ?_) (fun z j hz => ?_) rfl, fun b hb => ?_⟩
        · show lk (fol σ.st [(x, some σ.bs.length)]) z = _
          rw [fol_one hw.ms]
          simp
        · rcases hz with hz | ⟨c, hz, hm⟩
          · exact .inl (.inl hz)
          · have h9 : c ∈ σ.pend ∨ c = [(x, some σ.bs.length)] := by simpa [Ds.change] using hz
            rcases h9 with h9 | rfl
            · exact .inl (.inr ⟨c, h9, hm⟩)
            · simp at hm
              refine .inr ⟨hm.1, ?_⟩
              simp [hm.2]
        · right
          show (u.da ++ [[]]).getD b [] = (Ds.body { σ with bs := σ.bs ++ [⟨[], 0⟩] } (if b = u.da.length then σ.bs.length else φ b)).data
          have hb' : b < u.da.length + 1 := by simpa [Tr.bod, Tr.leadAt] using hb
          rw [body_app]
          by_cases e : b = u.da.length
          · rw [if_pos e, if_pos rfl]
            simp [List.getD, e]
          · have hlt : b < u.da.length := by omega
            rw [if_neg e, if_neg (by have := hu.lt b hlt; omega), ← hdu b hlt]
            simp only [List.getD]
            rw [List.getElem?_append_left hlt]
    · cases hc
  rw [if_neg e0] at hF
  by_cases e1 : k = 1
  · subst e1
    have hF' : t' = t.at' x := hF
    rw [hF', act_1] at *
    simp only [Ds.append] at hc ⊢
    cases hf : σ.find x with
    | inl e => rw [hf] at hc; simp only at hc ⊢; exact ⟨φ, hu, hdu.dp⟩
    | inr j =>
      obtain ⟨e9, hg⟩ := h.get (find_lk hf)
      rw [e9] at hix hu hdu ⊢
      obtain ⟨b, g1, g2, g3, g4⟩ := hg i hix
      subst g3
      simp only
      split
      · exact ⟨φ, hu, hdu.dp⟩
      · split
        · exact ⟨φ, hu, hdu.dp⟩
        · exact ⟨φ, h.used hd g2 _ _ rfl⟩
  by_cases e2 : k = 2
  · subst e2
    rw [if_pos rfl] at hF
    rw [act_2] at hc ⊢
    simp only [Ds.sync] at hc ⊢
    cases hf : σ.find x with
    | inl e =>
      rw [hf] at hc
      simp only at hc
      have := find_ne hf
      omega
    | inr j =>
      obtain ⟨e9, hg⟩ := h.get (find_lk hf)
      rw [e9] at hix hF
      obtain ⟨b, g1, g2, g3, g4⟩ := hg i hix
      subst g3
      rw [g1] at hF
      simp only at hF ⊢
      rw [hF]
      refine ⟨φ, h.setD hd g2 ⟨(σ.body (φ b)).data, (σ.body (φ b)).data.length⟩ σ.used _ ?_⟩
      rw [hd b g4]
  rw [if_neg e2] at hF
  by_cases e3 : k = 3
  · subst e3
    rw [if_pos rfl] at hF
    rw [act_3] at hc ⊢
    simp only [Ds.rename] at hc ⊢
    split at hc
    · rename_i hn
      rw [if_pos hn]
      cases hf : σ.find x with
      | inl e =>
        rw [hf] at hc
        simp only at hc
        have := find_ne hf
        omega
      | inr j =>
        have hj := find_lk hf
        obtain ⟨e9, hg⟩ := h.get hj
        rw [e9] at hix hF
        obtain ⟨b, g1, g2, g3, g4⟩ := hg i hix
        simp only
        by_cases exy : x = y
        · rw [if_pos exy] at hF ⊢
          rw [hF]
          exact ⟨φ, h, hd.dp⟩
        · rw [if_neg exy] at hF ⊢
          obtain ⟨j', hj', hF⟩ := hF
          rw [g1] at hF
          rw [hF]
          have hy := h.at' y
          have hdy := hd.at' y
          have hiy : (t.at' y).nm[i]? = some x := by
            unfold Tr.at'
            split
            · exact hix
            · show (t.nm ++ [y])[i]? = _
              rw [get_app, if_pos (List.getElem?_eq_some_iff.1 hix).1]
              exact hix
          have g4' : b < (t.at' y).da.length := by rw [(at_da t y).1]; exact g4
          have s1 : Lk ((t.at' y).leadAt j' (some b)) { σ with st := fol σ.st [(y, some j)], pend := σ.pend ++ [[(y, some j)]] } φ := by
            refine Lk.lead (x := y) hy hj' (some b) (fun b' e => by injection e with e; omega) (fun z => ?_) (fun z k hz => ?_) rfl
            · show lk (fol σ.st [(y, some j)]) z = _
              rw [fol_one hw.ms]
              simp [g3]
            · rcases hz with hz | ⟨c, hz, hm⟩
              · exact .inl (.inl hz)
              · have h9 : c ∈ σ.pend ∨ c = [(y, some j)] := by simpa using hz
                rcases h9 with h9 | rfl
                · exact .inl (.inr ⟨c, h9, hm⟩)
                · simp at hm
                  refine .inr ⟨hm.1, ?_⟩
                  simp [g3, hm.2]
          refine ⟨φ, Lk.lead (σ' := σ.change [(x, none), (y, some j)]) (x := x) s1 hiy none (fun b' e => by cases e) (fun z => ?_) (fun z k hz => ?_) rfl, ?_⟩
          · show lk (fol σ.st [(x, none), (y, some j)]) z = if z = x then _ else lk (fol σ.st [(y, some j)]) z
            rw [fol_two hw.ms, fol_one hw.ms]
            by_cases e1 : z = y
            · have : ¬ z = x := fun e => exy (e.symm.trans e1)
              simp [e1, Ne.symm exy]
            · simp [e1]
          · left
            rcases hz with hz | ⟨c, hz, hm⟩
            · exact .inl hz
            · have h9 : c ∈ σ.pend ∨ c = [(x, none), (y, some j)] := by simpa [Ds.change] using hz
              rcases h9 with h9 | rfl
              · exact .inr ⟨c, by simp [h9], hm⟩
              · simp at hm
                exact .inr ⟨[(y, some j)], by simp, by simp [hm]⟩
          · intro a ha
            exact .inr (hdy a ha)
    · cases hc
  rw [if_neg e3] at hF
  by_cases e4 : k = 4
  · subst e4
    rw [if_pos rfl] at hF
    rw [act_4] at hc ⊢
    simp only [Ds.remove] at hc ⊢
    cases hf : σ.find x with
    | inl e =>
      rw [hf] at hc
      simp only at hc
      have := find_ne hf
      omega
    | inr j =>
      simp only
      rw [hF]
      refine ⟨φ, Lk.lead (σ' := σ.change [(x, none)]) (x := x) hu hix none (fun b' e => by cases e) (fun z => ?_) (fun z k hz => ?_) rfl, fun a ha => .inr (hdu a ha)⟩
      · show lk (fol σ.st [(x, none)]) z = _
        rw [fol_one hw.ms]
        simp
      · left
        rcases hz with hz | ⟨c, hz, hm⟩
        · exact .inl hz
        · have h9 : c ∈ σ.pend ∨ c = [(x, none)] := by simpa [Ds.change] using hz
          rcases h9 with h9 | rfl
          · exact .inr ⟨c, h9, hm⟩
          · simp at hm
  rw [if_neg e4] at hF
  by_cases e5 : k = 5
  · subst e5
    rw [if_pos rfl] at hF
    rw [act_5, hF]
    generalize t.at' x = u at *
    refine ⟨φ, ⟨⟨hu.wf.l1, by simp [Tr.fresh, hu.wf.l1], hu.wf.l3, hu.wf.nd, hu.wf.b1, fun a m e b hb => ?_⟩, hu.inj, hu.lt, hu.st, fun z j hz => ?_, hu.sa⟩, fun a ha => .inr (hdu a ha)⟩
    · have e' : (u.ld.map fun o => o.toList)[a]? = some m := e
      rw [List.getElem?_map] at e'
      cases ho : u.ld[a]? with
      | none => rw [ho] at e'; cases e'
      | some o =>
        rw [ho] at e'
        simp at e'
        subst e'
        cases o with
        | none => simp at hb
        | some b' => simp at hb; subst hb; exact hu.wf.b1 a b ho
    · have hz' : lk σ.st z = some j := by
        rcases hz with hz | ⟨c, hz, _⟩
        · have h9 : lk (σ.pend.foldl fol σ.sf) z = some j := hz
          rw [← hi.eq] at h9
          exact h9
        · cases hz
      obtain ⟨a, b, h1, h2, h3⟩ := (hu.st z j).1 hz'
      refine ⟨a, [b], b, h1, ?_, by simp, h3⟩
      show (u.ld.map fun o => o.toList)[a]? = _
      rw [List.getElem?_map, h2]
      rfl
  rw [if_neg e5] at hF
  by_cases e6 : k = 6
  · subst e6
    have hF' : t' = t.at' x := hF
    rw [act_6, hF']
    exact ⟨φ, hu, hdu.dp⟩
  by_cases e10 : k = 10
  · subst e10
    have hF' : t' = t.at' x := hF
    rw [act_10, hF']
    exact ⟨φ, hu, hdu.dp⟩
  by_cases e14 : k = 14
  · subst e14
    have hF' : t' = t.at' x := hF
    rw [act_14, hF'] at *
    simp only [Ds.flip] at hc ⊢
    cases hf : σ.harm x n with
    | inl e => simp only; exact ⟨φ, hu, hdu.dp⟩
    | inr j =>
      obtain ⟨e9, hg⟩ := h.get (find_lk (harm_inr2 hf).2)
      rw [e9] at hix hu hdu ⊢
      obtain ⟨b, g1, g2, g3, g4⟩ := hg i hix
      subst g3
      exact ⟨φ, h.used hd g2 _ σ.used rfl⟩
  by_cases e15 : k = 15
  · subst e15
    rw [if_pos rfl] at hF
    rw [act_15] at hc ⊢
    simp only [Ds.cut] at hc ⊢
    cases hf : σ.harm x n with
    | inl e =>
      rw [hf] at hc
      simp only at hc
      have := harm_ne hf
      omega
    | inr j =>
      have hn := (harm_inr2 hf).1
      obtain ⟨e9, hg⟩ := h.get (find_lk (harm_inr2 hf).2)
      rw [e9] at hix hF
      obtain ⟨b, g1, g2, g3, g4⟩ := hg i hix
      subst g3
      rw [g1] at hF
      simp only at hF ⊢
      have hsb := h.sa b g4
      have hle := hs (φ b)
      by_cases hlt : n < ((t.sa.getD b 0 : Nat) : Int)
      · rw [if_pos hlt] at hF
        rw [hF]
        exact ⟨φ, h.setD hd g2 _ _ _ (by simp only; omega)⟩
      · rw [if_neg hlt] at hF
        rw [hF]
        exact ⟨φ, h.used hd g2 _ _ (by simp only; omega)⟩
  rw [if_neg e15] at hF
  rw [act_no σ x y n l e0 e1 e2 e3 e4 e5 e6 e10 h13 e14 e15 h16, hF]
  exact ⟨φ, hu, hdu.dp⟩
end Go.Proofs.Ytaddgmbglhdfdaa
/-
  The mathematics of DriveNothing: what is seen, what a loss of power leaves, a trace at first.
-/
namespace Go.Proofs.Ytaddgmbglhdfdaa
open Go.RowKit Go.Maps Go.Sort
/-- Behind the first k names' reading. -/
def Tr.sees (t : Tr) (f : Tx → Tx) : Nat → Tr
  | 0 => t
  | k + 1 => { t.sees f k with da := match t.ld.getD k none with
    | none => (t.sees f k).da
    | some b => (t.sees f k).da.set b (f (t.nm.getD k [])) }
theorem sees_eq (t : Tr) (f : Tx → Tx) : ∀ k, (t.sees f k).nm = t.nm ∧ (t.sees f k).ld = t.ld ∧ (t.sees f k).lds = t.lds ∧ (t.sees f k).sa = t.sa ∧ (t.sees f k).da.length = t.da.length
  | 0 => ⟨rfl, rfl, rfl, rfl, rfl⟩
  | k + 1 => by
    obtain ⟨h1, h2, h3, h4, h5⟩ := sees_eq t f k
    refine ⟨h1, h2, h3, h4, ?_⟩
    show (match t.ld.getD k none with
    | none => (t.sees f k).da
    | some b => (t.sees f k).da.set b (f (t.nm.getD k []))).length = _
    split
    · exact h5
    · rw [List.length_set]; exact h5
theorem sees_get (t : Tr) (f : Tx → Tx) (g : Nat → Tx) (hw : t.Wf) (hf : ∀ (i b : Nat), t.ld[i]? = some (some b) → f (t.nm.getD i []) = g b) : ∀ k b, b < t.da.length → ((∃ i : Nat, i < k ∧ t.ld[i]? = some (some b)) → (t.sees f k).da.getD b [] = g b) ∧ ((∃ i : Nat, i < k ∧ t.ld[i]? = some (some b)) ∨ (t.sees f k).da.getD b [] = t.da.getD b [])
  | 0, b, hb => ⟨fun ⟨i, h, _⟩ => absurd h (Nat.not_lt_zero _), .inr rfl⟩
  | k + 1, b, hb => by
    obtain ⟨h1, h2⟩ := sees_get t f g hw hf k b hb
    have hl := (sees_eq t f k).2.2.2.2
    have he : (t.sees f (k + 1)).da = (match t.ld.getD k none with
      | none => (t.sees f k).da
      | some b => (t.sees f k).da.set b (f (t.nm.getD k []))) := rfl
    cases ho : t.ld.getD k none with
    | none =>
      rw [ho] at he
      simp only at he
      rw [he]
      refine ⟨fun ⟨i, hi, hb'⟩ => ?_, ?_⟩
      · by_cases e : i = k
        · subst e; rw [List.getD, hb'] at ho; cases ho
        · exact h1 ⟨i, by omega, hb'⟩
      · rcases h2 with ⟨i, hi, hb'⟩ | h2
        · exact .inl ⟨i, by omega, hb'⟩
        · exact .inr h2
    | some b0 =>
      rw [ho] at he
      simp only at he
      have hk : t.ld[k]? = some (some b0) := by
        rw [List.getD] at ho
        cases e : t.ld[k]? with
        | none => rw [e] at ho; cases ho
        | some o => rw [e] at ho; simp at ho; rw [ho]
      have hg : ((t.sees f k).da.set b0 (f (t.nm.getD k []))).getD b [] = if b0 = b then g b0 else (t.sees f k).da.getD b [] := by
        simp only [List.getD]
        rw [set_get]
        by_cases e : b0 = b
        · subst e
          rw [if_pos rfl, if_pos rfl, if_pos (by omega)]
          have := hf k b0 hk
          simp only [List.getD] at this
          simp [this]
        · rw [if_neg e, if_neg e]
      rw [he, hg]
      refine ⟨fun ⟨i, hi, hb'⟩ => ?_, ?_⟩
      · by_cases e : b0 = b
        · rw [if_pos e, e]
        · rw [if_neg e]
          refine h1 ⟨i, ?_, hb'⟩
          have : i ≠ k := fun e9 => by subst e9; rw [hk] at hb'; injection hb' with h9; injection h9 with h9; exact e h9
          omega
      · by_cases e : b0 = b
        · exact .inl ⟨k, by omega, by rw [← e]; exact hk⟩
        · rw [if_neg e]
          rcases h2 with ⟨i, hi, hb'⟩ | h2
          · exact .inl ⟨i, by omega, hb'⟩
          · exact .inr h2
/-- What is read of a name that stands, and of one that doesn't. -/
theorem Lk.read {t : Tr} {σ : Ds} {φ : Nat → Nat} (h : Lk t σ φ) (hi : Iv σ) {i : Nat} (hl : i < t.nm.length) : (t.ld.getD i none = none → (σ.read (t.nm.getD i [])).1 ≠ 0) ∧ ∀ b, t.ld.getD i none = some b → σ.read (t.nm.getD i []) = (0, (σ.body (φ b)).data) := by
  have hx : t.nm[i]? = some (t.nm.getD i []) := by rw [List.getD, List.getElem?_eq_getElem hl]; rfl
  have hl' : i < t.ld.length := by rw [h.wf.l1]; exact hl
  have ho : t.ld[i]? = some (t.ld.getD i none) := by rw [List.getD, List.getElem?_eq_getElem hl']; rfl
  generalize t.nm.getD i [] = x at *
  constructor
  · intro e
    rw [e] at ho
    unfold Ds.read
    cases hf : σ.find x with
    | inl e9 => exact find_ne hf
    | inr j =>
      obtain ⟨b, _, h2, _⟩ := (h.get (find_lk hf)).2 i hx
      rw [ho] at h2
      injection h2 with h2
      cases h2
  · intro b e
    rw [e] at ho
    have hj := (h.st x (φ b)).2 ⟨i, b, hx, ho, rfl⟩
    have hn := hi.std.2 x _ hj
    unfold Ds.read Ds.find
    rw [if_pos hn, hj]
theorem Lk.seen {t : Tr} {σ : Ds} {φ : Nat → Nat} (h : Lk t σ φ) (hd : Dp t σ φ) (hi : Iv σ) : Lk (t.sees (fun x => (σ.read x).2) t.nm.length) σ φ ∧ Da (t.sees (fun x => (σ.read x).2) t.nm.length) σ φ := by
  obtain ⟨e1, e2, e3, e4, e5⟩ := sees_eq t (fun x => (σ.read x).2) t.nm.length
  have hf : ∀ (i b : Nat), t.ld[i]? = some (some b) → (fun x => (σ.read x).2) (t.nm.getD i []) = (σ.body (φ b)).data := fun i b e => by
    have hl : i < t.nm.length := by rw [← h.wf.l1]; exact (List.getElem?_eq_some_iff.1 e).1
    have := (h.read hi hl).2 b (by rw [List.getD, e]; rfl)
    simp only
    rw [this]
  have hg := sees_get t (fun x => (σ.read x).2) (fun b => (σ.body (φ b)).data) h.wf hf t.nm.length
  generalize t.sees (fun x => (σ.read x).2) t.nm.length = u at *
  refine ⟨⟨⟨by rw [e1, e2]; exact h.wf.l1, by rw [e1, e3]; exact h.wf.l2, by rw [e4, e5]; exact h.wf.l3, by rw [e1]; exact h.wf.nd, by rw [e2, e5]; exact h.wf.b1, by rw [e3, e5]; exact h.wf.b2⟩, by rw [e5]; exact h.inj, by rw [e5]; exact h.lt, by rw [e1, e2]; exact h.st, by rw [e1, e3]; exact h.ev, by rw [e4, e5]; exact h.sa⟩, fun b hb => ?_⟩
  rw [e5] at hb
  obtain ⟨g1, g2⟩ := hg b hb
  rcases hd b hb with ⟨i, hi'⟩ | h9
  · exact g1 ⟨i, by rw [← h.wf.l1]; exact (List.getElem?_eq_some_iff.1 hi').1, hi'⟩
  · rcases g2 with h8 | h8
    · exact g1 h8
    · rw [h8]; exact h9
/-- What a name leads to behind a loss of power, it has led to. -/
theorem lk_fol_q {P : Tx → Nat → Prop} {D : Dir} (hm : IsMap D) (h : ∀ y j, lk D y = some j → P y j) (c : List Ld) (hc : ∀ l ∈ c, ∀ j, l.2 = some j → P l.1 j) : ∀ y j, lk (fol D c) y = some j → P y j := by
  unfold Go.Proofs.Ytaddgmbglhdfdaa.fol
  induction c generalizing D with
  | nil => exact h
  | cons l c ih =>
    refine ih (fol1_isMap hm l) (fun y j e => ?_) (fun l' hl' => hc l' (by simp [hl']))
    rw [lk_fol1 hm] at e
    split at e
    · rename_i e9; subst e9; exact hc l (by simp) j e
    · exact h y j e
theorem crf_q {P : Tx → Nat → Prop} {σ : Ds} (hw : Wfd σ) (h : ∀ y j, lk σ.sf y = some j → P y j) (hp : ∀ c ∈ σ.pend, ∀ l ∈ c, ∀ j, l.2 = some j → P l.1 j) (dirs : List Bool) : ∀ k, k ≤ σ.pend.length → IsMap (crf σ dirs k) ∧ ∀ y j, lk (crf σ dirs k) y = some j → P y j
  | 0, _ => ⟨hw.mf, h⟩
  | k + 1, hk => by
    obtain ⟨h1, h2⟩ := crf_q hw h hp dirs k (by omega)
    have hm : σ.pend.getD k [] ∈ σ.pend := by
      have hl : k < σ.pend.length := by omega
      rw [List.getD, List.getElem?_eq_getElem hl]
      exact List.getElem_mem _
    rw [crf_succ]
    split
    · exact ⟨fol_isMap h1 _, lk_fol_q h1 h2 _ (hp _ hm)⟩
    · exact ⟨h1, h2⟩
/-- May the name have these bytes behind a loss of power? -/
def Tr.Hs (t : Tr) (x d : Tx) : Prop := ∃ (i : Nat) (l : List Nat) (m b : Nat), t.nm[i]? = some x ∧ t.lds[i]? = some l ∧ l[m]? = some b ∧ t.sa.getD b 0 ≤ d.length ∧ d.length ≤ (t.da.getD b []).length ∧ (t.da.getD b []).take d.length = d
theorem Lk.crash {t : Tr} {σ : Ds} {φ : Nat → Nat} (h : Lk t σ φ) (hd : Da t σ φ) (hi : Iv σ) (hw : Wfd σ) (hs : ∀ i, (σ.body i).safe ≤ (σ.body i).data.length) (dirs : List Bool) (cuts : List Int) (f : Tx × Tx) (hf : f ∈ crl (cr1 σ dirs) cuts) : t.Hs f.1 f.2 := by
  unfold crl at hf
  obtain ⟨j, hj, rfl⟩ := List.mem_map.1 hf
  have hj' : j < (nms (cr1 σ dirs).sf).length := by simpa using hj
  have ht := (hi.crf dirs _ (Nat.le_refl _)).1
  have hx : (nms (cr1 σ dirs).sf).getD j [] ∈ nms (cr1 σ dirs).sf := by simp [hj']
  obtain ⟨i0, hi0⟩ := (show Td (cr1 σ dirs).sf from ht).mem.1 hx
  have hq := (crf_q (P := fun y j => ∃ (i : Nat) (l : List Nat) (b : Nat), t.nm[i]? = some y ∧ t.lds[i]? = some l ∧ b ∈ l ∧ φ b = j) hw (fun y j e => h.ev y j (.inl e)) (fun c hc l hl j e => h.ev l.1 j (.inr ⟨c, hc, by rw [← e]; exact hl⟩)) dirs _ (Nat.le_refl _)).2 _ i0 hi0
  obtain ⟨i, l, b, h1, h2, h3, h4⟩ := hq
  obtain ⟨m, hm, hm'⟩ := List.getElem_of_mem h3
  have hb := h.wf.b2 i l h2 b h3
  refine ⟨i, l, m, b, h1, h2, by rw [List.getElem?_eq_getElem hm, hm'], ?_⟩
  simp only
  rw [hi0]
  simp only [Option.getD_some]
  rw [cr1_body, ← h4, h.sa b hb, hd b hb]
  have h9 := hs (φ b)
  unfold lft
  refine ⟨?_, ?_, ?_⟩
  · rw [List.length_take]; omega
  · rw [List.length_take]; omega
  · rw [List.length_take, List.take_eq_take_iff]; omega
theorem tol_get (σ : Ds) (T : Bd → Tx) (D : Dir) (i : Nat) (hi : i < (nms D).length) : (tol σ T D)[i]? = some ((nms D).getD i [], T (σ.body ((lk D ((nms D).getD i [])).getD 0))) := by
  unfold tol
  rw [List.getElem?_map, List.getElem?_eq_getElem hi]
  simp [List.getD, hi]
/-- A trace at first: nothing pending, all safe. -/
theorem new_lk {σ : Ds} (hi : Iv σ) (hw : Wfd σ) (hp : σ.pend = []) (hs : Sf σ) (hj : ∀ x y j, lk σ.st x = some j → lk σ.st y = some j → x = y) : ∃ φ, Lk (Tr.new (tol σ (·.data) σ.st)) σ φ ∧ Da (Tr.new (tol σ (·.data) σ.st)) σ φ := by
  have hst : σ.sf = σ.st := by have := hi.eq; rw [hp] at this; exact this.symm
  have ht := hi.std.1
  obtain ⟨N, hN⟩ : ∃ N, N = nms σ.st := ⟨_, rfl⟩
  have hnd := nms_nodup ht
  rw [← hN] at hnd
  have hlen : (tol σ (·.data) σ.st).length = N.length := by rw [tol_len, hN]
  have hmem : ∀ i, i < N.length → ∃ j, lk σ.st (N.getD i []) = some j := fun i hl => ht.mem.1 (by rw [← hN]; simp [hl])
  have hnm : (Tr.new (tol σ (·.data) σ.st)).nm = N := by rw [hN]; simp [Tr.new, tol, Function.comp_def]
  have hdl : (Tr.new (tol σ (·.data) σ.st)).da.length = N.length := by simp [Tr.new, hlen]
  have hld : ∀ i : Nat, (Tr.new (tol σ (·.data) σ.st)).ld[i]? = if i < N.length then some (some i) else none := fun i => by
    show ((List.range (tol σ (·.data) σ.st).length).map some)[i]? = _
    rw [hlen, List.getElem?_map]
    by_cases h : i < N.length
    · rw [if_pos h, List.getElem?_range h]; rfl
    · rw [if_neg h, List.getElem?_eq_none (by simp; omega)]; rfl
  have hlds : ∀ i : Nat, (Tr.new (tol σ (·.data) σ.st)).lds[i]? = if i < N.length then some [i] else none := fun i => by
    show ((List.range (tol σ (·.data) σ.st).length).map fun i => [i])[i]? = _
    rw [hlen, List.getElem?_map]
    by_cases h : i < N.length
    · rw [if_pos h, List.getElem?_range h]; rfl
    · rw [if_neg h, List.getElem?_eq_none (by simp; omega)]; rfl
  have hda : ∀ b, b < N.length → (Tr.new (tol σ (·.data) σ.st)).da.getD b [] = (σ.body ((lk σ.st (N.getD b [])).getD 0)).data := fun b hb => by
    show ((tol σ (·.data) σ.st).map (·.2)).getD b [] = _
    rw [List.getD, List.getElem?_map, tol_get σ _ _ b (by rw [← hN]; exact hb), ← hN]
    rfl
  have hsa : ∀ b, b < N.length → (Tr.new (tol σ (·.data) σ.st)).sa.getD b 0 = (σ.body ((lk σ.st (N.getD b [])).getD 0)).data.length := fun b hb => by
    show ((tol σ (·.data) σ.st).map (·.2.length)).getD b 0 = _
    rw [List.getD, List.getElem?_map, tol_get σ _ _ b (by rw [← hN]; exact hb), ← hN]
    rfl
  have hl3 : (Tr.new (tol σ (·.data) σ.st)).sa.length = (Tr.new (tol σ (·.data) σ.st)).da.length := by simp [Tr.new]
  have hl1 : (Tr.new (tol σ (·.data) σ.st)).ld.length = N.length := by simp [Tr.new, hlen]
  have hl2 : (Tr.new (tol σ (·.data) σ.st)).lds.length = N.length := by simp [Tr.new, hlen]
  generalize Tr.new (tol σ (·.data) σ.st) = t at *
  have hget : ∀ (i : Nat) x, N[i]? = some x → i < N.length ∧ N.getD i [] = x := fun i x e => ⟨(List.getElem?_eq_some_iff.1 e).1, by rw [List.getD, e]; rfl⟩
  have hst' : ∀ x j, lk σ.st x = some j ↔ ∃ (i b : Nat), t.nm[i]? = some x ∧ t.ld[i]? = some (some b) ∧ (lk σ.st (N.getD b [])).getD 0 = j := fun x j => by
    constructor
    · intro e
      have hx : x ∈ N := by rw [hN]; exact ht.mem.2 ⟨j, e⟩
      obtain ⟨i, hl, e9⟩ := List.getElem_of_mem hx
      refine ⟨i, i, by rw [hnm, List.getElem?_eq_getElem hl, e9], by rw [hld, if_pos hl], ?_⟩
      have : N.getD i [] = x := by simp [List.getD, hl, e9]
      rw [this, e]
      rfl
    · rintro ⟨i, b, h1, h2, h3⟩
      rw [hnm] at h1
      obtain ⟨hl, e9⟩ := hget i x h1
      rw [hld, if_pos hl] at h2
      injection h2 with h2
      injection h2 with h2
      subst h2
      obtain ⟨j', hj'⟩ := hmem i hl
      rw [e9] at hj' h3
      rw [hj'] at h3
      rw [hj', ← h3]
      rfl
  refine ⟨fun b => (lk σ.st (N.getD b [])).getD 0, ⟨⟨hl1.trans (by rw [hnm]), hl2.trans (by rw [hnm]), hl3, by rw [hnm]; exact hnd, fun i b e => ?_, fun i l e b hb => ?_⟩, fun a b ha hb e => ?_, fun a ha => ?_, hst', fun x j hx => ?_, fun b hb => ?_⟩, fun b hb => ?_⟩
  · rw [hld] at e
    split at e
    · injection e with e; injection e with e; omega
    · cases e
  · rw [hlds] at e
    split at e
    · injection e with e; subst e; simp at hb; omega
    · cases e
  · rw [hdl] at ha hb
    obtain ⟨j, h1⟩ := hmem a ha
    obtain ⟨j', h2⟩ := hmem b hb
    rw [h1, h2] at e
    simp only [Option.getD_some] at e
    subst e
    have h9 := hj _ _ _ h1 h2
    by_cases e9 : a = b
    · exact e9
    · exact absurd h9 (nod_ne hnd ha hb e9)
  · rw [hdl] at ha
    obtain ⟨j, h1⟩ := hmem a ha
    rw [h1]
    exact hw.st _ j h1
  · have hx' : lk σ.st x = some j := by
      rcases hx with hx | ⟨c, hc, _⟩
      · rw [hst] at hx; exact hx
      · rw [hp] at hc; cases hc
    obtain ⟨i, b, h1, h2, h3⟩ := (hst' x j).1 hx'
    refine ⟨i, [b], b, h1, ?_, by simp, h3⟩
    rw [hld] at h2
    rw [hlds]
    split at h2
    · rename_i hl; rw [if_pos hl]; injection h2 with h2; injection h2 with h2; rw [h2]
    · cases h2
  · rw [hdl] at hb
    obtain ⟨j, h1⟩ := hmem b hb
    rw [hsa b hb]
    rw [h1]
    simp only [Option.getD_some]
    rw [← hst] at h1
    exact (hs _ _ h1).symm
  · rw [hdl] at hb
    exact hda b hb
/-- Behind a loss of power no two names lead to one body. -/
theorem crn_inj {τ : Ds} (cuts : List Int) (ht : Td τ.sf) (hw : ∀ y j, lk τ.sf y = some j → j < τ.bs.length) : ∀ k, k ≤ (nms τ.sf).length → ∀ a b i, a < k → b < k → lk (crn τ cuts k).sf ((nms τ.sf).getD a []) = some i → lk (crn τ cuts k).sf ((nms τ.sf).getD b []) = some i → a = b
  | 0, _, a, _, _, ha, _, _, _ => absurd ha (Nat.not_lt_zero _)
  | k + 1, hk, a, b, i, ha, hb, h1, h2 => by
    have ih := crn_inj cuts ht hw k (by omega)
    have hc := cd_run cuts ht hw k (by omega)
    have hnd := nms_nodup ht
    rw [crn_succ] at h1 h2
    have hs : ∀ y, lk (crs1 (crn τ cuts k) ((nms τ.sf).getD k []) (cuts.getD k 0)).sf y = if y = (nms τ.sf).getD k [] then some (crn τ cuts k).bs.length else lk (crn τ cuts k).sf y := fun y => by
      show lk ((crn τ cuts k).sf.put (.string ((nms τ.sf).getD k [])) (ip (crn τ cuts k).bs.length)) y = _
      rw [lk_put hc.td.t.isMap]
    rw [hs] at h1 h2
    have hlt : ∀ c, c < k → ∀ i, lk (crn τ cuts k).sf ((nms τ.sf).getD c []) = some i → i < (crn τ cuts k).bs.length := fun c hc' i e => by
      obtain ⟨i', e1, _, e3⟩ := hc.dn c hc'
      rw [e] at e1
      injection e1 with e1
      omega
    have hne : ∀ c, c < k → ¬ (nms τ.sf).getD c [] = (nms τ.sf).getD k [] := fun c hc' => nod_ne hnd (by omega) (by omega) (by omega)
    by_cases ea : a = k
    · by_cases eb : b = k
      · omega
      · rw [ea, if_pos rfl] at h1
        rw [if_neg (hne b (by omega))] at h2
        injection h1 with h1
        have := hlt b (by omega) i h2
        omega
    · rw [if_neg (hne a (by omega))] at h1
      by_cases eb : b = k
      · rw [eb, if_pos rfl] at h2
        injection h2 with h2
        have := hlt a (by omega) i h1
        omega
      · rw [if_neg (hne b (by omega))] at h2
        exact ih a b i (by omega) (by omega) h1 h2
theorem crash_inj {σ : Ds} (hi : Iv σ) (hw : Wfd σ) (dirs : List Bool) (cuts : List Int) : ∀ x y j, lk (σ.crash dirs cuts).st x = some j → lk (σ.crash dirs cuts).st y = some j → x = y := by
  intro x y j h1 h2
  have ht : Td (cr1 σ dirs).sf := (hi.crf dirs _ (Nat.le_refl _)).1
  have hl : ∀ y j, lk (cr1 σ dirs).sf y = some j → j < (cr1 σ dirs).bs.length := crf_lt hw hi dirs _ (Nat.le_refl _)
  have hc := cd_run cuts ht hl _ (Nat.le_refl _)
  have hin : ∀ z i, lk (crn (cr1 σ dirs) cuts (nms (cr1 σ dirs).sf).length).sf z = some i → ∃ a, a < (nms (cr1 σ dirs).sf).length ∧ (nms (cr1 σ dirs).sf).getD a [] = z := fun z i e => by
    by_cases hz : z ∈ nms (cr1 σ dirs).sf
    · obtain ⟨a, ha, e9⟩ := List.getElem_of_mem hz
      exact ⟨a, ha, by simp [List.getD, ha, e9]⟩
    · rw [hc.ot z (fun j hj e9 => hz (by rw [e9]; simp [hj]))] at e
      exact absurd (ht.mem.2 ⟨i, e⟩) hz
  obtain ⟨a, ha, rfl⟩ := hin x j h1
  obtain ⟨b, hb, rfl⟩ := hin y j h2
  rw [crn_inj cuts ht hl _ (Nat.le_refl _) a b j ha hb h1 h2]
theorem ldr_inj : ∀ (L : List (Tx × Tx)) (σ ρ : Ds), IsMap σ.st → (∀ x j, lk σ.st x = some j → j < σ.bs.length ∧ (σ.body j).safe = (σ.body j).data.length) → (∀ x y j, lk σ.st x = some j → lk σ.st y = some j → x = y) → σ.pend = [] → ldr σ L = some ρ → (∀ x y j, lk ρ.st x = some j → lk ρ.st y = some j → x = y) ∧ Sf ρ ∧ ρ.pend = []
  | [], σ, ρ, _, h1, h2, h3, e => by
    unfold ldr at e
    injection e with e
    subst e
    exact ⟨h2, fun x j hx => (h1 x j hx).2, h3⟩
  | f :: L, σ, ρ, hm, h1, h2, h3, e => by
    unfold ldr at e
    split at e
    · rename_i hf
      have hs : ∀ y, lk (ld1 σ f).st y = if y = f.1 then some σ.bs.length else lk σ.st y := fun y => lk_put hm f.1 y σ.bs.length
      have hb : ∀ i, (ld1 σ f).body i = if i = σ.bs.length then ⟨f.2, f.2.length⟩ else σ.body i := fun i => body_app σ _ i
      refine ldr_inj L (ld1 σ f) ρ (hm.put _ _) (fun x j hx => ?_) (fun x y j hx hy => ?_) h3 e
      · rw [hs] at hx
        rw [hb]
        split at hx
        · injection hx with hx
          rw [if_pos hx.symm]
          exact ⟨by simp [ld1]; omega, rfl⟩
        · obtain ⟨k1, k2⟩ := h1 x j hx
          rw [if_neg (by omega)]
          exact ⟨by simp [ld1]; omega, k2⟩
      · rw [hs] at hx hy
        split at hx
        · rename_i ex
          split at hy
          · rename_i ey; rw [ex, ey]
          · injection hx with hx
            have := (h1 y j hy).1
            omega
        · split at hy
          · injection hy with hy
            have := (h1 x j hx).1
            omega
          · exact h2 x y j hx hy
    · cases e
theorem start_inj {how room : Int} {L : List (Tx × Tx)} {σ : Ds} (h : Ds.start how room L = some σ) : (∀ x y j, lk σ.st x = some j → lk σ.st y = some j → x = y) ∧ Sf σ ∧ σ.pend = [] := by
  have hn : ∀ r, (∀ x y j, lk (Ds.new r).st x = some j → lk (Ds.new r).st y = some j → x = y) ∧ Sf (Ds.new r) ∧ (Ds.new r).pend = [] := fun r => ⟨fun x y j e => (by rw [show (Ds.new r).st = .map [] from rfl, lk_none] at e; cases e), fun x j e => (by rw [show (Ds.new r).sf = .map [] from rfl, lk_none] at e; cases e), rfl⟩
  unfold Ds.start at h
  split at h
  · split at h
    · injection h with h; subst h; exact hn _
    · cases h
  · split at h
    · unfold Ds.load at h
      split at h
      · exact ldr_inj L (Ds.new room.toNat) σ Td.nil.t.isMap (fun x i e => (by rw [show (Ds.new room.toNat).st = .map [] from rfl, lk_none] at e; cases e)) (hn _).1 rfl h
      · cases h
    · injection h with h; subst h; exact hn _
end Go.Proofs.Ytaddgmbglhdfdaa
