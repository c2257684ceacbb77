/-
  A cache as mathematics: its entries, the ring in which they stand.
-/
import Derived.Test.YtjefciioaebbeaaRows
import Derived.WalkKit
namespace Go.Proofs.Ytjefciioaebbeaa
/-- Symmetric and transitive. -/
structure Per {α : Type} (q : α → α → Bool) : Prop where
  symm : ∀ a b, q a b = true → q b a = true
  trans : ∀ a b c, q a b = true → q b c = true → q a c = true
theorem Per.same {α : Type} {q : α → α → Bool} (h : Per q) {a b : α} (e : q a b = true) (c : α) : q a c = q b c := by
  cases h1 : q a c with
  | true => exact (h.trans b a c (h.symm a b e) h1).symm
  | false =>
    cases h2 : q b c with
    | false => rfl
    | true => rw [h.trans a b c e h2] at h1; cases h1
theorem Per.comm {α : Type} {q : α → α → Bool} (h : Per q) (a b : α) : q a b = q b a := by
  cases h1 : q a b with
  | true => exact (h.symm _ _ h1).symm
  | false => cases h2 : q b a with
    | true => rw [h.symm _ _ h2] at h1; cases h1
    | false => rfl
theorem per_eq {α : Type} [BEq α] [LawfulBEq α] : Per (fun a b : α => a == b) := ⟨fun a b h => by simp at h ⊢; exact h.symm, fun a b c h k => by simp at h k ⊢; exact h.trans k⟩
/-- No two of these are alike. -/
def Unl {α : Type} (q : α → α → Bool) (l : List α) : Prop := l.Pairwise fun a b => q a b = false
theorem Unl.one {α : Type} {q : α → α → Bool} (P : Per q) : ∀ {l : List α}, Unl q l → ∀ {a b : α}, a ∈ l → b ∈ l → q a b = true → a = b
  | [], _, _, _, ha, _, _ => by cases ha
  | c :: l, h, a, b, ha, hb, hq => by
    cases h with
    | cons h1 h2 =>
      rcases List.mem_cons.1 ha with e1 | ha' <;> rcases List.mem_cons.1 hb with e2 | hb'
      · rw [e1, e2]
      · rw [e1, h1 _ hb'] at hq; cases hq
      · rw [P.comm, e2, h1 _ ha'] at hq; cases hq
      · exact Unl.one P h2 ha' hb' hq
/-- An entry: its node, key, value, weight. -/
structure En (α β : Type) where
  nd : Nat
  key : α
  val : β
  wt : Int
section
variable {α β : Type}
def wsum (L : List (En α β)) : Int := (L.map En.wt).sum
theorem wsum_nil : wsum ([] : List (En α β)) = 0 := rfl
theorem wsum_cons (e : En α β) (L : List (En α β)) : wsum (e :: L) = e.wt + wsum L := by simp [wsum]
theorem wsum_app (L M : List (En α β)) : wsum (L ++ M) = wsum L + wsum M := by simp [wsum]
/-- The entry of a key. -/
def fnd (q : α → α → Bool) (x : α) (L : List (En α β)) : Option (En α β) := L.find? fun e => q x e.key
/-- The entries but that of a key. -/
def drp (q : α → α → Bool) (x : α) (L : List (En α β)) : List (En α β) := L.filter fun e => !q x e.key
/-- The ones used longest ago are given up. -/
def evc (c : Int) (L : List (En α β)) : List (En α β) := if _h : L = [] ∨ wsum L ≤ c then L else evc c L.dropLast
termination_by L.length
decreasing_by
  have : L ≠ [] := fun e => _h (.inl e)
  have := List.length_pos_iff.2 this
  simp; omega
theorem evc_nil (c : Int) : evc c ([] : List (En α β)) = [] := by rw [evc]; simp
theorem evc_fits {c : Int} {L : List (En α β)} (h : wsum L ≤ c) : evc c L = L := by rw [evc]; simp [h]
theorem evc_more {c : Int} {L : List (En α β)} (h0 : L ≠ []) (h : ¬ wsum L ≤ c) : evc c L = evc c L.dropLast := by rw [evc]; simp [h, h0]
theorem evc_le (c : Int) (hc : 0 ≤ c) : ∀ (n : Nat) (L : List (En α β)), L.length = n → wsum (evc c L) ≤ c
  | n, L, hn => by
    rw [evc]
    by_cases h : L = [] ∨ wsum L ≤ c
    · rw [dif_pos h]
      rcases h with rfl | h
      · exact hc
      · exact h
    · rw [dif_neg h]
      have : L ≠ [] := fun e => h (.inl e)
      have := List.length_pos_iff.2 this
      exact evc_le c hc (n - 1) L.dropLast (by simp; omega)
theorem evc_pre (c : Int) : ∀ (n : Nat) (L : List (En α β)), L.length = n → evc c L <+: L
  | n, L, hn => by
    rw [evc]
    by_cases h : L = [] ∨ wsum L ≤ c
    · rw [dif_pos h]; exact List.prefix_refl _
    · rw [dif_neg h]
      have : L ≠ [] := fun e => h (.inl e)
      have := List.length_pos_iff.2 this
      exact (evc_pre c (n - 1) L.dropLast (by simp; omega)).trans (List.dropLast_prefix _)
theorem evc_pre' (c : Int) (L : List (En α β)) : evc c L <+: L := evc_pre c _ L rfl
/-- All is well: no two keys alike, no two nodes, weights from 0 on, within the room. -/
structure Okc (q : α → α → Bool) (r : Int) (L : List (En α β)) : Prop where
  un : Unl q (L.map En.key)
  self : ∀ e ∈ L, q e.key e.key = true
  wt : ∀ e ∈ L, 0 ≤ e.wt
  le : wsum L ≤ r
theorem wsum_nonneg {L : List (En α β)} (h : ∀ e ∈ L, 0 ≤ e.wt) : 0 ≤ wsum L := by
  induction L with
  | nil => exact Int.le_refl _
  | cons e L ih =>
    rw [wsum_cons]
    have := h e (by simp)
    have := ih (fun x hx => h x (by simp [hx]))
    omega
theorem wsum_sub {L M : List (En α β)} (h : ∀ e ∈ L, 0 ≤ e.wt) (hs : M.Sublist L) : wsum M ≤ wsum L := by
  induction hs with
  | slnil => exact Int.le_refl _
  | cons a hs ih => rw [wsum_cons]; have := h a (by simp); have := ih (fun x hx => h x (by simp [hx])); omega
  | cons_cons a hs ih => rw [wsum_cons, wsum_cons]; have := ih (fun x hx => h x (by simp [hx])); omega
theorem Okc.sub {q : α → α → Bool} {r : Int} {L M : List (En α β)} (h : Okc q r L) (hs : M.Sublist L) : Okc q r M :=
  ⟨h.un.sublist (hs.map _), fun e he => h.self e (hs.subset he), fun e he => h.wt e (hs.subset he), Int.le_trans (wsum_sub h.wt hs) h.le⟩
theorem Okc.nil (q : α → α → Bool) {r : Int} (hr : 0 ≤ r) : Okc q r ([] : List (En α β)) := ⟨List.Pairwise.nil, (fun _ h => by cases h), (fun _ h => by cases h), hr⟩
theorem Okc.drp {q : α → α → Bool} {r : Int} {L : List (En α β)} (h : Okc q r L) (x : α) : Okc q r (drp q x L) := h.sub List.filter_sublist
theorem drp_not {q : α → α → Bool} {x : α} {L : List (En α β)} {e : En α β} (h : e ∈ drp q x L) : q x e.key = false := by
  have := (List.mem_filter.1 h).2
  simpa using this
theorem fnd_some {q : α → α → Bool} {x : α} {L : List (En α β)} {e : En α β} (h : fnd q x L = some e) : e ∈ L ∧ q x e.key = true := ⟨List.mem_of_find?_eq_some h, by have := List.find?_some h; simpa using this⟩
theorem fnd_none {q : α → α → Bool} {x : α} {L : List (En α β)} (h : fnd q x L = none) : ∀ e ∈ L, q x e.key = false := by
  intro e he
  have := List.find?_eq_none.1 h e he
  simpa using this
theorem drp_none {q : α → α → Bool} {x : α} {L : List (En α β)} (h : fnd q x L = none) : drp q x L = L := by
  unfold drp
  rw [List.filter_eq_self]
  intro e he
  rw [fnd_none h e he]; rfl
/-- Where the entry of a key stands: what is dropped is it alone. -/
theorem drp_at {q : α → α → Bool} (P : Per q) {x : α} {e : En α β} {A B : List (En α β)} (hu : Unl q ((A ++ e :: B).map En.key)) (he : q x e.key = true) : drp q x (A ++ e :: B) = A ++ B := by
  have hne : ∀ y ∈ A ++ B, q x y.key = false := by
    intro y hy
    rw [P.same he]
    cases h : q e.key y.key with
    | false => rfl
    | true =>
      exfalso
      have hp : (A ++ e :: B).Perm (e :: (A ++ B)) := List.perm_middle
      have hu2 : Unl q ((e :: (A ++ B)).map En.key) := by
        refine (hp.map _).pairwise hu ?_
        intro a b h; rw [P.comm]; exact h
      cases hu2 with
      | cons h1 h2 =>
        rw [h1 y.key (List.mem_map.2 ⟨y, hy, rfl⟩)] at h; cases h
  unfold drp
  rw [List.filter_append, List.filter_cons_of_neg (by simp [he])]
  rw [List.filter_eq_self.2 (fun y hy => by rw [hne y (by simp [hy])]; rfl), List.filter_eq_self.2 (fun y hy => by rw [hne y (by simp [hy])]; rfl)]
theorem fnd_at {q : α → α → Bool} {x : α} {L : List (En α β)} {e : En α β} (h : fnd q x L = some e) : ∃ A B, L = A ++ e :: B := by
  obtain ⟨A, B, h⟩ := List.append_of_mem (fnd_some h).1
  exact ⟨A, B, h⟩
/-- What Put leaves; its answer. -/
def cput (q : α → α → Bool) (r : Int) (e : En α β) (L : List (En α β)) : List (En α β) × Bool := if e.wt < 0 ∨ r < e.wt then (drp q e.key L, false) else (e :: evc (r - e.wt) (drp q e.key L), true)
/-- What Get leaves. -/
def cget (q : α → α → Bool) (x : α) (L : List (En α β)) : List (En α β) := match fnd q x L with
  | none => L
  | some e => e :: drp q x L
theorem Okc.put {q : α → α → Bool} {r : Int} {L : List (En α β)} (h : Okc q r L) (e : En α β) (hs : q e.key e.key = true) : Okc q r (cput q r e L).1 := by
  unfold cput
  by_cases hc : e.wt < 0 ∨ r < e.wt
  · rw [if_pos hc]; exact h.drp _
  · rw [if_neg hc]
    have hle := evc_le (r - e.wt) (by omega) _ (Go.Proofs.Ytjefciioaebbeaa.drp q e.key L) rfl
    have hsb := (evc_pre' (r - e.wt) (Go.Proofs.Ytjefciioaebbeaa.drp q e.key L)).sublist
    have h1 := (h.drp e.key).sub hsb
    refine ⟨?_, ?_, ?_, ?_⟩
    · refine List.Pairwise.cons (fun k hk => ?_) h1.un
      obtain ⟨y, hy, rfl⟩ := List.mem_map.1 hk
      exact drp_not (hsb.subset hy)
    · intro y hy
      rcases List.mem_cons.1 hy with rfl | hy
      · exact hs
      · exact h1.self y hy
    · intro y hy
      rcases List.mem_cons.1 hy with rfl | hy
      · omega
      · exact h1.wt y hy
    · rw [wsum_cons]; omega
theorem Okc.get {q : α → α → Bool} {r : Int} {L : List (En α β)} (P : Per q) (h : Okc q r L) (x : α) : Okc q r (cget q x L) := by
  unfold cget
  cases hf : fnd q x L with
  | none => exact h
  | some e =>
    obtain ⟨A, B, rfl⟩ := fnd_at hf
    have he := (fnd_some hf).2
    show Okc q r (e :: Go.Proofs.Ytjefciioaebbeaa.drp q x (A ++ e :: B))
    rw [drp_at P h.un he]
    have hp : (A ++ e :: B).Perm (e :: (A ++ B)) := List.perm_middle
    refine ⟨?_, fun y hy => h.self y (hp.mem_iff.2 hy), fun y hy => h.wt y (hp.mem_iff.2 hy), ?_⟩
    · refine (hp.map _).pairwise h.un ?_
      intro a b h; rw [P.comm]; exact h
    · have := h.le
      rw [wsum_app, wsum_cons] at this
      rw [wsum_cons, wsum_app]; omega
end

section
variable {A : Type}
def upd [DecidableEq A] (g : A → A) (p s : A) : A → A := fun a => if a = p then s else g a
theorem upd_at [DecidableEq A] (g : A → A) (p s : A) : upd g p s p = s := by simp [upd]
theorem upd_ne [DecidableEq A] (g : A → A) {p a : A} (s : A) (h : a ≠ p) : upd g p s a = g a := by simp [upd, h]
/-- From a to z by way of these: g goes on, h goes back. -/
def Rg (g h : A → A) (a : A) : List A → A → Prop
  | [], z => g a = z ∧ h z = a
  | b :: r, z => g a = b ∧ h b = a ∧ Rg g h b r z
theorem rg_congr {g h g' h' : A → A} : ∀ {a z : A} {l : List A}, Rg g h a l z → (∀ x ∈ a :: l, g' x = g x) → (∀ x ∈ l ++ [z], h' x = h x) → Rg g' h' a l z
  | a, z, [], hR, h1, h2 => ⟨(h1 a (by simp)).trans hR.1, (h2 z (by simp)).trans hR.2⟩
  | a, z, b :: r, hR, h1, h2 => ⟨(h1 a (by simp)).trans hR.1, (h2 b (by simp)).trans hR.2.1, rg_congr hR.2.2 (fun x hx => h1 x (by simp only [List.mem_cons] at hx ⊢; exact .inr hx)) (fun x hx => h2 x (by simp only [List.cons_append, List.mem_cons]; exact .inr hx))⟩
theorem rg_g {g h : A → A} {a z : A} {l : List A} (hR : Rg g h a l z) : g a ∈ l ++ [z] := by
  cases l with
  | nil => simp [hR.1]
  | cons b r => simp [hR.1]
theorem rg_in {g h : A → A} : ∀ {xs : List A} {a e z : A} {ys : List A}, Rg g h a (xs ++ e :: ys) z → h e ∈ a :: xs ∧ g e ∈ ys ++ [z]
  | [], a, e, z, ys, hR => ⟨by simp [hR.2.1], rg_g hR.2.2⟩
  | x :: xs, a, e, z, ys, hR => by
    have := rg_in (xs := xs) hR.2.2
    exact ⟨List.mem_cons_of_mem _ this.1, this.2⟩
theorem rg_h {g h : A → A} : ∀ {l : List A} {a z : A}, Rg g h a l z → h z ∈ a :: l
  | [], a, z, hR => by simp [hR.2]
  | b :: r, a, z, hR => List.mem_cons_of_mem _ (rg_h hR.2.2)
theorem rg_last {g h : A → A} : ∀ {xs : List A} {a e z : A}, Rg g h a (xs ++ [e]) z → h z = e
  | [], _, _, _, hR => hR.2.2.2
  | _ :: xs, _, _, _, hR => rg_last (xs := xs) hR.2.2
theorem rg_unlink [DecidableEq A] {g h : A → A} : ∀ {xs : List A} {a e z : A} {ys : List A}, Rg g h a (xs ++ e :: ys) z → (a :: (xs ++ e :: ys)).Nodup → ((xs ++ e :: ys) ++ [z]).Nodup →
    Rg (upd g (h e) (g e)) (upd h (g e) (h e)) a (xs ++ ys) z
  | [], a, e, z, ys, hR, n1, n2 => by
    obtain ⟨h1, h2, h3⟩ := hR
    simp only [List.nil_append] at n1 n2 ⊢
    rw [h2]
    cases ys with
    | nil =>
      obtain ⟨h4, h5⟩ := h3
      rw [h4]
      exact ⟨upd_at _ _ _, upd_at _ _ _⟩
    | cons y r =>
      obtain ⟨h4, h5, h6⟩ := h3
      rw [h4]
      refine ⟨upd_at _ _ _, upd_at _ _ _, rg_congr h6 (fun x hx => upd_ne _ _ ?_) (fun x hx => upd_ne _ _ ?_)⟩
      · rintro rfl
        exact (List.nodup_cons.1 n1).1 (List.mem_cons_of_mem _ hx)
      · rintro rfl
        have := (List.nodup_cons.1 n2).2
        exact (List.nodup_cons.1 this).1 hx
  | x :: xs, a, e, z, ys, hR, n1, n2 => by
    obtain ⟨h1, h2, h3⟩ := hR
    have hin := rg_in h3
    have ih := rg_unlink h3 (List.nodup_cons.1 n1).2 (List.nodup_cons.1 n2).2
    refine ⟨?_, ?_, ih⟩
    · rw [upd_ne _ _ ?_, h1]
      rintro rfl
      refine (List.nodup_cons.1 n1).1 ?_
      have := hin.1
      simp only [List.mem_cons, List.cons_append, List.mem_append] at this ⊢
      rcases this with h | h
      · exact .inl h
      · exact .inr (.inl h)
    · rw [upd_ne _ _ ?_, h2]
      rintro rfl
      refine (List.nodup_cons.1 n2).1 ?_
      have := hin.2
      show _ ∈ (xs ++ e :: ys) ++ [z]
      rw [List.append_assoc]
      exact List.mem_append_right _ (List.mem_cons_of_mem _ this)
theorem rg_link [DecidableEq A] {g h : A → A} {a e z : A} {l : List A} (hR : Rg g h a l z) (n1 : e ∉ a :: l) (n2 : e ∉ l ++ [z]) (m1 : (a :: l).Nodup) (m2 : (l ++ [z]).Nodup) :
    Rg (upd (upd g e (g a)) a e) (upd (upd h e a) (g a) e) a (e :: l) z := by
  have hea : e ≠ a := fun h => n1 (by simp [h])
  refine ⟨upd_at _ _ _, ?_, ?_⟩
  · rw [upd_ne _ _ (fun h => n2 (by rw [h]; exact rg_g hR)), upd_at]
  · cases l with
    | nil =>
      obtain ⟨h1, h2⟩ := hR
      rw [h1]
      exact ⟨by rw [upd_ne _ _ hea, upd_at], upd_at _ _ _⟩
    | cons y r =>
      obtain ⟨h1, h2, h3⟩ := hR
      rw [h1]
      refine ⟨by rw [upd_ne _ _ hea, upd_at], upd_at _ _ _, rg_congr h3 (fun x hx => ?_) (fun x hx => ?_)⟩
      · rw [upd_ne _ _ (fun h => (List.nodup_cons.1 m1).1 (by rw [← h]; exact hx)), upd_ne _ _ (fun h => n1 (List.mem_cons_of_mem _ (by rw [← h]; exact hx)))]
      · have m3 : (y :: (r ++ [z])).Nodup := m2
        have n3 : e ∉ y :: (r ++ [z]) := n2
        rw [upd_ne _ _ (fun h => (List.nodup_cons.1 m3).1 (by rw [← h]; exact hx)), upd_ne _ _ (fun h => n3 (List.mem_cons_of_mem _ (by rw [← h]; exact hx)))]
end
end Go.Proofs.Ytjefciioaebbeaa
