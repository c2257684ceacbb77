/-
  The document's groups: how far the list is; the list in memory.
-/
import Derived.Test.YtefomnlgpldgnaaVt17
import Derived.Test.YtefomnlgpldgnaaVj17
import Derived.Test.YtefomnlgpldgnaaVn17
namespace Go.Proofs.Ytefomnlgpldgnaa
open Go.RowKit
/-- The newest groups, so far. -/
structure Pf (s : Shs) (n : Nat) (l : List Grp) : Prop where
  ord : l.Pairwise fun a b => older b.1 a.1 = true
  mem : ∀ p ∈ l, (∃ i, i < n ∧ sh s p.1 i = true) ∧ p.2 = plc s n p.1
  cmp : ∀ k, (∃ i, i < n ∧ sh s k i = true) → (∃ p ∈ l, p.1 = k) ∨ ∀ p ∈ l, older k p.1 = true
theorem Pf.nil (s : Shs) (n : Nat) : Pf s n [] := ⟨List.Pairwise.nil, fun _ h => absurd h List.not_mem_nil, fun _ _ => .inr fun _ h => absurd h List.not_mem_nil⟩
/-- Comes this place into question? -/
def Cnd (s : Shs) (l : List Grp) (i : Nat) : Prop := (s i).1 = 2 ∧ ∀ p ∈ l, older (s i).2 p.1 = true
structure Bst (s : Shs) (l : List Grp) (t j : Nat) : Prop where
  lt : j < t
  cnd : Cnd s l j
  max : ∀ i, i < t → Cnd s l i → older (s j).2 (s i).2 = false
theorem Pf.full {s : Shs} {n : Nat} {l : List Grp} (h : Pf s n l) (hN : ∀ i, i < n → ¬ Cnd s l i) : IsG s n l := by
  refine ⟨h.ord, fun k => ⟨fun hk => ?_, ?_⟩, fun p hp => (h.mem p hp).2⟩
  · rcases h.cmp k hk with h1 | h1
    · exact h1
    · obtain ⟨i, hi, hs⟩ := hk
      obtain ⟨h2, h3⟩ := (sh_iff s k i).1 hs
      exact absurd ⟨h2, by rw [h3]; exact h1⟩ (hN i hi)
  · rintro ⟨p, hp, rfl⟩
    exact (h.mem p hp).1
theorem Pf.step {s : Shs} {n : Nat} {l : List Grp} (h : Pf s n l) {j : Nat} (hb : Bst s l n j) : Pf s n (l ++ [((s j).2, plc s n (s j).2)]) := by
  have hj : sh s (s j).2 j = true := (sh_iff _ _ _).2 ⟨hb.cnd.1, rfl⟩
  refine ⟨List.pairwise_append.2 ⟨h.ord, List.pairwise_singleton _ _, fun a ha b hb' => ?_⟩, fun p hp => ?_, fun k hk => ?_⟩
  · rw [List.mem_singleton] at hb'
    subst hb'
    exact hb.cnd.2 a ha
  · rcases List.mem_append.1 hp with hp | hp
    · exact h.mem p hp
    · rw [List.mem_singleton] at hp
      subst hp
      exact ⟨⟨j, hb.lt, hj⟩, rfl⟩
  · rcases h.cmp k hk with ⟨p, hp, e⟩ | h1
    · exact .inl ⟨p, List.mem_append_left _ hp, e⟩
    · by_cases e : k = (s j).2
      · exact .inl ⟨_, List.mem_append_right _ (List.mem_singleton.2 rfl), e.symm⟩
      · right
        intro p hp
        rcases List.mem_append.1 hp with hp | hp
        · exact h1 p hp
        · rw [List.mem_singleton] at hp
          subst hp
          obtain ⟨i, hi, hs⟩ := hk
          obtain ⟨h2, h3⟩ := (sh_iff s k i).1 hs
          have h4 := hb.max i hi ⟨h2, by rw [h3]; exact h1⟩
          rw [h3] at h4
          rcases older_total e with h5 | h5
          · exact h5
          · rw [h5] at h4; cases h4
theorem Pf.len {s : Shs} {n : Nat} {l : List Grp} (h : Pf s n l) : l.length ≤ n := by
  have key : ∀ r : List Grp, (r.Pairwise fun a b => older b.1 a.1 = true) → (∀ p ∈ r, ∃ i, i < n ∧ sh s p.1 i = true) → ∀ p q, r = p :: q → r.length ≤ mo s n p.1 + 1 := by
    intro r
    induction r with
    | nil => intro _ _ p q e; cases e
    | cons a t ih =>
      intro ho hx p q e
      injection e with e1 e2
      subst e1 e2
      cases t with
      | nil => simp
      | cons b t' =>
        have h1 := ih (List.pairwise_cons.1 ho).2 (fun p hp => hx p (List.mem_cons_of_mem _ hp)) b t' rfl
        obtain ⟨i, hi, hs⟩ := hx b (by simp)
        have := mo_lt ((List.pairwise_cons.1 ho).1 b (by simp)) hi hs
        simp only [List.length_cons] at h1 ⊢
        omega
  cases l with
  | nil => exact Nat.zero_le _
  | cons p q =>
    obtain ⟨i, hi, hs⟩ := (h.mem p (by simp)).1
    have := key _ h.ord (fun p hp => (h.mem p hp).1) p q rfl
    have := mo_lt_n hi hs
    omega
/-- The last one decides. -/
theorem Pf.last {s : Shs} {n : Nat} {l : List Grp} (h : Pf s n l) {r : Nat} (hr : l.length = r + 1) (k : Wg) : (∀ p ∈ l, older k p.1 = true) ↔ older k (l.getD r ((0, 0, 0), [])).1 = true := by
  have hm : l.getD r ((0, 0, 0), []) ∈ l := by
    rw [List.getD_eq_getElem?_getD, List.getElem?_eq_getElem (by omega)]
    exact List.getElem_mem _
  refine ⟨fun h1 => h1 _ hm, fun h1 p hp => ?_⟩
  obtain ⟨i, hi, e⟩ := List.getElem_of_mem hp
  by_cases hir : i = r
  · subst hir
    rw [← e]
    rw [List.getD_eq_getElem?_getD, List.getElem?_eq_getElem hi] at h1
    exact h1
  · have h2 := List.pairwise_iff_getElem.1 h.ord i r hi (by omega) (by omega)
    rw [e] at h2
    rw [List.getD_eq_getElem?_getD, List.getElem?_eq_getElem (by omega)] at h1
    exact older_trans h1 h2
/-- Each group with a list of its own. -/
def Ax (w : World) (B : Nat) (es : List (Wg × Sl3)) (L : List Grp) : Prop := es.length = L.length ∧ ∀ i, i < L.length → (es.getD i ((0, 0, 0), (0, 0, 0))).1 = (L.getD i ((0, 0, 0), [])).1 ∧ On w B (slv (es.getD i ((0, 0, 0), (0, 0, 0))).2) (L.getD i ((0, 0, 0), [])).2
theorem Ax.nil (w : World) (B : Nat) : Ax w B [] [] := ⟨rfl, fun i hi => absurd hi (Nat.not_lt_zero i)⟩
theorem Ax.below {w w' : World} {B : Nat} {es : List (Wg × Sl3)} {L : List Grp} (h : Ax w B es L) (hb : Below w.heap.size w w') : Ax w' B es L := ⟨h.1, fun i hi => ⟨(h.2 i hi).1, (h.2 i hi).2.below hb⟩⟩
theorem Ax.add {w : World} {B : Nat} {es : List (Wg × Sl3)} {L : List Grp} (h : Ax w B es L) {e : Wg × Sl3} {p : Grp} (h1 : e.1 = p.1) (h2 : On w B (slv e.2) p.2) : Ax w B (es ++ [e]) (L ++ [p]) := by
  refine ⟨by simp [h.1], fun i hi => ?_⟩
  rw [List.length_append, List.length_singleton] at hi
  by_cases hlt : i < L.length
  · have := h.2 i hlt
    simpa [List.getD, List.getElem?_append_left hlt, List.getElem?_append_left (show i < es.length by rw [h.1]; exact hlt)] using this
  · have e1 : i = L.length := by omega
    subst e1
    have e2 : (es ++ [e]).getD L.length ((0, 0, 0), (0, 0, 0)) = e := by rw [← h.1]; simp [List.getD]
    have e3 : (L ++ [p]).getD L.length ((0, 0, 0), []) = p := by simp [List.getD]
    rw [e2, e3]; exact ⟨h1, h2⟩
theorem on_slv {w : World} {B : Nat} {v : Value} {L : List Nat} (h : On w B v L) (h0 : L ≠ []) : ∃ b, v = slv b := by
  rcases h.2 with ⟨_, h1⟩ | ⟨g, cap, cur, hv, _⟩
  · exact absurd (List.length_eq_zero_iff.1 h1) h0
  · exact ⟨(g, L.length, cap), hv⟩
theorem SnAt.hrunAt {w : World} {g o : Nat} {s : Sn} (H : SnAt w g o s) : (loadVar 33 ⟨g, o + 1, none⟩).run Try.prog w = .ok (.agg s.hd.cs) w := by
  refine run_loadVar_at w g (o + 1) 33 s.hd.cs _ (fun j u hj => ?_) Try.underlying33 rfl (size_Hd _)
  have hl : j < 16 := by
    rcases Nat.lt_or_ge j 16 with h | h
    · exact h
    · rw [List.getElem?_eq_none (by exact h)] at hj; cases hj
  have h := H (j + 1) u (by
    rw [← hj]
    unfold Sn.cs Hd.cs
    match j, hl with
    | 0, _ => rfl
    | 1, _ => rfl
    | 2, _ => rfl
    | 3, _ => rfl
    | 4, _ => rfl
    | 5, _ => rfl
    | 6, _ => rfl
    | 7, _ => rfl
    | 8, _ => rfl
    | 9, _ => rfl
    | 10, _ => rfl
    | 11, _ => rfl
    | 12, _ => rfl
    | 13, _ => rfl
    | 14, _ => rfl
    | 15, _ => rfl)
  rw [show o + (j + 1) = o + 1 + j by omega] at h
  exact h
theorem zero_Hd (w : World) : (zeroValue 33).run Try.prog w = .ok (.agg sn0.hd.cs) w := by kernel_rfl
theorem hdC_one (h : Hd) : (h.cs.all fun x => x.oneCell') = true := by
  simp [Hd.cs, show ∀ k z, (Value.int k z).oneCell' = true from fun _ _ => rfl, show ∀ b, (Value.string b).oneCell' = true from fun _ => rfl]
theorem hdC_same (h h' : Hd) : h.cs.size = h'.cs.size := rfl
theorem gb_hd {w : World} {g : Nat} {h : Hd} (H : GB w g 33 h.cs) : w.cell? ⟨g, 12, none⟩ = some (.int .i64 h.sz) ∧ w.cell? ⟨g, 14, none⟩ = some (.int .i64 h.ep) ∧ w.cell? ⟨g, 15, none⟩ = some (.int .i64 h.ct) := ⟨H.cell 12, H.cell 14, H.cell 15⟩
end Go.Proofs.Ytefomnlgpldgnaa
