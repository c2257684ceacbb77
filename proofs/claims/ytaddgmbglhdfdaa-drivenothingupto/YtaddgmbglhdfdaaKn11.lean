/-
  What acts do to a drive, as mathematics: bounds; what was made safe stays.
-/
import Derived.Test.YtaddgmbglhdfdaaKm11
namespace Go.Proofs.Ytaddgmbglhdfdaa
open Go.RowKit Go.Maps Go.Sort
/-- All names are texts. -/
def SK (D : Dir) : Prop := ∃ es, D = .map es ∧ ∀ p ∈ es, ∃ x : Tx, p.1 = .string x
theorem ins_mem {x p : Lit × DataW Unit} : ∀ l : List (Lit × DataW Unit), p ∈ DataW.insert x l → p = x ∨ p ∈ l
  | [], h => by simp [DataW.insert] at h; exact .inl h
  | y :: r, h => by
    unfold DataW.insert at h
    split at h
    · rcases List.mem_cons.1 h with h | h
      · exact .inl h
      · exact .inr h
    · rcases List.mem_cons.1 h with h | h
      · exact .inr (by simp [h])
      · rcases ins_mem r h with h | h
        · exact .inl h
        · exact .inr (by simp [h])
theorem SK.fol1 {D : Dir} (h : SK D) (l : Ld) : SK (fol1 D l) := by
  obtain ⟨es, rfl, hk⟩ := h
  unfold Go.Proofs.Ytaddgmbglhdfdaa.fol1
  split
  · exact ⟨_, rfl, fun p hp => hk p (List.mem_filter.1 hp).1⟩
  · refine ⟨_, rfl, fun p hp => ?_⟩
    rcases ins_mem _ hp with h | h
    · exact ⟨l.1, by rw [h]⟩
    · exact hk p (List.mem_filter.1 h).1
theorem SK.fol {D : Dir} (h : SK D) (c : List Ld) : SK (fol D c) := by
  unfold Go.Proofs.Ytaddgmbglhdfdaa.fol
  induction c generalizing D with
  | nil => exact h
  | cons l c ih => exact ih (h.fol1 l)
theorem SK.crf {σ : Ds} (h : SK σ.sf) (dirs : List Bool) : ∀ k, SK (crf σ dirs k)
  | 0 => h
  | k + 1 => by
    rw [crf_succ]
    split
    · exact (SK.crf h dirs k).fol _
    · exact SK.crf h dirs k
theorem SK.has {D : Dir} (h : SK D) : ∀ x ∈ nms D, has D (.string x) = true := by
  intro x hx
  obtain ⟨es, rfl, hk⟩ := h
  obtain ⟨p, hp, rfl⟩ := List.mem_map.1 (nms_mem.1 hx)
  obtain ⟨y, hy⟩ := hk p hp
  rw [has_eq, List.any_eq_true]
  refine ⟨p, hp, ?_⟩
  rw [hy]
  simp [strOf, Lit.sameKey]
theorem SK.of {w : World} {m : List Nat} {s : Nat} {D : Dir} (h : MpAt w m s D) : SK D := by
  obtain ⟨es, e, hko⟩ := World.ownsMap.keysOf h
  refine ⟨es, e, fun p hp => ?_⟩
  obtain ⟨v, hv⟩ := hko p hp
  obtain ⟨y, _, hy, _⟩ := Maps.keyOf_str undS hv
  exact ⟨y, hy⟩
/-- A drive behind a loss of power. -/
theorem crn_ci {K Z : Nat} {τ : Ds} (cuts : List Int) (h : CI K 0 Z τ) (hk : ∀ x ∈ nms τ.sf, has τ.sf (.string x) = true) : ∀ k, k ≤ (nms τ.sf).length → CI K k Z (crn τ cuts k) ∧ ∀ y, has τ.sf (.string y) = true → has (crn τ cuts k).sf (.string y) = true
  | 0, _ => ⟨h, fun _ h => h⟩
  | k + 1, hle => by
    obtain ⟨h1, h2⟩ := crn_ci cuts h hk k (by omega)
    have hx := hk ((nms τ.sf).getD k []) (by simp [show k < (nms τ.sf).length by omega])
    rw [crn_succ]
    exact ⟨h1.step (h2 _ hx) _, fun y hy => has_crs h1.ti _ (h2 y hy)⟩
theorem crn_pend (τ : Ds) (cuts : List Int) : ∀ k, (crn τ cuts k).pend = τ.pend
  | 0 => rfl
  | k + 1 => by rw [crn_succ]; exact crn_pend τ cuts k
theorem Okk.crash {m : Nat} {σ : Ds} {w : World} {db : Nat} {F : Nat → Prop} (h : Okk m σ) (hm : m ≤ 134217728) (dirs : List Bool) (cuts : List Int) (hD : DrAt w db σ F) : Okk m (σ.crash dirs cuts) := by
  obtain ⟨_, _, mm, rv, st, sf, pv, S, R⟩ := hD
  have h1 := cr1_ci h (h.okp hm) R dirs
  have hsk : SK σ.sf := by
    rcases R.dirs with ⟨_, _, _, e, _⟩ | ⟨s, f, _, _, _, _, _, _, hM⟩
    · exact ⟨[], e, fun p hp => by simp at hp⟩
    · exact SK.of hM
  have hk : ∀ x ∈ nms (cr1 σ dirs).sf, has (cr1 σ dirs).sf (.string x) = true := (hsk.crf dirs σ.pend.length).has
  obtain ⟨h2, _⟩ := crn_ci cuts h1 hk _ (Nat.le_refl _)
  have hl : (nms (cr1 σ dirs).sf).length ≤ 2 * m := by
    have h9 := h1.sz
    rw [nms_len]
    obtain ⟨es, e, _⟩ := h1.ti
    rw [e] at h9 ⊢
    simpa [strKeys, Maps.size] using h9
  have hu := h2.u1
  have hmul : (nms (cr1 σ dirs).sf).length * m ≤ m * 268435456 := by
    have : (nms (cr1 σ dirs).sf).length * m ≤ 268435456 * m := Nat.mul_le_mul_right m (by omega)
    rw [Nat.mul_comm m 268435456]
    exact this
  have hp : (crn (cr1 σ dirs) cuts (nms (cr1 σ dirs).sf).length).pend = [] := crn_pend _ _ _
  unfold Ds.crash
  refine ⟨?_, ?_, fun i => (h2.bo i).2, fun i => (h2.bo i).1, h2.ti, h2.ti, h2.sz, ?_, ?_, h2.nn, h2.nn⟩
  · have := h2.u0
    show _ ≤ (crn (cr1 σ dirs) cuts (nms (cr1 σ dirs).sf).length).used
    omega
  · show (crn (cr1 σ dirs) cuts (nms (cr1 σ dirs).sf).length).used ≤ _
    omega
  · show Maps.size (crn (cr1 σ dirs) cuts (nms (cr1 σ dirs).sf).length).sf + 2 * (crn (cr1 σ dirs) cuts (nms (cr1 σ dirs).sf).length).pend.length ≤ _
    rw [hp]
    have := h2.sz
    simp only [List.length_nil]
    omega
  · intro c hc
    have hc' : c ∈ (crn (cr1 σ dirs) cuts (nms (cr1 σ dirs).sf).length).pend := hc
    rw [hp] at hc'
    simp at hc'
theorem Okk.setb {k : Nat} {σ : Ds} (h : Okk k σ) (hk : k ≤ 134217728) (i : Nat) (b : Bd) (u : Int) (hb : b.data.length ≤ k) (hs : b.safe ≤ b.data.length) (hu : σ.used - (k : Int) ≤ u ∧ u ≤ σ.used) : Okk (k + 1) { (σ.setBody i b) with used := u } := by
  have h0 := h.u0
  have h1 := h.u1
  have h2 := h.ss
  have h3 := h.sp
  refine ⟨?_, ?_, fun j => ?_, fun j => ?_, h.ts, h.tf, ?_, ?_, h.pl, h.nn, h.nf⟩
  · show _ ≤ u; omega
  · show u ≤ _; omega
  · show ((σ.setBody i b).body j).data.length ≤ _
    rw [body_set]
    split
    · omega
    · have := h.bl j; omega
  · show ((σ.setBody i b).body j).safe ≤ ((σ.setBody i b).body j).data.length
    rw [body_set]
    split
    · exact hs
    · exact h.sa j
  · show Maps.size σ.st ≤ _; omega
  · show Maps.size σ.sf + 2 * σ.pend.length ≤ _; omega
theorem Okk.flip {k : Nat} {σ : Ds} (h : Okk k σ) (hk : k ≤ 134217728) (x : Tx) (a : Int) (p : Tx) : Okk (k + 1) (σ.flip x a p).2 := by
  unfold Ds.flip
  split
  · exact h.mono (by omega)
  · rename_i i _
    exact h.setb hk i _ σ.used (by rw [flp_len]; exact h.bl i) (by rw [flp_len]; exact h.sa i) ⟨by omega, Int.le_refl _⟩
theorem Okk.cut {k : Nat} {σ : Ds} (h : Okk k σ) (hk : k ≤ 134217728) (x : Tx) (n : Int) : Okk (k + 1) (σ.cut x n).2 := by
  unfold Ds.cut
  split
  · exact h.mono (by omega)
  · rename_i i _
    have h1 := h.bl i
    have h2 := h.sa i
    refine h.setb hk i _ _ ?_ ?_ ?_
    · show ((σ.body i).data.take n.toNat).length ≤ k
      rw [List.length_take]; omega
    · show min (σ.body i).safe (min n.toNat (σ.body i).data.length) ≤ ((σ.body i).data.take n.toNat).length
      rw [List.length_take]; omega
    · constructor <;> omega
theorem Okk.act {k : Nat} {σ : Ds} {w : World} {db : Nat} {F : Nat → Prop} (h : Okk k σ) (hk : k ≤ 134217728) (hD : DrAt w db σ F) (a : Atp) : Okk (k + aez a) (σ.step a) := by
  obtain ⟨q, s, l⟩ := a
  show Okk _ (σ.act q s.x s.y s.n l).2
  by_cases e0 : q = 0
  · subst e0; rw [act_0]; exact (h.create hk _).mono (by unfold aez; omega)
  by_cases e1 : q = 1
  · subst e1; rw [act_1]; exact (h.append _ _).mono (by unfold aez; dsimp only; omega)
  by_cases e2 : q = 2
  · subst e2; rw [act_2]; exact (h.sync _).mono (by unfold aez; omega)
  by_cases e3 : q = 3
  · subst e3; rw [act_3]; exact (h.rename hk _ _).mono (by unfold aez; omega)
  by_cases e4 : q = 4
  · subst e4; rw [act_4]; exact (h.remove hk _).mono (by unfold aez; omega)
  by_cases e5 : q = 5
  · subst e5; rw [act_5]; exact h.syncDir.mono (by unfold aez; omega)
  by_cases e6 : q = 6
  · subst e6; rw [act_6]; exact h.mono (by omega)
  by_cases e10 : q = 10
  · subst e10; rw [act_10]; exact h.mono (by omega)
  by_cases e13 : q = 13
  · subst e13; rw [act_13]; exact (h.crash hk _ _ hD).mono (by omega)
  by_cases e14 : q = 14
  · subst e14; rw [act_14]; exact (h.flip hk _ _ _).mono (by unfold aez; omega)
  by_cases e15 : q = 15
  · subst e15; rw [act_15]; exact (h.cut hk _ _).mono (by unfold aez; omega)
  by_cases e16 : q = 16
  · subst e16; rw [act_16]; exact Okk.new' _ _
  rw [act_no σ s.x s.y s.n l e0 e1 e2 e3 e4 e5 e6 e10 e13 e14 e15 e16]
  exact h.mono (by omega)
end Go.Proofs.Ytaddgmbglhdfdaa
