/-
  What was made safe stays: the beginning.
-/
import Derived.Test.YtaddgmbglhdfdaaKo11
namespace Go.Proofs.Ytaddgmbglhdfdaa
open Go.RowKit Go.Maps Go.Sort
theorem create_eq {σ : Ds} {x : Tx} (h : (σ.create x).1 = 0) : isN x = true ∧ (σ.create x).2 = ({ σ with bs := σ.bs ++ [⟨[], 0⟩] } : Ds).change [(x, some σ.bs.length)] := by
  unfold Ds.create at h ⊢
  split at h
  · rename_i hn
    rw [if_pos hn]
    split at h
    · cases h
    · rename_i h2
      rw [if_neg h2]
      exact ⟨hn, rfl⟩
  · cases h
/-- A drive on which the file stands whose bytes are these, so many of them safe. -/
structure Jb (x : Tx) (σ0 : Ds) (b : Bd) (σ : Ds) : Prop where
  st : σ.st = fol σ0.st [(x, some σ0.bs.length)]
  sf : σ.sf = σ0.sf
  pn : σ.pend = σ0.pend ++ [[(x, some σ0.bs.length)]]
  bl : σ.bs.length = σ0.bs.length + 1
  bd : σ.body σ0.bs.length = b
theorem Jb.find {x : Tx} {σ0 σ : Ds} {b : Bd} (h : Jb x σ0 b σ) (hw : Wfd σ0) (hn : isN x = true) : σ.find x = .inr σ0.bs.length := by
  unfold Ds.find
  rw [if_pos hn, h.st]
  show (match lk (fol1 σ0.st (x, some σ0.bs.length)) x with | none => _ | some i => _) = _
  rw [lk_fol1 hw.ms, if_pos rfl]
theorem jb_create {σ : Ds} {x : Tx} (h : (σ.create x).1 = 0) : isN x = true ∧ Jb x σ ⟨[], 0⟩ (σ.create x).2 := by
  obtain ⟨h1, h2⟩ := create_eq h
  refine ⟨h1, ?_⟩
  rw [h2]
  refine ⟨rfl, rfl, rfl, by simp [Ds.change], ?_⟩
  show (σ.bs ++ [(⟨[], 0⟩ : Bd)]).getD σ.bs.length ⟨[], 0⟩ = _
  simp
theorem Jb.set {x : Tx} {σ0 σ : Ds} {b : Bd} (h : Jb x σ0 b σ) (c : Bd) (u : Int) : Jb x σ0 c { (σ.setBody σ0.bs.length c) with used := u } := by
  refine ⟨h.st, h.sf, h.pn, ?_, ?_⟩
  · show (σ.bs.set _ _).length = _
    rw [List.length_set]; exact h.bl
  · show (σ.setBody σ0.bs.length c).body σ0.bs.length = c
    rw [body_set, if_pos ⟨rfl, by rw [h.bl]; omega⟩]
theorem jb_append {σ0 σ : Ds} {x d : Tx} (h : Jb x σ0 ⟨[], 0⟩ σ) (hw : Wfd σ0) (hn : isN x = true) (ha : (σ.append x d).1 = 0) : Jb x σ0 ⟨d, 0⟩ (σ.append x d).2 := by
  unfold Ds.append at ha ⊢
  rw [h.find hw hn] at ha ⊢
  dsimp only at ha ⊢
  split at ha
  · rename_i e
    subst e
    rw [if_pos rfl]
    exact h
  · rename_i e
    rw [if_neg e]
    split at ha
    · cases ha
    · rename_i e2
      rw [if_neg e2, h.bd]
      exact h.set _ _
theorem jb_sync {σ0 σ : Ds} {x d : Tx} (h : Jb x σ0 ⟨d, 0⟩ σ) (hw : Wfd σ0) (hn : isN x = true) : (σ.sync x).1 = 0 ∧ Jb x σ0 ⟨d, d.length⟩ (σ.sync x).2 := by
  unfold Ds.sync
  rw [h.find hw hn]
  dsimp only
  rw [h.bd]
  exact ⟨rfl, h.set _ σ.used⟩
theorem jb_syncDir {σ0 σ : Ds} {x d : Tx} (h : Jb x σ0 ⟨d, d.length⟩ σ) (hw : Wfd σ0) : Jk x d σ.syncDir := by
  have hb : σ.bs.getD σ0.bs.length ⟨[], 0⟩ = ⟨d, d.length⟩ := h.bd
  have hl := h.bl
  obtain ⟨h4, h5⟩ := lk_fols_lt σ0.pend hw.mf hw.sf hw.pn
  have e1 : σ.pend.foldl fol σ.sf = fol1 (σ0.pend.foldl fol σ0.sf) (x, some σ0.bs.length) := by
    rw [h.pn, h.sf, List.foldl_append]
    rfl
  have e2 : σ.st = fol1 σ0.st (x, some σ0.bs.length) := h.st
  have key : ∀ {D : Dir}, IsMap D → (∀ y j, lk D y = some j → j < σ0.bs.length) → Jm x d (fol1 D (x, some σ0.bs.length)) σ.bs σ0.bs.length ∧ ∀ y j, lk (fol1 D (x, some σ0.bs.length)) y = some j → j < σ.bs.length := by
    intro D hm hD
    refine ⟨⟨by rw [lk_fol1 hm, if_pos rfl], hb, by omega, fun y hy => ?_⟩, fun y j e => ?_⟩
    · rw [lk_fol1 hm, if_neg hy]
      intro e
      have := hD y _ e
      omega
    · rw [lk_fol1 hm] at e
      split at e
      · injection e with e; omega
      · have := hD y j e; omega
  obtain ⟨a1, a2⟩ := key hw.ms hw.st
  obtain ⟨b1, b2⟩ := key h5 h4
  refine ⟨⟨σ0.bs.length, ?_, ?_, fun c hc => by simp [Ds.syncDir] at hc⟩, ⟨?_, ?_, fun c hc => by simp [Ds.syncDir] at hc, ?_, ?_⟩⟩
  · show Jm x d σ.st σ.bs _
    rw [e2]; exact a1
  · show Jm x d (σ.pend.foldl fol σ.sf) σ.bs _
    rw [e1]; exact b1
  · show ∀ y j, lk σ.st y = some j → j < σ.bs.length
    rw [e2]; exact a2
  · show ∀ y j, lk (σ.pend.foldl fol σ.sf) y = some j → j < σ.bs.length
    rw [e1]; exact b2
  · show IsMap σ.st
    rw [e2]; exact fol1_isMap hw.ms _
  · show IsMap (σ.pend.foldl fol σ.sf)
    rw [e1]; exact fol1_isMap h5 _
theorem conv_ob {w : World} {base : Nat} {v : Value} {d : Tx} (h : Ob w base v d) : (convert 26 9 v).run Try.prog w = .ok (encStr d) w := by
  obtain ⟨p, c, rfl, _⟩ := own_form h
  refine conv_rx ?_ d.length c rfl
  by_cases e : d = []
  · exact .inl e
  · obtain ⟨g, c', hv, hc⟩ := h.shape e
    injection hv with e1 e2 e3
    exact .inr ⟨g, 0, e1, hc⟩
section
attribute [local irreducible] Calls DrAt
set_option maxRecDepth 1000000 in
theorem named_any (x : Tx) (hx : x.length ≤ 9223372036854775807) (w : World) : Calls Try.prog 10 #[encStr x] w fun e w' => e = .returned (.bool (isN x)) ∧ w' = w := by
  have hs := enc_size x
  unfold isN
  by_cases h1 : 1 ≤ x.length
  · have g1 : (1 : Int) ≤ (x.length : Int) := by omega
    have d1 : decide ((1 : Int) ≤ (x.length : Int)) = true := by simp; omega
    go_enter Try.func10, Try.ntmps10
    go_wp2
    go_ret
    simp [h1]
    omega
  · have g1 : ¬ (1 : Int) ≤ (x.length : Int) := by omega
    have d1 : decide ((1 : Int) ≤ (x.length : Int)) = false := by simp; omega
    go_enter Try.func10, Try.ntmps10
    go_wp2
    go_ret
    simp
set_option maxRecDepth 1000000 in
theorem shows_any {w : World} {db : Nat} {σ : Ds} {F : Nat → Prop} (h : DrAt w db σ F) (x d : Tx) (hx : x.length ≤ 9223372036854775807) (hm : ∀ i, (σ.body i).data.length ≤ 140737488355328) (hr : σ.read x = (0, d)) : Calls Try.prog 19 #[.pointer (some ⟨db, 0, none⟩), encStr x, encStr d] w fun e w' => e = .returned (.bool true) ∧ Below w.heap.size w w' := by
  have RD := (show Hid _ from read_any h x hx (fun i _ => hm i))
  rw [hr] at RD
  have bq : (d == d) = true := by simp
  go_enter Try.func19, Try.ntmps19
  go_wp2_with (go_at_call 50; refine RD.out.mono ?_; rintro e w1 ⟨v, rfl, hO, hb⟩; have hc := conv_ob hO)
  go_ret
  exact ⟨rfl, hb⟩
end
end Go.Proofs.Ytaddgmbglhdfdaa
