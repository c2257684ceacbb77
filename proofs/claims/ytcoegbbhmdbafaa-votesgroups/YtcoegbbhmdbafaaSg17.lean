/-
  The law's own 'sameGroups'.
-/
import Derived.Test.YtcoegbbhmdbafaaVy17
namespace Go.Proofs.Ytcoegbbhmdbafaa
open Go.RowKit
theorem rgl_at {w : World} {p : Option Addr} {n c : Nat} {L : List Grp} (h : Rgl w (.slice p n c) L) : n = L.length ∧ ∀ i, i < n → ∃ g o b, p = some ⟨g, o, none⟩ ∧ w.cell? ⟨g, o + i * 4, none⟩ = some (.int .i64 (L.getD i ((0, 0, 0), [])).1.1) ∧ w.cell? ⟨g, o + i * 4 + 1, none⟩ = some (.int .i64 (L.getD i ((0, 0, 0), [])).1.2.1) ∧ w.cell? ⟨g, o + i * 4 + 2, none⟩ = some (.int .i64 (L.getD i ((0, 0, 0), [])).1.2.2) ∧ w.cell? ⟨g, o + i * 4 + 3, none⟩ = some (slv b) ∧ Rn w (slv b) (L.getD i ((0, 0, 0), [])).2 := by
  obtain ⟨p', c', B, es, e, hc, hA, hr⟩ := h
  injection e with e1 e2 e3
  subst e1 e2
  refine ⟨rfl, fun i hi => ?_⟩
  rcases hr with h | ⟨b, o, e, h⟩
  · subst h; simp at hi
  · have h1 := h i hi
    have h2 := hA.2 i hi
    rw [← h2.1]
    refine ⟨b, o, (es.getD i ((0, 0, 0), (0, 0, 0))).2, e, ?_, ?_, ?_, ?_, h2.2.2⟩
    · exact h1 0 _ rfl
    · exact h1 1 _ rfl
    · exact h1 2 _ rfl
    · exact h1 3 _ rfl
theorem Rgl.sh {w : World} {v : Value} {L : List Grp} (h : Rgl w v L) : ∃ p c, v = .slice p L.length c := by
  obtain ⟨p', c', B, es, e, _⟩ := h
  exact ⟨p', c', e⟩
theorem rn_slv {w : World} {b : Sl3} {L : List Nat} (h : Rn w (slv b) L) : b.2.1 = L.length := by
  obtain ⟨p, c, e, _⟩ := h
  unfold slv at e
  injection e
section
attribute [local irreducible] Calls Rn Rgl
set_option maxHeartbeats 16000000 in
set_option maxRecDepth 1000000 in
theorem sameGroups_any {w : World} {u v : Value} {L : List Grp} (h1 : Rgl w u L) (h2 : Rgl w v L) (hL : L.length ≤ 17592186044416) (hq : ∀ q ∈ L, q.2.length ≤ 17592186044416) :
    Calls Try.prog 14 #[u, v] w fun e w' => e = .returned (.bool true) ∧ Below w.heap.size w w' := by
  obtain ⟨pa, ca, rfl⟩ := h1.sh
  obtain ⟨pb, cb, rfl⟩ := h2.sh
  obtain ⟨_, HA'⟩ := rgl_at h1
  obtain ⟨_, HB'⟩ := rgl_at h2
  have HA := (show Hid _ from HA')
  have HB := (show Hid _ from HB')
  have HL := (show Hid (L.length ≤ 17592186044416) from hL)
  have HQ := (show Hid (∀ q ∈ L, q.2.length ≤ 17592186044416) from hq)
  have f0 : ((L.length : Int) != (L.length : Int)) = false := by simp
  clear h1 h2 hL hq HA' HB'
  go_enter Try.func14, Try.ntmps14
  go_wp2_with (fail)
  go_loopw [5] (fun i wr => ∃ t : Nat, t ≤ L.length ∧ i = .int .i64 (t : Int) ∧ Hid (Below w.heap.size w wr)) (fun i _ => L.length - (intOf i).toNat)
  case atStart => exact ⟨0, Nat.zero_le _, rfl, Below.refl _ _⟩
  case round =>
    obtain ⟨t, ht, rfl, hB⟩ := hrel
    obtain ⟨W0, hW0⟩ : ∃ W0, W0 = wr := ⟨_, rfl⟩
    subst hW0
    by_cases hlt : t < L.length
    · have hi : (t : Int) < (L.length : Int) := by omega
      obtain ⟨ga, oa, ba, rfl, a0, a1, a2, a3, ra⟩ := HA.out t hlt
      obtain ⟨gb, ob, bb, rfl, b0, b1, b2, b3, rb⟩ := HB.out t hlt
      have HQL := (show Hid ((L.getD t ((0, 0, 0), [])).2.length ≤ 17592186044416) from HQ.out _ (by rw [List.getD_eq_getElem?_getD, List.getElem?_eq_getElem hlt]; exact List.getElem_mem _))
      have WT := (show Hid (wrap64 ((t : Int) + 1) = ((t + 1 : Nat) : Int)) from by have := HL.out; show _ = _; unfold wrap64; omega)
      have HT := (show Hid (t < L.length) from hlt)
      generalize L.getD t ((0, 0, 0), []) = qq at *
      obtain ⟨q, qL⟩ := qq
      have ea := rn_slv ra
      have eb := rn_slv rb
      have bd : Below W0.heap.size W0 W0.drew := (Below.refl _ _).drew
      have B0 := bt hB.out bd
      have SI := (show Hid (∀ W : World, Below W0.heap.size W0 W → Calls Try.prog 21 #[.slice (some ⟨ba.1, 0, none⟩) qL.length ba.2.2, .slice (some ⟨bb.1, 0, none⟩) qL.length bb.2.2] W fun e w' => e = .returned (.bool true) ∧ Below W.heap.size W w') from fun W hW => by
        have h1 := ra.below (bt hB.out hW)
        have h2 := rb.below (bt hB.out hW)
        unfold slv at h1 h2
        rw [ea] at h1
        rw [eb] at h2
        exact sameInts_any h1 h2 HQL.out)
      unfold slv at a3 b3
      rw [ea] at a3
      rw [eb] at b3
      simp only at a0 a1 a2 a3 b0 b1 b2 b3
      replace a0 := cell_below a0 B0
      replace a1 := cell_below a1 B0
      replace a2 := cell_below a2 B0
      replace a3 := cell_below a3 B0
      replace b0 := cell_below b0 B0
      replace b1 := cell_below b1 B0
      replace b2 := cell_below b2 B0
      replace b3 := cell_below b3 B0
      have e1 : (q.1 == q.1) = true := by simp
      have e2 : (q.2.1 == q.2.1) = true := by simp
      have e3 : (q.2.2 != q.2.2) = false := by simp
      clear ra rb ea eb hlt ht B0
      go_wp2_with (fail)
      refine wp_region_held_drew (S := fun X => X.cell? ⟨ga, oa + t * 4, none⟩ = some (.int .i64 q.1) ∧ X.cell? ⟨ga, oa + t * 4 + 1, none⟩ = some (.int .i64 q.2.1) ∧ X.cell? ⟨ga, oa + t * 4 + 2, none⟩ = some (.int .i64 q.2.2) ∧ X.cell? ⟨ga, oa + t * 4 + 3, none⟩ = some (.slice (some ⟨ba.1, 0, none⟩) qL.length ba.2.2) ∧ X.cell? ⟨gb, ob + t * 4, none⟩ = some (.int .i64 q.1) ∧ X.cell? ⟨gb, ob + t * 4 + 1, none⟩ = some (.int .i64 q.2.1) ∧ X.cell? ⟨gb, ob + t * 4 + 2, none⟩ = some (.int .i64 q.2.2) ∧ X.cell? ⟨gb, ob + t * 4 + 3, none⟩ = some (.slice (some ⟨bb.1, 0, none⟩) qL.length bb.2.2)) (by kernel_rfl) ⟨a0, a1, a2, a3, b0, b1, b2, b3⟩ (fun hHeld => ?_)
      clear a0 a1 a2 a3 b0 b1 b2 b3
      refine takeHr (i := 0) (d := some 17) (v := ?v1) rfl rfl (by kernel_rfl) (by kernel_rfl) (by kernel_rfl) (fun _ _ _ h => h) (Or.inl ⟨by rfl, ?hy1⟩) hHeld ?rest1
      case hy1 => intro X hSw; obtain ⟨g0, g1, g2, g3, g4, g5, g6, g7⟩ := hSw; go_simp <;> with_reducible rfl
      try simp only [Act.put, List.setIfInBounds_toArray, List.set_cons_zero, List.set_cons_succ]
      refine takeHr (i := 1) (d := some 18) (v := ?v2) rfl rfl (by kernel_rfl) (by kernel_rfl) (by kernel_rfl) (fun _ _ _ h => h) (Or.inl ⟨by rfl, ?hy2⟩) hHeld ?rest2
      case hy2 => intro X hSw; obtain ⟨g0, g1, g2, g3, g4, g5, g6, g7⟩ := hSw; go_simp <;> with_reducible rfl
      try simp only [Act.put, List.setIfInBounds_toArray, List.set_cons_zero, List.set_cons_succ]
      refine takeHr (i := 2) (d := some 19) (v := .pointer (some ⟨ga, oa + t * 4, none⟩)) rfl rfl (by kernel_rfl) (by kernel_rfl) (by kernel_rfl) (fun _ _ _ h => h) (Or.inl ⟨by rfl, ?hy3⟩) hHeld ?rest3
      case hy3 => intro X hSw; obtain ⟨g0, g1, g2, g3, g4, g5, g6, g7⟩ := hSw; go_simp <;> with_reducible rfl
      try simp only [Act.put, List.setIfInBounds_toArray, List.set_cons_zero, List.set_cons_succ]
      refine takeHr (i := 3) (d := some 20) (v := ?v4) rfl rfl (by kernel_rfl) (by kernel_rfl) (by kernel_rfl) (fun _ _ _ h => h) (Or.inl ⟨by rfl, ?hy4⟩) hHeld ?rest4
      case hy4 => intro X hSw; obtain ⟨g0, g1, g2, g3, g4, g5, g6, g7⟩ := hSw; go_simp <;> with_reducible rfl
      try simp only [Act.put, List.setIfInBounds_toArray, List.set_cons_zero, List.set_cons_succ]
      refine takeHr (i := 4) (d := some 21) (v := .agg #[.int .i64 q.1, .int .i64 q.2.1]) rfl rfl (by kernel_rfl) (by kernel_rfl) (by kernel_rfl) (fun _ _ _ h => h) (Or.inl ⟨by rfl, ?hy5⟩) hHeld ?rest5
      case hy5 => intro X hSw; obtain ⟨g0, g1, g2, g3, g4, g5, g6, g7⟩ := hSw; go_simp <;> with_reducible rfl
      try simp only [Act.put, List.setIfInBounds_toArray, List.set_cons_zero, List.set_cons_succ]
      refine takeHr (i := 5) (d := some 22) (v := ?v6) rfl rfl (by kernel_rfl) (by kernel_rfl) (by kernel_rfl) (fun _ _ _ h => h) (Or.inl ⟨by rfl, ?hy6⟩) hHeld ?rest6
      case hy6 => intro X hSw; obtain ⟨g0, g1, g2, g3, g4, g5, g6, g7⟩ := hSw; go_simp <;> with_reducible rfl
      try simp only [Act.put, List.setIfInBounds_toArray, List.set_cons_zero, List.set_cons_succ]
      refine takeHr (i := 6) (d := some 23) (v := ?v7) rfl rfl (by kernel_rfl) (by kernel_rfl) (by kernel_rfl) (fun _ _ _ h => h) (Or.inl ⟨by rfl, ?hy7⟩) hHeld ?rest7
      case hy7 => intro X hSw; obtain ⟨g0, g1, g2, g3, g4, g5, g6, g7⟩ := hSw; go_simp <;> with_reducible rfl
      try simp only [Act.put, List.setIfInBounds_toArray, List.set_cons_zero, List.set_cons_succ]
      refine takeHr (i := 7) (d := some 24) (v := .pointer (some ⟨gb, ob + t * 4, none⟩)) rfl rfl (by kernel_rfl) (by kernel_rfl) (by kernel_rfl) (fun _ _ _ h => h) (Or.inl ⟨by rfl, ?hy8⟩) hHeld ?rest8
      case hy8 => intro X hSw; obtain ⟨g0, g1, g2, g3, g4, g5, g6, g7⟩ := hSw; go_simp <;> with_reducible rfl
      try simp only [Act.put, List.setIfInBounds_toArray, List.set_cons_zero, List.set_cons_succ]
      refine takeHr (i := 8) (d := some 25) (v := ?v9) rfl rfl (by kernel_rfl) (by kernel_rfl) (by kernel_rfl) (fun _ _ _ h => h) (Or.inl ⟨by rfl, ?hy9⟩) hHeld ?rest9
      case hy9 => intro X hSw; obtain ⟨g0, g1, g2, g3, g4, g5, g6, g7⟩ := hSw; go_simp <;> with_reducible rfl
      try simp only [Act.put, List.setIfInBounds_toArray, List.set_cons_zero, List.set_cons_succ]
      refine takeHr (i := 9) (d := some 26) (v := .agg #[.int .i64 q.1, .int .i64 q.2.1]) rfl rfl (by kernel_rfl) (by kernel_rfl) (by kernel_rfl) (fun _ _ _ h => h) (Or.inl ⟨by rfl, ?hy10⟩) hHeld ?rest10
      case hy10 => intro X hSw; obtain ⟨g0, g1, g2, g3, g4, g5, g6, g7⟩ := hSw; go_simp <;> with_reducible rfl
      try simp only [Act.put, List.setIfInBounds_toArray, List.set_cons_zero, List.set_cons_succ]
      refine takeHr (i := 10) (d := some 27) (v := .bool false) rfl rfl (by kernel_rfl) (by kernel_rfl) (by kernel_rfl) (fun _ _ _ h => h) (Or.inl ⟨by rfl, ?hy11⟩) hHeld ?rest11
      case hy11 => intro X hSw; obtain ⟨g0, g1, g2, g3, g4, g5, g6, g7⟩ := hSw; go_simp <;> with_reducible rfl
      try simp only [Act.put, List.setIfInBounds_toArray, List.set_cons_zero, List.set_cons_succ]
      refine takeHr (i := 11) (d := some 28) (v := ?v12) rfl rfl (by kernel_rfl) (by kernel_rfl) (by kernel_rfl) (fun _ _ _ h => h) (Or.inl ⟨by rfl, ?hy12⟩) hHeld ?rest12
      case hy12 => intro X hSw; obtain ⟨g0, g1, g2, g3, g4, g5, g6, g7⟩ := hSw; go_simp <;> with_reducible rfl
      try simp only [Act.put, List.setIfInBounds_toArray, List.set_cons_zero, List.set_cons_succ]
      refine takeHr (i := 12) (d := some 29) (v := ?v13) rfl rfl (by kernel_rfl) (by kernel_rfl) (by kernel_rfl) (fun _ _ _ h => h) (Or.inl ⟨by rfl, ?hy13⟩) hHeld ?rest13
      case hy13 => intro X hSw; obtain ⟨g0, g1, g2, g3, g4, g5, g6, g7⟩ := hSw; go_simp <;> with_reducible rfl
      try simp only [Act.put, List.setIfInBounds_toArray, List.set_cons_zero, List.set_cons_succ]
      refine takeHr (i := 13) (d := some 30) (v := ?v14) rfl rfl (by kernel_rfl) (by kernel_rfl) (by kernel_rfl) (fun _ _ _ h => h) (Or.inl ⟨by rfl, ?hy14⟩) hHeld ?rest14
      case hy14 => intro X hSw; obtain ⟨g0, g1, g2, g3, g4, g5, g6, g7⟩ := hSw; go_simp <;> with_reducible rfl
      try simp only [Act.put, List.setIfInBounds_toArray, List.set_cons_zero, List.set_cons_succ]
      refine takeHr (i := 14) (d := some 31) (v := .pointer (some ⟨ga, oa + t * 4, none⟩)) rfl rfl (by kernel_rfl) (by kernel_rfl) (by kernel_rfl) (fun _ _ _ h => h) (Or.inl ⟨by rfl, ?hy15⟩) hHeld ?rest15
      case hy15 => intro X hSw; obtain ⟨g0, g1, g2, g3, g4, g5, g6, g7⟩ := hSw; go_simp <;> with_reducible rfl
      try simp only [Act.put, List.setIfInBounds_toArray, List.set_cons_zero, List.set_cons_succ]
      refine takeHr (i := 15) (d := some 32) (v := ?v16) rfl rfl (by kernel_rfl) (by kernel_rfl) (by kernel_rfl) (fun _ _ _ h => h) (Or.inl ⟨by rfl, ?hy16⟩) hHeld ?rest16
      case hy16 => intro X hSw; obtain ⟨g0, g1, g2, g3, g4, g5, g6, g7⟩ := hSw; go_simp <;> with_reducible rfl
      try simp only [Act.put, List.setIfInBounds_toArray, List.set_cons_zero, List.set_cons_succ]
      refine takeHr (i := 16) (d := some 33) (v := ?v17) rfl rfl (by kernel_rfl) (by kernel_rfl) (by kernel_rfl) (fun _ _ _ h => h) (Or.inl ⟨by rfl, ?hy17⟩) hHeld ?rest17
      case hy17 => intro X hSw; obtain ⟨g0, g1, g2, g3, g4, g5, g6, g7⟩ := hSw; go_simp <;> with_reducible rfl
      try simp only [Act.put, List.setIfInBounds_toArray, List.set_cons_zero, List.set_cons_succ]
      refine takeHr (i := 17) (d := some 34) (v := ?v18) rfl rfl (by kernel_rfl) (by kernel_rfl) (by kernel_rfl) (fun _ _ _ h => h) (Or.inl ⟨by rfl, ?hy18⟩) hHeld ?rest18
      case hy18 => intro X hSw; obtain ⟨g0, g1, g2, g3, g4, g5, g6, g7⟩ := hSw; go_simp <;> with_reducible rfl
      try simp only [Act.put, List.setIfInBounds_toArray, List.set_cons_zero, List.set_cons_succ]
      refine takeHr (i := 18) (d := some 35) (v := ?v19) rfl rfl (by kernel_rfl) (by kernel_rfl) (by kernel_rfl) (fun _ _ _ h => h) (Or.inl ⟨by rfl, ?hy19⟩) hHeld ?rest19
      case hy19 => intro X hSw; obtain ⟨g0, g1, g2, g3, g4, g5, g6, g7⟩ := hSw; go_simp <;> with_reducible rfl
      try simp only [Act.put, List.setIfInBounds_toArray, List.set_cons_zero, List.set_cons_succ]
      refine takeHr (i := 19) (d := some 36) (v := .pointer (some ⟨gb, ob + t * 4, none⟩)) rfl rfl (by kernel_rfl) (by kernel_rfl) (by kernel_rfl) (fun _ _ _ h => h) (Or.inl ⟨by rfl, ?hy20⟩) hHeld ?rest20
      case hy20 => intro X hSw; obtain ⟨g0, g1, g2, g3, g4, g5, g6, g7⟩ := hSw; go_simp <;> with_reducible rfl
      try simp only [Act.put, List.setIfInBounds_toArray, List.set_cons_zero, List.set_cons_succ]
      refine takeHr (i := 20) (d := some 37) (v := ?v21) rfl rfl (by kernel_rfl) (by kernel_rfl) (by kernel_rfl) (fun _ _ _ h => h) (Or.inl ⟨by rfl, ?hy21⟩) hHeld ?rest21
      case hy21 => intro X hSw; obtain ⟨g0, g1, g2, g3, g4, g5, g6, g7⟩ := hSw; go_simp <;> with_reducible rfl
      try simp only [Act.put, List.setIfInBounds_toArray, List.set_cons_zero, List.set_cons_succ]
      refine takeHr (i := 21) (d := some 38) (v := ?v22) rfl rfl (by kernel_rfl) (by kernel_rfl) (by kernel_rfl) (fun _ _ _ h => h) (Or.inl ⟨by rfl, ?hy22⟩) hHeld ?rest22
      case hy22 => intro X hSw; obtain ⟨g0, g1, g2, g3, g4, g5, g6, g7⟩ := hSw; go_simp <;> with_reducible rfl
      try simp only [Act.put, List.setIfInBounds_toArray, List.set_cons_zero, List.set_cons_succ]
      refine takeHr (i := 22) (d := some 39) (v := .bool false) rfl rfl (by kernel_rfl) (by kernel_rfl) (by kernel_rfl) (fun _ _ _ h => h) (Or.inl ⟨by rfl, ?hy23⟩) hHeld ?rest23
      case hy23 => intro X hSw; obtain ⟨g0, g1, g2, g3, g4, g5, g6, g7⟩ := hSw; go_simp <;> with_reducible rfl
      try simp only [Act.put, List.setIfInBounds_toArray, List.set_cons_zero, List.set_cons_succ]
      refine takeHr (i := 23) (d := some 40) (v := .bool false) rfl rfl (by kernel_rfl) (by kernel_rfl) (by kernel_rfl) (fun _ _ _ h => h) (Or.inl ⟨by rfl, ?hy24⟩) hHeld ?rest24
      case hy24 => intro X hSw; obtain ⟨g0, g1, g2, g3, g4, g5, g6, g7⟩ := hSw; go_simp <;> with_reducible rfl
      try simp only [Act.put, List.setIfInBounds_toArray, List.set_cons_zero, List.set_cons_succ]
      refine takeHr (i := 24) (d := some 41) (v := ?v25) rfl rfl (by kernel_rfl) (by kernel_rfl) (by kernel_rfl) (fun _ _ _ h => h) (Or.inl ⟨by rfl, ?hy25⟩) hHeld ?rest25
      case hy25 => intro X hSw; obtain ⟨g0, g1, g2, g3, g4, g5, g6, g7⟩ := hSw; go_simp <;> with_reducible rfl
      try simp only [Act.put, List.setIfInBounds_toArray, List.set_cons_zero, List.set_cons_succ]
      refine takeHr (i := 25) (d := some 42) (v := ?v26) rfl rfl (by kernel_rfl) (by kernel_rfl) (by kernel_rfl) (fun _ _ _ h => h) (Or.inl ⟨by rfl, ?hy26⟩) hHeld ?rest26
      case hy26 => intro X hSw; obtain ⟨g0, g1, g2, g3, g4, g5, g6, g7⟩ := hSw; go_simp <;> with_reducible rfl
      try simp only [Act.put, List.setIfInBounds_toArray, List.set_cons_zero, List.set_cons_succ]
      refine takeHr (i := 26) (d := some 43) (v := ?v27) rfl rfl (by kernel_rfl) (by kernel_rfl) (by kernel_rfl) (fun _ _ _ h => h) (Or.inl ⟨by rfl, ?hy27⟩) hHeld ?rest27
      case hy27 => intro X hSw; obtain ⟨g0, g1, g2, g3, g4, g5, g6, g7⟩ := hSw; go_simp <;> with_reducible rfl
      try simp only [Act.put, List.setIfInBounds_toArray, List.set_cons_zero, List.set_cons_succ]
      refine takeHr (i := 27) (d := some 44) (v := .pointer (some ⟨ga, oa + t * 4, none⟩)) rfl rfl (by kernel_rfl) (by kernel_rfl) (by kernel_rfl) (fun _ _ _ h => h) (Or.inl ⟨by rfl, ?hy28⟩) hHeld ?rest28
      case hy28 => intro X hSw; obtain ⟨g0, g1, g2, g3, g4, g5, g6, g7⟩ := hSw; go_simp <;> with_reducible rfl
      try simp only [Act.put, List.setIfInBounds_toArray, List.set_cons_zero, List.set_cons_succ]
      refine takeHr (i := 28) (d := some 45) (v := ?v29) rfl rfl (by kernel_rfl) (by kernel_rfl) (by kernel_rfl) (fun _ _ _ h => h) (Or.inl ⟨by rfl, ?hy29⟩) hHeld ?rest29
      case hy29 => intro X hSw; obtain ⟨g0, g1, g2, g3, g4, g5, g6, g7⟩ := hSw; go_simp <;> with_reducible rfl
      try simp only [Act.put, List.setIfInBounds_toArray, List.set_cons_zero, List.set_cons_succ]
      refine takeHr (i := 29) (d := some 46) (v := ?v30) rfl rfl (by kernel_rfl) (by kernel_rfl) (by kernel_rfl) (fun _ _ _ h => h) (Or.inl ⟨by rfl, ?hy30⟩) hHeld ?rest30
      case hy30 => intro X hSw; obtain ⟨g0, g1, g2, g3, g4, g5, g6, g7⟩ := hSw; go_simp <;> with_reducible rfl
      try simp only [Act.put, List.setIfInBounds_toArray, List.set_cons_zero, List.set_cons_succ]
      refine takeHr (i := 30) (d := some 47) (v := ?v31) rfl rfl (by kernel_rfl) (by kernel_rfl) (by kernel_rfl) (fun _ _ _ h => h) (Or.inl ⟨by rfl, ?hy31⟩) hHeld ?rest31
      case hy31 => intro X hSw; obtain ⟨g0, g1, g2, g3, g4, g5, g6, g7⟩ := hSw; go_simp <;> with_reducible rfl
      try simp only [Act.put, List.setIfInBounds_toArray, List.set_cons_zero, List.set_cons_succ]
      refine takeHr (i := 31) (d := some 48) (v := ?v32) rfl rfl (by kernel_rfl) (by kernel_rfl) (by kernel_rfl) (fun _ _ _ h => h) (Or.inl ⟨by rfl, ?hy32⟩) hHeld ?rest32
      case hy32 => intro X hSw; obtain ⟨g0, g1, g2, g3, g4, g5, g6, g7⟩ := hSw; go_simp <;> with_reducible rfl
      try simp only [Act.put, List.setIfInBounds_toArray, List.set_cons_zero, List.set_cons_succ]
      refine takeHr (i := 32) (d := some 49) (v := .pointer (some ⟨gb, ob + t * 4, none⟩)) rfl rfl (by kernel_rfl) (by kernel_rfl) (by kernel_rfl) (fun _ _ _ h => h) (Or.inl ⟨by rfl, ?hy33⟩) hHeld ?rest33
      case hy33 => intro X hSw; obtain ⟨g0, g1, g2, g3, g4, g5, g6, g7⟩ := hSw; go_simp <;> with_reducible rfl
      try simp only [Act.put, List.setIfInBounds_toArray, List.set_cons_zero, List.set_cons_succ]
      refine takeHr (i := 33) (d := some 50) (v := ?v34) rfl rfl (by kernel_rfl) (by kernel_rfl) (by kernel_rfl) (fun _ _ _ h => h) (Or.inl ⟨by rfl, ?hy34⟩) hHeld ?rest34
      case hy34 => intro X hSw; obtain ⟨g0, g1, g2, g3, g4, g5, g6, g7⟩ := hSw; go_simp <;> with_reducible rfl
      try simp only [Act.put, List.setIfInBounds_toArray, List.set_cons_zero, List.set_cons_succ]
      refine takeHr (i := 34) (d := some 51) (v := ?v35) rfl rfl (by kernel_rfl) (by kernel_rfl) (by kernel_rfl) (fun _ _ _ h => h) (Or.inl ⟨by rfl, ?hy35⟩) hHeld ?rest35
      case hy35 => intro X hSw; obtain ⟨g0, g1, g2, g3, g4, g5, g6, g7⟩ := hSw; go_simp <;> with_reducible rfl
      try simp only [Act.put, List.setIfInBounds_toArray, List.set_cons_zero, List.set_cons_succ]
      refine wpAnyH_ready (rs := [35]) (by kernel_rfl) (by simp) ?_
      refine AllReadyH.cons (o := { dst := some 52, op := Op.call { callee := Callee.value (Operand.func 21), args := #[Operand.tmp 46, Operand.tmp 51], argTypes := #[39, 39] }, type := 4, pos := "law.go:102", after := #[{ on := 29, ground := Ground.data }, { on := 34, ground := Ground.data }, { on := 24, ground := Ground.chain }, { on := 24, ground := Ground.guard }], guard := some (24, false) }) rfl (fun Kq hKq => ?_) AllReadyH.nil
      · go_simp
        refine (SI.out _ bd).mono ?_
        rintro e w6 ⟨rfl, hb6⟩
        refine hKq.out _ _ ⟨cell_below hHeld.1 hb6, cell_below hHeld.2.1 hb6, cell_below hHeld.2.2.1 hb6, cell_below hHeld.2.2.2.1 hb6, cell_below hHeld.2.2.2.2.1 hb6, cell_below hHeld.2.2.2.2.2.1 hb6, cell_below hHeld.2.2.2.2.2.2.1 hb6, cell_below hHeld.2.2.2.2.2.2.2 hb6⟩ (fun hHeld => ?_)
        clear hKq Kq
        try simp only [Act.put, List.setIfInBounds_toArray, List.set_cons_zero, List.set_cons_succ]
        refine takeHr (i := 36) (d := some 53) (v := ?v37) rfl rfl (by kernel_rfl) (by kernel_rfl) (by kernel_rfl) (fun _ _ _ h => h) (Or.inl ⟨by rfl, ?hy37⟩) hHeld ?rest37
        case hy37 => intro X hSw; obtain ⟨g0, g1, g2, g3, g4, g5, g6, g7⟩ := hSw; go_simp <;> with_reducible rfl
        try simp only [Act.put, List.setIfInBounds_toArray, List.set_cons_zero, List.set_cons_succ]
        refine takeHr (i := 37) (d := some 54) (v := ?v38) rfl rfl (by kernel_rfl) (by kernel_rfl) (by kernel_rfl) (fun _ _ _ h => h) (Or.inl ⟨by rfl, ?hy38⟩) hHeld ?rest38
        case hy38 => intro X hSw; obtain ⟨g0, g1, g2, g3, g4, g5, g6, g7⟩ := hSw; go_simp <;> with_reducible rfl
        try simp only [Act.put, List.setIfInBounds_toArray, List.set_cons_zero, List.set_cons_succ]
        refine wpAnyH_done (by kernel_rfl) ?_ _
        go_wp2_with (fail)
        go_roundw
        case rel => exact ⟨t + 1, HT.out, by first | rw [WT.out] | go_num, bt hB.out (bt bd hb6)⟩
        case measure => first | (rw [WT.out]; exact meas_v17 HT.out) | exact meas_v17 HT.out
    · obtain rfl : t = L.length := by omega
      have hnn : ¬ ((L.length : Int) < (L.length : Int)) := by omega
      go_wp2_with (fail)
      go_ret
      exact ⟨rfl, hB.out⟩
end
end Go.Proofs.Ytcoegbbhmdbafaa
