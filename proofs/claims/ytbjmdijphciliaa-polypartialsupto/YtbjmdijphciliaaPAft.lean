/-
  'after': what follows in Euclid's row.
-/
import Derived.Test.YtbjmdijphciliaaPDivb
import Derived.Test.YtbjmdijphciliaaPTimes
import Derived.Test.YtbjmdijphciliaaJoinb
import Derived.Test.YtbjmdijphciliaaEu
import Derived.Deep.RegionHeld3
namespace Go.Proofs.Ytbjmdijphciliaa
open Go.RowKit
theorem Rs.low {t : TypeId} {B : Nat} {w : World} {v : Value} {xs : List (BitVec 8)} (h : Rs t B w v xs) (p : Addr) (u : Value) (hp : p.block < B) : Rs t B (w.setCell p u) v xs := by
  refine ⟨h.1, ?_⟩
  rcases h.2 with h1 | ⟨g, cap, cur, hv, hg, hh, hr⟩
  · exact .inl h1
  · exact .inr ⟨g, cap, cur, hv, hg, by rw [heap_setCell_other _ _ _ _ (by omega)]; exact hh, hr⟩
theorem Rs.form {t : TypeId} {B : Nat} {w : World} {v : Value} {xs : List (BitVec 8)} (h : Rs t B w v xs) : ∃ p c, v = .slice p xs.length c := by
  obtain ⟨p, c, e, _⟩ := h.sl
  exact ⟨p, c, e⟩
theorem tcell (w : World) (cs : Array Value) (t : TypeId) (i : Nat) (v : Value) (h : cs[i]? = some v) : (w.alloc (.cells cs t)).cell? ⟨w.heap.size, i, none⟩ = some v := by
  rw [cell_of_row _ _ _ _ _ (0, 0) (heap_alloc_new w _)]; exact h
theorem tfroz (w : World) (cs : Array Value) (t : TypeId) (i : Nat) : (w.alloc (.cells cs t)).frozen? ⟨w.heap.size, i, none⟩ = false := frozen_of_row _ _ _ _ _ (heap_alloc_new w _)
theorem fr_below {w w' : World} {p : Addr} {v : Value} (hc : w.cell? p = some v) (h : w.frozen? p = false) (hb : Below w.heap.size w w') : w'.frozen? p = false := by
  rw [World.frozen?_of_block (hb.block p.block (block_lt_of_cell hc))]; exact h
/-- What is held of 'after''s own variables. -/
def AfS (N : Nat) (u1 v1 u2 v2 : Value) (W : World) : Prop := W.cell? ⟨N, 1, none⟩ = some u1 ∧ W.cell? ⟨N, 2, none⟩ = some v1 ∧ W.cell? ⟨N + 1, 1, none⟩ = some u2 ∧ W.cell? ⟨N + 1, 2, none⟩ = some v2 ∧ W.cell? ⟨N + 1 + 1, 0, none⟩ = some (.slice none 0 0) ∧ W.cell? ⟨N + 1 + 1, 1, none⟩ = some (.slice none 0 0) ∧ W.cell? ⟨N + 1 + 1, 2, none⟩ = some (.slice none 0 0) ∧ W.frozen? ⟨N + 1 + 1, 0, none⟩ = false ∧ W.frozen? ⟨N + 1 + 1, 1, none⟩ = false ∧ W.frozen? ⟨N + 1 + 1, 2, none⟩ = false
theorem AfS.below {N : Nat} {u1 v1 u2 v2 : Value} {w w' : World} (h : AfS N u1 v1 u2 v2 w) (hb : Below w.heap.size w w') : AfS N u1 v1 u2 v2 w' := by
  obtain ⟨h1, h2, h3, h4, h5, h6, h7, h8, h9, h10⟩ := h
  exact ⟨cell_below h1 hb, cell_below h2 hb, cell_below h3 hb, cell_below h4 hb, cell_below h5 hb, cell_below h6 hb, cell_below h7 hb, fr_below h5 h8 hb, fr_below h6 h9 hb, fr_below h7 h10 hb⟩
theorem AfS.four {N : Nat} {u1 v1 u2 v2 : Value} {W : World} (h : AfS N u1 v1 u2 v2 W) : W.cell? ⟨N, 1, none⟩ = some u1 ∧ W.cell? ⟨N, 2, none⟩ = some v1 ∧ W.cell? ⟨N + 1, 1, none⟩ = some u2 ∧ W.cell? ⟨N + 1, 2, none⟩ = some v2 := ⟨h.1, h.2.1, h.2.2.1, h.2.2.2.1⟩
/-- What 'after' answers. -/
def AftPost (w : World) (a b : Tm) : Ending → World → Prop := fun e w' => ∃ s r x y z, e = .returned (.agg #[x, y, z]) ∧ IsDiv a.g b.g s r ∧ Rs 48 w.heap.size w' x (a.next b s r).g ∧ Rs 48 w.heap.size w' y (a.next b s r).u ∧ Rs 48 w.heap.size w' z (a.next b s r).v ∧ Below w.heap.size w w'
section
attribute [local irreducible] Calls el gm trim co Rs Sl mul add
set_option maxHeartbeats 8000000 in
set_option maxRecDepth 1000000 in
theorem after_any {w : World} {g1 u1 v1 g2 u2 v2 : Value} (a b : Tm) (hg1 : Sl w g1 a.g) (hu1 : Sl w u1 a.u) (hv1 : Sl w v1 a.v) (hg2 : Sl w g2 b.g) (hu2 : Sl w u2 b.u) (hv2 : Sl w v2 b.v)
    (h0 : trim b.g ≠ []) (m1 : Hid (a.g.length ≤ 281474976710656)) (m2 : Hid (b.g.length ≤ 281474976710656)) (m3 : Hid (a.u.length ≤ 281474976710656)) (m4 : Hid (a.v.length ≤ 281474976710656))
    (hs : Hid (∀ s r, IsDiv a.g b.g s r → s.length + b.u.length ≤ 281474976710656 ∧ s.length + b.v.length ≤ 281474976710656)) :
    Calls Try.prog 24 #[.agg #[g1, u1, v1], .agg #[g2, u2, v2]] w (AftPost w a b) := by
  obtain ⟨N, hN⟩ : ∃ N, w.heap.size = N := ⟨_, rfl⟩
  unfold AftPost
  rw [hN]
  go_enter Try.func24, Try.ntmps24
  have B0 : Below w.heap.size w (((w.alloc (.cells #[g1, u1, v1] 52)).alloc (.cells #[g2, u2, v2] 52)).alloc (.cells #[.slice none 0 0, .slice none 0 0, .slice none 0 0] 52)) := (((Below.refl _ _).alloc (Nat.le_refl _) _).alloc (by simp) _).alloc (by simp; omega) _
  have ha1 : Below (w.alloc (.cells #[g1, u1, v1] 52)).heap.size (w.alloc (.cells #[g1, u1, v1] 52)) (((w.alloc (.cells #[g1, u1, v1] 52)).alloc (.cells #[g2, u2, v2] 52)).alloc (.cells #[.slice none 0 0, .slice none 0 0, .slice none 0 0] 52)) := ((Below.refl _ _).alloc (Nat.le_refl _) _).alloc (by simp) _
  have ha2 : Below ((w.alloc (.cells #[g1, u1, v1] 52)).alloc (.cells #[g2, u2, v2] 52)).heap.size ((w.alloc (.cells #[g1, u1, v1] 52)).alloc (.cells #[g2, u2, v2] 52)) (((w.alloc (.cells #[g1, u1, v1] 52)).alloc (.cells #[g2, u2, v2] 52)).alloc (.cells #[.slice none 0 0, .slice none 0 0, .slice none 0 0] 52)) := (Below.refl _ _).alloc (Nat.le_refl _) _
  have b1 : (w.alloc (.cells #[g1, u1, v1] 52)).heap.size = N + 1 := by simp [hN]
  have b2 : ((w.alloc (.cells #[g1, u1, v1] 52)).alloc (.cells #[g2, u2, v2] 52)).heap.size = N + 1 + 1 := by simp [hN]
  obtain ⟨W0, hW0⟩ : ∃ W0, W0 = ((w.alloc (.cells #[g1, u1, v1] 52)).alloc (.cells #[g2, u2, v2] 52)).alloc (.cells #[.slice none 0 0, .slice none 0 0, .slice none 0 0] 52) := ⟨_, rfl⟩
  have b3 : W0.heap.size = N + 1 + 1 + 1 := by rw [hW0]; simp [hN]
  rw [← hW0] at B0 ha1 ha2
  have c1 : W0.cell? ⟨N, 1, none⟩ = some u1 := cell_below (by rw [← hN]; exact tcell w _ _ 1 u1 rfl) ha1
  have c2 : W0.cell? ⟨N, 2, none⟩ = some v1 := cell_below (by rw [← hN]; exact tcell w _ _ 2 v1 rfl) ha1
  have c3 : W0.cell? ⟨N + 1, 1, none⟩ = some u2 := cell_below (by rw [← b1]; exact tcell _ _ _ 1 u2 rfl) ha2
  have c4 : W0.cell? ⟨N + 1, 2, none⟩ = some v2 := cell_below (by rw [← b1]; exact tcell _ _ _ 2 v2 rfl) ha2
  have r0 : W0.cell? ⟨N + 1 + 1, 0, none⟩ = some (.slice none 0 0) := by rw [hW0, ← b2]; exact tcell _ _ _ 0 _ rfl
  have r1 : W0.cell? ⟨N + 1 + 1, 1, none⟩ = some (.slice none 0 0) := by rw [hW0, ← b2]; exact tcell _ _ _ 1 _ rfl
  have r2 : W0.cell? ⟨N + 1 + 1, 2, none⟩ = some (.slice none 0 0) := by rw [hW0, ← b2]; exact tcell _ _ _ 2 _ rfl
  have f0 : W0.frozen? ⟨N + 1 + 1, 0, none⟩ = false := by rw [hW0, ← b2]; exact tfroz _ _ _ 0
  have f1 : W0.frozen? ⟨N + 1 + 1, 1, none⟩ = false := by rw [hW0, ← b2]; exact tfroz _ _ _ 1
  have f2 : W0.frozen? ⟨N + 1 + 1, 2, none⟩ = false := by rw [hW0, ← b2]; exact tfroz _ _ _ 2
  have HD := (show Hid _ from pdivide_any (hg1.below B0) (hg2.below B0) m1.out m2.out h0)
  rw [hW0] at HD
  have E0 : Hid (W0 = ((w.alloc (.cells #[g1, u1, v1] 52)).alloc (.cells #[g2, u2, v2] 52)).alloc (.cells #[.slice none 0 0, .slice none 0 0, .slice none 0 0] 52)) := hW0
  have hu1' := hu1.below B0
  have hv1' := hv1.below B0
  have hu2' := hu2.below B0
  have hv2' := hv2.below B0
  clear ha1 ha2 b1 b2 hW0 hu1 hv1 hu2 hv2 hg1 hg2
  go_wp2_with (go_at_call 19; refine HD.out.mono ?_; rintro e w1 ⟨s, r, vs1, vr1, rfl, hdiv, hS, hR, hb⟩)
  rw [← E0.out] at hS hR hb
  obtain ⟨_, hb⟩ := hb
  have hlt := hs.out s r hdiv
  have ls1 : Hid (s.length ≤ 281474976710656) := by show _ ≤ _; omega
  have lb1 : Hid (b.u.length ≤ 281474976710656) := by show _ ≤ _; omega
  have lb2 : Hid (b.v.length ≤ 281474976710656) := by show _ ≤ _; omega
  have t1 : Hid ((trim s).length + (trim b.u).length ≤ 281474976710656) := by show _ ≤ _; have := trim_len s; have := trim_len b.u; omega
  have t2 : Hid ((trim s).length + (trim b.v).length ≤ 281474976710656) := by show _ ≤ _; have := trim_len s; have := trim_len b.v; omega
  have l1 : Hid ((trim (mul s b.u)).length ≤ 281474976710656) := by show _ ≤ _; rcases mul_len_le (s := s) (u := b.u) with h | h <;> omega
  have l2 : Hid ((trim (mul s b.v)).length ≤ 281474976710656) := by show _ ≤ _; rcases mul_len_le (s := s) (u := b.v) with h | h <;> omega
  have DD : Hid (IsDiv a.g b.g s r) := hdiv
  have BB : Hid (Below W0.heap.size W0 w1) := hb
  have HB0 : Hid (Below w.heap.size w W0) := B0
  have H3 : Hid (W0.heap.size = N + 1 + 1 + 1) := b3
  have HN : Hid (w.heap.size = N) := hN
  have K1 : AfS N u1 v1 u2 v2 w1 := AfS.below ⟨c1, c2, c3, c4, r0, r1, r2, f0, f1, f2⟩ hb
  have KH := (show Hid _ from K1)
  obtain ⟨k1, k2, k3, k4, s0, s1, s2, e0, e1, e2⟩ := K1
  have pu1 := hu1'.below hb
  have pv1 := hv1'.below hb
  have pu2 := hu2'.below hb
  have pv2 := hv2'.below hb
  have HS1 : Hid (Sl w1 vs1 s) := hS.sl
  obtain ⟨pr, cr, er⟩ := hR.form
  subst er
  have HR1 := (show Hid _ from hR)
  clear c1 c2 c3 c4 r0 r1 r2 f0 f1 f2 hlt hdiv hb B0 b3 hu1' hv1' hu2' hv2' HD E0 hs h0 hS hR
  have ne1 : ¬ N = N + 1 + 1 := by omega
  have ne2 : ¬ N + 1 + 1 = N := by omega
  clear s0 s1 s2 e0 e1 e2
  go_region_held3 (fun W => W.cell? ⟨N, 1, none⟩ = some u1 ∧ W.cell? ⟨N, 2, none⟩ = some v1 ∧ W.cell? ⟨N + 1, 1, none⟩ = some u2 ∧ W.cell? ⟨N + 1, 2, none⟩ = some v2) (first | exact AfS.four KH5.out | exact AfS.four KH4.out | exact AfS.four KH3.out | exact AfS.four KH2.out | go_keep)
    (first
      | (go_at_call 17; refine (ptimes_any (Sl.below HS1.out ((Below.refl _ _).drew)) (Sl.below pu2 ((Below.refl _ _).drew)) t1.out ls1.out lb1.out).mono ?_; rintro e w2 ⟨x2, rfl, hX2, hb2⟩; have B2 := bt ((Below.refl w1.heap.size w1).drew) hb2; have KH2 := (show Hid _ from AfS.below KH.out B2))
      | (go_at_call 16; refine (pplus_any (Sl.below pu1 B2) hX2.sl m3.out l1.out).mono ?_; rintro e w3 ⟨x3, rfl, hX3, hb3⟩; obtain ⟨p3, c3, e3⟩ := hX3.form; subst e3; have B3 := bt B2 hb3; have KH3 := (show Hid _ from AfS.below KH.out B3))
      | (go_at_call 17; refine (ptimes_any (Sl.below HS1.out B3) (Sl.below pv2 B3) t2.out ls1.out lb2.out).mono ?_; rintro e w4 ⟨x4, rfl, hX4, hb4⟩; have B4 := bt B3 hb4; have KH4 := (show Hid _ from AfS.below KH.out B4))
      | (go_at_call 16; refine (pplus_any (Sl.below pv1 B4) hX4.sl m4.out l2.out).mono ?_; rintro e w5 ⟨x5, rfl, hX5, hb5⟩; obtain ⟨p5, c5, e5⟩ := hX5.form; subst e5; have B5 := bt B4 hb5; have KH5 := (show Hid _ from AfS.below KH.out B5); obtain ⟨_, _, _, _, s05, s15, s25, e05, e15, e25⟩ := KH5.out))
  all_goals
    go_wp2
    have sz := H3.out
    have hB5 := B5.size
    have h23 := hb2.size
    have e5 : W0.heap.size ≤ w1.heap.size := BB.out.size
    have e1 : W0.heap.size ≤ w2.heap.size := Nat.le_trans e5 B2.size
    have e2 : W0.heap.size ≤ w3.heap.size := Nat.le_trans e5 B3.size
    have e4 : W0.heap.size ≤ w4.heap.size := Nat.le_trans e5 B4.size
    have RR := ((((HR1.out.below B5).low ⟨N + 1 + 1, 0, none⟩ (.slice pr r.length cr) (by show N + 1 + 1 < _; omega)).low ⟨N + 1 + 1, 1, none⟩ (.slice p3 (trim (add a.u (trim (mul s b.u)))).length c3) (by show N + 1 + 1 < _; omega)).low ⟨N + 1 + 1, 2, none⟩ (.slice p5 (trim (add a.v (trim (mul s b.v)))).length c5) (by show N + 1 + 1 < _; omega))
    have RU := (((((hX3.below (bt hb4 hb5)).low ⟨N + 1 + 1, 0, none⟩ (.slice pr r.length cr) (by show N + 1 + 1 < _; omega)).low ⟨N + 1 + 1, 1, none⟩ (.slice p3 (trim (add a.u (trim (mul s b.u)))).length c3) (by show N + 1 + 1 < _; omega)).low ⟨N + 1 + 1, 2, none⟩ (.slice p5 (trim (add a.v (trim (mul s b.v)))).length c5) (by show N + 1 + 1 < _; omega)))
    have RV := ((((hX5.low ⟨N + 1 + 1, 0, none⟩ (.slice pr r.length cr) (by show N + 1 + 1 < _; omega)).low ⟨N + 1 + 1, 1, none⟩ (.slice p3 (trim (add a.u (trim (mul s b.u)))).length c3) (by show N + 1 + 1 < _; omega)).low ⟨N + 1 + 1, 2, none⟩ (.slice p5 (trim (add a.v (trim (mul s b.v)))).length c5) (by show N + 1 + 1 < _; omega)))
    have hN2 := HN.out
    have BW : Below N w w5 := by rw [← hN2]; exact bt (bt HB0.out BB.out) B5
    refine bodyPost_ret (v := .agg #[.slice pr r.length cr, .slice p3 (trim (add a.u (trim (mul s b.u)))).length c3, .slice p5 (trim (add a.v (trim (mul s b.v)))).length c5]) (by simp [results, Try.results24, go_sem, s05, s15, s25]) rfl ⟨s, r, _, _, _, rfl, DD.out, RR.mono (by omega), RU.mono (by omega), RV.mono (by omega), ((BW.setCell (by show N ≤ N + 1 + 1; omega) _).setCell (by show N ≤ N + 1 + 1; omega) _).setCell (by show N ≤ N + 1 + 1; omega) _⟩
end
end Go.Proofs.Ytbjmdijphciliaa
