/-
  'addMultiple' over the field of four.
-/
import Derived.Test.YtchmggehbajebaaAm
namespace Go.Proofs.Ytchmggehbajebaa
open Go.RowKit
theorem onF_congr {w : World} {t : TypeId} {g l : Nat} {f f' : Nat → Bool × Bool} (h : Ov w t g (clF f) (l * 2)) (e : ∀ j, j < l → f j = f' j) : Ov w t g (clF f') (l * 2) := h.congr (fun j hj => by unfold clF; rw [e (j / 2) (by omega)])
theorem onF_cell {w : World} {t : TypeId} {g l : Nat} {f : Nat → Bool × Bool} (h : Ov w t g (clF f) (l * 2)) {j : Nat} (hj : j < l) : w.cell? ⟨g, j * 2, none⟩ = some (.bool (f j).1) ∧ w.cell? ⟨g, j * 2 + 1, none⟩ = some (.bool (f j).2) := by
  have h1 := h.cell (i := j * 2) (by omega)
  have h2 := h.cell (i := j * 2 + 1) (by omega)
  unfold clF at h1 h2
  rw [if_pos (by omega), show j * 2 / 2 = j by omega] at h1
  rw [if_neg (by omega), show (j * 2 + 1) / 2 = j by omega] at h2
  exact ⟨h1, h2⟩
theorem onF_put {w : World} {t : TypeId} {g l : Nat} {f : Nat → Bool × Bool} (h : Ov w t g (clF f) (l * 2)) {j : Nat} (hj : j < l) (x : Bool × Bool) : Ov ((w.setCell ⟨g, j * 2, none⟩ (.bool x.1)).setCell ⟨g, j * 2 + 1, none⟩ (.bool x.2)) t g (clF (fun i => if i = j then x else f i)) (l * 2) := by
  refine ((h.set (k := j * 2) (by omega) (.bool x.1)).set (k := j * 2 + 1) (by omega) (.bool x.2)).congr (fun i _ => ?_)
  unfold clF
  show (if i = j * 2 + 1 then Value.bool x.2 else if i = j * 2 then Value.bool x.1 else .bool (if i % 2 = 0 then (f (i / 2)).1 else (f (i / 2)).2)) = .bool (if i % 2 = 0 then (if i / 2 = j then x else f (i / 2)).1 else (if i / 2 = j then x else f (i / 2)).2)
  by_cases e : i = j * 2 + 1
  · rw [if_pos e, if_neg (by omega), if_pos (by omega)]
  · rw [if_neg e]
    by_cases e2 : i = j * 2
    · rw [if_pos e2, if_pos (by omega), if_pos (by omega)]
    · have hne : ¬ i / 2 = j := by omega
      rw [if_neg e2, if_neg hne]
section
attribute [local irreducible] Calls el Ov Two
set_option maxHeartbeats 4000000 in
set_option maxRecDepth 1000000 in
theorem addMulF_zero (l b2 o2 c2 : Nat) (x1 x2 : Bool) (hz : Hid (izF (x1, x2) = true)) (v1 : Value) (w : World) :
    Calls Try.prog 65 #[v1, .agg #[.bool x1, .bool x2], .slice (some ⟨b2, o2, none⟩) l c2] w fun e w' => e = .returned (.tuple #[]) ∧ Below w.heap.size w w' := by
  have HZ := (show Hid _ from fun w => isZeroF (x1, x2) w)
  rw [hz.out] at HZ
  have hb0 : Below w.heap.size w (w.alloc (.cells #[.bool x1, .bool x2] 47)) := (Below.refl _ _).alloc (Nat.le_refl _) _
  obtain ⟨q1, q2⟩ := (two_var w (x1, x2)).cells
  go_enter Try.func65, Try.ntmps65
  go_wp2_with (refine (HZ.out _).mono ?_; rintro e w1 ⟨rfl, hb1⟩)
  refine bodyPost_ret (results_0 rfl _ _ _) rfl ?_
  exact ⟨rfl, bt hb0 hb1⟩
set_option maxHeartbeats 8000000 in
set_option maxRecDepth 1000000 in
theorem addMulF_core (g l b2 o2 c1 c2 : Nat) (x1 x2 : Bool) (f d : Nat → Bool × Bool) (hz : Hid (izF (x1, x2) = false)) (w : World) (hl : l ≤ 1000) (hc : l ≤ c1) (hO : Ov w 47 g (clF f) (l * 2)) (hb2 : b2 < g)
    (H2 : Hid (∀ j, j < l * 2 → w.cell? ⟨b2, o2 + j, none⟩ = some (clF d j))) :
    Calls Try.prog 65 #[.slice (some ⟨g, 0, none⟩) l c1, .agg #[.bool x1, .bool x2], .slice (some ⟨b2, o2, none⟩) l c2] w fun e w' => e = .returned (.tuple #[]) ∧ Ov w' 47 g (clF (fun j => plF (f j) (tiF (x1, x2) (d j)))) (l * 2) ∧ But g w w' := by
  have HZ := (show Hid _ from fun w => isZeroF (x1, x2) w)
  rw [hz.out] at HZ
  have glt := hO.lt
  have hb0 : Below w.heap.size w (w.alloc (.cells #[.bool x1, .bool x2] 47)) := (Below.refl _ _).alloc (Nat.le_refl _) _
  have tq := two_var w (x1, x2)
  obtain ⟨q1, q2⟩ := tq.cells
  have TQ := (show Hid _ from tq)
  have neN : ¬ w.heap.size = g := by omega
  have HO0 : Hid (∀ W, Below w.heap.size w W → Ov W 47 g (clF f) (l * 2)) := fun W hW => hO.below hW
  clear hO tq
  go_enter Try.func65, Try.ntmps65
  go_wp2_with (refine (HZ.out _).mono ?_; rintro e w1 ⟨rfl, hb1⟩)
  have tq1 := (show Hid _ from Two.below TQ.out hb1)
  have hbw := (show Hid _ from bt hb0 hb1)
  clear q1 q2
  go_loopw [13] (fun i wr => ∃ k : Nat, k ≤ l ∧ i = .int .i64 k ∧ Ov wr 47 g (clF (fun j => if j < k then plF (f j) (tiF (x1, x2) (d j)) else f j)) (l * 2) ∧ Two wr w.heap.size (x1, x2) ∧ But g w wr) (fun i _ => l - (intOf i).toNat)
  case atStart => exact ⟨0, Nat.zero_le _, rfl, onF_congr (HO0.out _ hbw.out) (fun i _ => by show f i = if i < 0 then _ else f i; rw [if_neg (by omega)]), tq1.out, (But.refl g w).below (by omega) hbw.out⟩
  case round =>
    obtain ⟨k, hk, rfl, hO, tq, hB⟩ := hrel
    by_cases hlt : k < l
    · have i1 : (k : Int) < (l : Int) := by omega
      obtain ⟨g1, g1b⟩ := onF_cell hO hlt
      rw [if_neg (Nat.lt_irrefl k)] at g1 g1b
      have g2 := hO.frozen (k * 2)
      have g2b := hO.frozen (k * 2 + 1)
      obtain ⟨q1, q2⟩ := tq.cells
      have g3 : wr.cell? ⟨b2, o2 + k * 2, none⟩ = some (.bool (d k).1) := by
        rw [hB.cell (H2.out (k * 2) (by omega)) (by show b2 ≠ g; omega)]; unfold clF; rw [if_pos (by omega), show k * 2 / 2 = k by omega]
      have g4 : wr.cell? ⟨b2, o2 + k * 2 + 1, none⟩ = some (.bool (d k).2) := by
        rw [Nat.add_assoc, hB.cell (H2.out (k * 2 + 1) (by omega)) (by show b2 ≠ g; omega)]; unfold clF; rw [if_neg (by omega), show (k * 2 + 1) / 2 = k by omega]
      obtain ⟨W1, hW1⟩ : ∃ W1, W1 = wr.alloc (.cells #[.bool (d k).1, .bool (d k).2] 47) := ⟨_, rfl⟩
      have bb : Below wr.heap.size wr W1 := by rw [hW1]; exact (Below.refl _ _).alloc (Nat.le_refl _) _
      have tn : Two W1 wr.heap.size (d k) := by rw [hW1]; exact two_var wr (d k)
      have E1 : Hid (W1 = wr.alloc (.cells #[.bool (d k).1, .bool (d k).2] 47)) := hW1
      go_wp2
      rw [← E1.out]
      have hO1 := (show Hid _ from hO.below bb)
      have tq1 := (show Hid _ from tq.below bb)
      have tn1 := (show Hid _ from tn)
      have hB1 := (show Hid _ from hB.below (by have := hB.sz; omega) bb)
      obtain ⟨a1, a2⟩ := onF_cell hO1.out hlt
      rw [if_neg (Nat.lt_irrefl k)] at a1 a2
      obtain ⟨b1, b2'⟩ := Two.cells tq1.out
      obtain ⟨c1', c2'⟩ := Two.cells tn1.out
      have d1 := bdr W1
      clear g1 g1b g2 g2b q1 q2 g3 g4 hW1 bb tn hO tq hB
      go_region_with (first
        | (refine (timesF (x1, x2) (d k) _).mono ?_; rintro e w4 ⟨rfl, hb4⟩; have s4 := bt d1 hb4; have a14 := cell_below a1 s4; have a24 := cell_below a2 s4)
        | (refine (plusF (f k) (tiF (x1, x2) (d k)) _).mono ?_; rintro e w5 ⟨rfl, hb5⟩; have s5 := bt s4 hb5; have O5 := (show Hid _ from Ov.below hO1.out s5); obtain ⟨m1, m2⟩ := onF_cell O5.out hlt; have m3 := Ov.frozen O5.out (k * 2); have m4 := Ov.frozen O5.out (k * 2 + 1)))
      all_goals
        have T5 := Two.away (Two.below tq1.out s5) (p := ⟨g, k * 2, none⟩) (q := ⟨g, k * 2 + 1, none⟩) neN neN (.bool (plF (f k) (tiF (x1, x2) (d k))).1) (.bool (plF (f k) (tiF (x1, x2) (d k))).2)
        have P5 := onF_put O5.out hlt (plF (f k) (tiF (x1, x2) (d k)))
        have B5 := ((hB1.out.below (by have := hB1.out.sz; omega) s5).set (k * 2) (.bool (plF (f k) (tiF (x1, x2) (d k))).1)).set (k * 2 + 1) (.bool (plF (f k) (tiF (x1, x2) (d k))).2)
        have P6 := onF_congr (f' := fun j => if j < k + 1 then plF (f j) (tiF (x1, x2) (d j)) else f j) P5 (fun j _ => by
          show (if j = k then plF (f k) (tiF (x1, x2) (d k)) else if j < k then plF (f j) (tiF (x1, x2) (d j)) else f j) = if j < k + 1 then plF (f j) (tiF (x1, x2) (d j)) else f j
          by_cases e : j = k
          · subst e; rw [if_pos rfl, if_pos (by omega)]
          · rw [if_neg e]
            by_cases e2 : j < k
            · rw [if_pos e2, if_pos (by omega)]
            · rw [if_neg e2, if_neg (by omega)])
        go_wp2
        go_roundw
        case rel => exact ⟨k + 1, by omega, by go_num, P6, T5, B5⟩
        case measure => simp [intOf]; omega
    · obtain rfl : k = l := by omega
      go_wp2
      (try simp only [Exit.inBlock, Exit.then])
      refine bodyPost_end (results_0 rfl _ _ _) rfl ?_
      exact ⟨rfl, onF_congr hO (fun j hj => by show (if j < k then _ else f j) = _; rw [if_pos hj]), hB⟩
end
end Go.Proofs.Ytchmggehbajebaa
