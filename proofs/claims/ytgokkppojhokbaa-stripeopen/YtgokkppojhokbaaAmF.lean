/-
  'addMultiple'.
-/
import Derived.Test.YtgokkppojhokbaaFp
import Derived.Test.YtgokkppojhokbaaBu
namespace Go.Proofs.Ytgokkppojhokbaa
open Go.RowKit
theorem results_0 {fn : Func} (h : fn.results = #[]) (tmps : Array Value) (P : Program) (w : World) : (results fn tmps).run P w = .ok (.tuple #[]) w := results_none h tmps P w
theorem onE_congr {w : World} {t : TypeId} {g l : Nat} {f f' : Nat → BitVec 8} (h : Ov w t g (clE f) l) (e : ∀ j, j < l → f j = f' j) : Ov w t g (clE f') l := h.congr (fun j hj => by unfold clE; rw [e j hj])
theorem onE_cell {w : World} {t : TypeId} {g l : Nat} {f : Nat → BitVec 8} (h : Ov w t g (clE f) l) {j : Nat} (hj : j < l) : w.cell? ⟨g, j, none⟩ = some (.int .u8 (el (f j))) := h.cell hj
theorem onE_put {w : World} {t : TypeId} {g l : Nat} {f : Nat → BitVec 8} (h : Ov w t g (clE f) l) {j : Nat} (hj : j < l) (x : BitVec 8) : Ov (w.setCell ⟨g, j, none⟩ (.int .u8 (el (x)))) t g (clE (fun i => if i = j then x else f i)) l :=
  (h.set hj _).congr (fun i _ => by
    unfold clE
    by_cases e : i = j
    · simp [e]
    · simp [e])
section
attribute [local irreducible] Calls el Ov
set_option maxHeartbeats 4000000 in
set_option maxRecDepth 1000000 in
theorem addMulE_zero (l b2 o2 c2 : Nat) (x : BitVec 8) (hz : Hid (izE x = true)) (v1 : Value) (w : World) :
    Calls Try.prog 57 #[v1, .int .u8 (el x), .slice (some ⟨b2, o2, none⟩) l c2] w fun e w' => e = .returned (.tuple #[]) ∧ w' = w := by
  have HZ := (show Hid _ from fun w => isZeroE x w)
  rw [hz.out] at HZ
  go_enter Try.func57, Try.ntmps57
  go_wp2_with (refine (HZ.out _).mono ?_; rintro e w' ⟨rfl, h⟩; obtain rfl := h.symm)
  refine bodyPost_ret (results_0 rfl _ _ _) rfl ?_
  exact ⟨rfl, rfl⟩
set_option maxHeartbeats 4000000 in
set_option maxRecDepth 1000000 in
theorem addMulE_core (g l b2 o2 c1 c2 : Nat) (x : BitVec 8) (f d : Nat → BitVec 8) (hz : Hid (izE x = false)) (w : World) (hl : l ≤ 1000) (hc : l ≤ c1) (hO : Ov w 83 g (clE f) l) (hb2 : b2 < g)
    (H2 : Hid (∀ j, j < l → w.cell? ⟨b2, o2 + j, none⟩ = some (clE d j))) :
    Calls Try.prog 57 #[.slice (some ⟨g, 0, none⟩) l c1, .int .u8 (el x), .slice (some ⟨b2, o2, none⟩) l c2] w fun e w' => e = .returned (.tuple #[]) ∧ Ov w' 83 g (clE (fun j => plE (f j) (tiE x (d j)))) l ∧ But g w w' := by
  have HZ := (show Hid _ from fun w => isZeroE x w)
  rw [hz.out] at HZ
  go_enter Try.func57, Try.ntmps57
  go_wp2_with (refine (HZ.out _).mono ?_; rintro e w' ⟨rfl, h⟩; obtain rfl := h.symm)
  go_loopw [13] (fun i wr => ∃ k : Nat, k ≤ l ∧ i = .int .i64 k ∧ Ov wr 83 g (clE (fun j => if j < k then plE (f j) (tiE x (d j)) else f j)) l ∧ But g w wr) (fun i _ => l - (intOf i).toNat)
  case atStart => exact ⟨0, Nat.zero_le _, rfl, onE_congr hO (fun i _ => by show f i = if i < 0 then _ else f i; rw [if_neg (by omega)]), But.refl _ _⟩
  case round =>
    clear hO
    obtain ⟨k, hk, rfl, hO, hB⟩ := hrel
    by_cases hlt : k < l
    · have i1 : (k : Int) < (l : Int) := by omega
      have g1 : wr.cell? ⟨g, k, none⟩ = some (.int .u8 (el (f k))) := by rw [onE_cell hO hlt, if_neg (Nat.lt_irrefl k)]
      have g2 := hO.frozen k
      have g3 : wr.cell? ⟨b2, o2 + k, none⟩ = some (.int .u8 (el (d k))) := hB.cell (H2.out k hlt) (by show b2 ≠ g; omega)
      go_wp2
      go_region_with (first
        | (refine (timesE x (d k) _).mono ?_; rintro e w' ⟨rfl, h⟩; obtain rfl := h.symm)
        | (refine (plusE (f k) (tiE x (d k)) _).mono ?_; rintro e w' ⟨rfl, h⟩; obtain rfl := h.symm))
      all_goals
        go_wp2
        go_roundw
        case rel =>
          refine ⟨k + 1, by omega, by go_num, (onE_congr (onE_put hO hlt (plE (f k) (tiE x (d k)))) (fun j _ => ?_)).heap rfl, ?_⟩
          · show (if j = k then plE (f k) (tiE x (d k)) else if j < k then plE (f j) (tiE x (d j)) else f j) = if j < k + 1 then plE (f j) (tiE x (d j)) else f j
            by_cases e : j = k
            · subst e; rw [if_pos rfl, if_pos (by omega)]
            · rw [if_neg e]
              by_cases e2 : j < k
              · rw [if_pos e2, if_pos (by omega)]
              · rw [if_neg e2, if_neg (by omega)]
          · exact (hB.set k _).below (by have := hO.lt; simp; omega) (bdr _)
        case measure => simp [intOf]; omega
    · obtain rfl : k = l := by omega
      go_wp2
      (try simp only [Exit.inBlock, Exit.then])
      refine bodyPost_end (results_0 rfl _ _ _) rfl ?_
      exact ⟨rfl, onE_congr hO (fun j hj => by show (if j < k then _ else f j) = _; rw [if_pos hj]), hB⟩
end
theorem onB_congr {w : World} {t : TypeId} {g l : Nat} {f f' : Nat → Bool} (h : Ov w t g (clB f) l) (e : ∀ j, j < l → f j = f' j) : Ov w t g (clB f') l := h.congr (fun j hj => by unfold clB; rw [e j hj])
theorem onB_cell {w : World} {t : TypeId} {g l : Nat} {f : Nat → Bool} (h : Ov w t g (clB f) l) {j : Nat} (hj : j < l) : w.cell? ⟨g, j, none⟩ = some (.bool (f j)) := h.cell hj
theorem onB_put {w : World} {t : TypeId} {g l : Nat} {f : Nat → Bool} (h : Ov w t g (clB f) l) {j : Nat} (hj : j < l) (x : Bool) : Ov (w.setCell ⟨g, j, none⟩ (.bool (x))) t g (clB (fun i => if i = j then x else f i)) l :=
  (h.set hj _).congr (fun i _ => by
    unfold clB
    by_cases e : i = j
    · simp [e]
    · simp [e])
section
attribute [local irreducible] Calls el Ov
end
end Go.Proofs.Ytgokkppojhokbaa
/-
  'addMultiple' over the field of four.
-/
namespace Go.Proofs.Ytgokkppojhokbaa
open Go.RowKit
theorem onF_congr {w : World} {t : TypeId} {g l : Nat} {f f' : Nat → Bool × Bool} (h : Ov w t g (clF f) (l * 2)) (e : ∀ j, j < l → f j = f' j) : Ov w t g (clF f') (l * 2) := h.congr (fun j hj => by unfold clF; rw [e (j / 2) (by omega)])
theorem onF_cell {w : World} {t : TypeId} {g l : Nat} {f : Nat → Bool × Bool} (h : Ov w t g (clF f) (l * 2)) {j : Nat} (hj : j < l) : w.cell? ⟨g, j * 2, none⟩ = some (.bool (f j).1) ∧ w.cell? ⟨g, j * 2 + 1, none⟩ = some (.bool (f j).2) := by
  have h1 := h.cell (i := j * 2) (by omega)
  have h2 := h.cell (i := j * 2 + 1) (by omega)
  unfold clF at h1 h2
  rw [if_pos (by omega), show j * 2 / 2 = j by omega] at h1
  rw [if_neg (by omega), show (j * 2 + 1) / 2 = j by omega] at h2
  exact ⟨h1, h2⟩
theorem onF_put {w : World} {t : TypeId} {g l : Nat} {f : Nat → Bool × Bool} (h : Ov w t g (clF f) (l * 2)) {j : Nat} (hj : j < l) (x : Bool × Bool) : Ov ((w.setCell ⟨g, j * 2, none⟩ (.bool x.1)).setCell ⟨g, j * 2 + 1, none⟩ (.bool x.2)) t g (clF (fun i => if i = j then x else f i)) (l * 2) := by
  refine ((h.set (k := j * 2) (by omega) (.bool x.1)).set (k := j * 2 + 1) (by omega) (.bool x.2)).congr (fun i _ => ?_)
  unfold clF
  show (if i = j * 2 + 1 then Value.bool x.2 else if i = j * 2 then Value.bool x.1 else .bool (if i % 2 = 0 then (f (i / 2)).1 else (f (i / 2)).2)) = .bool (if i % 2 = 0 then (if i / 2 = j then x else f (i / 2)).1 else (if i / 2 = j then x else f (i / 2)).2)
  by_cases e : i = j * 2 + 1
  · rw [if_pos e, if_neg (by omega), if_pos (by omega)]
  · rw [if_neg e]
    by_cases e2 : i = j * 2
    · rw [if_pos e2, if_pos (by omega), if_pos (by omega)]
    · have hne : ¬ i / 2 = j := by omega
      rw [if_neg e2, if_neg hne]
section
attribute [local irreducible] Calls el Ov
end
end Go.Proofs.Ytgokkppojhokbaa
