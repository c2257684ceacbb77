/-
  'New'; a code.
-/
import Derived.Test.YtmjobnabnkiakaaCn
namespace Go.Proofs.Ytmjobnabnkiakaa
open Go.RowKit
/-- v points to the code of k and m whose matrix is F. -/
def Cd (w : World) (v : Value) (k m : Nat) (F : Nat → Nat → BitVec 8) : Prop := ∃ cb p c, v = .pointer (some ⟨cb, 0, none⟩) ∧ w.cell? ⟨cb, 0, none⟩ = some (.int .i64 (k : Int)) ∧ w.cell? ⟨cb, 1, none⟩ = some (.slice p (k + m) c) ∧ k + m ≤ c ∧ NmE w (.slice p (k + m) c) (k + m) (fun _ => k) F
theorem Cd.below {w w' : World} {v : Value} {k m : Nat} {F : Nat → Nat → BitVec 8} (h : Cd w v k m F) (hb : Below w.heap.size w w') : Cd w' v k m F := by
  obtain ⟨cb, p, c, e, h1, h2, h4, h3⟩ := h
  exact ⟨cb, p, c, e, cell_below h1 hb, cell_below h2 hb, h4, h3.below hb⟩
theorem cd_new {w : World} {k m c : Nat} {p : Option Addr} {F : Nat → Nat → BitVec 8} (h : NmE w (.slice p (k + m) c) (k + m) (fun _ => k) F) (hc : k + m ≤ c) (t : TypeId) : Cd (w.alloc (.cells #[.int .i64 (k : Int), .slice p (k + m) c] t)) (.pointer (some ⟨w.heap.size, 0, none⟩)) k m F :=
  ⟨w.heap.size, p, c, rfl, by rw [cell_of_row _ _ _ _ _ (0, 0) (heap_alloc_new w _)]; rfl, by rw [cell_of_row _ _ _ _ _ (0, 0) (heap_alloc_new w _)]; rfl, hc, h.below ((Below.refl _ _).alloc (Nat.le_refl _) _)⟩
theorem nmE_form {w : World} {v : Value} {r : Nat} {l : Nat → Nat} {N : Nat → Nat → BitVec 8} (h : NmE w v r l N) : ∃ p c, v = .slice p r c := by obtain ⟨rows, h, _⟩ := h; exact h.form
section
attribute [local irreducible] Calls NmE Fac
set_option maxHeartbeats 4000000 in
set_option maxRecDepth 1000000 in
theorem new_ok (k m : Nat) (hm : 1 ≤ m) (hmk : m ≤ k) (hkm : k + m ≤ 255) (w : World) : Calls Try.prog 9 #[.int .i64 (k : Int), .int .i64 (m : Int)] w fun e w' => ∃ v F, e = .returned (.tuple #[v, .int .i64 0]) ∧ Cd w' v k m F ∧ Fac k F ∧ Below w.heap.size w w' := by
  have j1 : ¬ (m : Int) < 1 := by omega
  have j2 : ¬ (k : Int) < (m : Int) := by omega
  have j3 : ¬ 255 - (m : Int) < (k : Int) := by omega
  have e1 : wrap64 (255 - (m : Int)) = 255 - (m : Int) := by unfold wrap64; omega
  go_enter Try.func9, Try.ntmps9
  go_wp2_with (go_at_call 33; refine (factors_core k m (by omega) hm hkm w).mono ?_; rintro e w1 ⟨p1, c1, F, rfl, hc1, hN1, hF, hb1⟩)
  go_ret2
  exact ⟨_, F, rfl, cd_new hN1 hc1 _, hF, hb1.alloc hb1.size _⟩
end
end Go.Proofs.Ytmjobnabnkiakaa
