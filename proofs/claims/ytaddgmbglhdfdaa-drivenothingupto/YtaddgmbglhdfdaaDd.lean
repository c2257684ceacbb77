/-
  find, follow.
-/
import Derived.Test.YtaddgmbglhdfdaaDc
namespace Go.Proofs.Ytaddgmbglhdfdaa
open Go.RowKit Go.Maps
/-- What find answers. -/
def fndv (m : List Nat) : Nat ⊕ Nat → Value
  | .inl e => .tuple #[.pointer none, .int .i64 e]
  | .inr i => .tuple #[ptv m (some i), .int .i64 0]
theorem one_cell (w : World) (x : Tx) (t : TypeId) : ∀ i, i < [x].length → (w.alloc (.cells #[encStr x] t)).cell? ⟨w.heap.size, i, none⟩ = some (encStr ([x].getD i [])) := by
  intro i hi
  have : i = 0 := by simpa using hi
  subst this
  rw [cell_of_row _ _ _ _ _ (0, 0) (heap_alloc_new w _)]; rfl
theorem two_cells (w : World) (x y : Tx) (t : TypeId) : ∀ i, i < [x, y].length → (w.alloc (.cells #[encStr x, encStr y] t)).cell? ⟨w.heap.size, i, none⟩ = some (encStr ([x, y].getD i [])) := by
  intro i hi
  match i, hi with
  | 0, _ => rw [cell_of_row _ _ _ _ _ (0, 0) (heap_alloc_new w _)]; rfl
  | 1, _ => rw [cell_of_row _ _ _ _ _ (0, 0) (heap_alloc_new w _)]; rfl
section
attribute [local irreducible] Calls
set_option maxRecDepth 1000000 in
theorem find_nil (x : Tx) (w : World) : Calls Try.prog 45 #[.pointer none, encStr x] w fun e w' => e = .returned (.tuple #[.pointer none, .int .i64 1]) ∧ Below w.heap.size w w' := by
  have hF := (show Hid _ from fun v w => fault_nil v w)
  go_enter Try.func45, Try.ntmps45
  go_wp2_with (go_at_call 42; refine (hF.out _ _).mono ?_; rintro e w1 ⟨rfl, rfl⟩)
  go_ret2
  exact ⟨rfl, (Below.refl _ _).alloc (Nat.le_refl _) _⟩
set_option maxRecDepth 1000000 in
theorem find_any {w : World} {db room : Nat} {used : Int} {F : Nat → Prop} {σ : Ds} {m : List Nat} {rv : Nat → Value} {st sf : Option Nat} {pv : Value} (S : StAt w db room used st sf pv) (R : Rest w F σ m rv st sf pv) (hF : ∀ b, F b → b < w.heap.size) (x : Tx) (hx : x.length ≤ 9223372036854775807) :
    Calls Try.prog 45 #[.pointer (some ⟨db, 0, none⟩), encStr x] w fun e w' => e = .returned (fndv m (σ.find x)) ∧ Below w.heap.size w w' := by
  have al := (Below.refl _ w).alloc (Nat.le_refl _) (.cells #[encStr x] 9)
  have hD : DrAt w db σ F → True := fun _ => trivial
  clear hD
  have hfl := (show Hid _ from fault_any ⟨db, 0, none⟩ w.heap.size 1 [x] _ (by simp) (by simpa using hx) (one_cell w x 9))
  have c2 := cell_below (S.cell).2.2.1 al
  have R1 : Rest (w.alloc (.cells #[encStr x] 9)) F σ m rv st sf pv := R.same (fun b o hb _ _ => al.block b (hF b hb))
  have hlk := fun h => (R1.look (x := x) h).1
  clear R R1 S
  unfold Ds.find
  have hfe : flt [x] = if isN x then 0 else 91 := by simp [flt]
  rw [hfe] at hfl
  by_cases hN : isN x = true
  · rw [if_pos hN] at hfl ⊢
    have hx1 : x.length ≤ maxLen := by
      unfold isN at hN
      simp at hN
      unfold maxLen
      omega
    have hl := hlk hx1
    clear hlk hfe
    cases hk : lk σ.st x with
    | none =>
      rw [hk] at hl
      unfold ptv pta at hl
      go_enter Try.func45, Try.ntmps45
      go_wp2_with (go_at_call 42; refine hfl.out.mono ?_; rintro e w1 ⟨rfl, rfl⟩)
      go_ret2
      exact ⟨rfl, al⟩
    | some i =>
      rw [hk] at hl
      unfold ptv pta at hl
      go_enter Try.func45, Try.ntmps45
      go_wp2_with (go_at_call 42; refine hfl.out.mono ?_; rintro e w1 ⟨rfl, rfl⟩)
      go_ret2
      exact ⟨rfl, al⟩
  · rw [if_neg hN] at hfl ⊢
    clear hlk hfe
    go_enter Try.func45, Try.ntmps45
    go_wp2_with (go_at_call 42; refine hfl.out.mono ?_; rintro e w1 ⟨rfl, rfl⟩)
    go_ret2
    exact ⟨rfl, al⟩
end
end Go.Proofs.Ytaddgmbglhdfdaa
