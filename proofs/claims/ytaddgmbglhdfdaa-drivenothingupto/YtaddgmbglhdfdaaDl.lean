/-
  bytes.Clone, Read, New.
-/
import Derived.Test.YtaddgmbglhdfdaaDk
namespace Go.Proofs.Ytaddgmbglhdfdaa
open Go.RowKit Go.Maps
theorem ob_up {w : World} {a b : Nat} {v : Value} {x : Tx} (h : Ob w b v x) (hb : a ≤ b) : Ob w a v x := by
  refine ⟨h.1, ?_⟩
  rcases h.2 with h1 | ⟨g, cap, c, hv, hg, hh⟩
  · exact .inl h1
  · exact .inr ⟨g, cap, c, hv, Nat.le_trans hb hg, hh⟩
theorem own_new (w : World) : (w.alloc (.cells #[] 5)).ownsRow w.heap.size 5 1 (.slice (some ⟨w.heap.size, 0, none⟩) 0 0) 0 [] :=
  ⟨rfl, .inr ⟨w.heap.size, 0, #[], rfl, Nat.le_refl _, heap_alloc_new w _, Nat.le_refl _, by unfold maxLen; omega, rfl, rfl⟩⟩
section
attribute [local irreducible] Calls
set_option maxRecDepth 1000000 in
theorem cloneB_nil (w : World) : Calls Try.prog 67 #[.slice none 0 0] w fun e w' => e = .returned (.slice none 0 0) ∧ w' = w := by
  have qT : ∀ (w : World) (a : Option Addr) (n c : Nat), (binOp .eql 26 (.slice a n c) (.slice none 0 0)).run Try.prog w = .ok (.bool a.isNone) w := fun w a n c => by simp only [binOp]; simp [run_equal_slice_nil w _ _ a n c Try.underlying26]
  go_enter Try.func67, Try.ntmps67
  go_wp2
  go_ret
  exact ⟨rfl, rfl⟩
set_option maxRecDepth 1000000 in
theorem cloneB_some {w : World} (g o n c : Nat) (d : Tx) (hn : d.length = n) (hm : n ≤ 140737488355328) (hc : ∀ i, i < d.length → w.cell? ⟨g, o + i, none⟩ = some (u8v (d.getD i 0))) : Calls Try.prog 67 #[.slice (some ⟨g, o, none⟩) n c] w fun e w' => ∃ v, e = .returned v ∧ Ob w' w.heap.size v d ∧ Below w.heap.size w w' := by
  have qT : ∀ (w : World) (a : Option Addr) (n c : Nat), (binOp .eql 26 (.slice a n c) (.slice none 0 0)).run Try.prog w = .ok (.bool a.isNone) w := fun w a n c => by simp only [binOp]; simp [run_equal_slice_nil w _ _ a n c Try.underlying26]
  obtain ⟨i0, hi0, hz0, hz1, hz2⟩ := info_parts info5
  have HC := (show Hid _ from app_src (z := 0) ((Below.refl _ w).alloc (Nat.le_refl _) (.cells #[] 5)) hc)
  have HN := (show Hid (d.length = n) from hn)
  clear hc hn
  go_enter Try.func67, Try.ntmps67
  go_wp2_with (at_builtin; refine wpList_append_own_at _ rfl _ _ 26 rfl w.heap.size 5 i0 (.int .u8 0) 1 1 Try.underlying26 hi0 hz0 hz1 hz2 rfl (by decide) _ _ _ rfl (own_new w) ⟨g, o, none⟩ n c (d.map u8v) rfl (by simp [HN.out]) HC.out (app_one d) (by unfold maxLen; omega) (by omega) (by simp) ?_; intro v' w3 hown' hg3 _ _)
  go_ret
  have al := (Below.refl _ w).alloc (Nat.le_refl _) (.cells #[] 5)
  refine ⟨_, rfl, ?_, al.grown hg3 al.size (fun k hk => Nat.le_of_eq (Option.some.inj (show some w.heap.size = some k from hk)))⟩
  unfold Ob
  rw [HN.out]
  simpa using hown'
theorem cloneB_any {w : World} {F : Nat → Prop} {b : Nat} {x : Bd} {v : Value} (h : BdAt w F b x v) (hm : x.data.length ≤ 140737488355328) : Calls Try.prog 67 #[v] w fun e w' => ∃ v', e = .returned v' ∧ Ob w' w.heap.size v' x.data ∧ Below w.heap.size w w' := by
  rcases h.row.2 with ⟨hv, h0⟩ | ⟨g, cap, c, hv, _, hh, _, _, hcs, ht⟩
  · rw [hv]
    refine (cloneB_nil w).mono ?_
    rintro e w' ⟨rfl, rfl⟩
    have : x.data = [] := List.length_eq_zero_iff.1 h0
    rw [this]
    exact ⟨_, rfl, World.ownsRow_nil _ _ _ _, Below.refl _ _⟩
  · rw [hv]
    refine cloneB_some g 0 _ cap x.data rfl hm (fun i hi => ?_)
    rw [Nat.zero_add, cell_of_row w g i _ _ _ hh]
    have : (x.data.map u8v)[i]? = some (u8v (x.data.getD i 0)) := by simp [hi]
    rw [← this, ← ht]
    simp [hi]
set_option maxRecDepth 1000000 in
theorem read_none (x : Tx) (w : World) : Calls Try.prog 50 #[.pointer none, encStr x] w fun e w' => e = .returned (.tuple #[.slice none 0 0, .int .i64 1]) ∧ Below w.heap.size w w' := by
  have hF := (show Hid _ from fun w => find_nil x w)
  go_enter Try.func50, Try.ntmps50
  go_wp2_with (go_at_call 45; refine (hF.out _).mono ?_; rintro e w1 ⟨rfl, hb⟩)
  go_ret2
  exact ⟨rfl, hb⟩
set_option maxHeartbeats 4000000 in
set_option maxRecDepth 1000000 in
theorem read_any {w : World} {db : Nat} {σ : Ds} {F : Nat → Prop} (h : DrAt w db σ F) (x : Tx) (hx : x.length ≤ 9223372036854775807) (hm : ∀ i, σ.find x = .inr i → (σ.body i).data.length ≤ 140737488355328) :
    Calls Try.prog 50 #[.pointer (some ⟨db, 0, none⟩), encStr x] w fun e w' => ∃ v, e = .returned (.tuple #[v, .int .i64 (σ.read x).1]) ∧ Ob w' w.heap.size v (σ.read x).2 ∧ Below w.heap.size w w' := by
  obtain ⟨hFd, hFw, m, rv, st, sf, pv, S, R⟩ := h
  have hF := (show Hid _ from find_any S R hFw x hx)
  unfold Ds.read
  cases hf : σ.find x with
  | inl e9 =>
    dsimp only
    rw [hf] at hF
    unfold fndv at hF
    have he := find_inl hf
    have g1 : ((e9 : Int) != 0) = true := by
      rcases he with rfl | rfl <;> rfl
    have g2 : ¬ (e9 : Int) = 0 := by rcases he with rfl | rfl <;> decide
    clear hm S R he hf hFw hFd
    go_enter Try.func50, Try.ntmps50
    go_wp2_with (go_at_call 45; refine hF.out.mono ?_; rintro e w1 ⟨rfl, hb⟩)
    go_ret2
    exact ⟨_, rfl, World.ownsRow_nil _ _ _ _, hb⟩
  | inr i =>
    dsimp only
    have hi := R.found hf
    have hl := hm i hf
    rw [hf] at hF
    unfold fndv ptv pta at hF
    simp only at hF
    have RB := (show Hid (∀ w1, Below w.heap.size w w1 → BdAt w1 F (m.getD i 0) (σ.body i) (rv i)) from fun w1 (hb : Below w.heap.size w w1) => (R.below hb).bod i hi)
    have HL := (show Hid _ from hl)
    generalize m.getD i 0 = q at *
    clear hm S R hf hFw hFd hi hl
    go_enter Try.func50, Try.ntmps50
    go_wp2_with (first
      | (go_at_call 45; refine hF.out.mono ?_; rintro e w1 ⟨rfl, hb⟩; have R1 := RB.out w1 hb; have b0 := R1.cells.1; have HB := (show Hid (_ ∧ _) from ⟨hb, R1⟩); clear R1 hb hF)
      | (go_at_call 67; refine (cloneB_any HB.out.2 HL.out).mono ?_; rintro e w2 ⟨v2, rfl, hO2, hb2⟩))
    go_ret2
    exact ⟨_, rfl, ob_up hO2 HB.out.1.size, bt HB.out.1 hb2⟩
end
end Go.Proofs.Ytaddgmbglhdfdaa
