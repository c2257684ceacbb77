/-
  Of kind int: same, Count, countOneMore, times.
-/
import Derived.Test.YtgconfcijmemmaaFc16
import Derived.Test.YtgconfcijmemmaaFd16
import Derived.Defers
import Derived.Recover
import Derived.WalkKit
import Derived.Below
import Derived.OwnWalk
import Derived.BigQuiet
namespace Go.Proofs.Ytgconfcijmemmaa
open Go.RowKit
/-- A slice reads so. -/
def IrAt (w : World) (a : Option Addr) (xs : List Int) : Prop := xs = [] ∨ ∃ b o, a = some ⟨b, o, none⟩ ∧ ∀ i, i < xs.length → w.cell? ⟨b, o + i, none⟩ = some (ivl (xs.getD i 0))
theorem IrAt.below {w w' : World} {a : Option Addr} {xs : List Int} (h : IrAt w a xs) (hb : Below w.heap.size w w') : IrAt w' a xs := by
  rcases h with h | ⟨b, off, ha, hc⟩
  · exact .inl h
  · exact .inr ⟨b, off, ha, fun i hi => cell_belowF (hc i hi) hb⟩
section
attribute [local irreducible] Calls
set_option maxRecDepth 1000000 in
theorem iidle_same (w : World) : CallsD Try.prog 27 #[] .returning w fun e u' w' => e = .returned (.tuple #[]) ∧ u' = .returning ∧ w' = w := by
  refine callsD_of_wpS Try.func27 rfl fun c₀ cs hu => ?_
  apply wpS_region
  cases c₀
  simp_all [wpOpsS, go_sem, recoverD, Try.ntmps27, bodyPostS, results, Try.results27]
set_option maxRecDepth 1000000 in
theorem iidle_one (w : World) : CallsD Try.prog 29 #[] .returning w fun e u' w' => e = .returned (.tuple #[]) ∧ u' = .returning ∧ w' = w := by
  refine callsD_of_wpS Try.func29 rfl fun c₀ cs hu => ?_
  apply wpS_region
  cases c₀
  simp_all [wpOpsS, go_sem, recoverD, Try.ntmps29, bodyPostS, results, Try.results29]
theorem ieq_run (x y : Int) (w : World) : (binOp .eql 3 (ivl x) (ivl y)).run Try.prog w = .ok (.bool (ieq x y)) w := rfl
theorem ieg_run (p : BinOp) (a b : Operand) (x y : Int) (w : World) : (eqGuard p 3 a b (ivl x) (ivl y)).run Try.prog w = .ok () w := by
  cases p <;> kernel_rfl
set_option maxRecDepth 1000000 in
theorem isame_any (x y : Int) (w : World) : Calls Try.prog 19 #[ivl x, ivl y] w fun e w' => e = .returned (.bool (ieq x y)) ∧ w' = w := by
  have h1 := ieq_run
  have h2 := ieg_run
  go_enter_defers Try.func19, Try.ntmps19
  go_wp2
  refine leaves_cons (f := 27) (args := #[]) (by simp) (by simp [go_sem]) ?_
  refine (iidle_same _).mono ?_
  rintro e u' w'' ⟨rfl, rfl, rfl⟩
  simp [Leaves, settle, results, Try.results19, go_sem]
set_option maxRecDepth 1000000 in
theorem ione_any (x : Int) {w : World} {b : Nat} {L : List Int} (h : CmAt ivl ieq w b L) (hL : L.length ≤ 140737488355328) : Calls Try.prog 21 #[.map (some b), ivl x] w fun e w' => e = .returned (.int .i64 ((x :: L).countP (ieq x) : Int)) ∧ CmAt ivl ieq w' b (x :: L) ∧ w.grownBy w' (some b) := by
  have h1 := h.look ikind Try.underlying50 x
  obtain ⟨w1, h2, h3, h4⟩ := h.more ikind Try.underlying50 x
  have h5 := h3.look ikind Try.underlying50 x
  have hc : List.countP (ieq x) L ≤ 140737488355328 := Nat.le_trans List.countP_le_length hL
  obtain ⟨c, hcc⟩ : ∃ c, List.countP (ieq x) L = c := ⟨_, rfl⟩
  obtain ⟨c', hcc'⟩ : ∃ c', List.countP (ieq x) (x :: L) = c' := ⟨_, rfl⟩
  rw [hcc] at h1 h2 hc
  rw [hcc'] at h5
  rw [hcc']
  rw [show ((c + 1 : Nat) : Int) = (c : Int) + 1 from rfl] at h2
  have HX := (show Hid (_ ∧ _) from ⟨h3, h4⟩)
  clear h h3 h4 hcc hcc'
  go_enter_defers Try.func21, Try.ntmps21
  go_wp2
  refine leaves_cons (f := 29) (args := #[]) (by simp) (by simp [go_sem]) ?_
  refine (iidle_one _).mono ?_
  rintro e u' w'' ⟨rfl, rfl, rfl⟩
  simp [Leaves, settle, results, Try.results21, go_sem]
  exact HX.out
set_option maxRecDepth 1000000 in
theorem icount_core (b o n c : Nat) (xs : List Int) (x : Int) (w : World) (hn : xs.length = n) (hm : n ≤ 140737488355328) (H : Hid (∀ i, i < n → w.cell? ⟨b, o + i, none⟩ = some (ivl (xs.getD i 0)))) :
    Calls Try.prog 11 #[.slice (some ⟨b, o, none⟩) n c, ivl x] w fun e w' => e = .returned (.int .i64 (xs.countP (ieq x) : Int)) ∧ w' = w := by
  obtain ⟨N, hN⟩ : ∃ N, xs.countP (ieq x) = N := ⟨_, rfl⟩
  have HN := (show Hid (xs.countP (ieq x) = N) from hN)
  have HL := (show Hid (xs.length = n) from hn)
  rw [hN]
  clear hN hn
  go_enter Try.func11, Try.ntmps11
  go_wp2
  go_loopw [5, 10] (fun m i wr => ∃ k c : Nat, k ≤ n ∧ i = .int .i64 k ∧ m = .int .i64 c ∧ c ≤ k ∧ Hid (c = (xs.take k).countP (ieq x)) ∧ wr = w) (fun _ i _ => n - (intOf i).toNat)
  case atStart => exact ⟨0, 0, Nat.zero_le _, rfl, rfl, Nat.le_refl _, rfl, rfl⟩
  case round =>
    obtain ⟨k, c, hk, rfl, rfl, hck, hc, rfl⟩ := hrel
    by_cases hlt : k < n
    · have g1 := H.out k hlt
      have hi : (k : Int) < (n : Int) := by omega
      have ht := (show Hid _ from count_take (ieq x) xs 0 (by rw [HL.out]; exact hlt))
      obtain ⟨y, hy⟩ : ∃ y, xs.getD k 0 = y := ⟨_, rfl⟩
      rw [hy] at g1 ht
      clear hy
      by_cases hq : ieq x y = true
      · go_wp2_with (go_at_call 19; refine (isame_any _ _ _).mono ?_; rintro e w1 ⟨rfl, h⟩; obtain rfl := h.symm)
        go_roundw
        case rel => exact ⟨k + 1, c + 1, by omega, by go_num, by go_num, by omega, by (show _ = _; have h := ht.out; rw [if_pos hq] at h; rw [h, ← hc.out]), trivial⟩
        case measure => simp [intOf]; omega
      · have hq' : ieq x y = false := by simpa using hq
        go_wp2_with (go_at_call 19; refine (isame_any _ _ _).mono ?_; rintro e w1 ⟨rfl, h⟩; obtain rfl := h.symm)
        go_roundw
        case rel => exact ⟨k + 1, c, by omega, by go_num, rfl, by omega, by (show _ = _; have h := ht.out; rw [if_neg hq] at h; rw [h, ← hc.out]; rfl), trivial⟩
        case measure => simp [intOf]; omega
    · obtain rfl : k = n := by omega
      have hc2 : c = N := by rw [hc.out, ← HL.out, List.take_length, HN.out]
      subst hc2
      go_wp2
      go_ret
      exact ⟨rfl, rfl⟩
set_option maxRecDepth 1000000 in
theorem icount_nil (a : Option Addr) (c : Nat) (x : Int) (w : World) :
    Calls Try.prog 11 #[.slice a 0 c, ivl x] w fun e w' => e = .returned (.int .i64 0) ∧ w' = w := by
  go_enter Try.func11, Try.ntmps11
  go_wp2
  refine wp_loop_rounds 1 ?_
  rw [rounds_succ]
  go_wp2
  go_ret
  exact ⟨rfl, rfl⟩
theorem icount_any {w : World} {a : Option Addr} {xs : List Int} (h : IrAt w a xs) (n c : Nat) (x : Int) (hn : xs.length = n) (hm : n ≤ 140737488355328) :
    Calls Try.prog 11 #[.slice a n c, ivl x] w fun e w' => e = .returned (.int .i64 (xs.countP (ieq x) : Int)) ∧ w' = w := by
  subst hn
  rcases h with rfl | ⟨b, o, rfl, h⟩
  · exact icount_nil a c x w
  · exact icount_core b o _ c xs x w rfl hm h
end
end Go.Proofs.Ytgconfcijmemmaa
