/-
  Floating-point numbers: same, Count, countOneMore, times.
-/
import Derived.Test.YtgommeiehclhoaaFc16
import Derived.Defers
import Derived.Recover
import Derived.WalkKit
import Derived.Below
import Derived.OwnWalk
import Derived.BigQuiet
namespace Go.Proofs.Ytgommeiehclhoaa
open Go.RowKit
/-- A slice reads so. -/
def FrAt (w : World) (a : Option Addr) (xs : List Nat) : Prop := xs = [] ∨ ∃ b o, a = some ⟨b, o, none⟩ ∧ ∀ i, i < xs.length → w.cell? ⟨b, o + i, none⟩ = some (fvl (xs.getD i 0))
theorem cell_belowF {w w' : World} {p : Addr} {v : Value} (h : w.cell? p = some v) (hb : Below w.heap.size w w') : w'.cell? p = some v := by
  rw [hb.cell (p := p) (block_lt_of_cell h)]; exact h
theorem FrAt.below {w w' : World} {a : Option Addr} {xs : List Nat} (h : FrAt w a xs) (hb : Below w.heap.size w w') : FrAt w' a xs := by
  rcases h with h | ⟨b, off, ha, hc⟩
  · exact .inl h
  · exact .inr ⟨b, off, ha, fun i hi => cell_belowF (hc i hi) hb⟩
section
attribute [local irreducible] Calls
set_option maxRecDepth 1000000 in
theorem idle_same (w : World) : CallsD Try.prog 34 #[] .returning w fun e u' w' => e = .returned (.tuple #[]) ∧ u' = .returning ∧ w' = w := by
  refine callsD_of_wpS Try.func34 rfl fun c₀ cs hu => ?_
  apply wpS_region
  cases c₀
  simp_all [wpOpsS, go_sem, recoverD, Try.ntmps34, bodyPostS, results, Try.results34]
set_option maxRecDepth 1000000 in
theorem idle_one (w : World) : CallsD Try.prog 36 #[] .returning w fun e u' w' => e = .returned (.tuple #[]) ∧ u' = .returning ∧ w' = w := by
  refine callsD_of_wpS Try.func36 rfl fun c₀ cs hu => ?_
  apply wpS_region
  cases c₀
  simp_all [wpOpsS, go_sem, recoverD, Try.ntmps36, bodyPostS, results, Try.results36]
theorem feq_run (x y : Nat) (w : World) : (binOp .eql 38 (fvl x) (fvl y)).run Try.prog w = .ok (.bool (feq x y)) w := rfl
theorem fne_run (x y : Nat) (w : World) : (binOp .neq 38 (fvl x) (fvl y)).run Try.prog w = .ok (.bool (!feq x y)) w := rfl
theorem feg_run (p : BinOp) (a b : Operand) (x y : Nat) (w : World) : (eqGuard p 38 a b (fvl x) (fvl y)).run Try.prog w = .ok () w := by
  cases p <;> kernel_rfl
set_option maxRecDepth 1000000 in
theorem fsame_any (x y : Nat) (w : World) : Calls Try.prog 23 #[fvl x, fvl y] w fun e w' => e = .returned (.bool (feq x y)) ∧ w' = w := by
  have h1 := feq_run
  have h2 := feg_run
  go_enter_defers Try.func23, Try.ntmps23
  go_wp2
  refine leaves_cons (f := 34) (args := #[]) (by simp) (by simp [go_sem]) ?_
  refine (idle_same _).mono ?_
  rintro e u' w'' ⟨rfl, rfl, rfl⟩
  simp [Leaves, settle, results, Try.results23, go_sem]
set_option maxRecDepth 1000000 in
theorem one_any (x : Nat) {w : World} {b : Nat} {L : List Nat} (h : CmAt fvl feq w b L) (hL : L.length ≤ 140737488355328) : Calls Try.prog 25 #[.map (some b), fvl x] w fun e w' => e = .returned (.int .i64 ((x :: L).countP (feq x) : Int)) ∧ CmAt fvl feq w' b (x :: L) ∧ w.grownBy w' (some b) := by
  have h1 := h.look fkind Try.underlying56 x
  obtain ⟨w1, h2, h3, h4⟩ := h.more fkind Try.underlying56 x
  have h5 := h3.look fkind Try.underlying56 x
  have hc : List.countP (feq x) L ≤ 140737488355328 := Nat.le_trans List.countP_le_length hL
  obtain ⟨c, hcc⟩ : ∃ c, List.countP (feq x) L = c := ⟨_, rfl⟩
  obtain ⟨c', hcc'⟩ : ∃ c', List.countP (feq x) (x :: L) = c' := ⟨_, rfl⟩
  rw [hcc] at h1 h2 hc
  rw [hcc'] at h5
  rw [hcc']
  rw [show ((c + 1 : Nat) : Int) = (c : Int) + 1 from rfl] at h2
  have HX := (show Hid (_ ∧ _) from ⟨h3, h4⟩)
  clear h h3 h4 hcc hcc'
  go_enter_defers Try.func25, Try.ntmps25
  go_wp2
  refine leaves_cons (f := 36) (args := #[]) (by simp) (by simp [go_sem]) ?_
  refine (idle_one _).mono ?_
  rintro e u' w'' ⟨rfl, rfl, rfl⟩
  simp [Leaves, settle, results, Try.results25, go_sem]
  exact HX.out
/-- How many of the first k are it. -/
theorem count_take {α : Type} (q : α → Bool) (xs : List α) (z : α) {k : Nat} (h : k < xs.length) : (xs.take (k + 1)).countP q = (xs.take k).countP q + (if q (xs.getD k z) = true then 1 else 0) := by
  rw [List.take_succ_eq_append_getElem h, List.countP_append]
  have : xs.getD k z = xs[k] := by simp [List.getD, h]
  rw [this, List.countP_singleton]
set_option maxRecDepth 1000000 in
theorem fcount_core (b o n c : Nat) (xs : List Nat) (x : Nat) (w : World) (hn : xs.length = n) (hm : n ≤ 140737488355328) (H : Hid (∀ i, i < n → w.cell? ⟨b, o + i, none⟩ = some (fvl (xs.getD i 0)))) :
    Calls Try.prog 12 #[.slice (some ⟨b, o, none⟩) n c, fvl x] w fun e w' => e = .returned (.int .i64 (xs.countP (feq x) : Int)) ∧ w' = w := by
  obtain ⟨N, hN⟩ : ∃ N, xs.countP (feq x) = N := ⟨_, rfl⟩
  have HN := (show Hid (xs.countP (feq x) = N) from hN)
  have HL := (show Hid (xs.length = n) from hn)
  rw [hN]
  clear hN hn
  go_enter Try.func12, Try.ntmps12
  go_wp2
  go_loopw [5, 10] (fun m i wr => ∃ k c : Nat, k ≤ n ∧ i = .int .i64 k ∧ m = .int .i64 c ∧ c ≤ k ∧ Hid (c = (xs.take k).countP (feq x)) ∧ wr = w) (fun _ i _ => n - (intOf i).toNat)
  case atStart => exact ⟨0, 0, Nat.zero_le _, rfl, rfl, Nat.le_refl _, rfl, rfl⟩
  case round =>
    obtain ⟨k, c, hk, rfl, rfl, hck, hc, rfl⟩ := hrel
    by_cases hlt : k < n
    · have g1 := H.out k hlt
      have hi : (k : Int) < (n : Int) := by omega
      have ht := (show Hid _ from count_take (feq x) xs 0 (by rw [HL.out]; exact hlt))
      obtain ⟨y, hy⟩ : ∃ y, xs.getD k 0 = y := ⟨_, rfl⟩
      rw [hy] at g1 ht
      clear hy
      by_cases hq : feq x y = true
      · go_wp2_with (go_at_call 23; refine (fsame_any _ _ _).mono ?_; rintro e w1 ⟨rfl, h⟩; obtain rfl := h.symm)
        go_roundw
        case rel => exact ⟨k + 1, c + 1, by omega, by go_num, by go_num, by omega, by (show _ = _; have h := ht.out; rw [if_pos hq] at h; rw [h, ← hc.out]), trivial⟩
        case measure => simp [intOf]; omega
      · have hq' : feq x y = false := by simpa using hq
        go_wp2_with (go_at_call 23; refine (fsame_any _ _ _).mono ?_; rintro e w1 ⟨rfl, h⟩; obtain rfl := h.symm)
        go_roundw
        case rel => exact ⟨k + 1, c, by omega, by go_num, rfl, by omega, by (show _ = _; have h := ht.out; rw [if_neg hq] at h; rw [h, ← hc.out]; rfl), trivial⟩
        case measure => simp [intOf]; omega
    · obtain rfl : k = n := by omega
      have hc2 : c = N := by rw [hc.out, ← HL.out, List.take_length, HN.out]
      subst hc2
      go_wp2
      go_ret
      exact ⟨rfl, rfl⟩
set_option maxRecDepth 1000000 in
theorem fcount_nil (a : Option Addr) (c : Nat) (x : Nat) (w : World) :
    Calls Try.prog 12 #[.slice a 0 c, fvl x] w fun e w' => e = .returned (.int .i64 0) ∧ w' = w := by
  go_enter Try.func12, Try.ntmps12
  go_wp2
  refine wp_loop_rounds 1 ?_
  rw [rounds_succ]
  go_wp2
  go_ret
  exact ⟨rfl, rfl⟩
theorem fcount_any {w : World} {a : Option Addr} {xs : List Nat} (h : FrAt w a xs) (n c x : Nat) (hn : xs.length = n) (hm : n ≤ 140737488355328) :
    Calls Try.prog 12 #[.slice a n c, fvl x] w fun e w' => e = .returned (.int .i64 (xs.countP (feq x) : Int)) ∧ w' = w := by
  subst hn
  rcases h with rfl | ⟨b, o, rfl, h⟩
  · exact fcount_nil a c x w
  · exact fcount_core b o _ c xs x w rfl hm h
set_option maxRecDepth 1000000 in
theorem ftimes_core (b o n c : Nat) (xs : List Nat) (x : Nat) (w : World) (hn : xs.length = n) (hm : n ≤ 140737488355328) (H : Hid (∀ i, i < n → w.cell? ⟨b, o + i, none⟩ = some (fvl (xs.getD i 0)))) :
    Calls Try.prog 13 #[.slice (some ⟨b, o, none⟩) n c, fvl x] w fun e w' => e = .returned (.int .i64 (xs.countP (fun y => feq y x) : Int)) ∧ w' = w := by
  obtain ⟨N, hN⟩ : ∃ N, xs.countP (fun y => feq y x) = N := ⟨_, rfl⟩
  have HN := (show Hid (xs.countP (fun y => feq y x) = N) from hN)
  have HL := (show Hid (xs.length = n) from hn)
  rw [hN]
  clear hN hn
  have r1 := feq_run
  have r2 := feg_run
  go_enter Try.func13, Try.ntmps13
  go_wp2
  go_loopw [5, 6] (fun m i wr => ∃ k c : Nat, k ≤ n ∧ i = .int .i64 k ∧ m = .int .i64 c ∧ c ≤ k ∧ Hid (c = (xs.take k).countP (fun y => feq y x)) ∧ wr = w) (fun _ i _ => n - (intOf i).toNat)
  case atStart => exact ⟨0, 0, Nat.zero_le _, rfl, rfl, Nat.le_refl _, rfl, rfl⟩
  case round =>
    obtain ⟨k, c, hk, rfl, rfl, hck, hc, rfl⟩ := hrel
    by_cases hlt : k < n
    · have g1 := H.out k hlt
      have hi : (k : Int) < (n : Int) := by omega
      have ht := (show Hid _ from count_take (fun y => feq y x) xs 0 (by rw [HL.out]; exact hlt))
      obtain ⟨y, hy⟩ : ∃ y, xs.getD k 0 = y := ⟨_, rfl⟩
      rw [hy] at g1 ht
      clear hy
      by_cases hq : feq y x = true
      · go_wp2
        go_roundw
        case rel => exact ⟨k + 1, c + 1, by omega, by go_num, by go_num, by omega, by (show _ = _; have h := ht.out; rw [if_pos hq] at h; rw [h, ← hc.out]), trivial⟩
        case measure => simp [intOf]; omega
      · have hq' : feq y x = false := by simpa using hq
        go_wp2
        go_roundw
        case rel => exact ⟨k + 1, c, by omega, by go_num, rfl, by omega, by (show _ = _; have h := ht.out; rw [if_neg hq] at h; rw [h, ← hc.out]; rfl), trivial⟩
        case measure => simp [intOf]; omega
    · obtain rfl : k = n := by omega
      have hc2 : c = N := by rw [hc.out, ← HL.out, List.take_length, HN.out]
      subst hc2
      go_wp2
      go_ret
      exact ⟨rfl, rfl⟩
set_option maxRecDepth 1000000 in
theorem ftimes_nil (a : Option Addr) (c : Nat) (x : Nat) (w : World) :
    Calls Try.prog 13 #[.slice a 0 c, fvl x] w fun e w' => e = .returned (.int .i64 0) ∧ w' = w := by
  go_enter Try.func13, Try.ntmps13
  go_wp2
  refine wp_loop_rounds 1 ?_
  rw [rounds_succ]
  go_wp2
  go_ret
  exact ⟨rfl, rfl⟩
theorem ftimes_any {w : World} {a : Option Addr} {xs : List Nat} (h : FrAt w a xs) (n c x : Nat) (hn : xs.length = n) (hm : n ≤ 140737488355328) :
    Calls Try.prog 13 #[.slice a n c, fvl x] w fun e w' => e = .returned (.int .i64 (xs.countP (feq x) : Int)) ∧ w' = w := by
  subst hn
  have e : (fun y => feq y x) = feq x := funext fun y => by
    cases h1 : feq x y with
    | true => exact feq_per.symm _ _ h1
    | false =>
      cases h2 : feq y x with
      | false => rfl
      | true => rw [feq_per.symm _ _ h2] at h1; cases h1
  rcases h with rfl | ⟨b, o, rfl, h⟩
  · exact ftimes_nil a c x w
  · rw [← e]; exact ftimes_core b o _ c xs x w rfl hm h
end
end Go.Proofs.Ytgommeiehclhoaa
