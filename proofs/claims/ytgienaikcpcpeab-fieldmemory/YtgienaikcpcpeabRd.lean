/-
  Rows that are read: 'same', 'Dot'.
-/
import Derived.Test.YtgienaikcpcpeabFld
import Derived.Deep.QuietTactic
import Derived.BigQuiet
namespace Go.Proofs.Ytgienaikcpcpeab
open Go.RowKit

/-- The slice at this address reads as these elements. -/
def Rd (w : World) (a : Option Addr) (xs : List (BitVec 8)) : Prop :=
  xs = [] ∨ ∃ b off, a = some ⟨b, off, none⟩ ∧ ∀ i, i < xs.length → w.cell? ⟨b, off + i, none⟩ = some (.int .u8 (el (xs.getD i 0#8)))
theorem cell_below {w w' : World} {p : Addr} {v : Value} (h : w.cell? p = some v) (hb : Below w.heap.size w w') : w'.cell? p = some v := by
  rw [hb.cell (p := p) (block_lt_of_cell h)]; exact h
theorem Rd.below {w w' : World} {a : Option Addr} {xs : List (BitVec 8)} (h : Rd w a xs) (hb : Below w.heap.size w w') : Rd w' a xs := by
  rcases h with h | ⟨b, off, ha, hc⟩
  · exact .inl h
  · exact .inr ⟨b, off, ha, fun i hi => cell_below (hc i hi) hb⟩

section
attribute [local irreducible] Calls el gm
set_option maxRecDepth 1000000 in
theorem same_core (b1 o1 b2 o2 n c1 c2 : Nat) (x : Nat → BitVec 8) (w : World) (hn : n ≤ 140737488355328)
    (H1 : Hid (∀ i, i < n → w.cell? ⟨b1, o1 + i, none⟩ = some (.int .u8 (el (x i))))) (H2 : Hid (∀ i, i < n → w.cell? ⟨b2, o2 + i, none⟩ = some (.int .u8 (el (x i))))) :
    Calls Try.prog 11 #[.slice (some ⟨b1, o1, none⟩) n c1, .slice (some ⟨b2, o2, none⟩) n c2] w fun e w' => e = .returned (.bool true) ∧ Below w.heap.size w w' := by
  go_enter Try.func11, Try.ntmps11
  go_wp2
  go_loopw [5] (fun i wr => ∃ k : Nat, k ≤ n ∧ i = .int .i64 k ∧ Below w.heap.size w wr) (fun i _ => n - (intOf i).toNat)
  case atStart => exact ⟨0, Nat.zero_le _, rfl, Below.refl _ _⟩
  case round =>
    obtain ⟨k, hk, rfl, hb⟩ := hrel
    by_cases hlt : k < n
    · have g1 := cell_below (H1.out k hlt) hb
      have g2 := cell_below (H2.out k hlt) hb
      have hi : (k : Int) < (n : Int) := by omega
      go_wp2
      go_quiet (fail)
      go_wp2
      go_roundw
      case rel => exact ⟨k + 1, by omega, by go_num, below_drewN hb _⟩
      case measure => simp [intOf]; omega
    · go_wp2
      go_ret
      exact ⟨rfl, hb⟩
set_option maxRecDepth 1000000 in
theorem same_nil (a1 a2 : Option Addr) (c1 c2 : Nat) (w : World) :
    Calls Try.prog 11 #[.slice a1 0 c1, .slice a2 0 c2] w fun e w' => e = .returned (.bool true) ∧ Below w.heap.size w w' := by
  go_enter Try.func11, Try.ntmps11
  go_wp2
  refine wp_loop_rounds 1 ?_
  rw [rounds_succ]
  go_wp2
  go_ret
  exact ⟨rfl, Below.refl _ _⟩
end
theorem same_any {w : World} {a1 a2 : Option Addr} {xs : List (BitVec 8)} (h1 : Rd w a1 xs) (h2 : Rd w a2 xs) (n c1 c2 : Nat) (hn : xs.length = n) (hm : n ≤ 140737488355328) :
    Calls Try.prog 11 #[.slice a1 n c1, .slice a2 n c2] w fun e w' => e = .returned (.bool true) ∧ Below w.heap.size w w' := by
  subst hn
  rcases h1 with h1 | ⟨b1, o1, rfl, hc1⟩
  · subst h1; exact same_nil a1 a2 c1 c2 w
  · rcases h2 with h2 | ⟨b2, o2, rfl, hc2⟩
    · subst h2; exact same_nil _ a2 c1 c2 w
    · exact same_core b1 o1 b2 o2 xs.length c1 c2 (fun i => xs.getD i 0#8) w hm hc1 hc2

/-- The sum of f 0 to f (k - 1). -/
def xs0 (f : Nat → BitVec 8) : Nat → BitVec 8
  | 0 => 0#8
  | k + 1 => xs0 f k ^^^ f k
theorem xs0_congr {f g : Nat → BitVec 8} {n : Nat} (h : ∀ i, i < n → f i = g i) : xs0 f n = xs0 g n := by
  induction n with
  | zero => rfl
  | succ n ih => unfold xs0; rw [ih (fun i hi => h i (by omega)), h n (by omega)]
theorem xs0_xor (f g : Nat → BitVec 8) (n : Nat) : xs0 (fun i => f i ^^^ g i) n = xs0 f n ^^^ xs0 g n := by
  induction n with
  | zero => simp [xs0]
  | succ n ih => unfold xs0; rw [ih, xor4]
section
attribute [local irreducible] Calls el gm
set_option maxRecDepth 1000000 in
theorem dot_core (b1 o1 b2 o2 n c1 c2 : Nat) (x y : Nat → BitVec 8) (w : World) (hn : n ≤ 140737488355328)
    (H1 : Hid (∀ i, i < n → w.cell? ⟨b1, o1 + i, none⟩ = some (.int .u8 (el (x i))))) (H2 : Hid (∀ i, i < n → w.cell? ⟨b2, o2 + i, none⟩ = some (.int .u8 (el (y i))))) :
    Calls Try.prog 9 #[.slice (some ⟨b1, o1, none⟩) n c1, .slice (some ⟨b2, o2, none⟩) n c2] w fun e w' => e = .returned (.tuple #[.int .u8 (el (xs0 (fun i => gm (x i) (y i)) n)), .int .i64 0]) ∧ Below w.heap.size w w' := by
  go_enter Try.func9, Try.ntmps9
  go_wp2
  go_loopw [6, 15] (fun s i wr => ∃ k : Nat, k ≤ n ∧ i = .int .i64 k ∧ s = .int .u8 (el (xs0 (fun i => gm (x i) (y i)) k)) ∧ Below w.heap.size w wr) (fun _ i _ => n - (intOf i).toNat)
  case atStart => exact ⟨0, Nat.zero_le _, rfl, (show Value.int .u8 0 = .int .u8 (el 0#8) from congrArg _ (by decide +kernel)), Below.refl _ _⟩
  case round =>
    obtain ⟨k, hk, rfl, rfl, hb⟩ := hrel
    by_cases hlt : k < n
    · have g1 := cell_below (H1.out k hlt) hb
      have g2 := cell_below (H2.out k hlt) hb
      have hi : (k : Int) < (n : Int) := by omega
      go_wp2
      go_quiet ((first | (go_at_call 21; exact Calls.quiet_of_same (times_any _ _ _)) | (go_at_call 12; exact Calls.quiet_of_same (plus_any _ _ _))))
      go_wp2
      go_roundw
      case rel => exact ⟨k + 1, by omega, by go_num, rfl, below_drewN hb _⟩
      case measure => simp [intOf]; omega
    · obtain rfl : k = n := by omega
      go_wp2
      go_ret2
      exact ⟨rfl, hb⟩
set_option maxRecDepth 1000000 in
theorem dot_nil (a1 a2 : Option Addr) (c1 c2 : Nat) (w : World) :
    Calls Try.prog 9 #[.slice a1 0 c1, .slice a2 0 c2] w fun e w' => e = .returned (.tuple #[.int .u8 0, .int .i64 0]) ∧ Below w.heap.size w w' := by
  go_enter Try.func9, Try.ntmps9
  go_wp2
  refine wp_loop_rounds 1 ?_
  rw [rounds_succ]
  go_wp2
  go_ret2
  exact ⟨rfl, Below.refl _ _⟩
end
/-- The sum of the products. -/
def dot (xs ys : List (BitVec 8)) : BitVec 8 := xs0 (fun i => gm (xs.getD i 0#8) (ys.getD i 0#8)) xs.length
theorem dot_any {w : World} {a1 a2 : Option Addr} {xs ys : List (BitVec 8)} (h1 : Rd w a1 xs) (h2 : Rd w a2 ys) (n c1 c2 : Nat) (hn : xs.length = n) (hn2 : ys.length = n) (hm : n ≤ 140737488355328) :
    Calls Try.prog 9 #[.slice a1 n c1, .slice a2 n c2] w fun e w' => e = .returned (.tuple #[.int .u8 (el (dot xs ys)), .int .i64 0]) ∧ Below w.heap.size w w' := by
  subst hn
  rcases h1 with h1 | ⟨b1, o1, rfl, hc1⟩
  · subst h1; exact dot_nil a1 a2 c1 c2 w
  · rcases h2 with h2 | ⟨b2, o2, rfl, hc2⟩
    · subst h2
      have : xs = [] := List.length_eq_zero_iff.1 hn2.symm
      subst this
      exact dot_nil _ a2 c1 c2 w
    · rw [hn2] at hc2
      exact dot_core b1 o1 b2 o2 xs.length c1 c2 (fun i => xs.getD i 0#8) (fun i => ys.getD i 0#8) w hm hc1 hc2
end Go.Proofs.Ytgienaikcpcpeab
