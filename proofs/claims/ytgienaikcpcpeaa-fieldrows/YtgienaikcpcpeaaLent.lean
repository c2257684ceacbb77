/-
  'lent' and 'returned'.
-/
import Derived.Test.YtgienaikcpcpeaaRefRows
namespace Go.Proofs.Ytgienaikcpcpeaa
open Go.RowKit

/-- The mark number j. -/
def mk (j : Nat) : BitVec 8 := BitVec.ofNat 8 (201 + j % 7)
theorem el_mk (j : Nat) : el (mk j) = 201 + ((j : Int) % 7) := by
  unfold el mk; rw [BitVec.toNat_ofNat]; omega
/-- What was lent: the row, and marks behind it. -/
def len64 (x : Nat → BitVec 8) (n i : Nat) : BitVec 8 := if i < n then x i else mk (i - n)
theorem vs_congr {f g : Nat → BitVec 8} {n : Nat} (h : ∀ i, i < n → f i = g i) : vs f n = vs g n := by
  unfold vs; apply List.map_congr_left; intro i hi; rw [h i (List.mem_range.1 hi)]
theorem vs_len (f : Nat → BitVec 8) (n : Nat) : (vs f n).length = n := by simp [vs]
theorem vs_one (x : Nat → BitVec 8) (m : Nat) : ∀ u ∈ vs x m, u.oneCell' = true := by
  intro u hu
  unfold vs at hu
  obtain ⟨i, _, rfl⟩ := List.mem_map.1 hu
  rfl
theorem vs_src {w : World} {b o n : Nat} {x : Nat → BitVec 8} (hc : ∀ i, i < n → w.cell? ⟨b, o + i, none⟩ = some (.int .u8 (el (x i)))) : ∀ j u, (vs x n)[j]? = some u → w.cell? ((⟨b, o, none⟩ : Addr).add j) = some u := by
  intro j u hu
  have hj : j < n := by
    rcases Nat.lt_or_ge j n with h | h
    · exact h
    · rw [List.getElem?_eq_none (by rw [vs_len]; exact h)] at hu; cases hu
  rw [vs_at x n j hj] at hu
  rw [add_pl, hc j hj]; exact hu

section
attribute [local irreducible] Calls el gm vs
set_option maxHeartbeats 1000000 in
set_option maxRecDepth 1000000 in
theorem lent_core (ad : Addr) (n c1 : Nat) (x : Nat → BitVec 8) (w : World) (hn : n ≤ 140737488351232)
    (S1 : Hid (∀ j u, (vs x n)[j]? = some u → w.cell? (ad.add j) = some u)) :
    Calls Try.prog 14 #[.slice (some ad) n c1] w fun e w' => ∃ v, e = .returned v ∧ w'.ownsRow w.heap.size 5 1 v (n + 64) (vs (len64 x n) (n + 64)) ∧ Below w.heap.size w w' := by
  obtain ⟨i0, hi, hz0, hz1, hz2⟩ := info_parts info5
  have L1 : Hid ((vs x n).length = n * 1) := by show _ = _; rw [vs_len, Nat.mul_one]
  have M1 : Hid (0 + n ≤ maxLen) := by show _ ≤ _; unfold maxLen; omega
  go_enter Try.func14, Try.ntmps14
  go_wp2_with (at_builtin; refine wpList_append_own _ rfl (.tmp 5) (.tmp 6) 34 rfl w.heap.size 5 i0 (.int .u8 0) 1 1 Try.underlying34 hi hz0 hz1 hz2 rfl (by decide) (.slice none 0 0) 0 [] rfl (World.ownsRow_nil _ _ _ _) ad n c1 (vs x n) rfl L1.out S1.out (vs_one _ _) M1.out (by omega) (Nat.le_refl _) ?_; intro v1 w1 hown1 hgrow1 _)
  have hown : w1.ownsRow w.heap.size 5 1 v1 (n + 0) (vs (len64 x n) (n + 0)) := by
    have e : vs x n = vs (len64 x n) n := vs_congr (fun i hi => by unfold len64; rw [if_pos hi])
    rw [Nat.add_zero, ← e]; simpa using hown1
  have hb := below_append (Below.refl _ _) (Nat.le_refl _) hgrow1 (World.ownsRow_nil _ _ _ _) (Nat.le_refl _)
  clear hown1 hgrow1
  go_loopw [3, 4] (fun v i wr => ∃ k : Nat, k ≤ 64 ∧ i = .int .i64 k ∧ wr.ownsRow w.heap.size 5 1 v (n + k) (vs (len64 x n) (n + k)) ∧ Below w.heap.size w wr) (fun _ i _ => 64 - (intOf i).toNat)
  case atStart => exact ⟨0, Nat.zero_le _, rfl, hown, hb⟩
  case round =>
    clear hown hb
    obtain ⟨k, hk, rfl, hown, hb⟩ := hrel
    by_cases hlt : k < 64
    · have hi1 : (k : Int) < 64 := by omega
      go_wp2_with (at_builtin; refine wpList_append_own _ rfl (.tmp 12) (.tmp 17) 34 rfl w.heap.size 5 i0 (.int .u8 0) 1 1 Try.underlying34 hi hz0 hz1 hz2 rfl (by decide) _ _ _ rfl (hown.alloc _) ⟨wr.heap.size, 0, none⟩ 1 1 [_] rfl rfl (one_new _ _ _) (one_cell _ _) ?c3 ?c4 ?c5 ?_)
      case c3 => unfold maxLen; omega
      case c4 => omega
      case c5 => have := hb.size; simp; omega
      · intro v' w2 hown' hgrow _
        have e : Value.int .u8 (201 + (k : Int) % 7) = .int .u8 (el (len64 x n (n + k))) := by
          unfold len64; rw [if_neg (by omega), Nat.add_sub_cancel_left, el_mk]
        rw [e, ← vs_succ] at hown'
        have hb' := below_append (hb.alloc hb.size _) (Nat.le_trans hb.size (by simp)) hgrow (hown.alloc _) (Nat.le_refl _)
        clear hown hgrow
        go_wp2
        go_roundw
        case rel => exact ⟨k + 1, by omega, by go_num, hown', hb'⟩
        case measure => simp [intOf]; omega
    · obtain rfl : k = 64 := by omega
      go_wp2
      go_ret
      exact ⟨_, rfl, hown, hb⟩
set_option maxHeartbeats 1000000 in
set_option maxRecDepth 1000000 in
theorem lent_none (c1 : Nat) (x : Nat → BitVec 8) (w : World) :
    Calls Try.prog 14 #[.slice none 0 c1] w fun e w' => ∃ v, e = .returned v ∧ w'.ownsRow w.heap.size 5 1 v (0 + 64) (vs (len64 x 0) (0 + 64)) ∧ Below w.heap.size w w' := by
  obtain ⟨i0, hi, hz0, hz1, hz2⟩ := info_parts info5
  obtain ⟨n, hn0⟩ : ∃ n, n = 0 := ⟨_, rfl⟩
  have H : Hid (n = 0) := hn0
  have hown : w.ownsRow w.heap.size 5 1 (.slice none 0 0) (n + 0) (vs (len64 x n) (n + 0)) := by rw [hn0]; exact own_none _ _ _
  have hn : n ≤ 140737488351232 := by omega
  have hb := Below.refl w.heap.size w
  have goal : Calls Try.prog 14 #[.slice none 0 c1] w fun e w' => ∃ v, e = .returned v ∧ w'.ownsRow w.heap.size 5 1 v (n + 64) (vs (len64 x n) (n + 64)) ∧ Below w.heap.size w w' := by
    clear hn0
    go_enter Try.func14, Try.ntmps14
    go_wp2
    go_loopw [3, 4] (fun v i wr => ∃ k : Nat, k ≤ 64 ∧ i = .int .i64 k ∧ wr.ownsRow w.heap.size 5 1 v (n + k) (vs (len64 x n) (n + k)) ∧ Below w.heap.size w wr) (fun _ i _ => 64 - (intOf i).toNat)
    case atStart => exact ⟨0, Nat.zero_le _, rfl, hown, hb⟩
    case round =>
      clear hown hb
      obtain ⟨k, hk, rfl, hown, hb⟩ := hrel
      by_cases hlt : k < 64
      · have hi1 : (k : Int) < 64 := by omega
        go_wp2_with (at_builtin; refine wpList_append_own _ rfl (.tmp 12) (.tmp 17) 34 rfl w.heap.size 5 i0 (.int .u8 0) 1 1 Try.underlying34 hi hz0 hz1 hz2 rfl (by decide) _ _ _ rfl (hown.alloc _) ⟨wr.heap.size, 0, none⟩ 1 1 [_] rfl rfl (one_new _ _ _) (one_cell _ _) ?c3 ?c4 ?c5 ?_)
        case c3 => unfold maxLen; omega
        case c4 => omega
        case c5 => have := hb.size; simp; omega
        · intro v' w2 hown' hgrow _
          have e : Value.int .u8 (201 + (k : Int) % 7) = .int .u8 (el (len64 x n (n + k))) := by
            unfold len64; rw [if_neg (by omega), Nat.add_sub_cancel_left, el_mk]
          rw [e, ← vs_succ] at hown'
          have hb' := below_append (hb.alloc hb.size _) (Nat.le_trans hb.size (by simp)) hgrow (hown.alloc _) (Nat.le_refl _)
          clear hown hgrow
          go_wp2
          go_roundw
          case rel => exact ⟨k + 1, by omega, by go_num, hown', hb'⟩
          case measure => simp [intOf]; omega
      · obtain rfl : k = 64 := by omega
        go_wp2
        go_ret
        exact ⟨_, rfl, hown, hb⟩
  rw [hn0] at goal
  exact goal
end
theorem lent_any {w : World} {a1 : Option Addr} {xs : List (BitVec 8)} (h1 : Rd w a1 xs) (n c1 : Nat) (hn : xs.length = n) (hm : n ≤ 140737488351232) (F : Nat → BitVec 8) (hF : len64 (fun i => xs.getD i 0#8) n = F) :
    Calls Try.prog 14 #[.slice a1 n c1] w fun e w' => ∃ v, e = .returned v ∧ w'.ownsRow w.heap.size 5 1 v (n + 64) (vs F (n + 64)) ∧ Below w.heap.size w w' := by
  subst hF
  by_cases h0 : n = 0
  · subst h0
    cases a1 with
    | none => exact lent_none c1 _ w
    | some ad => exact lent_core ad 0 c1 _ w hm (fun j u hu => by simp [vs] at hu)
  · rcases h1 with h1 | ⟨b1, o1, rfl, hc1⟩
    · subst h1; simp at hn; omega
    · rw [hn] at hc1
      exact lent_core ⟨b1, o1, none⟩ n c1 _ w hm (vs_src hc1)
section
attribute [local irreducible] Calls el gm mk
set_option maxHeartbeats 2000000 in
set_option maxRecDepth 1000000 in
theorem returned_core (b1 o1 b2 o2 n c1 c2 : Nat) (x : Nat → BitVec 8) (w : World) (hn : n ≤ 140737488351232)
    (H1 : Hid (∀ i, i < n + 64 → w.cell? ⟨b1, o1 + i, none⟩ = some (.int .u8 (el (len64 x n i))))) (H2 : Hid (∀ i, i < n → w.cell? ⟨b2, o2 + i, none⟩ = some (.int .u8 (el (x i))))) :
    Calls Try.prog 22 #[.slice (some ⟨b1, o1, none⟩) (n + 64) c1, .slice (some ⟨b2, o2, none⟩) n c2] w fun e w' => e = .returned (.bool true) ∧ Below w.heap.size w w' := by
  have hq7 : ∀ j : Nat, j < 64 → (el (mk j) != (201 + (j : Int) % 7)) = false := fun j _ => by rw [el_mk]; simp
  go_enter Try.func22, Try.ntmps22
  go_wp2
  go_loopw [5] (fun i wr => ∃ k : Nat, k ≤ n + 64 ∧ i = .int .i64 k ∧ Below w.heap.size w wr) (fun i _ => n + 64 - (intOf i).toNat)
  case atStart => exact ⟨0, Nat.zero_le _, rfl, Below.refl _ _⟩
  case round =>
    obtain ⟨k, hk, rfl, hb⟩ := hrel
    by_cases hlt : k < n + 64
    · have g1 := cell_below (H1.out k hlt) hb
      have hi1 : (k : Int) < (n : Int) + 64 := by omega
      by_cases hkn : k < n
      · have g2 := cell_below (H2.out k hkn) hb
        have e : len64 x n k = x k := by unfold len64; rw [if_pos hkn]
        rw [e] at g1
        have hi2 : (k : Int) < (n : Int) := by omega
        have q3 : decide (n ≤ k) = false := by simp; omega
        clear hq7
        go_wp2
        go_quiet (fail)
        go_wp2
        go_roundw
        case rel => exact ⟨k + 1, by omega, by go_num, below_drewN hb _⟩
        case measure => simp [intOf]; omega
      · obtain ⟨j, hj⟩ : ∃ j, k = n + j := ⟨k - n, by omega⟩
        have e : len64 x n k = mk j := by unfold len64; rw [if_neg hkn, hj, Nat.add_sub_cancel_left]
        rw [e] at g1
        have hj64 : (j : Int) < 64 := by omega
        have q1 : decide ((k : Int) < (n : Int)) = false := by simp; omega
        have q2 : (n : Int) ≤ (k : Int) := by omega
        have q3 : (k : Int) - (n : Int) = (j : Int) := by omega
        have q4 : IntKind.i64.wrap ((k : Int) - (n : Int)) = (j : Int) := by rw [q3, IntKind.wrap_i64]; omega
        have q5 := hq7 j (by omega)
        have q6 : IntKind.i64.wrap (201 + (j : Int) % 7) = 201 + (j : Int) % 7 := by rw [IntKind.wrap_i64]; omega
        have q7 : IntKind.u8.wrap (201 + (j : Int) % 7) = 201 + (j : Int) % 7 := by rw [IntKind.wrap_u8']; omega
        have q8 : (j : Int).tmod 7 = (j : Int) % 7 := Int.tmod_eq_emod_of_nonneg (by omega)
        have HJ : Hid (k = n + j) := hj
        clear hj hq7 q3
        go_wp2
        go_quiet (fail)
        go_wp2
        go_roundw
        case rel => exact ⟨k + 1, by omega, by go_num, below_drewN hb _⟩
        case measure => simp [intOf]; omega
    · go_wp2
      go_ret
      exact ⟨rfl, hb⟩
set_option maxHeartbeats 2000000 in
set_option maxRecDepth 1000000 in
theorem returned_nil (b1 o1 c1 c2 : Nat) (a2 : Option Addr) (w : World)
    (H1 : Hid (∀ i, i < 64 → w.cell? ⟨b1, o1 + i, none⟩ = some (.int .u8 (el (mk i))))) :
    Calls Try.prog 22 #[.slice (some ⟨b1, o1, none⟩) 64 c1, .slice a2 0 c2] w fun e w' => e = .returned (.bool true) ∧ Below w.heap.size w w' := by
  have hq7 : ∀ j : Nat, j < 64 → (el (mk j) != (201 + (j : Int) % 7)) = false := fun j _ => by rw [el_mk]; simp
  go_enter Try.func22, Try.ntmps22
  go_wp2
  go_loopw [5] (fun i wr => ∃ k : Nat, k ≤ 64 ∧ i = .int .i64 k ∧ Below w.heap.size w wr) (fun i _ => 64 - (intOf i).toNat)
  case atStart => exact ⟨0, Nat.zero_le _, rfl, Below.refl _ _⟩
  case round =>
    obtain ⟨k, hk, rfl, hb⟩ := hrel
    by_cases hlt : k < 64
    · have g1 := cell_below (H1.out k hlt) hb
      have hi1 : (k : Int) < 64 := by omega
      have q0 : ¬ (k : Int) < 0 := by omega
      have q1 : decide ((k : Int) < 0) = false := by simp
      have q2 : (0 : Int) ≤ (k : Int) := by omega
      have q4 : IntKind.i64.wrap (k : Int) = (k : Int) := by rw [IntKind.wrap_i64]; omega
      have q5 := hq7 k (by omega)
      have q6 : IntKind.i64.wrap (201 + (k : Int) % 7) = 201 + (k : Int) % 7 := by rw [IntKind.wrap_i64]; omega
      have q7 : IntKind.u8.wrap (201 + (k : Int) % 7) = 201 + (k : Int) % 7 := by rw [IntKind.wrap_u8']; omega
      have q8 : (k : Int).tmod 7 = (k : Int) % 7 := Int.tmod_eq_emod_of_nonneg (by omega)
      clear hq7
      go_wp2
      go_quiet (fail)
      go_wp2
      go_roundw
      case rel => exact ⟨k + 1, by omega, by go_num, below_drewN hb _⟩
      case measure => simp [intOf]; omega
    · go_wp2
      go_ret
      exact ⟨rfl, hb⟩
end
theorem returned_any {w : World} {b1 : Nat} {a2 : Option Addr} {x : Nat → BitVec 8} {n : Nat} (h1 : ∀ i, i < n + 64 → w.cell? ⟨b1, i, none⟩ = some (.int .u8 (el (len64 x n i)))) (h2 : Rd w a2 (ls x n)) (c1 c2 : Nat) (hm : n ≤ 140737488351232) :
    Calls Try.prog 22 #[.slice (some ⟨b1, 0, none⟩) (n + 64) c1, .slice a2 n c2] w fun e w' => e = .returned (.bool true) ∧ Below w.heap.size w w' := by
  rcases h2 with h2 | ⟨b2, o2, rfl, hc2⟩
  · have h0 : n = 0 := by have := congrArg List.length h2; rw [ls_len] at this; exact this
    subst h0
    exact returned_nil b1 0 c1 c2 a2 w (fun i hi => by
      have := h1 i (by omega)
      rw [Nat.zero_add, this]; unfold len64; rw [if_neg (by omega)]; rfl)
  · exact returned_core b1 0 b2 o2 n c1 c2 x w hm (fun i hi => by rw [Nat.zero_add]; exact h1 i hi) (fun i hi => by
      have := hc2 i (by rw [ls_len]; exact hi)
      rwa [ls_get _ _ _ hi] at this)
end Go.Proofs.Ytgienaikcpcpeaa
