/-
  The laws' own helpers of layer 6: 'both', 'place', 'laid'.
-/
import Derived.Test.YtmpccpcnbenpfabKy
import Derived.Deep.RegionLaw
namespace Go.Proofs.Ytmpccpcnbenpfab
open Go.RowKit Go.Great
theorem bt {u v x : World} (h : Below u.heap.size u v) (k : Below v.heap.size v x) : Below u.heap.size u x := h.trans (k.mono h.size)
theorem xl_len : ∀ (l m : List (BitVec 8)), l.length = m.length → (xl l m).length = l.length
  | [], [], _ => rfl
  | x :: l, y :: m, h => by unfold xl; simp at h ⊢; exact xl_len l m h
theorem xl_fn : ∀ (l m : List (BitVec 8)) (i : Nat), l.length = m.length → fn (xl l m) i = fn l i ^^^ fn m i
  | [], [], i, _ => by unfold xl fn; simp
  | x :: l, y :: m, 0, h => rfl
  | x :: l, y :: m, i + 1, h => by
    show fn (xl l m) i = fn l i ^^^ fn m i
    exact xl_fn l m i (by simpa using h)
theorem ow_of {w : World} {base n : Nat} {v : Value} {f : Nat → BitVec 8} {xs : List (BitVec 8)} (h : w.ownsRow base 5 1 v n (vs f n)) (hn : xs.length = n) (hf : ∀ i, i < n → f i = fn xs i) : Ow w base v xs := by
  unfold Ow; rw [hn, ← vs_congr hf]; exact h
section
attribute [local irreducible] Calls el gm vs
set_option maxHeartbeats 1000000 in
set_option maxRecDepth 1000000 in
theorem both_core (b1 o1 b2 o2 n c1 c2 : Nat) (x y : Nat → BitVec 8) (w : World) (hn : n ≤ 140737488355328)
    (H1 : Hid (∀ i, i < n → w.cell? ⟨b1, o1 + i, none⟩ = some (.int .u8 (el (x i))))) (H2 : Hid (∀ i, i < n → w.cell? ⟨b2, o2 + i, none⟩ = some (.int .u8 (el (y i))))) :
    Calls Try.prog 17 #[.slice (some ⟨b1, o1, none⟩) n c1, .slice (some ⟨b2, o2, none⟩) n c2] w fun e w' => ∃ v, e = .returned v ∧ w'.ownsRow w.heap.size 5 1 v n (vs (fun i => x i ^^^ y i) n) ∧ Below w.heap.size w w' := by
  obtain ⟨i0, hi, hz0, hz1, hz2⟩ := info_parts info5
  have hx := el_xor
  go_enter Try.func17, Try.ntmps17
  go_wp2
  go_loopw [5, 6] (fun v i wr => ∃ k : Nat, k ≤ n ∧ i = .int .i64 k ∧ wr.ownsRow w.heap.size 5 1 v k (vs (fun i => x i ^^^ y i) k) ∧ Below w.heap.size w wr) (fun _ i _ => n - (intOf i).toNat)
  case atStart => exact ⟨0, Nat.zero_le _, rfl, own_none _ _ _ _, Below.refl _ _⟩
  case round =>
    obtain ⟨k, hk, rfl, hown, hb⟩ := hrel
    by_cases hlt : k < n
    · have g1 := cell_below (H1.out k hlt) hb
      have g2 := cell_below (H2.out k hlt) hb
      have hi1 : (k : Int) < (n : Int) := by omega
      have M1 : Hid (k + 1 ≤ maxLen) := by show _ ≤ _; unfold maxLen; omega
      have M2 : Hid (∀ o : Obj, w.heap.size ≤ (wr.alloc o).heap.size) := fun o => by have := hb.size; simp; omega
      go_wp2
      go_region_law (refine step_append_own rfl (.tmp 19) (.tmp 29) 23 rfl w.heap.size 5 i0 (.int .u8 0) 1 1 Try.underlying23 hi hz0 hz1 hz2 rfl (by decide) _ k _ (by first | (simp [Act.eval]; done) | simp [Act.eval, Act.put]) (hown.alloc _).drew ⟨wr.heap.size, 0, none⟩ 1 1 [.int .u8 (el (x k ^^^ y k))] (by first | (simp [Act.eval]; done) | simp [Act.eval, Act.put]) rfl (one_new wr _ _) (one_cell _ _) M1.out (by omega) (M2.out _) ?_; intro v' w1 hown' hgrow)
      all_goals
        rw [← vs_succ (fun i => x i ^^^ y i) k] at hown'
        have hb' := below_append (hb.alloc hb.size _).drew (M2.out _) hgrow (hown.alloc _).drew (Nat.le_refl _)
        go_wp2
        go_roundw
        case rel => exact ⟨k + 1, by omega, by go_num, hown', hb'⟩
        case measure => simp [intOf]; omega
    · obtain rfl : k = n := by omega
      go_wp2
      go_ret
      exact ⟨_, rfl, hown, hb⟩
set_option maxRecDepth 1000000 in
theorem both_nil (a1 a2 : Option Addr) (c1 c2 : Nat) (w : World) :
    Calls Try.prog 17 #[.slice a1 0 c1, .slice a2 0 c2] w fun e w' => e = .returned (.slice none 0 0) ∧ w' = w := by
  go_enter Try.func17, Try.ntmps17
  go_wp2
  refine wp_loop_rounds 1 ?_
  rw [rounds_succ]
  go_wp2
  go_ret
  exact ⟨rfl, rfl⟩
end
theorem both_any {w : World} {a1 a2 : Option Addr} {xs ys : List (BitVec 8)} (h1 : Rd w a1 xs) (h2 : Rd w a2 ys) (n c1 c2 : Nat) (hn : xs.length = n) (hn2 : ys.length = n) (hm : n ≤ 140737488355328) :
    Calls Try.prog 17 #[.slice a1 n c1, .slice a2 n c2] w fun e w' => ∃ v, e = .returned v ∧ Ow w' w.heap.size v (xl xs ys) ∧ Below w.heap.size w w' := by
  have hl : (xl xs ys).length = n := by rw [xl_len xs ys (by omega), hn]
  by_cases h0 : n = 0
  · subst h0
    refine (both_nil a1 a2 c1 c2 w).mono ?_
    rintro e w' ⟨rfl, h⟩
    rw [h]
    refine ⟨_, rfl, ?_, Below.refl _ _⟩
    rw [List.length_eq_zero_iff.1 hl]; exact Ow.nil _ _
  · rcases h1 with h1 | ⟨b1, o1, rfl, hc1⟩
    · subst h1; simp at hn; omega
    · rcases h2 with h2 | ⟨b2, o2, rfl, hc2⟩
      · subst h2; simp at hn2; omega
      · rw [hn] at hc1
        rw [hn2] at hc2
        refine (both_core b1 o1 b2 o2 n c1 c2 (fn xs) (fn ys) w hm hc1 hc2).mono ?_
        rintro e w' ⟨v, rfl, ho, hb⟩
        exact ⟨v, rfl, ow_of ho hl (fun i _ => (xl_fn xs ys i (by omega)).symm), hb⟩
theorem place_num (k n : Int) (h : 0 < n) : (wrap64 (k.tmod n + n)).tmod n = k % n ∨ 9223372036854775807 < n + n := by
  by_cases hn : n + n ≤ 9223372036854775807
  · left
    have h1 : -n < k.tmod n ∧ k.tmod n < n := by
      have := Int.tmod_lt_of_pos k h
      have h2 := Int.tmod_lt_of_pos (-k) h
      rw [Int.neg_tmod] at h2
      omega
    have hw : wrap64 (k.tmod n + n) = k.tmod n + n := by unfold wrap64; omega
    rw [hw, Int.tmod_eq_emod_of_nonneg (by omega), Int.add_emod_right]
    have hd : n * (k.tdiv n) + k.tmod n = k := Int.mul_tdiv_add_tmod k n
    have e : k % n = (k.tmod n + n * k.tdiv n) % n := by rw [Int.add_comm, hd]
    rw [e, Int.add_mul_emod_self_left]
  · right; omega
theorem place_any (k n : Int) (h : 0 < n) (hn : n ≤ 4611686018427387903) (w : World) :
    Calls Try.prog 21 #[.int .i64 k, .int .i64 n] w fun e w' => e = .returned (.int .i64 (k % n)) ∧ w' = w := by
  have hp : (wrap64 (k.tmod n + n)).tmod n = k % n := (place_num k n h).resolve_right (by omega)
  have h1 : ¬ n < 1 := by omega
  have h2 : ¬ n = 0 := by omega
  go_enter Try.func21, Try.ntmps21
  go_wp2
  go_ret
  exact ⟨rfl, rfl⟩
theorem place_none (k n : Int) (h : n < 1) (w : World) :
    Calls Try.prog 21 #[.int .i64 k, .int .i64 n] w fun e w' => e = .returned (.int .i64 0) ∧ w' = w := by
  go_enter Try.func21, Try.ntmps21
  go_wp2
  go_ret
  exact ⟨rfl, rfl⟩
end Go.Proofs.Ytmpccpcnbenpfab
