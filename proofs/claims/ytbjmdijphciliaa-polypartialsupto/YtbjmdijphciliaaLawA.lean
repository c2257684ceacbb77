/-
  The statements' own helpers: 'mark', 'lent', 'same', 'kept'.
-/
import Derived.Test.YtbjmdijphciliaaDeg
namespace Go.Proofs.Ytbjmdijphciliaa
open Go.RowKit

/-- The mark number j. -/
def mk (j : Nat) : BitVec 8 := BitVec.ofNat 8 (101 + j)
theorem el_mk (j : Nat) (h : j < 66) : el (mk j) = 101 + (j : Int) := by
  unfold el mk; rw [BitVec.toNat_ofNat]; omega
/-- What was lent: the row, and marks behind it. -/
def lx (xs : List (BitVec 8)) (i : Nat) : BitVec 8 := if i < xs.length then co xs i else mk (i - xs.length)
def Lent (t : TypeId) (B : Nat) (w : World) (v : Value) (xs : List (BitVec 8)) : Prop := ∃ g cap, v = .slice (some ⟨g, 0, none⟩) xs.length cap ∧ w.ownsRow B t 1 (.slice (some ⟨g, 0, none⟩) (xs.length + 66) cap) (xs.length + 66) (vs (lx xs) (xs.length + 66))
theorem Lent.below {t : TypeId} {B : Nat} {w w' : World} {v : Value} {xs : List (BitVec 8)} (h : Lent t B w v xs) (hb : Below w.heap.size w w') : Lent t B w' v xs := by
  obtain ⟨g, cap, e, ho⟩ := h
  exact ⟨g, cap, e, owns_below ho hb⟩
theorem owns_cell {t : TypeId} {B g cap n : Nat} {w : World} {f : Nat → BitVec 8} (h : w.ownsRow B t 1 (.slice (some ⟨g, 0, none⟩) n cap) n (vs f n)) {i : Nat} (hi : i < n) : w.cell? ⟨g, i, none⟩ = some (.int .u8 (el (f i))) := by
  rcases h.2 with ⟨hv, h0⟩ | ⟨g', cap', c, hv, hg, hh, hc, hm, hs, ht⟩
  · omega
  · injection hv with e1 e2 e3
    injection e1 with e1
    injection e1 with e1
    subst e1
    rw [cell_of_row w g i _ _ _ hh]
    rw [Nat.mul_one] at ht
    have h1 : (c.toList.take n)[i]? = some (.int .u8 (el (f i))) := by rw [ht, vs_at f n i hi]
    rw [List.getElem?_take_of_lt hi] at h1
    simpa using h1
theorem owns_pos {t : TypeId} {B n : Nat} {w : World} {v : Value} {l : List Value} (h : w.ownsRow B t 1 v n l) (h0 : 0 < n) : ∃ g cap, v = .slice (some ⟨g, 0, none⟩) n cap := by
  rcases h.2 with ⟨hv, h1⟩ | ⟨g, cap, c, hv, _⟩
  · omega
  · exact ⟨g, cap, hv⟩
theorem owns_cap {t : TypeId} {B g cap n : Nat} {w : World} {f : Nat → BitVec 8} (h : w.ownsRow B t 1 (.slice (some ⟨g, 0, none⟩) n cap) n (vs f n)) : n ≤ cap ∧ cap ≤ 9223372036854775807 ∧ B ≤ g ∧ g < w.heap.size := by
  have hlt := h.lt g rfl
  rcases h.2 with ⟨hv, h0⟩ | ⟨g', cap', c, hv, hg, hh, hc, hm, hs, ht⟩
  · cases hv
  · injection hv with e1 e2 e3
    subst e3
    exact ⟨hc, by unfold maxLen at hm; omega, hlt.1, hlt.2⟩
theorem lx_lo {xs : List (BitVec 8)} {i : Nat} (h : i < xs.length) : lx xs i = co xs i := by unfold lx; rw [if_pos h]
theorem lx_hi (xs : List (BitVec 8)) (j : Nat) : lx xs (xs.length + j) = mk j := by unfold lx; rw [if_neg (by omega), Nat.add_sub_cancel_left]
theorem Lent.sl {t : TypeId} {B : Nat} {w : World} {v : Value} {xs : List (BitVec 8)} (h : Lent t B w v xs) : Sl w v xs := by
  obtain ⟨g, cap, e, ho⟩ := h
  have hc := owns_cap ho
  refine ⟨some ⟨g, 0, none⟩, cap, e, by omega, hc.2.1, .inr ⟨g, 0, rfl, fun i hi => ?_⟩, .inr ⟨g, 0, rfl⟩⟩
  rw [Nat.zero_add, owns_cell ho (by omega), lx_lo hi]; rfl
section
attribute [local irreducible] Calls el gm co mk
theorem mark_any (j : Nat) (h : j < 66) (w : World) :
    Calls Try.prog 22 #[.int .i64 (j : Int)] w fun e w' => e = .returned (.int .u8 (el (mk j))) ∧ w' = w := by
  have e := el_mk j h
  have i1 : wrap64 (101 + (j : Int)) = 101 + (j : Int) := by unfold wrap64; omega
  have i2 : (101 + (j : Int)) % 256 = 101 + (j : Int) := by omega
  go_enter Try.func22, Try.ntmps22
  go_wp2
  go_ret
  exact ⟨by rw [e]; rfl, rfl⟩
attribute [local irreducible] vs lx
set_option maxHeartbeats 2000000 in
set_option maxRecDepth 1000000 in
theorem lent_core (b o n c : Nat) (xs : List (BitVec 8)) (w : World) (hl : Hid (xs.length = n)) (hn : n ≤ 140737488351232)
    (H1 : Hid (∀ i, i < n → w.cell? ⟨b, o + i, none⟩ = some (.int .u8 (el (co xs i))))) :
    Calls Try.prog 7 #[.slice (some ⟨b, o, none⟩) n c] w fun e w' => ∃ g cap, e = .returned (.slice (some ⟨g, 0, none⟩) n cap) ∧ w'.ownsRow w.heap.size 48 1 (.slice (some ⟨g, 0, none⟩) (n + 66) cap) (n + 66) (vs (lx xs) (n + 66)) ∧ Below w.heap.size w w' := by
  obtain ⟨i0, hi, hz0, hz1, hz2⟩ := info_parts infoE
  have HL : Hid (∀ i, i < n → co xs i = lx xs i) := fun i h => (lx_lo (by rw [hl.out]; exact h)).symm
  have HM : Hid (∀ j, mk j = lx xs (n + j)) := fun j => by rw [← hl.out]; exact (lx_hi xs j).symm
  go_enter Try.func7, Try.ntmps7
  go_wp2
  go_loopw [3, 4] (fun v i wr => ∃ k : Nat, k ≤ n ∧ i = .int .i64 k ∧ wr.ownsRow w.heap.size 48 1 v k (vs (lx xs) k) ∧ Below w.heap.size w wr) (fun _ i _ => n - (intOf i).toNat)
  case atStart => exact ⟨0, Nat.zero_le _, rfl, own_none _ _ _ _, Below.refl _ _⟩
  case round =>
    obtain ⟨k, hk, rfl, hown, hb⟩ := hrel
    by_cases hlt : k < n
    · have g1 := cell_below (H1.out k hlt) hb
      have j1 : (k : Int) < (n : Int) := by omega
      have M1 : Hid (k + 1 ≤ maxLen) := by show _ ≤ _; unfold maxLen; omega
      have M2 : Hid (∀ o : Obj, w.heap.size ≤ (wr.alloc o).heap.size) := fun o => by have := hb.size; simp; omega
      go_wp2_with (at_builtin; refine wpList_append_own _ rfl _ _ 25 rfl w.heap.size 48 i0 (.int .u8 0) 1 1 Try.underlying25 hi hz0 hz1 hz2 rfl (by decide) _ _ _ rfl (hown.alloc _) ⟨wr.heap.size, 0, none⟩ 1 1 [.int .u8 (el (co xs k))] rfl rfl (one_new _ _ _) (one_cell _ _) M1.out (by omega) (M2.out _) ?_; intro v' w1 hown' hgrow _)
      rw [HL.out k hlt, ← vs_succ (lx xs) k] at hown'
      have hb' := below_append (hb.alloc hb.size _) (M2.out _) hgrow (hown.alloc _) (Nat.le_refl _)
      clear hown hgrow g1
      go_roundw
      case rel => exact ⟨k + 1, by omega, by go_num, hown', hb'⟩
      case measure => simp [intOf]; omega
    · obtain rfl : k = n := by omega
      clear hl H1 HL
      go_wp2
      go_loopw [3, 5] (fun v i wr => ∃ j : Nat, j ≤ 66 ∧ i = .int .i64 j ∧ wr.ownsRow w.heap.size 48 1 v (k + j) (vs (lx xs) (k + j)) ∧ Below w.heap.size w wr) (fun _ i _ => 66 - (intOf i).toNat)
      case atStart => exact ⟨0, Nat.zero_le _, rfl, hown, hb⟩
      case round =>
        clear hown hb
        obtain ⟨j, hj, rfl, hown, hb⟩ := hrel
        by_cases hlt2 : j < 66
        · have j1 : (j : Int) < 66 := by omega
          have M1 : Hid (k + j + 1 ≤ maxLen) := by show _ ≤ _; unfold maxLen; omega
          have M2 : Hid (∀ o : Obj, w.heap.size ≤ (wr.alloc o).heap.size) := fun o => by have := hb.size; simp; omega
          go_wp2_with (first | (go_at_call 22; refine (mark_any j hlt2 _).mono ?_; rintro e w' ⟨rfl, h⟩; obtain rfl := h.symm) | (at_builtin; refine wpList_append_own _ rfl _ _ 25 rfl w.heap.size 48 i0 (.int .u8 0) 1 1 Try.underlying25 hi hz0 hz1 hz2 rfl (by decide) _ _ _ rfl (hown.alloc _) ⟨wr.heap.size, 0, none⟩ 1 1 [.int .u8 (el (mk j))] rfl rfl (one_new _ _ _) (one_cell _ _) M1.out (by omega) (M2.out _) ?_; intro v' w1 hown' hgrow _))
          rw [HM.out j, ← vs_succ (lx xs) (k + j)] at hown'
          have hb' := below_append (hb.alloc hb.size _) (M2.out _) hgrow (hown.alloc _) (Nat.le_refl _)
          clear hown hgrow
          go_roundw
          case rel => exact ⟨j + 1, by omega, by go_num, hown', hb'⟩
          case measure => simp [intOf]; omega
        · obtain rfl : j = 66 := by omega
          obtain ⟨g, cap, hv⟩ := owns_pos hown (by omega)
          subst hv
          have hc := owns_cap hown
          go_wp2
          go_ret
          exact ⟨g, cap, rfl, hown, hb⟩
set_option maxHeartbeats 2000000 in
set_option maxRecDepth 1000000 in
theorem lent_nil (a : Option Addr) (c : Nat) (w : World) :
    Calls Try.prog 7 #[.slice a 0 c] w fun e w' => ∃ g cap, e = .returned (.slice (some ⟨g, 0, none⟩) 0 cap) ∧ w'.ownsRow w.heap.size 48 1 (.slice (some ⟨g, 0, none⟩) 66 cap) 66 (vs (lx []) 66) ∧ Below w.heap.size w w' := by
  obtain ⟨i0, hi, hz0, hz1, hz2⟩ := info_parts infoE
  have HM : Hid (∀ j, mk j = lx [] j) := fun j => by have := lx_hi [] j; rw [List.length_nil, Nat.zero_add] at this; exact this.symm
  go_enter Try.func7, Try.ntmps7
  go_wp2
  refine wp_loop_rounds 1 ?_
  rw [rounds_succ]
  go_wp2
  go_loopw [3, 5] (fun v i wr => ∃ j : Nat, j ≤ 66 ∧ i = .int .i64 j ∧ wr.ownsRow w.heap.size 48 1 v j (vs (lx []) j) ∧ Below w.heap.size w wr) (fun _ i _ => 66 - (intOf i).toNat)
  case atStart => exact ⟨0, Nat.zero_le _, rfl, own_none _ _ _ _, Below.refl _ _⟩
  case round =>
    obtain ⟨j, hj, rfl, hown, hb⟩ := hrel
    by_cases hlt2 : j < 66
    · have j1 : (j : Int) < 66 := by omega
      have M1 : Hid (j + 1 ≤ maxLen) := by show _ ≤ _; unfold maxLen; omega
      have M2 : Hid (∀ o : Obj, w.heap.size ≤ (wr.alloc o).heap.size) := fun o => by have := hb.size; simp; omega
      go_wp2_with (first | (go_at_call 22; refine (mark_any j hlt2 _).mono ?_; rintro e w' ⟨rfl, h⟩; obtain rfl := h.symm) | (at_builtin; refine wpList_append_own _ rfl _ _ 25 rfl w.heap.size 48 i0 (.int .u8 0) 1 1 Try.underlying25 hi hz0 hz1 hz2 rfl (by decide) _ _ _ rfl (hown.alloc _) ⟨wr.heap.size, 0, none⟩ 1 1 [.int .u8 (el (mk j))] rfl rfl (one_new _ _ _) (one_cell _ _) M1.out (by omega) (M2.out _) ?_; intro v' w1 hown' hgrow _))
      rw [HM.out j, ← vs_succ (lx []) j] at hown'
      have hb' := below_append (hb.alloc hb.size _) (M2.out _) hgrow (hown.alloc _) (Nat.le_refl _)
      clear hown hgrow
      go_roundw
      case rel => exact ⟨j + 1, by omega, by go_num, hown', hb'⟩
      case measure => simp [intOf]; omega
    · obtain rfl : j = 66 := by omega
      obtain ⟨g, cap, hv⟩ := owns_pos hown (by omega)
      subst hv
      have hc := owns_cap hown
      go_wp2
      go_ret
      exact ⟨g, cap, rfl, hown, hb⟩
end
theorem lent_any {w : World} {p : Option Addr} {xs : List (BitVec 8)} (h : Rd w p xs) (n c : Nat) (hl : xs.length = n) (hn : n ≤ 140737488351232) :
    Calls Try.prog 7 #[.slice p n c] w fun e w' => ∃ v, e = .returned v ∧ Lent 48 w.heap.size w' v xs ∧ Below w.heap.size w w' := by
  rcases h with h | ⟨b, o, rfl, hc⟩
  · subst h; subst hl
    exact (lent_nil p c w).mono fun e w' ⟨g, cap, he, ho, hb⟩ => ⟨_, he, ⟨g, cap, rfl, ho⟩, hb⟩
  · refine (lent_core b o n c xs w hl hn (by rw [hl] at hc; exact hc)).mono fun e w' ⟨g, cap, he, ho, hb⟩ => ⟨_, he, ⟨g, cap, by rw [hl], by rw [hl]; exact ho⟩, hb⟩
section
attribute [local irreducible] Calls el gm co mk
set_option maxRecDepth 1000000 in
theorem same_core (b1 o1 b2 o2 n c1 c2 : Nat) (x : Nat → BitVec 8) (w : World) (hn : n ≤ 281474976710656)
    (H1 : Hid (∀ i, i < n → w.cell? ⟨b1, o1 + i, none⟩ = some (.int .u8 (el (x i))))) (H2 : Hid (∀ i, i < n → w.cell? ⟨b2, o2 + i, none⟩ = some (.int .u8 (el (x i))))) :
    Calls Try.prog 10 #[.slice (some ⟨b1, o1, none⟩) n c1, .slice (some ⟨b2, o2, none⟩) n c2] w fun e w' => e = .returned (.bool true) ∧ Below w.heap.size w w' := by
  go_enter Try.func10, Try.ntmps10
  go_wp2
  go_loopw [5] (fun i wr => ∃ k : Nat, k ≤ n ∧ i = .int .i64 k ∧ Below w.heap.size w wr) (fun i _ => n - (intOf i).toNat)
  case atStart => exact ⟨0, Nat.zero_le _, rfl, Below.refl _ _⟩
  case round =>
    obtain ⟨k, hk, rfl, hb⟩ := hrel
    by_cases hlt : k < n
    · have g1 := cell_below (H1.out k hlt) hb
      have g2 := cell_below (H2.out k hlt) hb
      have hi : (k : Int) < (n : Int) := by omega
      go_wp2
      go_quiet (fail)
      go_wp2
      go_roundw
      case rel => exact ⟨k + 1, by omega, by go_num, below_drewN hb _⟩
      case measure => simp [intOf]; omega
    · go_wp2
      go_ret
      exact ⟨rfl, hb⟩
set_option maxRecDepth 1000000 in
theorem same_nil (a1 a2 : Option Addr) (c1 c2 : Nat) (w : World) :
    Calls Try.prog 10 #[.slice a1 0 c1, .slice a2 0 c2] w fun e w' => e = .returned (.bool true) ∧ Below w.heap.size w w' := by
  go_enter Try.func10, Try.ntmps10
  go_wp2
  refine wp_loop_rounds 1 ?_
  rw [rounds_succ]
  go_wp2
  go_ret
  exact ⟨rfl, Below.refl _ _⟩
set_option maxHeartbeats 2000000 in
set_option maxRecDepth 1000000 in
theorem kept_core (b1 b2 o2 n c1 c2 : Nat) (xs : List (BitVec 8)) (w : World) (hl : Hid (xs.length = n)) (hn : n ≤ 140737488351232) (hc1 : n + 66 ≤ c1) (hc2 : c1 ≤ 9223372036854775807)
    (H1 : Hid (∀ i, i < n + 66 → w.cell? ⟨b1, i, none⟩ = some (.int .u8 (el (lx xs i))))) (H2 : Hid (∀ i, i < n → w.cell? ⟨b2, o2 + i, none⟩ = some (.int .u8 (el (co xs i))))) :
    Calls Try.prog 11 #[.slice (some ⟨b1, 0, none⟩) n c1, .slice (some ⟨b2, o2, none⟩) n c2] w fun e w' => e = .returned (.bool true) ∧ Below w.heap.size w w' := by
  have HL : Hid (∀ i, i < n → w.cell? ⟨b1, i, none⟩ = some (.int .u8 (el (co xs i)))) := fun i h => by rw [← lx_lo (by rw [hl.out]; exact h)]; exact H1.out i (by omega)
  have HM : Hid (∀ j, j < 66 → w.cell? ⟨b1, n + j, none⟩ = some (.int .u8 (el (mk j)))) := fun j hj => by rw [← lx_hi xs j, hl.out]; exact H1.out (n + j) (by omega)
  clear H1 hl
  go_enter Try.func11, Try.ntmps11
  go_wp2
  go_loopw [5] (fun i wr => ∃ k : Nat, k ≤ n ∧ i = .int .i64 k ∧ Below w.heap.size w wr) (fun i _ => n - (intOf i).toNat)
  case atStart => exact ⟨0, Nat.zero_le _, rfl, Below.refl _ _⟩
  case round =>
    obtain ⟨k, hk, rfl, hb⟩ := hrel
    by_cases hlt : k < n
    · have g1 := cell_below (HL.out k hlt) hb
      have g2 := cell_below (H2.out k hlt) hb
      have hi : (k : Int) < (n : Int) := by omega
      go_wp2
      go_quiet (fail)
      go_wp2
      go_roundw
      case rel => exact ⟨k + 1, by omega, by go_num, below_drewN hb _⟩
      case measure => simp [intOf]; omega
    · obtain rfl : k = n := by omega
      have i1 : wrap64 ((k : Int) + 66) = (k : Int) + 66 := by unfold wrap64; omega
      have i2 : (k : Int) + 66 ≤ (c1 : Int) := by omega
      have i3 : ((k : Int) + 66).toNat = k + 66 := by omega
      go_wp2
      go_loopw [7] (fun i wr => ∃ j : Nat, j ≤ 66 ∧ i = .int .i64 j ∧ Below w.heap.size w wr) (fun i _ => 66 - (intOf i).toNat)
      case atStart => exact ⟨0, Nat.zero_le _, rfl, hb⟩
      case round =>
        clear hb
        obtain ⟨j, hj, rfl, hb⟩ := hrel
        by_cases hlt2 : j < 66
        · have g1 := cell_below (HM.out j hlt2) hb
          have hi : (j : Int) < 66 := by omega
          have i4 : wrap64 ((k : Int) + (j : Int)) = (k : Int) + (j : Int) := by unfold wrap64; omega
          have i5 : (k : Int) + (j : Int) < (k : Int) + 66 := by omega
          have i6 : ((k : Int) + (j : Int)).toNat = k + j := by omega
          go_wp2
          go_quiet ((first | (go_at_call 22; exact Calls.quiet_of_same (mark_any j hlt2 _))))
          go_wp2
          go_roundw
          case rel => exact ⟨j + 1, by omega, by go_num, below_drewN hb _⟩
          case measure => simp [intOf]; omega
        · go_wp2
          go_ret
          exact ⟨rfl, hb⟩
set_option maxHeartbeats 2000000 in
set_option maxRecDepth 1000000 in
theorem kept_nil (b1 c1 c2 : Nat) (a2 : Option Addr) (w : World) (hc1 : 66 ≤ c1) (hc2 : c1 ≤ 9223372036854775807)
    (HM : Hid (∀ j, j < 66 → w.cell? ⟨b1, j, none⟩ = some (.int .u8 (el (mk j))))) :
    Calls Try.prog 11 #[.slice (some ⟨b1, 0, none⟩) 0 c1, .slice a2 0 c2] w fun e w' => e = .returned (.bool true) ∧ Below w.heap.size w w' := by
  have i2 : (66 : Int) ≤ (c1 : Int) := by omega
  go_enter Try.func11, Try.ntmps11
  go_wp2
  refine wp_loop_rounds 1 ?_
  rw [rounds_succ]
  go_wp2
  go_loopw [7] (fun i wr => ∃ j : Nat, j ≤ 66 ∧ i = .int .i64 j ∧ Below w.heap.size w wr) (fun i _ => 66 - (intOf i).toNat)
  case atStart => exact ⟨0, Nat.zero_le _, rfl, Below.refl _ _⟩
  case round =>
    obtain ⟨j, hj, rfl, hb⟩ := hrel
    by_cases hlt2 : j < 66
    · have g1 := cell_below (HM.out j hlt2) hb
      have hi : (j : Int) < 66 := by omega
      go_wp2
      go_quiet ((first | (go_at_call 22; exact Calls.quiet_of_same (mark_any j hlt2 _))))
      go_wp2
      go_roundw
      case rel => exact ⟨j + 1, by omega, by go_num, below_drewN hb _⟩
      case measure => simp [intOf]; omega
    · go_wp2
      go_ret
      exact ⟨rfl, hb⟩
end
theorem same_any {w : World} {v1 v2 : Value} {xs : List (BitVec 8)} (h1 : Sr w v1 xs) (h2 : Sr w v2 xs) (hm : xs.length ≤ 281474976710656) :
    Calls Try.prog 10 #[v1, v2] w fun e w' => e = .returned (.bool true) ∧ Below w.heap.size w w' := by
  obtain ⟨p1, c1, rfl, h1⟩ := h1
  obtain ⟨p2, c2, rfl, h2⟩ := h2
  rcases h1 with h1 | ⟨b1, o1, rfl, hc1⟩
  · subst h1; exact same_nil p1 p2 c1 c2 w
  · rcases h2 with h2 | ⟨b2, o2, rfl, hc2⟩
    · subst h2; exact same_nil _ p2 c1 c2 w
    · exact same_core b1 o1 b2 o2 xs.length c1 c2 (fun i => xs.getD i 0#8) w hm hc1 hc2
theorem kept_any {t : TypeId} {B : Nat} {w : World} {v : Value} {p : Option Addr} {xs : List (BitVec 8)} (h1 : Lent t B w v xs) (h2 : Rd w p xs) (n c : Nat) (hl : xs.length = n) (hm : n ≤ 140737488351232) :
    Calls Try.prog 11 #[v, .slice p n c] w fun e w' => e = .returned (.bool true) ∧ Below w.heap.size w w' := by
  obtain ⟨g, cap, rfl, ho⟩ := h1
  subst hl
  have hc := owns_cap ho
  rcases h2 with h2 | ⟨b2, o2, rfl, hc2⟩
  · subst h2
    exact kept_nil g cap c p w (by simpa using hc.1) hc.2.1 (fun j hj => by
      have h3 := owns_cell ho (i := j) (by simpa using hj)
      have h4 := lx_hi [] j
      rw [List.length_nil, Nat.zero_add] at h4
      rw [h4] at h3; exact h3)
  · exact kept_core g b2 o2 xs.length cap c xs w rfl hm hc.1 hc.2.1 (fun i hi => owns_cell ho hi) hc2
end Go.Proofs.Ytbjmdijphciliaa
