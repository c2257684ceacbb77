/-
  The document's 'First', 'Matrix'.
-/
import Derived.Test.YtnlmjajdfaambaaSh
namespace Go.Proofs.Ytnlmjajdfaambaa
open Go.RowKit
section
attribute [local irreducible] Calls lv
set_option maxHeartbeats 4000000 in
set_option maxRecDepth 1000000 in
theorem first_core (k : Nat) (hk : k ≤ 255) (w : World) : Calls Try.prog 50 #[.int .i64 (k : Int)] w fun e w' => ∃ v, e = .returned v ∧ w'.ownsRow w.heap.size 3 1 v k (lv (fun j => .int .i64 (j : Int)) k) ∧ Below w.heap.size w w' := by
  obtain ⟨i1, hi1, hz01, hz11, hz21⟩ := info_parts infoI
  go_enter Try.func50, Try.ntmps50
  go_wp2
  go_loopw [3, 4] (fun v i wr => ∃ t : Nat, t ≤ k ∧ i = .int .i64 t ∧ wr.ownsRow w.heap.size 3 1 v t (lv (fun j => .int .i64 (j : Int)) t) ∧ Below w.heap.size w wr) (fun _ i _ => k - (intOf i).toNat)
  case atStart => exact ⟨0, Nat.zero_le _, rfl, lv_none _ _ _ _ _, Below.refl _ _⟩
  case round =>
    obtain ⟨t, ht, rfl, hown, hb⟩ := hrel
    by_cases hlt : t < k
    · have j1 : (t : Int) < (k : Int) := by omega
      have M1 : Hid (t + 1 ≤ maxLen) := by show _ ≤ _; unfold maxLen; omega
      have M3 : Hid (∀ o : Obj, w.heap.size ≤ (wr.alloc o).heap.size) := fun o => by have := hb.size; simp; omega
      go_wp2_with (at_builtin; refine wpList_append_own _ rfl _ _ 45 rfl w.heap.size 3 i1 (.int .i64 0) 1 8 Try.underlying45 hi1 hz01 hz11 hz21 rfl (by decide) _ _ _ rfl (hown.alloc _) ⟨wr.heap.size, 0, none⟩ 1 1 [.int .i64 (t : Int)] rfl rfl (one_new _ _ _) (one_cellv rfl) M1.out (by omega) (M3.out _) ?_; intro v' w8 hown' hgrow _)
      have hb8 := below_append (hb.alloc hb.size _) (M3.out _) hgrow (hown.alloc _) (Nat.le_refl _)
      rw [← lv_succ (fun j => .int .i64 (j : Int)) t] at hown'
      clear hown hgrow
      go_roundw
      case rel => exact ⟨t + 1, by omega, by go_num, hown', hb8⟩
      case measure => simp [intOf]; omega
    · obtain rfl : t = k := by omega
      go_wp2
      go_ret
      exact ⟨_, rfl, hown, hb⟩
end
theorem first_cells {w : World} {b k : Nat} {v : Value} (h : w.ownsRow b 3 1 v k (lv (fun j => .int .i64 (j : Int)) k)) (h0 : 0 < k) : ∃ b' o c, v = .slice (some ⟨b', o, none⟩) k c ∧ ∀ t, t < k → w.cell? ⟨b', o + t, none⟩ = some (.int .i64 (t : Int)) := (St.sv (owns_st1 h)).cells h0
theorem lv_byte (f : Nat → BitVec 8) (j : Nat) : lv (clE f) j ++ [.int .u8 (el (f j))] = lv (clE f) (j + 1) := by rw [lv_succ]; rfl
theorem br_of {w : World} {b n : Nat} {v : Value} {f : Nat → BitVec 8} (h : w.ownsRow b 5 1 v n (lv (clE f) n)) : Br w v n f := owns_st1 h
section
attribute [local irreducible] Calls Br lv clE el shr Ov
set_option maxHeartbeats 16000000 in
set_option maxRecDepth 1000000 in
theorem refMatrix_core (k m : Nat) (hk : 1 ≤ k) (hkm : k + m ≤ 255) (w : World) : Calls Try.prog 18 #[.int .i64 (k : Int), .int .i64 (m : Int)] w fun e w' => ∃ v rows, e = .returned v ∧ w'.ownsRow w.heap.size 37 1 v (k + m) (lv rows (k + m)) ∧ (∀ i, i < k + m → Br w' (rows i) k (shr (fun t => t) k i)) ∧ Below w.heap.size w w' := by
  obtain ⟨i0, hif, hz0, hz1, hz2⟩ := info_parts infoY
  obtain ⟨i1, hif1, hz01, hz11, hz21⟩ := info_parts info5
  have e1 : wrap64 ((k : Int) + (m : Int)) = (k : Int) + (m : Int) := by unfold wrap64; omega
  go_enter Try.func18, Try.ntmps18
  go_wp2_with (go_at_call 50; refine (first_core k (by omega) w).mono ?_; rintro e w1 ⟨v1, rfl, hF1, hb1⟩; obtain ⟨bF, oF, cF, eF, hcF⟩ := first_cells hF1 hk; subst eF; have HCF := (show Hid _ from hcF); clear hF1 hcF)
  have HB1 := (show Hid _ from hb1)
  clear hb1
  go_loopw [5, 7] (fun v i wr => ∃ (t : Nat) (rows : Nat → Value), t ≤ k + m ∧ i = .int .i64 t ∧ wr.ownsRow w1.heap.size 37 1 v t (lv rows t) ∧ Hid (∀ i, i < t → Br wr (rows i) k (shr (fun t => t) k i)) ∧ Below w1.heap.size w1 wr) (fun _ i _ => k + m - (intOf i).toNat)
  case atStart => exact ⟨0, fun _ => .bool false, Nat.zero_le _, rfl, lv_none _ _ _ _ _, fun i hi => by omega, Below.refl _ _⟩
  case round =>
    obtain ⟨t, rows, ht, rfl, hown, hR, hb⟩ := hrel
    by_cases hlt : t < k + m
    · have j1 : (t : Int) < (k : Int) + (m : Int) := by omega
      have M1 : Hid (t + 1 ≤ maxLen) := by show _ ≤ _; unfold maxLen; omega
      have SH := (show Hid _ from shares_core bF oF k cF t (fun t => t) wr hk (by omega) (by omega) (fun s hs => by omega) (fun i _ j _ h => h) (fun s hs => cell_below (HCF.out s hs) hb))
      have HOWN := (show Hid _ from hown)
      have HB := (show Hid _ from hb)
      clear hown hb
      go_wp2_with (go_at_call 51; refine SH.out.mono ?_; rintro e W0 ⟨rfl, hO0, hb0⟩; have HO0 := (show Hid _ from hO0); have HBw := (show Hid _ from hb0); clear hO0 hb0 SH)
      obtain ⟨G, hG⟩ : ∃ G, wr.heap.size = G := ⟨_, rfl⟩
      have HWG : Hid (wr.heap.size = G) := hG
      rw [hG] at HO0
      clear hG
      rw [HWG.out]
      go_loopw [9, 10] (fun v i wr => ∃ j : Nat, j ≤ k ∧ i = .int .i64 j ∧ wr.ownsRow W0.heap.size 5 1 v j (lv (clE (shr (fun t => t) k t)) j) ∧ Below W0.heap.size W0 wr) (fun _ i _ => k - (intOf i).toNat)
      case atStart => exact ⟨0, Nat.zero_le _, rfl, lv_none _ _ _ _ _, Below.refl _ _⟩
      case round =>
        obtain ⟨j, hj, rfl, hown2, hb2⟩ := hrel
        by_cases hjk : j < k
        · have j2 : (j : Int) < (k : Int) := by omega
          have g1 := (HO0.out.below hb2).cell hjk
          have M2 : Hid (j + 1 ≤ maxLen) := by show _ ≤ _; unfold maxLen; omega
          have M3 : Hid (∀ o : Obj, W0.heap.size ≤ (wr.alloc o).heap.size) := fun o => by have := hb2.size; simp; omega
          obtain ⟨z, hz⟩ : ∃ z, el (shr (fun t => t) k t j) = z := ⟨_, rfl⟩
          have hzb := el_bd (shr (fun t => t) k t j)
          rw [hz] at g1 hzb
          have HZ : Hid (el (shr (fun t => t) k t j) = z) := hz
          obtain ⟨hz1, hz2⟩ := hzb
          clear hz
          go_wp2_with (at_builtin; refine wpList_append_own _ rfl _ _ 37 rfl W0.heap.size 5 i1 (.int .u8 0) 1 1 Try.underlying37 hif1 hz01 hz11 hz21 rfl (by decide) _ _ _ rfl (hown2.alloc _) ⟨wr.heap.size, 0, none⟩ 1 1 [.int .u8 z] rfl rfl (one_new _ _ _) (one_cellv rfl) M2.out (by omega) (M3.out _) ?_; intro v' w3 hown' hgrow _)
          have hb3 := below_append (hb2.alloc hb2.size _) (M3.out _) hgrow (hown2.alloc _) (Nat.le_refl _)
          rw [← HZ.out, lv_byte] at hown'
          clear hown2 hgrow g1
          go_roundw
          case rel => first | exact ⟨j + 1, by omega, by go_num, hown', hb3⟩ | exact ⟨_, _, ⟨j + 1, by omega, rfl, hown', hb3⟩, rfl, by go_num⟩ | ((repeat apply Exists.intro); exact ⟨⟨j + 1, by omega, by go_num, hown', hb3⟩, rfl⟩)
          case measure => simp [intOf]; omega
        · obtain rfl : k = j := by omega
          have HI : Hid (Br wr _ k (shr (fun t => t) k t)) := br_of hown2
          obtain ⟨px, cx, ex⟩ := HI.out.form
          subst ex
          have HX2 := (show Hid _ from bt HBw.out hb2)
          have hown3 := owns_below HOWN.out HX2.out
          have hb3 := bt HB.out HX2.out
          clear hown2
          go_wp2_with (at_builtin; refine wpList_append_own _ rfl _ _ 27 rfl w1.heap.size 37 i0 (.slice none 0 0) 1 24 Try.underlying27 hif hz0 hz1 hz2 rfl (by decide) _ _ _ rfl (hown3.alloc _) ⟨_, 0, none⟩ 1 1 [.slice px k cx] rfl rfl (one_new _ _ _) (one_cellv rfl) M1.out (by omega) (by have := hb3.size; simp at *; omega) ?_; intro v' w4 hown' hgrow _)
          have hb4 := below_append (hb3.alloc hb3.size _) (by have := hb3.size; simp at *; omega) hgrow (hown3.alloc _) (Nat.le_refl _)
          rw [push_lv] at hown'
          have hR3 : Hid (∀ i, i < t + 1 → Br w4 ((fun i => if i = t then .slice px k cx else rows i) i) k (shr (fun t => t) k i)) := push_br (l := fun _ => k) (M := shr (fun t => t) k) hown3 hgrow (fun i hi => (hR.out i hi).below HX2.out) HI.out
          clear hown3 hgrow
          go_roundw
          case rel => exact ⟨t + 1, _, by omega, by go_num, hown', hR3, hb4⟩
          case measure => simp [intOf]; omega
    · obtain rfl : t = k + m := by omega
      go_wp2
      go_ret
      exact ⟨_, rows, rfl, ⟨hown.1, by rcases hown.2 with h | ⟨g, c, u, h1, h2, h3⟩; exact .inl h; exact .inr ⟨g, c, u, h1, Nat.le_trans HB1.out.size h2, h3⟩⟩, hR.out, bt HB1.out hb⟩
end
theorem shr_id {k : Nat} {F : Nat → Nat → BitVec 8} (hF : Fac k F) (hk : k ≤ 255) {j : Nat} (hj : j < k) (i : Nat) : F i j = shr (fun t => t) k i j := by
  by_cases h : i < k
  · rw [shr_in (p := fun t => t) h rfl, hF.id h hj]
    unfold dl
    by_cases e : i = j
    · rw [if_pos e, if_pos e.symm]; rfl
    · rw [if_neg e, if_neg (fun e2 => e e2.symm)]; rfl
  · rw [shr_out (p := fun t => t) (fun t ht => by show t ≠ i; omega), sha_fac hF hk hj]
end Go.Proofs.Ytnlmjajdfaambaa
