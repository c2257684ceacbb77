/-
  The document's 'one', 'Weights', 'products'; the program's 'even', 'rowsFault' whatever they are handed.
-/
import Derived.Test.YtienknoahjhopaaRmx
namespace Go.Proofs.Ytienknoahjhopaa
open Go.RowKit
/-- An answer, yes or no. -/
def Ans (e : Ending) (Q : Prop) : Prop := ∃ b : Bool, e = .returned (.bool b) ∧ (b = true ↔ Q)
theorem ans_yes {Q : Prop} (h : Q) : Ans (.returned (.bool true)) Q := ⟨true, rfl, fun _ => h, fun _ => rfl⟩
theorem ans_no {Q : Prop} (h : ¬ Q) : Ans (.returned (.bool false)) Q := ⟨false, rfl, ⟨fun h2 => (by cases h2), fun h2 => absurd h2 h⟩⟩
section
attribute [local irreducible] Calls Ans
set_option maxHeartbeats 4000000 in
set_option maxRecDepth 1000000 in
theorem one_any (p : Option Addr) (r c n : Nat) (L : Nat → Nat) (w : World) (hr : r ≤ 140737488355328) (HL : Hid (Lm w (.slice p r c) r L)) : Calls Try.prog 28 #[.slice p r c, .int .i64 (n : Int)] w fun e w' => Ans e (∀ i, i < r → L i = n) ∧ w' = w := by
  go_enter Try.func28, Try.ntmps28
  go_wp2
  go_loop [5] (fun i => ∃ k : Nat, k ≤ r ∧ i = .int .i64 k ∧ Hid (∀ i, i < k → L i = n)) (fun i => r - (intOf i).toNat)
  case atStart => exact ⟨0, Nat.zero_le _, rfl, fun i hi => by omega⟩
  case round =>
    obtain ⟨k, hk, rfl, hA⟩ := hrel
    by_cases hlt : k < r
    · have j1 : (k : Int) < (r : Int) := by omega
      obtain ⟨b, o, c', pp, cc, e, hc⟩ := Lm.cells HL.out (by omega)
      injection e with e _ _
      subst e
      have g1 := hc k hlt
      clear hc
      by_cases h : L k = n
      · have e1 : ((L k : Int) != (n : Int)) = false := by rw [h]; simp
        have H : Hid (L k = n) := h
        clear h
        go_wp2
        go_round
        case rel => exact ⟨k + 1, by omega, by go_num, fun i hi => by
          by_cases e : i = k
          · rw [e]; exact H.out
          · exact hA.out i (by omega)⟩
        case measure => simp [intOf]; omega
      · have e1 : ((L k : Int) != (n : Int)) = true := by simp; omega
        go_wp2
        go_ret
        exact ⟨ans_no (fun h2 => h (h2 k hlt)), rfl⟩
    · obtain rfl : k = r := by omega
      go_wp2
      go_ret
      exact ⟨ans_yes hA.out, rfl⟩
set_option maxHeartbeats 4000000 in
set_option maxRecDepth 1000000 in
theorem even_any (p : Option Addr) (r c : Nat) (L : Nat → Nat) (w : World) (hr : r ≤ 140737488355328) (HL : Hid (Lm w (.slice p r c) r L)) : Calls Try.prog 32 #[.slice p r c] w fun e w' => Ans e (∀ i, i < r → L i = L 0) ∧ w' = w := by
  go_enter Try.func32, Try.ntmps32
  go_wp2
  go_loop [7] (fun i => ∃ k : Nat, k ≤ r ∧ i = .int .i64 k ∧ Hid (∀ i, i < k → L i = L 0)) (fun i => r - (intOf i).toNat)
  case atStart => exact ⟨0, Nat.zero_le _, rfl, fun i hi => by omega⟩
  case round =>
    obtain ⟨k, hk, rfl, hA⟩ := hrel
    by_cases hlt : k < r
    · have j1 : (k : Int) < (r : Int) := by omega
      have j0 : (0 : Int) < (r : Int) := by omega
      have j00 : 0 < r := by omega
      obtain ⟨b, o, c', pp, cc, e, hc⟩ := Lm.cells HL.out (by omega)
      injection e with e _ _
      subst e
      have g1 := hc k hlt
      have g0 : w.cell? ⟨b, o, none⟩ = some (.slice (pp 0) (L 0) (cc 0)) := hc 0 (by omega)
      clear hc
      by_cases h : L k = L 0
      · have e1 : ((L k : Int) != (L 0 : Int)) = false := by rw [h]; simp
        have H : Hid (L k = L 0) := h
        clear h
        go_wp2
        go_round
        case rel => exact ⟨k + 1, by omega, by go_num, fun i hi => by
          by_cases e : i = k
          · rw [e]; exact H.out
          · exact hA.out i (by omega)⟩
        case measure => simp [intOf]; omega
      · have e1 : ((L k : Int) != (L 0 : Int)) = true := by simp; omega
        go_wp2
        go_ret
        exact ⟨ans_no (fun h2 => h (h2 k hlt)), rfl⟩
    · obtain rfl : k = r := by omega
      go_wp2
      go_ret
      exact ⟨ans_yes hA.out, rfl⟩
end
theorem ir_ov {w : World} {g n : Nat} {f : Nat → Int} (h : Ov w 3 g (fun j => .int .i64 (f j)) n) : Ir w (.slice (some ⟨g, 0, none⟩) n n) n f := h.st n n
section
attribute [local irreducible] Calls lv Ir el shr Ov
set_option maxHeartbeats 8000000 in
set_option maxRecDepth 1000000 in
theorem weights_core (b o q c N : Nat) (p : Nat → Nat) (w : World) (hq0 : 0 < q) (hq : q ≤ 255) (hN : N ≤ 255) (HP : Hid (∀ t, t < q → p t < 256)) (HD : Hid (∀ i, i < q → ∀ j, j < q → i ≠ j → p i ≠ p j)) (HC : Hid (∀ t, t < q → w.cell? ⟨b, o + t, none⟩ = some (.int .i64 (p t : Int)))) :
    Calls Try.prog 51 #[.int .i64 (N : Int), .slice (some ⟨b, o, none⟩) q c] w fun e w' => ∃ v rows, e = .returned v ∧ w'.ownsRow w.heap.size 47 1 v N (lv rows N) ∧ (∀ i, i < N → Ir w' (rows i) q (fun j => el (shr p q i j))) ∧ Below w.heap.size w w' := by
  obtain ⟨i0, hif, hz0, hz1, hz2⟩ := info_parts infoIR
  go_enter Try.func51, Try.ntmps51
  go_wp2
  go_loopw [5, 6] (fun v i wr => ∃ (t : Nat) (rows : Nat → Value), t ≤ N ∧ i = .int .i64 t ∧ wr.ownsRow w.heap.size 47 1 v t (lv rows t) ∧ Hid (∀ i, i < t → Ir wr (rows i) q (fun j => el (shr p q i j))) ∧ Below w.heap.size w wr) (fun _ i _ => N - (intOf i).toNat)
  case atStart => exact ⟨0, fun _ => .bool false, Nat.zero_le _, rfl, lv_none _ _ _ _ _, fun i hi => by omega, Below.refl _ _⟩
  case round =>
    obtain ⟨t, rows, ht, rfl, hown, hR, hb⟩ := hrel
    by_cases hlt : t < N
    · have j1 : (t : Int) < (N : Int) := by omega
      have M1 : Hid (t + 1 ≤ maxLen) := by show _ ≤ _; unfold maxLen; omega
      have SH := (show Hid _ from shares_core b o q c t p wr hq0 hq (by omega) HP HD (fun s hs => cell_below (HC.out s hs) hb))
      go_wp2_with (first
        | (go_at_call 39; refine SH.out.mono ?_; rintro e w2 ⟨rfl, hO2, hb2⟩; have HI : Hid (Ir w2 (.slice (some ⟨wr.heap.size, 0, none⟩) q q) q (fun j => el (shr p q t j))) := ir_ov hO2; have hown2 := owns_below hown hb2; clear hO2 SH)
        | (at_builtin; refine wpList_append_own _ rfl _ _ 83 rfl w.heap.size 47 i0 (.slice none 0 0) 1 24 Try.underlying83 hif hz0 hz1 hz2 rfl (by decide) _ _ _ rfl (hown2.alloc _) ⟨_, 0, none⟩ 1 1 [.slice (some ⟨wr.heap.size, 0, none⟩) q q] rfl rfl (one_new _ _ _) (one_cellv rfl) M1.out (by omega) (by have := hb.size; have := hb2.size; simp at *; omega) ?_; intro v' w3 hown' hgrow _))
      have hb3 := below_append ((bt hb hb2).alloc (by have := hb.size; have := hb2.size; omega) _) (by have := hb.size; have := hb2.size; simp at *; omega) hgrow (hown2.alloc _) (Nat.le_refl _)
      rw [push_lv] at hown'
      have hR3 : Hid (∀ i, i < t + 1 → Ir w3 ((fun i => if i = t then .slice (some ⟨wr.heap.size, 0, none⟩) q q else rows i) i) q (fun j => el (shr p q i j))) := push_ir (l := fun _ => q) (M := fun i j => el (shr p q i j)) hown2 hgrow (fun i hi => (hR.out i hi).below hb2) HI.out
      clear hown hgrow hR hown2
      go_roundw
      case rel => exact ⟨t + 1, _, by omega, by go_num, hown', hR3, hb3⟩
      case measure => simp [intOf]; omega
    · obtain rfl : t = N := by omega
      go_wp2
      go_ret
      exact ⟨_, rows, rfl, hown, hR.out, hb⟩
end
section
attribute [local irreducible] Calls el gm bv Ov
set_option maxHeartbeats 8000000 in
set_option maxRecDepth 1000000 in
theorem products_core (s : BitVec 8) (w : World) : Calls Try.prog 66 #[.int .i64 (el s)] w fun e w' => e = .returned (.slice (some ⟨w.heap.size, 0, none⟩) 256 256) ∧ Ov w' 3 w.heap.size (fun b => .int .i64 (el (gm s (bv b)))) 256 ∧ Below w.heap.size w w' := by
  have hm1 : ∀ w : World, (Instr.makeSlice 47 (.int .i64 256) (.int .i64 256)).run Try.prog w = .ok (.slice (some ⟨w.heap.size, 0, none⟩) 256 256) (w.alloc (.cells (Array.replicate 256 (.int .i64 0)) 3)) := fun w => makeI 256 (by omega) w
  have HO0 : Hid (Ov (w.alloc (.cells (Array.replicate 256 (.int .i64 0)) 3)) 3 w.heap.size (fun i => if i < 0 then .int .i64 (el (gm s (bv i))) else .int .i64 0) 256) := (ov_new w 3 (.int .i64 0) 256).congr (fun i _ => by rw [if_neg (by omega)])
  have HB0 : Hid (Below w.heap.size w (w.alloc (.cells (Array.replicate 256 (.int .i64 0)) 3))) := (Below.refl _ _).alloc (Nat.le_refl _) _
  obtain ⟨X, hX⟩ : ∃ X, X = w.alloc (.cells (Array.replicate 256 (.int .i64 0)) 3) := ⟨_, rfl⟩
  rw [← hX] at HO0 HB0
  have HX : Hid (X = w.alloc (.cells (Array.replicate 256 (.int .i64 0)) 3)) := hX
  have hm2 : (Instr.makeSlice 47 (.int .i64 256) (.int .i64 256)).run Try.prog w = .ok (.slice (some ⟨w.heap.size, 0, none⟩) 256 256) X := by rw [hX]; exact hm1 w
  clear hX hm1
  go_enter Try.func66, Try.ntmps66
  go_wp2
  clear hm2
  go_loopw [4] (fun i wr => ∃ k : Nat, k ≤ 256 ∧ i = .int .i64 k ∧ Ov wr 3 w.heap.size (fun i => if i < k then .int .i64 (el (gm s (bv i))) else .int .i64 0) 256 ∧ Below w.heap.size w wr) (fun i _ => 256 - (intOf i).toNat)
  case atStart => exact ⟨0, Nat.zero_le _, rfl, HO0.out, HB0.out⟩
  case round =>
    clear HO0 HB0
    obtain ⟨k, hk, rfl, hO, hb⟩ := hrel
    by_cases hlt : k < 256
    · have j1 : (k : Int) < 256 := by omega
      have TM := (show Hid _ from refTimes_any s (bv k) wr)
      rw [el_ofNat k hlt] at TM
      have g1 := hO.cell hlt
      rw [if_neg (Nat.lt_irrefl k)] at g1
      have g2 := hO.frozen k
      have HOs := (show Hid _ from hO)
      clear hO
      go_wp2_with (go_at_call 40; refine TM.out.mono ?_; rintro e w' ⟨rfl, h⟩; obtain rfl := h.symm)
      go_roundw
      case rel =>
        refine ⟨k + 1, by omega, by go_num, (HOs.out.set hlt _).congr (fun i _ => ?_), hb.setCell (Nat.le_refl _) _⟩
        by_cases e : i = k
        · rw [if_pos e, if_pos (by omega), e]
        · rw [if_neg e]
          by_cases e2 : i < k
          · rw [if_pos e2, if_pos (by omega)]
          · rw [if_neg e2, if_neg (by omega)]
      case measure => simp [intOf]; omega
    · obtain rfl : k = 256 := by omega
      go_wp2
      go_ret
      exact ⟨rfl, hO.congr (fun i hi => by rw [if_pos hi]), hb⟩
end
end Go.Proofs.Ytienknoahjhopaa
