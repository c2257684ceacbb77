/-
  The document's Derive at whatever slice, Times, Inv, shifted.
-/
import Derived.Test.YtbjmdijphciliaaRefB
import Derived.Test.YtbjmdijphciliaaPTimes
namespace Go.Proofs.Ytbjmdijphciliaa
open Go.RowKit

/-- The row of the product behind a whole coefficient. -/
theorem refTimes_step {w : World} {t : TypeId} {G N k : Nat} {ps qs : List (BitVec 8)} (h : Own w t G (ad (co (mul (ps.take k) qs)) (co qs) (co ps k) k qs.length) N) (hk : k < ps.length) : Own w t G (co (mul (ps.take (k + 1)) qs)) N :=
  h.congr (fun i _ => by rw [ad_adq, mul_take_succ qs hk i]; rfl)
theorem make_u8 (n : Nat) (hn : n ≤ 281474976710656) (w : World) : (Instr.makeSlice 22 (.int .i64 (n : Int)) (.int .i64 (n : Int))).run Try.prog w = .ok (.slice (some ⟨w.heap.size, 0, none⟩) n n) (w.alloc (.cells (Array.replicate n (.int .u8 0)) 5)) := by
  obtain ⟨i0, hi, hz0, hz1, hz2⟩ := info_parts info5
  have h := run_make (P := Try.prog) w 22 5 i0 (.int .u8 0) Try.underlying22 hi hz0 .i64 .i64 (n : Int) (n : Int) (by omega) (by omega) (by rw [hz2]; omega) (by omega)
  rw [h, hz1]
  have e : madeCells (Value.int .u8 0).cells ((n : Int).toNat * 1) = Array.replicate n (.int .u8 0) := by
    apply Array.ext_getElem?
    intro i
    simp only [madeCells, Int.toNat_natCast, Nat.mul_one]
    by_cases hin : i < n
    · simp [hin, Value.cells]
      rw [Nat.mod_one]; rfl
    · rw [Array.getElem?_eq_none (by simp; omega), Array.getElem?_eq_none (by simp; omega)]
  rw [e, Int.toNat_natCast]
theorem own_newU (w : World) (n : Nat) : Own (w.alloc (.cells (Array.replicate n (.int .u8 0)) 5)) 5 w.heap.size (fun _ => 0#8) n := by
  unfold Own; rw [heap_alloc_new, rowC_zero]
theorem trim_own {w : World} {g n : Nat} {f : Nat → BitVec 8} {ys : List (BitVec 8)} (h : Own w 5 g f n) (hn : n ≤ 140737488355328) (hy : ∀ i, co (ls f n) i = co ys i) :
    Calls Try.prog 39 #[.slice (some ⟨g, 0, none⟩) n n] w fun e w' => ∃ v, e = .returned v ∧ Rs 5 w.heap.size w' v (trim ys) ∧ Below w.heap.size w w' := by
  have := refTrim_any h.rdo n n (ls_len f n) hn
  rw [trim_congr hy] at this; exact this
section
attribute [local irreducible] Calls el gm trim co Own Rs mul ad
set_option maxHeartbeats 16000000 in
set_option maxRecDepth 1000000 in
theorem refTimes_core (b1 o1 n1 c1 b2 o2 n2 c2 : Nat) (ps qs : List (BitVec 8)) (w : World) (hlp : Hid (ps.length = n1)) (hlq : Hid (qs.length = n2)) (hs : n1 + n2 ≤ 140737488355328) (h01 : 0 < n1)
    (K1 : Hid (∀ i, i < n1 → w.cell? ⟨b1, o1 + i, none⟩ = some (.int .u8 (el (co ps i))))) (K2 : Hid (∀ i, i < n2 → w.cell? ⟨b2, o2 + i, none⟩ = some (.int .u8 (el (co qs i))))) :
    Calls Try.prog 42 #[.slice (some ⟨b1, o1, none⟩) n1 c1, .slice (some ⟨b2, o2, none⟩) n2 c2] w fun e w' => ∃ v, e = .returned v ∧ Rs 5 w.heap.size w' v (trim (mul ps qs)) ∧ Below w.heap.size w w' := by
  have hx := el_xor
  obtain ⟨N, hN⟩ : ∃ N, N = n1 + n2 := ⟨_, rfl⟩
  have l1 : wrap64 ((n1 : Int) + (n2 : Int)) = (N : Int) := by unfold wrap64; omega
  have l2 : (n1 : Int) + (n2 : Int) = (N : Int) := by omega
  have hmk := make_u8 N (by omega)
  have HN : Hid (N = n1 + n2) := hN
  have HY : Hid (∀ i, co (ls (co (mul ps qs)) N) i = co (mul ps qs) i) := fun i => by
    rw [co_ls]
    by_cases hi : i < N
    · rw [if_pos hi]
    · rw [if_neg hi, mul_ge (m := n1) (n := n2) (fun j hj => co_ge (by rw [hlp.out]; exact hj)) (fun j hj => co_ge (by rw [hlq.out]; exact hj)) i (by omega)]
  clear hN
  go_enter Try.func42, Try.ntmps42
  go_wp2
  clear hmk
  go_loopw [6] (fun i wr => ∃ k : Nat, k ≤ n1 ∧ i = .int .i64 k ∧ Own wr 5 w.heap.size (co (mul (ps.take k) qs)) N ∧ Below w.heap.size w wr) (fun i _ => n1 - (intOf i).toNat)
  case atStart => exact ⟨0, Nat.zero_le _, rfl, (own_newU w N).congr (fun i _ => by rw [List.take_zero]; unfold mul; exact (co_nil i).symm), (Below.refl _ _).alloc (Nat.le_refl _) _⟩
  case round =>
    obtain ⟨k, hk, rfl, hO, hb⟩ := hrel
    by_cases hlt : k < n1
    · have i1 : (k : Int) < (n1 : Int) := by omega
      go_wp2
      go_loopw [7] (fun i wq => ∃ j : Nat, j ≤ n2 ∧ i = .int .i64 j ∧ Own wq 5 w.heap.size (ad (co (mul (ps.take k) qs)) (co qs) (co ps k) k j) N ∧ Below w.heap.size w wq) (fun i _ => n2 - (intOf i).toNat)
      case atStart => exact ⟨0, Nat.zero_le _, rfl, hO.congr (fun i _ => (ad_zero _ _ _ _ i).symm), hb⟩
      case round =>
        clear hO hb
        obtain ⟨j, hj, rfl, hR, hb⟩ := hrel
        by_cases hlj : j < n2
        · have kj : k + j < N := by have := HN.out; omega
          have g0 : wr.cell? ⟨w.heap.size, k + j, none⟩ = some (.int .u8 (el (co (mul (ps.take k) qs) (k + j)))) := by rw [← ad_at (co (mul (ps.take k) qs)) (co qs) (co ps k) k j]; exact hR.cell kj
          have g1 := cell_below (K1.out k hlt) hb
          have g2 := cell_below (K2.out j hlj) hb
          have g3 := hR.frozen (k + j)
          have i2 : (j : Int) < (n2 : Int) := by omega
          have i3 : wrap64 ((k : Int) + (j : Int)) = (k : Int) + (j : Int) := by unfold wrap64; omega
          have i4 : (k : Int) + (j : Int) < (N : Int) := by omega
          have i5 : ((k : Int) + (j : Int)).toNat = k + j := by omega
          have i6 : (0 : Int) ≤ (k : Int) + (j : Int) := by omega
          have i7 : IntKind.i64.wrap ((k : Int) + (j : Int)) = (k : Int) + (j : Int) := by rw [IntKind.wrap_i64]; omega
          go_wp2
          go_region_with (first | (go_at_call 55; refine (refMul_any _ _ _).mono ?_; rintro e w' ⟨rfl, h⟩; obtain rfl := h.symm))
          all_goals
            go_wp2
            first | (go_roundw
                     case rel => exact ⟨j + 1, by omega, by go_num, hR.ad kj rfl, ((hb.drew).setCell (Nat.le_refl _) _)⟩
                     case measure => simp [intOf]; omega) | trace_state
        · obtain rfl : j = n2 := by omega
          have hO2 := refTimes_step (ps := ps) (qs := qs) (by rw [hlq.out]; exact hR) (by rw [hlp.out]; exact hlt)
          clear hR
          go_wp2
          first | exact ⟨⟨k + 1, by omega, by go_num, hO2, hb⟩, by simp [intOf]; omega⟩ | trace_state
    · obtain rfl : k = n1 := by omega
      have hO2 : Own wr 5 w.heap.size (co (mul ps qs)) N := by
        have h4 : ps.take k = ps := by rw [← hlp.out, List.take_length]
        rw [h4] at hO; exact hO
      have HT := (show Hid _ from trim_own hO2 (by omega) HY.out)
      clear hO hO2
      go_wp2_with (go_at_call 39; refine HT.out.mono ?_; rintro e w' ⟨v, rfl, hR, hb2⟩)
      go_ret
      exact ⟨v, rfl, hR.mono hb.size, bt hb hb2⟩
end
end Go.Proofs.Ytbjmdijphciliaa
