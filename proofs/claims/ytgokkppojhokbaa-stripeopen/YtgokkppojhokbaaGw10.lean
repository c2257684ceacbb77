/-
  Stripe: slices.Grow of nothing, slices.Concat.
-/
import Derived.Test.YtgokkppojhokbaaCu10
import Derived.Lib.AppendZerosOnto
import Derived.Lib.AppendZeros
import Derived.Lib.SliceRun
namespace Go.Proofs.Ytgokkppojhokbaa
open Go.RowKit
theorem zc_size (z : Array Value) (n : Nat) (h : z.size = 1) : (Builtin.zeroCells z n).size = n := by
  have := size_zeroCells z n
  simp [h] at this
  exact this
section
attribute [local irreducible] Calls
set_option maxHeartbeats 2000000 in
set_option maxRecDepth 100000 in
theorem grow_nil (n : Nat) (h0 : 0 < n) (hn : n ≤ 140737488355328) (w : World) :
    Calls Try.prog 46 #[.slice none 0 0, .int .i64 (n : Int)] w fun e w' => ∃ v, e = .returned v ∧ Ow w' w.heap.size v [] ∧ Below w.heap.size w w' := by
  obtain ⟨i0, hi, hz0, hz1, hz2⟩ := info_parts info5
  have h1 : ¬ ((n : Int) < 0) := by omega
  have h4 : (n : Int) > 0 := by omega
  have hrz : ∀ ty, (Builtin.append_ #[23, 3] ty #[.slice none 0 0, .int .i64 (n : Int)]).run Try.prog w =
      .ok (.slice (some ⟨w.heap.size, 0, none⟩) n (grownCap w n 0 5)) (w.drew.alloc (.cells (#[] ++ Builtin.zeroCells (Value.int .u8 0).cells n ++ Builtin.zeroCells (Value.int .u8 0).cells (grownCap w n 0 5 - n)) 5)) := fun ty => by
    have h := Lib.run_append_grow_zeros (P := Try.prog) w 23 3 ty 5 i0 (.int .u8 0) .i64 .i64 Try.underlying23 Try.underlying3 hi hz0 none 0 0 [] (run_firstCells_none w.drew i0.size 0 0 0) n h0 (by rw [hz1]; omega) (by omega) (by omega) (by rw [hz2]; omega) (by rw [hz2]; exact growslice_fits (by omega) (by omega))
    rw [Nat.zero_add] at h
    exact h
  have hGn : n ≤ grownCap w n 0 5 := grownCap_ge w _ _ _
  have hGm := grownCap_le_maxLen w n 0 5 (by unfold maxLen; omega)
  obtain ⟨G, hG⟩ : ∃ G, G = grownCap w n 0 5 := ⟨_, rfl⟩
  rw [← hG] at hrz hGn hGm
  have hG63 : G ≤ 9223372036854775807 := by unfold maxLen at hGm; omega
  clear hG
  go_enter Try.func46, Try.ntmps46
  go_wp2_with (at_builtin; refine Lib.wpList_append_run _ rfl _ _ _ _ rfl _ _ rfl rfl _ _ (hrz _) ?_)
  go_ret
  refine ⟨_, rfl, ?_, ?_⟩
  · exact ⟨rfl, .inr ⟨w.heap.size, G, _, rfl, Nat.le_refl _, heap_alloc_new w.drew _, Nat.zero_le _, hGm, by rw [Nat.mul_one, Array.size_append, zc_size _ _ rfl, zc_size _ _ rfl]; omega, rfl⟩⟩
  · exact ((Below.refl _ w).drew).alloc (Nat.le_refl _) _
end
/-- The blocks, one behind the other. -/
def cls (L : List Nat) (N : Nat → Nat → BitVec 8) : Nat → List (BitVec 8)
  | 0 => []
  | t + 1 => cls L N t ++ ls (N t) (L.getD t 0)
theorem cls_len (L : List Nat) (N : Nat → Nat → BitVec 8) : ∀ t, t ≤ L.length → (cls L N t).length = (L.take t).sum
  | 0, _ => rfl
  | t + 1, h => by
    show (cls L N t ++ ls (N t) (L.getD t 0)).length = _
    rw [List.length_append, cls_len L N t (by omega), ls_len, sum_take_succ L t (by omega)]
theorem cls_succ (L : List Nat) (N : Nat → Nat → BitVec 8) (t : Nat) : cls L N (t + 1) = cls L N t ++ ls (N t) (L.getD t 0) := rfl
theorem nr_rd {w : World} {p : Option Addr} {n c : Nat} {f : Nat → BitVec 8} (h : NrE w (.slice p n c) n f) : Rd w p (ls f n) := by
  obtain ⟨p', c', e, h⟩ := nr_un h
  injection e with e1 e2 e3
  subst e1
  by_cases h0 : n = 0
  · subst h0; exact .inl rfl
  · obtain ⟨b, o, e, hc⟩ := h (by omega)
    refine .inr ⟨b, o, e, fun i hi => ?_⟩
    rw [ls_len] at hi
    rw [hc i hi]
    simp [ls, hi]
section
attribute [local irreducible] Calls NmE NrE Ow cls ls
set_option maxHeartbeats 4000000 in
set_option maxRecDepth 1000000 in
theorem concat_any {w : World} {p : Option Addr} {L : List Nat} {c : Nat} {N : Nat → Nat → BitVec 8} (h0 : 0 < L.sum) (hS : L.sum ≤ 140737488355328) (hl : L.length ≤ 1099511627776) (hN : NmE w (.slice p L.length c) L.length (fun j => L.getD j 0) N) :
    Calls Try.prog 33 #[.slice p L.length c] w fun e w' => ∃ v, e = .returned v ∧ Ow w' w.heap.size v (cls L N L.length) ∧ Below w.heap.size w w' := by
  have hl0 : 0 < L.length := by
    cases L with
    | nil => simp at h0
    | cons a l => simp
  obtain ⟨b, o, rows, rfl, hc, hr⟩ := nm_at hN hl0
  have HC := (show Hid _ from hc)
  have HR := (show Hid (∀ i, i < L.length → NrE w (rows i) (L.getD i 0) (N i)) from hr)
  have GR := (show Hid _ from grow_nil L.sum h0 hS)
  clear hN hc hr
  go_enter Try.func33, Try.ntmps33
  go_wp2
  go_loopw [3, 11] (fun s i wr => ∃ t : Nat, t ≤ L.length ∧ i = .int .i64 (t : Int) ∧ s = .int .i64 (((L.take t).sum : Nat) : Int) ∧ Below w.heap.size w wr) (fun _ i _ => L.length - (intOf i).toNat)
  case atStart => exact ⟨0, Nat.zero_le _, rfl, rfl, Below.refl _ _⟩
  case round =>
    obtain ⟨t, ht, rfl, rfl, hbw⟩ := hrel
    by_cases hlt : t < L.length
    · obtain ⟨pr, cr, er, _⟩ := nr_un (HR.out t hlt)
      have g0 := HC.out t hlt
      rw [er] at g0
      have g1 := cell_below g0 hbw
      have hi : (t : Int) < (L.length : Int) := by omega
      have h1 := sum_take_lt L t hlt
      have h2 := sum_take_succ L t hlt
      generalize (L.take t).sum = s0 at *
      generalize L.getD t 0 = x at *
      have e1 : wrap64 ((s0 : Int) + (x : Int)) = (s0 : Int) + (x : Int) := by unfold wrap64; omega
      have e3 : ¬ (s0 : Int) + (x : Int) < 0 := by omega
      go_wp2
      go_roundw
      case rel => exact ⟨t + 1, hlt, by go_num, by rw [h2, Int.natCast_add], hbw⟩
      case measure => simp [intOf]; omega
    · obtain rfl : t = L.length := by omega
      have e1 : (L.take L.length).sum = L.sum := by rw [List.take_length]
      rw [e1]
      go_wp2_with (go_at_call 46; refine (GR.out _).mono ?_; rintro e w1 ⟨v1, rfl, hO1, hb1⟩)
      have HB1 := (show Hid (Below w.heap.size w w1) from hbw.trans (hb1.mono hbw.size))
      have HO1 := (show Hid (Ow w1 w.heap.size v1 (cls L N 0)) from by unfold cls; exact hO1.mono hbw.size)
      clear hO1 hb1 hbw GR
      go_loopw [6, 27] (fun v i wr => ∃ t : Nat, t ≤ L.length ∧ i = .int .i64 (t : Int) ∧ Hid (Ow wr w.heap.size v (cls L N t)) ∧ Below w.heap.size w wr) (fun _ i _ => L.length - (intOf i).toNat)
      case atStart => exact ⟨0, Nat.zero_le _, rfl, HO1, HB1.out⟩
      case round =>
        clear HO1 HB1
        obtain ⟨t, ht, rfl, hO, hb⟩ := hrel

        by_cases hlt : t < L.length
        · obtain ⟨pr, cr, er, _⟩ := nr_un (HR.out t hlt)
          have g0 := HC.out t hlt
          rw [er] at g0
          have g1 := cell_below g0 hb
          have hi : (t : Int) < (L.length : Int) := by omega
          have h1 := sum_take_lt L t hlt
          have hcl := cls_len L N t ht
          have hrd : Hid (Rd wr pr (ls (N t) (L.getD t 0))) := nr_rd (c := cr) (by have h := NrE.below (HR.out t hlt) hb; rw [er] at h; exact h)
          have hss : Hid (cls L N (t + 1) = cls L N t ++ ls (N t) (L.getD t 0)) := cls_succ L N t
          clear er g0
          rw [← hcl] at h1
          clear hcl
          generalize L.getD t 0 = l at *
          go_wp2_with (at_builtin; refine wpList_apa rfl _ _ rfl w.heap.size u6 (cls L N t) rfl hO.out pr l cr (ls (N t) l) rfl hrd.out (ls_len _ _) (by omega) hb.size ?_; intro v3 w3 hO3 hg3 _)
          have hb3 := hO.out.below_append hb hb.size hg3 (Nat.le_refl _)
          go_roundw
          case rel => exact ⟨t + 1, hlt, by go_num, by rw [hss.out]; exact hO3, hb3⟩
          case measure => simp [intOf]; omega
        · obtain rfl : t = L.length := by omega
          go_wp2
          go_ret
          exact ⟨_, rfl, hO.out, hb⟩
end
end Go.Proofs.Ytgokkppojhokbaa
