/-
  Stripe: shardFault.
-/
import Derived.Test.YtgokkppojhokbaaIt10
import Derived.Test.YtgokkppojhokbaaHe10
namespace Go.Proofs.Ytgokkppojhokbaa
open Go.RowKit
theorem hdAt_ix (w : World) (h : Hd) (z : Int) : HdAt (w.alloc (.cells (h.cs.setIfInBounds 13 (.int .i64 z)) 33)) w.heap.size { h with ix := z } := heap_alloc_new w _
/-- Rows of these lengths. -/
def Ln (w : World) (p : Option Addr) (s : Nat) (l : Nat → Nat) : Prop := 0 < s → ∃ b o, p = some ⟨b, o, none⟩ ∧ ∀ j, j < s → ∃ pr cr, w.cell? ⟨b, o + j, none⟩ = some (.slice pr (l j) cr)
theorem Ln.below {w w' : World} {p : Option Addr} {s : Nat} {l : Nat → Nat} (h : Ln w p s l) (hb : Below w.heap.size w w') : Ln w' p s l := fun h0 => by
  obtain ⟨b, o, e, hc⟩ := h h0
  exact ⟨b, o, e, fun j hj => by obtain ⟨pr, cr, h⟩ := hc j hj; exact ⟨pr, cr, cell_below h hb⟩⟩
theorem nm_ln {w : World} {p : Option Addr} {s c : Nat} {l : Nat → Nat} {N : Nat → Nat → BitVec 8} (h : NmE w (.slice p s c) s l N) : Ln w p s l := fun h0 => by
  obtain ⟨b, o, rows, e, hc, hr⟩ := nm_at h h0
  refine ⟨b, o, e, fun j hj => ?_⟩
  obtain ⟨pr, cr, er, _⟩ := nr_un (hr j hj)
  exact ⟨pr, cr, by rw [hc j hj, er]⟩
def flt (h m : Hd) (place : Nat) (s : Nat) (l : Nat → Nat) (L : List Nat) : Int := if hq h { m with ix := (place : Int) } = false then 100 else if s ≠ L.length then 41 else if ∀ j, j < L.length → l j = L.getD j 0 then 0 else 41
section
attribute [local irreducible] Calls el Hd.cs shc hq
set_option maxHeartbeats 4000000 in
set_option maxRecDepth 1000000 in
theorem fault_any (h m : Hd) (place : Nat) (p pL : Option Addr) (s c cL : Nat) (l : Nat → Nat) (L : List Nat) (w : World) (hs : s ≤ 1099511627776) (hl : L.length ≤ 1099511627776) (hV : Vr w pL (icN L)) (hR : Ln w p s l) :
    Calls Try.prog 32 #[.agg (shc h (.slice p s c)), .agg m.cs, .int .i64 (place : Int), .slice pL L.length cL] w fun e w' => e = .returned (.int .i64 (flt h m place s l L)) ∧ Below w.heap.size w w' := by
  have al : ∀ (W : World) (o : Obj), Below W.heap.size W (W.alloc o) := fun W o => (Below.refl _ _).alloc (Nat.le_refl _) o
  have S0 := Sd.new w h (.slice p s c)
  have hsz : (w.alloc (.cells (shc h (.slice p s c)) 44)).heap.size = w.heap.size + 1 := by simp
  have H0 := HdAt.new (w.alloc (.cells (shc h (.slice p s c)) 44)) m
  have H1 := hdAt_ix (w.alloc (.cells (shc h (.slice p s c)) 44)) m (place : Int)
  rw [hsz] at H0 H1
  have S1 := S0.below (al _ (.cells (m.cs.setIfInBounds 13 (.int .i64 (place : Int))) 33))
  have f1 := H0.frozen 13
  have HB := (show Hid _ from bt (al w (.cells (shc h (.slice p s c)) 44)) (al _ (.cells (m.cs.setIfInBounds 13 (.int .i64 (place : Int))) 33)))
  obtain ⟨q8, q9, q10, q11, q12, q13, q14, q15⟩ := H0.cells
  have k16 := S1.last
  rw [Nat.zero_add] at k16
  have NQ := neq_head h { m with ix := (place : Int) }
  go_enter Try.func32, Try.ntmps32
  unfold flt
  by_cases h1 : hq h { m with ix := (place : Int) } = false
  · rw [if_pos h1]
    rw [h1] at NQ
    go_wp2_with (first
      | (refine wpList_ldSh rfl _ rfl w.heap.size 0 rfl S1 ?_)
      | (refine wpList_loadHd rfl _ rfl (w.heap.size + 1) rfl H1 ?_))
    go_ret
    exact ⟨rfl, HB.out⟩
  · rw [if_neg h1]
    replace h1 : hq h { m with ix := (place : Int) } = true := by cases e : hq h { m with ix := (place : Int) } with | true => rfl | false => exact absurd e h1
    rw [h1] at NQ
    by_cases h2 : s = L.length
    · subst h2
      have e2 : ((L.length : Int) != (L.length : Int)) = false := by simp
      rw [if_neg (not_not_intro rfl)]
      obtain ⟨X, hX⟩ : ∃ X : Int, X = if ∀ j, j < L.length → l j = L.getD j 0 then 0 else 41 := ⟨_, rfl⟩
      rw [← hX]
      have HX := (show Hid _ from hX)
      clear hX
      go_wp2_with (first
        | (refine wpList_ldSh rfl _ rfl w.heap.size 0 rfl S1 ?_)
        | (refine wpList_loadHd rfl _ rfl (w.heap.size + 1) rfl H1 ?_))
      have S1' := (show Hid (Sd _ w.heap.size 0 h (.slice p L.length c)) from S1)
      go_loopw [24] (fun i wr => ∃ t : Nat, t ≤ L.length ∧ i = .int .i64 (t : Int) ∧ Hid (∀ j, j < t → l j = L.getD j 0) ∧ Hid (wr.cell? ⟨w.heap.size, 16, none⟩ = some (.slice p L.length c)) ∧ Below w.heap.size w wr) (fun i _ => L.length - (intOf i).toNat)
      case atStart => exact ⟨0, Nat.zero_le _, rfl, fun j hj => by omega, k16, HB.out⟩
      case round =>
        obtain ⟨t, ht, rfl, hf, hk, hb⟩ := hrel
        by_cases hlt : t < L.length
        · have hi : (t : Int) < (L.length : Int) := by omega
          obtain ⟨g1, o1, rfl, hc1⟩ := hV.num t hlt
          obtain ⟨g2, o2, rfl, hc2⟩ := hR (by omega)
          obtain ⟨pr, cr, hc3⟩ := hc2 t hlt
          have hc4 := cell_below hc1 hb.drew
          have hc5 := cell_below hc3 hb.drew
          have hc6 := cell_below hk.out (bdr wr)
          clear hc1 hc3 hc2
          by_cases he : l t = L.getD t 0
          · have hf2 : ∀ j, j < t + 1 → l j = L.getD j 0 := fun j hj => by
              by_cases e : j = t
              · rw [e]; exact he
              · exact hf.out j (by omega)
            have HF2 := (show Hid _ from hf2)
            have e3 : (((l t : Nat) : Int) != ((L.getD t 0 : Nat) : Int)) = false := by simp [he]
            clear he hf2
            generalize l t = lt at *
            generalize L.getD t 0 = Lt at *
            go_wp2
            go_region
            all_goals
              go_wp2
              go_roundw
              case rel => exact ⟨t + 1, hlt, by go_num, HF2, cell_below hk.out (bdr wr), hb.drew⟩
              case measure => simp [intOf]; omega
          · have hn : ¬ ∀ j, j < L.length → l j = L.getD j 0 := fun a => he (a t hlt)
            have e3 : (((l t : Nat) : Int) != ((L.getD t 0 : Nat) : Int)) = true := by rw [bne_iff_ne]; intro e; exact he (by omega)
            have hX : X = 41 := by rw [HX.out, if_neg hn]
            subst hX
            clear he hn HX hf
            generalize l t = lt at *
            generalize L.getD t 0 = Lt at *
            go_wp2
            go_region
            all_goals
              go_wp2
              go_ret
              exact ⟨rfl, hb.drew⟩
        · obtain rfl : t = L.length := by omega
          have hX : X = 0 := by rw [HX.out, if_pos hf.out]
          subst hX
          go_wp2
          go_ret
          exact ⟨rfl, hb⟩
    · have e2 : ((s : Int) != (L.length : Int)) = true := by simp; omega
      rw [if_pos h2]
      go_wp2_with (first
        | (refine wpList_ldSh rfl _ rfl w.heap.size 0 rfl S1 ?_)
        | (refine wpList_loadHd rfl _ rfl (w.heap.size + 1) rfl H1 ?_))
      go_ret
      exact ⟨rfl, HB.out⟩
end
end Go.Proofs.Ytgokkppojhokbaa
