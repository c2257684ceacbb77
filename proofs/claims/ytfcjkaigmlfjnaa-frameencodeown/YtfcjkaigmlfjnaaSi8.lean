/-
  The laws' 'sameInts', 'num'.
-/
import Derived.Test.YtfcjkaigmlfjnaaQ8c
import Derived.Deep.QuietTactic
import Derived.BigQuiet
namespace Go.Proofs.Ytfcjkaigmlfjnaa
open Go.RowKit
section
attribute [local irreducible] Calls el Hd.cs
set_option maxHeartbeats 1000000 in
set_option maxRecDepth 1000000 in
theorem sameInts_any {w : World} {p q : Option Addr} {xs ys : List Nat} (ha : Vr w p (ic xs)) (hb : Vr w q (ic ys)) (n m c d : Nat) (hn : xs.length = n) (hm : ys.length = m) (hl : n ≤ 1099511627776) :
    Calls Try.prog 13 #[.slice p n c, .slice q m d] w fun e w' => e = .returned (.bool (decide (xs = ys))) ∧ Below w.heap.size w w' := by
  subst hn hm
  by_cases h1 : xs.length = ys.length
  · have i0 : ((xs.length : Int) != (ys.length : Int)) = false := by simp [h1]
    go_enter Try.func13, Try.ntmps13
    go_wp2
    go_loopw [5] (fun i wr => ∃ t : Nat, t ≤ xs.length ∧ i = .int .i64 (t : Int) ∧ Hid (xs.take t = ys.take t) ∧ Below w.heap.size w wr) (fun i _ => xs.length - (intOf i).toNat)
    case atStart => exact ⟨0, Nat.zero_le _, rfl, rfl, Below.refl _ _⟩
    case round =>
      obtain ⟨t, ht, rfl, heq, hbw⟩ := hrel
      by_cases hlt : t < xs.length
      · obtain ⟨g1, o1, rfl, hc⟩ := ha.num t hlt
        obtain ⟨g2, o2, rfl, hd⟩ := hb.num t (by omega)
        have hc' := cell_below hc hbw
        have hd' := cell_below hd hbw
        have hi : (t : Int) < (xs.length : Int) := by omega
        have hi2 : (t : Int) < (ys.length : Int) := by omega
        have hx := List.take_add_one (l := xs) (i := t)
        have hy := List.take_add_one (l := ys) (i := t)
        have gx : xs[t]? = some (xs.getD t 0) := by simp [List.getD, hlt]
        have gy : ys[t]? = some (ys.getD t 0) := by simp [List.getD, show t < ys.length by omega]
        rw [gx] at hx
        rw [gy] at hy
        generalize xs.getD t 0 = dx at hc' hc hx gx
        generalize ys.getD t 0 = dy at hd' hd hy gy
        by_cases he : dx = dy
        · have j0 : ((dx : Int) != (dy : Int)) = false := by simp [he]
          have hx' : xs.take (t + 1) = ys.take (t + 1) := by rw [hx, hy, heq.out, he]
          clear hx hy gx gy hc hd
          go_wp2
          go_quiet (fail)
          go_wp2
          go_roundw
          case rel => exact ⟨t + 1, hlt, by go_num, hx', below_drewN hbw _⟩
          case measure => simp [intOf]; omega
        · have j0 : ((dx : Int) != (dy : Int)) = true := by simp; omega
          have hne : ¬ xs = ys := fun e => by rw [e, gy] at gx; injection gx with gx; exact he gx.symm
          clear hx hy gx gy hc hd
          go_wp2
          go_quiet (fail)
          go_wp2
          go_ret
          rw [decide_eq_false hne]
          exact ⟨rfl, below_drewN hbw _⟩
      · obtain rfl : t = xs.length := by omega
        have he : xs = ys := by
          have := heq.out
          rw [List.take_length, h1, List.take_length] at this
          exact this
        go_wp2
        go_ret
        rw [decide_eq_true he]
        exact ⟨rfl, hbw⟩
  · have i0 : ((xs.length : Int) != (ys.length : Int)) = true := by simp; omega
    have hne : ¬ xs = ys := fun e => h1 (by rw [e])
    rw [decide_eq_false hne]
    go_enter Try.func13, Try.ntmps13
    go_wp2
    go_ret
    exact ⟨rfl, Below.refl _ _⟩
theorem num_any (z : Int) (w : World) : Calls Try.prog 7 #[.int .i64 z] w fun e w' => e = .returned (.int .i64 z) ∧ w' = w := by
  go_enter Try.func7, Try.ntmps7
  go_wp2
  go_ret
  exact ⟨rfl, rfl⟩
end
end Go.Proofs.Ytfcjkaigmlfjnaa
