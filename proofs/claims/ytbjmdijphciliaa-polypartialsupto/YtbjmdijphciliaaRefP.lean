/-
  The document's 'Partial'.
-/
import Derived.Test.YtbjmdijphciliaaRefW
namespace Go.Proofs.Ytbjmdijphciliaa
open Go.RowKit
theorem refPartial_err (v1 v2 : Value) (b : Int) (hb : b < 0) (w : World) : Calls Try.prog 6 #[v1, v2, .int .i64 b] w fun e w' => e = .returned (.tuple #[.slice none 0 0, .slice none 0 0, .slice none 0 0, .int .i64 2]) ∧ w' = w := by
  go_enter Try.func6, Try.ntmps6
  go_wp2
  (try simp only [Exit.inBlock, Exit.then])
  refine bodyPost_ret (results_tmp4 rfl _ _ _) rfl ?_
  exact ⟨rfl, rfl⟩
theorem RowI.first {p q : List (BitVec 8)} {B : Nat} {w : World} {n : Nat} {tm : Nat → Tm} {x y z : Nat → Value} (I : RowI p q B w n tm x y z) {b : Int} {i : Nat} (hi : i < n) (hlt : ((tm i).g.length : Int) - 1 < b) (hne : ∀ j, j < i → ¬ ((tm j).g.length : Int) - 1 < b) : First p q b (tm i) := by
  by_cases h0 : i = 0
  · subst h0
    left
    rw [I.t0] at hlt ⊢
    exact ⟨hlt, rfl⟩
  · right
    refine ⟨?_, i - 1, tm (i - 1), ?_, hlt, fun j hj a' b' he => ?_⟩
    · have := hne 0 (by omega)
      rw [I.t0] at this; exact this
    · have := I.eu (i - 1) (by omega)
      rw [show i - 1 + 1 = i by omega] at this; exact this
    · rw [(he.det (I.eu j (by omega))).2]
      exact hne (j + 1) (by omega)
theorem RowI.len {p q : List (BitVec 8)} {B : Nat} {w : World} {n : Nat} {tm : Nat → Tm} {x y z : Nat → Value} (I : RowI p q B w n tm x y z) {i : Nat} (hi : i < n) : (tm i).g.length ≤ max (trim p).length (trim q).length := by
  by_cases h0 : i = 0
  · subst h0; rw [I.t0]; show (trim p).length ≤ _; omega
  · have := I.eu (i - 1) (by omega)
    rw [show i - 1 + 1 = i by omega] at this
    exact this.inv.lb
section
attribute [local irreducible] Calls el gm trim co Rs Sl Sr mul add R3 First
set_option maxHeartbeats 8000000 in
set_option maxRecDepth 1000000 in
theorem refPartial_any {w : World} {v1 v2 : Value} {p q : List (BitVec 8)} (h1 : Sr w v1 p) (h2 : Sr w v2 q) (m1 : Hid (p.length ≤ 1048576)) (m2 : Hid (q.length ≤ 1048576)) (b : Int) (hb0 : 0 ≤ b) :
    Calls Try.prog 6 #[v1, v2, .int .i64 b] w fun e w' => ∃ t x y z, e = .returned (.tuple #[x, y, z, .int .i64 0]) ∧ First p q b t ∧ Rs 5 w.heap.size w' x t.g ∧ Rs 5 w.heap.size w' y t.u ∧ Rs 5 w.heap.size w' z t.v ∧ Below w.heap.size w w' := by
  have nb0 : ¬ b < 0 := by omega
  go_enter Try.func6, Try.ntmps6
  go_wp2_with (go_at_call 21; refine (refRows_any h1 h2 m1 m2).mono ?_; rintro e w1 ⟨v, n, tm, x, y, z, rfl, hn, hR, hI, hlast, hnn, hb1⟩; obtain ⟨g, cap, hv, hcap, hmx, hc⟩ := R3.cells hR (by omega); subst hv)
  have HI : Hid (RowI p q w.heap.size w1 n tm x y z) := hI
  have HC := (show Hid _ from hc)
  have HLst : Hid ((tm (n - 1)).g = []) := hlast
  clear hI hc hlast hR h1 h2
  go_loopw [11] (fun i wr => ∃ k : Nat, k < n ∧ i = .int .i64 k ∧ Hid (∀ j, j < k → ¬ ((tm j).g.length : Int) - 1 < b) ∧ Below w1.heap.size w1 wr) (fun i _ => n - (intOf i).toNat)
  case atStart => exact ⟨0, by omega, rfl, fun j hj => by omega, Below.refl _ _⟩
  case round =>
    obtain ⟨k, hk, rfl, HN, hbr⟩ := hrel
    obtain ⟨g1', g2', g3'⟩ := HC.out k hk
    have g1 := cell_below g1' hbr
    have g2 := cell_below g2' hbr
    have g3 := cell_below g3' hbr
    clear g1' g2' g3'
    have i1 : (k : Int) < (n : Int) := by omega
    obtain ⟨px, cx, ex⟩ := (HI.out.gx k hk).form
    have rx := (HI.out.gx k hk).below hbr
    have ry := (HI.out.gy k hk).below hbr
    have rz := (HI.out.gz k hk).below hbr
    rw [ex] at g1 rx
    have bG : ((tm k).g.length : Int) ≤ 1048576 := by have := HI.out.len hk; have := trim_len p; have := trim_len q; have := m1.out; have := m2.out; omega
    by_cases hlt : ((tm k).g.length : Int) - 1 < b
    · have HF : Hid (First p q b (tm k)) := HI.out.first hk hlt HN.out
      go_wp2
      go_quiet (fail)
      go_wp2
      (try simp only [Exit.inBlock, Exit.then])
      refine bodyPost_ret (results_tmp4 rfl _ _ _) rfl ?_
      exact ⟨tm k, _, _, _, rfl, HF.out, rx.dN _, ry.dN _, rz.dN _, below_drewN (bt hb1 hbr) _⟩
    · have hk1 : Hid (k + 1 < n) := by
        show _ < _
        rcases Nat.lt_or_ge (k + 1) n with h | h
        · exact h
        · exfalso
          have e : k = n - 1 := by omega
          rw [e, HLst.out] at hlt
          simp at hlt
          omega
      have HN2 : Hid (∀ j, j < k + 1 → ¬ ((tm j).g.length : Int) - 1 < b) := fun j hj => by
        by_cases e : j = k
        · rw [e]; exact hlt
        · exact HN.out j (by omega)
      have nlt : b ≤ ((tm k).g.length : Int) - 1 := by omega
      clear rx ry rz
      go_wp2
      go_roundw
      case rel => exact ⟨k + 1, hk1.out, by go_num, HN2, hbr⟩
      case measure => simp [intOf]; omega
end
end Go.Proofs.Ytbjmdijphciliaa
