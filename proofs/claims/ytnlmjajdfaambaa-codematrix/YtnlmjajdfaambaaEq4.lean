/-
  The law's 'equal'.
-/
import Derived.Test.YtnlmjajdfaambaaEl4
namespace Go.Proofs.Ytnlmjajdfaambaa
open Go.RowKit
section
attribute [local irreducible] Calls NmE NrE el
set_option maxHeartbeats 16000000 in
set_option maxRecDepth 1000000 in
theorem equal4_core (p q : Option Addr) (r c1 c2 n : Nat) (A B : Nat → Nat → BitVec 8) (w : World) (hr : r ≤ 255) (hn : n ≤ 255) (H1 : Hid (NmE w (.slice p r c1) r (fun _ => n) A)) (H2 : Hid (NmE w (.slice q r c2) r (fun _ => n) B)) (HE : Hid (∀ i, i < r → ∀ j, j < n → A i j = B i j)) :
    Calls Try.prog 34 #[.slice p r c1, .slice q r c2] w fun e w' => e = .returned (.bool true) ∧ Below w.heap.size w w' := by
  have e0 : ((r : Int) != (r : Int)) = false := by simp
  have e00 : ((n : Int) != (n : Int)) = false := by simp
  go_enter Try.func34, Try.ntmps34
  go_wp2
  go_loopw [5] (fun i wr => ∃ k : Nat, k ≤ r ∧ i = .int .i64 k ∧ Below w.heap.size w wr) (fun i _ => r - (intOf i).toNat)
  case atStart => exact ⟨0, Nat.zero_le _, rfl, Below.refl _ _⟩
  case round =>
    obtain ⟨k, hk, rfl, hb⟩ := hrel
    by_cases hlt : k < r
    · have j1 : (k : Int) < (r : Int) := by omega
      obtain ⟨b1, o1, rows1, ep, hc1, hn1⟩ := nm_at H1.out (by omega)
      obtain ⟨b2, o2, rows2, eq, hc2, hn2⟩ := nm_at H2.out (by omega)
      subst ep eq
      obtain ⟨p1, d1, er1, hx1⟩ := nr_un (hn1 k hlt)
      obtain ⟨p2, d2, er2, hx2⟩ := nr_un (hn2 k hlt)
      have HC : Hid (∀ X, Below w.heap.size w X → X.cell? ⟨b1, o1 + k, none⟩ = some (.slice p1 n d1) ∧ X.cell? ⟨b2, o2 + k, none⟩ = some (.slice p2 n d2)) := fun X h => ⟨by rw [cell_below (hc1 k hlt) h, er1], by rw [cell_below (hc2 k hlt) h, er2]⟩
      have HX1 := (show Hid _ from hx1)
      have HX2 := (show Hid _ from hx2)
      have HEk := (show Hid _ from HE.out k hlt)
      have hbd := (show Hid _ from hb.drew)
      have g1 := (HC.out _ hb).1
      have g2 := (HC.out _ hb).2
      have KS := (show Hid _ from HC.out _ hbd.out)
      clear hc1 hc2 hn1 hn2 er1 er2 hx1 hx2
      go_wp2
      go_region_held3 (fun X => X.cell? ⟨b1, o1 + k, none⟩ = some (.slice p1 n d1) ∧ X.cell? ⟨b2, o2 + k, none⟩ = some (.slice p2 n d2)) (first | exact KS.out | go_keep) (fail)
      all_goals
        go_wp2
        go_loopw [6] (fun i wr => ∃ j : Nat, j ≤ n ∧ i = .int .i64 j ∧ Below w.heap.size w wr) (fun i _ => n - (intOf i).toNat)
        case atStart => exact ⟨0, Nat.zero_le _, rfl, hbd.out⟩
        case round =>
          clear g1 g2 KS hb
          obtain ⟨j, hj, rfl, hb2⟩ := hrel
          have g1 := (HC.out _ hb2).1
          have g2 := (HC.out _ hb2).2
          have hb2d := (show Hid _ from hb2.drew)
          by_cases hjn : j < n
          · have j2 : (j : Int) < (n : Int) := by omega
            obtain ⟨x1, y1, ex1, hxc1⟩ := HX1.out (by omega)
            obtain ⟨x2, y2, ex2, hxc2⟩ := HX2.out (by omega)
            subst ex1 ex2
            have g5 := cell_below (hxc1 j hjn) hb2d.out
            have g6 := cell_below (hxc2 j hjn) hb2d.out
            rw [← HEk.out j hjn] at g6
            have KS := (show Hid (_ ∧ _ ∧ _ ∧ _) from ⟨(HC.out _ hb2d.out).1, (HC.out _ hb2d.out).2, g5, g6⟩)
            obtain ⟨z, hz⟩ : ∃ z, el (A k j) = z := ⟨_, rfl⟩
            rw [hz] at KS g5 g6
            have e3 : (z != z) = false := by simp
            clear hxc1 hxc2 g5 g6 hz
            go_wp2
            go_region_held3 (fun X => X.cell? ⟨b1, o1 + k, none⟩ = some (.slice (some ⟨x1, y1, none⟩) n d1) ∧ X.cell? ⟨b2, o2 + k, none⟩ = some (.slice (some ⟨x2, y2, none⟩) n d2) ∧ X.cell? ⟨x1, y1 + j, none⟩ = some (.int .u8 z) ∧ X.cell? ⟨x2, y2 + j, none⟩ = some (.int .u8 z)) (first | exact KS.out | go_keep) (fail)
            all_goals
              go_wp2
              go_roundw
              case rel => exact ⟨j + 1, by omega, by go_num, hb2d.out⟩
              case measure => simp [intOf]; omega
          · obtain rfl : j = n := by omega
            go_wp2
            go_roundw
            case rel => exact ⟨k + 1, by omega, by go_num, hb2⟩
            case measure => simp [intOf]; omega
    · go_wp2
      go_ret
      exact ⟨rfl, hb⟩
end
end Go.Proofs.Ytnlmjajdfaambaa
