/-
  'keptRows', 'turned'; 'copied' for many rows.
-/
import Derived.Test.YtienknoahjhopaaLw
namespace Go.Proofs.Ytienknoahjhopaa
open Go.RowKit
section
attribute [local irreducible] Calls NmE NrE Br lv
set_option maxHeartbeats 8000000 in
set_option maxRecDepth 1000000 in
theorem copied_big (p : Option Addr) (r c : Nat) (L : Nat → Nat) (M : Nat → Nat → BitVec 8) (w : World) (hr : r ≤ 5864062014634) (hL : Hid (∀ i, i < r → L i ≤ 140737488355328)) (H1 : Hid (NmE w (.slice p r c) r L M)) :
    Calls Try.prog 10 #[.slice p r c] w fun e w' => ∃ v, e = .returned v ∧ Bm w.heap.size w' v r L M ∧ Below w.heap.size w w' := by
  obtain ⟨i0, hif, hz0, hz1, hz2⟩ := info_parts infoY
  go_enter Try.func10, Try.ntmps10
  go_wp2
  go_loopw [3, 4] (fun v i wr => ∃ (k : Nat) (rows : Nat → Value), k ≤ r ∧ i = .int .i64 k ∧ wr.ownsRow w.heap.size 23 1 v k (lv rows k) ∧ Hid (∀ i, i < k → Br wr (rows i) (L i) (M i)) ∧ Below w.heap.size w wr) (fun _ i _ => r - (intOf i).toNat)
  case atStart => exact ⟨0, fun _ => .bool false, Nat.zero_le _, rfl, lv_none _ _ _ _ _, fun i hi => by omega, Below.refl _ _⟩
  case round =>
    obtain ⟨k, rows, hk, rfl, hown, hR, hb⟩ := hrel
    by_cases hlt : k < r
    · have j1 : (k : Int) < (r : Int) := by omega
      have M1 : Hid (k + 1 ≤ maxLen) := by show _ ≤ _; unfold maxLen; omega
      obtain ⟨b1, o1, rows1, ep, hc1, hn1⟩ := nm_at H1.out (by omega)
      subst ep
      have g1 := cell_below (hc1 k hlt) hb
      have r1 := (show Hid _ from NrE.below (hn1 k hlt) hb)
      have HLk := (show Hid _ from hL.out k hlt)
      clear hc1 hn1
      go_wp2_with (first
        | (at_builtin; refine wpList_clone_b rfl _ _ rfl rfl _ (L k) (M k) rfl r1.out HLk.out ?_; intro v1 w2 hI2 hb2; obtain ⟨px, cx, ex⟩ := hI2.form; subst ex; have hown2 := owns_below hown hb2)
        | (at_builtin; refine wpList_append_own _ rfl _ _ 22 rfl w.heap.size 23 i0 (.slice none 0 0) 1 24 Try.underlying22 hif hz0 hz1 hz2 rfl (by decide) _ _ _ rfl (hown2.alloc _) ⟨_, 0, none⟩ 1 1 [.slice px (L k) cx] rfl rfl (one_new _ _ _) (one_cellv rfl) M1.out (by omega) (by have := hb.size; have := hb2.size; simp at *; omega) ?_; intro v' w3 hown' hgrow _))
      have hb3 := below_append ((bt hb hb2).alloc (by have := hb.size; have := hb2.size; omega) _) (by have := hb.size; have := hb2.size; simp at *; omega) hgrow (hown2.alloc _) (Nat.le_refl _)
      rw [push_lv] at hown'
      have hR3 : Hid (∀ i, i < k + 1 → Br w3 ((fun i => if i = k then .slice px (L k) cx else rows i) i) (L i) (M i)) := push_br hown2 hgrow (fun i hi => (hR.out i hi).below hb2) hI2
      clear hown hgrow hR hown2 g1 hI2 r1
      go_roundw
      case rel => exact ⟨k + 1, _, by omega, by go_num, hown', hR3, hb3⟩
      case measure => simp [intOf]; omega
    · obtain rfl : k = r := by omega
      go_wp2
      go_ret
      exact ⟨_, rfl, ⟨rows, hown, hR.out⟩, hb⟩
end
theorem lnt_cap {w : World} {g n cap : Nat} {x : Nat → BitVec 8} (h : Lnt w g n cap x) : n + 64 ≤ cap := h.1
section
attribute [local irreducible] Calls NmE NrE el Lnt
set_option maxHeartbeats 8000000 in
set_option maxRecDepth 1000000 in
theorem keptRows_core (B cB r c2 : Nat) (q : Option Addr) (ρ κ L μ : Nat → Nat) (M : Nat → Nat → BitVec 8) (w : World) (hr : r ≤ 5864062014634) (hL : Hid (∀ i, i < r → L i ≤ 140737488355200)) (HL : Hid (Lns w B cB r ρ κ L μ M)) (H2 : Hid (NmE w (.slice q r c2) r L M)) :
    Calls Try.prog 14 #[.slice (some ⟨B, 0, none⟩) r cB, .slice q r c2] w fun e w' => e = .returned (.bool true) ∧ Below w.heap.size w w' := by
  have hcap := Lns.cap HL.out
  have e0 : wrap64 ((r : Int) + 64) = (r : Int) + 64 := by unfold wrap64; omega
  have k1 : (r : Int) + 64 ≤ (cB : Int) := by omega
  have k2 : (0 : Int) ≤ (r : Int) + 64 := by omega
  go_enter Try.func14, Try.ntmps14
  go_wp2
  go_loopw [5] (fun i wr => ∃ t : Nat, t ≤ r ∧ i = .int .i64 t ∧ Below w.heap.size w wr) (fun i _ => r - (intOf i).toNat)
  case atStart => exact ⟨0, Nat.zero_le _, rfl, Below.refl _ _⟩
  case round =>
    obtain ⟨t, ht, rfl, hb⟩ := hrel
    by_cases hlt : t < r
    · have j1 : (t : Int) < (r : Int) := by omega
      obtain ⟨b2, o2, rows2, e2, hc2, hn2⟩ := nm_at H2.out (by omega)
      subst e2
      have hbd := (show Hid _ from hb.drew)
      obtain ⟨px, cx, ex, _⟩ := nr_un (hn2 t hlt)
      have g1 := cell_below (Lns.cell HL.out hlt) hb
      have g2 : wr.cell? ⟨b2, o2 + t, none⟩ = some (.slice px (L t) cx) := by rw [cell_below (hc2 t hlt) hb, ex]
      have HNX := (show Hid _ from NrE.below (hn2 t hlt) hbd.out)
      rw [ex] at HNX
      have HLX := (show Hid _ from Lnt.below (Lns.row HL.out t hlt) hbd.out)
      have UM := (show Hid _ from unmarked_core (ρ t) (L t) (κ t) cx px (M t) wr.drew (hL.out t hlt) (lnt_cap HLX.out) HLX HNX)
      have KS := (show Hid (_ ∧ _) from ⟨cell_below g1 (bdr wr), cell_below g2 (bdr wr)⟩)
      clear hc2 hn2 ex HNX HLX hb
      go_wp2
      go_region_held3 (fun X => X.cell? ⟨B, t, none⟩ = some (.slice (some ⟨ρ t, 0, none⟩) (L t) (κ t)) ∧ X.cell? ⟨b2, o2 + t, none⟩ = some (.slice px (L t) cx)) (first | exact KS.out | go_keep)
        (first | (go_at_call 21; refine UM.out.mono ?_; rintro e w' ⟨rfl, h⟩; obtain rfl := h.symm))
      all_goals
        go_wp2
        go_roundw
        case rel => exact ⟨t + 1, by omega, by go_num, hbd.out⟩
        case measure => simp [intOf]; omega
    · obtain rfl : t = r := by omega
      have HL2 := (show Hid _ from Lns.below HL.out hb)
      have HB := (show Hid _ from hb)
      clear hb
      obtain ⟨W0, hW0⟩ : ∃ W0, W0 = wr := ⟨_, rfl⟩
      subst hW0
      go_wp2
      go_loop [7] (fun i => ∃ s : Nat, s ≤ 64 ∧ i = .int .i64 ((t : Int) + (s : Int))) (fun i => t + 64 - (intOf i).toNat)
      case atStart => exact ⟨0, Nat.zero_le _, by simp⟩
      case round =>
        obtain ⟨s, hs, rfl⟩ := hrel
        by_cases hst : s < 64
        · have j1 : (t : Int) + (s : Int) < (t : Int) + 64 := by omega
          have k3 : (0 : Int) ≤ (t : Int) + (s : Int) := by omega
          have g1 := Lns.cellm HL2.out hst
          have g2 := Lns.mar HL2.out s hst
          have e4 : wrap64 ((t : Int) + (s : Int) + 1) = (t : Int) + (s : Int) + 1 := by unfold wrap64; omega
          go_wp2
          go_round
          case rel => exact ⟨s + 1, by omega, by go_num⟩
          case measure => simp [intOf]; omega
        · obtain rfl : s = 64 := by omega
          go_wp2
          go_ret
          exact ⟨rfl, HB.out⟩
end
end Go.Proofs.Ytienknoahjhopaa
