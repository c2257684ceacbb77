/-
  'plus'.
-/
import Derived.Test.YtnlmjajdfaambaaPs
namespace Go.Proofs.Ytnlmjajdfaambaa
open Go.RowKit
/-- The rows below t, and the places below j of the row t, are added up. -/
def pls (A C : Nat → Nat → BitVec 8) (t j i c : Nat) : BitVec 8 := if i < t ∨ (i = t ∧ c < j) then A i c ^^^ C i c else A i c
theorem pls_zero (A C : Nat → Nat → BitVec 8) (i c : Nat) : A i c = pls A C 0 0 i c := by unfold pls; rw [if_neg (by omega)]
theorem pls_at (A C : Nat → Nat → BitVec 8) (t j : Nat) : pls A C t j t j = A t j := by unfold pls; rw [if_neg (by omega)]
theorem pls_step (A C : Nat → Nat → BitVec 8) (t j i c : Nat) : (if i = t ∧ c = j then A t j ^^^ C t j else pls A C t j i c) = pls A C t (j + 1) i c := by
  unfold pls
  by_cases e : i = t ∧ c = j
  · rw [if_pos e, if_pos (by omega), e.1, e.2]
  · rw [if_neg e]
    by_cases e2 : i < t ∨ (i = t ∧ c < j)
    · rw [if_pos e2, if_pos (by omega)]
    · rw [if_neg e2, if_neg (by omega)]
theorem pls_next (A C : Nat → Nat → BitVec 8) (t n i c : Nat) (hc : c < n) : pls A C t n i c = pls A C (t + 1) 0 i c := by
  unfold pls
  by_cases e : i < t ∨ (i = t ∧ c < n)
  · rw [if_pos e, if_pos (by omega)]
  · rw [if_neg e, if_neg (by omega)]
theorem pls_all (A C : Nat → Nat → BitVec 8) (r i c : Nat) (hi : i < r) : pls A C r 0 i c = A i c ^^^ C i c := by unfold pls; rw [if_pos (by omega)]
section
attribute [local irreducible] Calls NmE NrE lv clE Rw Ov el pls
set_option maxHeartbeats 16000000 in
set_option maxRecDepth 1000000 in
theorem plus_core (p q : Option Addr) (r c1 c2 n : Nat) (A C : Nat → Nat → BitVec 8) (w : World) (hr0 : 1 ≤ r) (hr : r ≤ 255) (hn0 : 0 < n) (hn : n ≤ 140737488355328) (H1 : Hid (NmE w (.slice p r c1) r (fun _ => n) A)) (H2 : Hid (NmE w (.slice q r c2) r (fun _ => n) C)) :
    Calls Try.prog 29 #[.slice p r c1, .slice q r c2] w fun e w' => ∃ v, e = .returned v ∧ NmE w' v r (fun _ => n) (fun i c => A i c ^^^ C i c) ∧ Below w.heap.size w w' := by
  obtain ⟨b2, o2, rows2, e2, hc2, hn2⟩ := nm_at H2.out (by omega)
  subst e2
  have HC2 := (show Hid _ from hc2)
  have HN2 := (show Hid _ from hn2)
  clear hc2 hn2
  go_enter Try.func29, Try.ntmps29
  go_wp2_with (go_at_call 20; refine (copied_own p r c1 n A w hr hn0 hn H1).mono ?_; rintro e w8 ⟨v8, ρ, κ, rfl, hown8, hR8, hP8, hI8, hb8⟩; obtain ⟨B, cB, NB, Fl, eB, hB8, hNB, hO8, hFl⟩ := owned_ov hown8 (by omega); subst eB; have HR8 := (show Hid _ from hR8); have HP8 := (show Hid _ from hP8); have HI8 := (show Hid _ from hI8); have HFl := (show Hid _ from hFl); clear hown8 hR8 hP8 hI8 hFl)
  have HO8 := (show Hid _ from hO8)
  have HB8 := (show Hid _ from hb8)
  have HNE : Hid (∀ i, i < r → ρ i ≠ B) := fun i hi e => by
    obtain ⟨N, f, _, h2, _⟩ := (show ∃ N f, n ≤ N ∧ Ov w8 5 (ρ i) f N ∧ ∀ j, j < n → f j = .int .u8 (el (A i j)) from by have h := HR8.out; unfold Rw at h; exact h i hi)
    rw [e] at h2
    unfold Ov at h2 hO8
    rw [hO8] at h2
    injection h2 with h2
    injection h2 with _ h2 _
    exact absurd h2 (by decide)
  clear hO8 hb8
  go_loopw [6] (fun i wr => ∃ t : Nat, t ≤ r ∧ i = .int .i64 t ∧ Hid (Rw wr r n ρ (pls A C t 0)) ∧ Ov wr 37 B Fl NB ∧ Below w.heap.size w wr) (fun i _ => r - (intOf i).toNat)
  case atStart => exact ⟨0, Nat.zero_le _, rfl, Rw.congr HR8.out (fun i _ c _ => pls_zero A C i c), HO8.out, HB8.out⟩
  case round =>
    clear HO8 HB8 HR8
    obtain ⟨t, ht, rfl, hR, hO, hb⟩ := hrel
    by_cases hlt : t < r
    · have j1 : (t : Int) < (r : Int) := by omega
      obtain ⟨px, cx, ex, hxx⟩ := nr_un (HN2.out t hlt)
      obtain ⟨bx, ox, epx, hcx⟩ := hxx hn0
      subst epx
      have G2 : Hid (∀ X, Below w.heap.size w X → X.cell? ⟨b2, o2 + t, none⟩ = some (.slice (some ⟨bx, ox, none⟩) n cx)) := fun X h => by rw [cell_below (HC2.out t hlt) h, ex]
      have GX : Hid (∀ X, Below w.heap.size w X → ∀ j, j < n → X.cell? ⟨bx, ox + j, none⟩ = some (.int .u8 (el (C t j)))) := fun X h j hj => cell_below (hcx j hj) h
      have F1 : Hid (Fl t = .slice (some ⟨ρ t, 0, none⟩) n (κ t)) := HFl.out t hlt
      clear hxx hcx ex
      go_wp2
      go_loopw [7] (fun i wr => ∃ j : Nat, j ≤ n ∧ i = .int .i64 j ∧ Hid (Rw wr r n ρ (pls A C t j)) ∧ Ov wr 37 B Fl NB ∧ Below w.heap.size w wr) (fun i _ => n - (intOf i).toNat)
      case atStart => exact ⟨0, Nat.zero_le _, rfl, hR, hO, hb⟩
      case round =>
        clear hR hO hb
        obtain ⟨j, hj, rfl, hR, hO, hb⟩ := hrel
        have y1 := hO.cell (show t < NB by omega)
        rw [F1.out] at y1
        have y2 := G2.out _ hb
        by_cases hjn : j < n
        · have j2 : (j : Int) < (n : Int) := by omega
          have y3 := Rw.cell hR.out hlt hjn
          rw [pls_at] at y3
          have y4 := GX.out _ hb j hjn
          have y5 := Rw.frozen hR.out hlt j
          have hx := el_xor (A t j) (C t j)
          have hne := HNE.out t hlt
          have hP := HP8.out t hlt
          have hbw := block_lt_of_cell (GX.out _ (Below.refl _ w) j hjn)
          have hbw2 := block_lt_of_cell (G2.out _ (Below.refl _ w))
          have HRs := (show Hid _ from hR)
          have HOs := (show Hid _ from hO)
          have HBs := (show Hid _ from hb)
          clear hR hO hb
          go_wp2
          go_region_with (fail)
          all_goals
            go_wp2
            go_roundw
            case rel => exact ⟨j + 1, by omega, by go_num, (by show Rw _ _ _ _ _; exact Rw.congr (Rw.set HRs.out HI8.out hlt hjn (A t j ^^^ C t j) (by rfl)) (fun i _ c _ => pls_step A C t j i c)), HOs.out.other (p := ⟨ρ t, j, none⟩) (u := .int .u8 (el (A t j ^^^ C t j))) (show B ≠ ρ t by omega) (by rfl), (HBs.out.setCell (by show w.heap.size ≤ ρ t; omega) _).drew⟩
            case measure => simp [intOf]; omega
        · obtain rfl : j = n := by omega
          go_wp2
          go_roundw
          case rel => exact ⟨t + 1, by omega, by go_num, Rw.congr hR.out (fun i _ c hc => pls_next A C t j i c hc), hO, hb⟩
          case measure => simp [intOf]; omega
    · obtain rfl : t = r := by omega
      go_wp2
      go_ret
      exact ⟨_, rfl, Rw.nm (Rw.congr hR.out (fun i hi c _ => pls_all A C t i c hi)) hO hNB HFl.out, hb⟩
end
end Go.Proofs.Ytnlmjajdfaambaa
