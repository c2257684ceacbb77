/-
  'turned'.
-/
import Derived.Test.YtienknoahjhopaaLx
namespace Go.Proofs.Ytienknoahjhopaa
open Go.RowKit
theorem Lns.put {w W : World} {B cB r : Nat} {ρ κ L μ : Nat → Nat} {M : Nat → Nat → BitVec 8} (h : Lns w B cB r ρ κ L μ M) {i j : Nat} (hi : i < r) (hj : j < L i) (x : BitVec 8) (e : W.heap = (w.setCell ⟨ρ i, j, none⟩ (.int .u8 (el x))).heap) : Lns W B cB r ρ κ L μ (fun a b => if a = i ∧ b = j then x else M a b) := by
  obtain ⟨f, h1, h2⟩ := h.lst
  have hB : B ≠ ρ i := fun e => by
    obtain ⟨_, f', h3, _⟩ := h.row i hi
    rw [← e] at h3
    unfold Ov at h1 h3
    rw [h1] at h3
    injection h3 with h3
    injection h3 with _ h3 _
    exact absurd h3 (by decide)
  refine ⟨h.cap, ⟨f, h1.other (p := ⟨ρ i, j, none⟩) (u := .int .u8 (el x)) hB e, h2⟩, fun a ha => ?_, h.inj, fun m hm => ?_, h.away⟩
  · obtain ⟨c1, f', c2, c3, c4⟩ := h.row a ha
    by_cases ea : a = i
    · subst ea
      refine ⟨c1, _, (c2.set (show j < κ a by omega) (.int .u8 (el x))).heap e, fun b hb => ?_, fun b hb => ?_⟩
      · dsimp only
        by_cases eb : b = j
        · rw [if_pos eb, if_pos ⟨rfl, eb⟩]
        · rw [if_neg eb, if_neg (fun h => eb h.2)]; exact c3 b hb
      · rw [if_neg (by omega)]; exact c4 b hb
    · refine ⟨c1, f', c2.other (p := ⟨ρ i, j, none⟩) (u := .int .u8 (el x)) (fun e2 => ea (h.inj a ha i hi e2)) e, fun b hb => ?_, c4⟩
      dsimp only
      rw [if_neg (fun h => ea h.1)]; exact c3 b hb
  · have h3 := h.mar m hm
    have hne : μ m ≠ ρ i := fun e2 => h.away i hi m hm e2.symm
    rw [World.cell?_of_block (w := w) (w' := W) (by rw [e]; exact heap_setCell_other _ _ _ _ hne)]
    exact h3
theorem lns_byte {w : World} {B cB r : Nat} {ρ κ L μ : Nat → Nat} {M : Nat → Nat → BitVec 8} (h : Lns w B cB r ρ κ L μ M) {i j : Nat} (hi : i < r) (hj : j < L i) : w.cell? ⟨ρ i, j, none⟩ = some (.int .u8 (el (M i j))) := by
  obtain ⟨c1, f, c2, c3, c4⟩ := h.row i hi
  rw [c2.cell (by omega), c3 j hj]
theorem lns_frozen {w : World} {B cB r : Nat} {ρ κ L μ : Nat → Nat} {M : Nat → Nat → BitVec 8} (h : Lns w B cB r ρ κ L μ M) {i : Nat} (hi : i < r) (j : Nat) : w.frozen? ⟨ρ i, j, none⟩ = false := by
  obtain ⟨c1, f, c2, c3, c4⟩ := h.row i hi
  exact c2.frozen j
theorem u8_some (z : Int) (h1 : 0 ≤ z) (h2 : z < 256) : ∃ y : BitVec 8, el y = z := by
  obtain ⟨y, hy⟩ := el_of z h1 h2
  exact ⟨y, hy.symm⟩
section
attribute [local irreducible] Calls el Lnt
set_option maxHeartbeats 16000000 in
set_option maxRecDepth 1000000 in
theorem turned_core (B cB r base : Nat) (ρ κ L μ : Nat → Nat) (M : Nat → Nat → BitVec 8) (w : World) (hr : r ≤ 5864062014634) (hL : Hid (∀ i, i < r → L i ≤ 140737488355200)) (hρ : Hid (∀ i, i < r → base ≤ ρ i)) (HL : Hid (Lns w B cB r ρ κ L μ M)) :
    Calls Try.prog 15 #[.slice (some ⟨B, 0, none⟩) r cB] w fun e w' => ∃ M', e = .returned (.tuple #[]) ∧ Lns w' B cB r ρ κ L μ M' ∧ Below base w w' := by
  go_enter Try.func15, Try.ntmps15
  go_wp2
  go_loopw [2] (fun i wr => ∃ (t : Nat) (M' : Nat → Nat → BitVec 8), t ≤ r ∧ i = .int .i64 t ∧ Hid (Lns wr B cB r ρ κ L μ M') ∧ Below base w wr) (fun i _ => r - (intOf i).toNat)
  case atStart => exact ⟨0, M, Nat.zero_le _, rfl, HL, Below.refl _ _⟩
  case round =>
    clear HL
    obtain ⟨t, M1, ht, rfl, HL, hb⟩ := hrel
    by_cases hlt : t < r
    · have j1 : (t : Int) < (r : Int) := by omega
      have hLt := hL.out t hlt
      obtain ⟨n, hn⟩ : ∃ n, L t = n := ⟨_, rfl⟩
      have HN : Hid (L t = n) := hn
      rw [hn] at hLt
      clear hn
      go_wp2
      go_loopw [3] (fun i wr => ∃ (j : Nat) (M' : Nat → Nat → BitVec 8), j ≤ n ∧ i = .int .i64 j ∧ Hid (Lns wr B cB r ρ κ L μ M') ∧ Below base w wr) (fun i _ => n - (intOf i).toNat)
      case atStart => exact ⟨0, M1, Nat.zero_le _, rfl, HL, hb⟩
      case round =>
        clear HL hb
        obtain ⟨j, M2, hj, rfl, HL, hb⟩ := hrel
        have g1 := Lns.cell HL.out hlt
        rw [HN.out] at g1
        by_cases hjn : j < n
        · have j2 : (j : Int) < (n : Int) := by omega
          have hjL : j < L t := by rw [HN.out]; exact hjn
          have g2 := lns_byte HL.out hlt hjL
          have g3 := lns_frozen HL.out hlt j
          have HBs := (show Hid _ from hb)
          have hbt := hρ.out t hlt
          obtain ⟨x, hx⟩ : ∃ x, el (M2 t j) = x := ⟨_, rfl⟩
          have hxb := el_bd (M2 t j)
          rw [hx] at hxb g2
          obtain ⟨hx1, hx2⟩ := hxb
          have e1 : wrap64 ((t : Int) + 1) = (t : Int) + 1 := by unfold wrap64; omega
          obtain ⟨y, hy⟩ := u8_some ((x * 5 % 256 + ((t : Int) + 1) % 256) % 256) (by omega) (by omega)
          have HY : Hid ((x * 5 % 256 + ((t : Int) + 1) % 256) % 256 = el y) := hy.symm
          clear hx hb hy
          go_wp2
          go_region_with (fail)
          all_goals
            go_wp2
            go_roundw
            case rel =>
              rw [HY.out]
              exact ⟨j + 1, _, by omega, by go_num, Lns.put HL.out hlt hjL y (by rfl), (HBs.out.setCell hbt _).drew⟩
            case measure => simp [intOf]; omega
        · obtain rfl : n = j := by omega
          go_wp2
          go_roundw
          case rel => exact ⟨t + 1, M2, by omega, by go_num, HL, hb⟩
          case measure => simp [intOf]; omega
    · obtain rfl : t = r := by omega
      go_wp2
      refine bodyPost_end (results_0 rfl _ _ _) rfl ?_
      exact ⟨M1, rfl, HL.out, hb⟩
end
end Go.Proofs.Ytienknoahjhopaa
