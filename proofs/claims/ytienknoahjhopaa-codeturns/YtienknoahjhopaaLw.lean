/-
  Lists of rows that are lent: 'lentRows'.
-/
import Derived.Test.YtienknoahjhopaaLn
namespace Go.Proofs.Ytienknoahjhopaa
open Go.RowKit
/-- The places of a lent list: rows, then marks. -/
def lnr (r : Nat) (ρ κ L μ : Nat → Nat) (i : Nat) : Value := if i < r then .slice (some ⟨ρ i, 0, none⟩) (L i) (κ i) else .slice (some ⟨μ (i - r), 0, none⟩) 1 1
theorem lnr_in {r : Nat} {ρ κ L μ : Nat → Nat} {i : Nat} (h : i < r) : lnr r ρ κ L μ i = .slice (some ⟨ρ i, 0, none⟩) (L i) (κ i) := if_pos h
theorem lnr_out (r : Nat) (ρ κ L μ : Nat → Nat) (j : Nat) : lnr r ρ κ L μ (r + j) = .slice (some ⟨μ j, 0, none⟩) 1 1 := by unfold lnr; rw [if_neg (by omega), Nat.add_sub_cancel_left]
/-- A lent list of rows, in the memory. -/
structure Lns (w : World) (B cB r : Nat) (ρ κ L μ : Nat → Nat) (M : Nat → Nat → BitVec 8) : Prop where
  cap : r + 64 ≤ cB
  lst : ∃ f, Ov w 23 B f cB ∧ ∀ i, i < r + 64 → f i = lnr r ρ κ L μ i
  row : ∀ i, i < r → Lnt w (ρ i) (L i) (κ i) (M i)
  inj : ∀ i, i < r → ∀ j, j < r → ρ i = ρ j → i = j
  mar : ∀ j, j < 64 → w.cell? ⟨μ j, 0, none⟩ = some (.int .u8 77)
  away : ∀ i, i < r → ∀ j, j < 64 → ρ i ≠ μ j
theorem Lns.below {w w' : World} {B cB r : Nat} {ρ κ L μ : Nat → Nat} {M : Nat → Nat → BitVec 8} (h : Lns w B cB r ρ κ L μ M) (hb : Below w.heap.size w w') : Lns w' B cB r ρ κ L μ M := by
  obtain ⟨f, h1, h2⟩ := h.lst
  exact ⟨h.cap, ⟨f, h1.below hb, h2⟩, fun i hi => (h.row i hi).below hb, h.inj, fun j hj => cell_below (h.mar j hj) hb, h.away⟩
theorem Lns.cell {w : World} {B cB r : Nat} {ρ κ L μ : Nat → Nat} {M : Nat → Nat → BitVec 8} (h : Lns w B cB r ρ κ L μ M) {i : Nat} (hi : i < r) : w.cell? ⟨B, i, none⟩ = some (.slice (some ⟨ρ i, 0, none⟩) (L i) (κ i)) := by
  obtain ⟨f, h1, h2⟩ := h.lst
  have := h.cap
  rw [h1.cell (by omega), h2 i (by omega), lnr_in hi]
theorem Lns.cellm {w : World} {B cB r : Nat} {ρ κ L μ : Nat → Nat} {M : Nat → Nat → BitVec 8} (h : Lns w B cB r ρ κ L μ M) {j : Nat} (hj : j < 64) : w.cell? ⟨B, r + j, none⟩ = some (.slice (some ⟨μ j, 0, none⟩) 1 1) := by
  obtain ⟨f, h1, h2⟩ := h.lst
  have := h.cap
  rw [h1.cell (by omega), h2 (r + j) (by omega), lnr_out]
theorem Lns.nm {w : World} {B cB r : Nat} {ρ κ L μ : Nat → Nat} {M : Nat → Nat → BitVec 8} (h : Lns w B cB r ρ κ L μ M) : NmE w (.slice (some ⟨B, 0, none⟩) r cB) r L M :=
  ⟨fun i => .slice (some ⟨ρ i, 0, none⟩) (L i) (κ i), ⟨_, _, rfl, .inr ⟨_, _, rfl, fun i hi => by rw [Nat.zero_add]; exact h.cell hi⟩⟩, fun i hi => (h.row i hi).nr⟩
theorem lnr_lv (r : Nat) (ρ κ L μ : Nat → Nat) : lv (fun i => .slice (some ⟨ρ i, 0, none⟩) (L i) (κ i)) r = lv (lnr r ρ κ L μ) (r + 0) := lv_congr (fun _ hi => (lnr_in hi).symm)
theorem lnr_mu {r : Nat} {ρ κ L μ : Nat → Nat} {t g : Nat} : lv (lnr r ρ κ L μ) (r + t) ++ [.slice (some ⟨g, 0, none⟩) 1 1] = lv (lnr r ρ κ L (fun j => if j = t then g else μ j)) (r + (t + 1)) := by
  rw [← Nat.add_assoc, lv_succ, lnr_out, if_pos rfl]
  refine congrArg (· ++ _) (lv_congr (fun i hi => ?_))
  unfold lnr
  by_cases e : i < r
  · rw [if_pos e, if_pos e]
  · rw [if_neg e, if_neg e]
    dsimp only
    rw [if_neg (by omega)]
/-- A block of bytes. -/
def Uty (w : World) (g : Nat) : Prop := ∃ cs z, w.heap[g]? = some (.cells cs 5 z)
theorem uty_new (w : World) (cs : Array Value) : Uty (w.alloc (.cells cs 5)) w.heap.size := ⟨_, _, heap_alloc_new w _⟩
theorem lnt_lt {w : World} {g n cap : Nat} {x : Nat → BitVec 8} (h : Lnt w g n cap x) : g < w.heap.size := by
  obtain ⟨_, f, h2, _⟩ := h
  exact h2.lt
theorem Lnt.grown {w w' : World} {g n cap : Nat} {x : Nat → BitVec 8} (h : Lnt w g n cap x) {base k m : Nat} {u : Value} {us : List Value} (ho : w.ownsRow base 23 k u m us) (hg : w.grownBy w' u.ownBlock) : Lnt w' g n cap x := by
  obtain ⟨h1, f, h2, h3, h4⟩ := h
  exact ⟨h1, f, Ov.grown h2 ho hg (by decide), h3, h4⟩
theorem Uty.ne {w : World} {g base k m : Nat} {u : Value} {us : List Value} (h : Uty w g) (ho : w.ownsRow base 23 k u m us) : some g ≠ u.ownBlock := by
  obtain ⟨cs, z, h⟩ := h
  intro e
  rcases ho.2 with ⟨hv, _⟩ | ⟨g', cap', cur', hv, _, hh, _⟩
  · rw [hv] at e; cases e
  · rw [hv] at e
    injection e with e
    subst e
    rw [hh] at h
    injection h with h
    injection h with _ h _
    exact absurd h (by decide)
theorem Uty.below {w w' : World} {g : Nat} (h : Uty w g) (hb : Below w.heap.size w w') : Uty w' g := by
  obtain ⟨cs, z, h⟩ := h
  exact ⟨cs, z, by rw [hb.block g (lt_of_block h)]; exact h⟩
theorem Uty.grown {w w' : World} {g base k m : Nat} {u : Value} {us : List Value} (h : Uty w g) (ho : w.ownsRow base 23 k u m us) (hg : w.grownBy w' u.ownBlock) : Uty w' g := by
  have hne := h.ne ho
  obtain ⟨cs, z, h⟩ := h
  exact ⟨cs, z, by rw [hg.block g (lt_of_block h) hne]; exact h⟩
section
attribute [local irreducible] Calls NmE NrE lv el Lnt lnr Uty
set_option maxHeartbeats 16000000 in
set_option maxRecDepth 1000000 in
theorem lentRows_core (p : Option Addr) (r c : Nat) (L : Nat → Nat) (M : Nat → Nat → BitVec 8) (w : World) (hr : r ≤ 5864062014634) (hL : Hid (∀ i, i < r → L i ≤ 140737488355200)) (H1 : Hid (NmE w (.slice p r c) r L M)) :
    Calls Try.prog 9 #[.slice p r c] w fun e w' => ∃ B cB ρ κ μ, e = .returned (.slice (some ⟨B, 0, none⟩) r cB) ∧ Lns w' B cB r ρ κ L μ M ∧ w.heap.size ≤ B ∧ (∀ i, i < r → w.heap.size ≤ ρ i) ∧ Below w.heap.size w w' := by
  obtain ⟨i0, hif, hz0, hz1, hz2⟩ := info_parts infoY
  go_enter Try.func9, Try.ntmps9
  go_wp2
  go_loopw [3, 4] (fun v i wr => ∃ (k : Nat) (ρ κ : Nat → Nat), k ≤ r ∧ i = .int .i64 k ∧ wr.ownsRow w.heap.size 23 1 v k (lv (fun i => .slice (some ⟨ρ i, 0, none⟩) (L i) (κ i)) k) ∧ Hid (∀ i, i < k → Lnt wr (ρ i) (L i) (κ i) (M i)) ∧ Hid (∀ i, i < k → w.heap.size ≤ ρ i ∧ ρ i < wr.heap.size) ∧ Hid (∀ i, i < k → ∀ j, j < k → ρ i = ρ j → i = j) ∧ Below w.heap.size w wr) (fun _ i _ => r - (intOf i).toNat)
  case atStart => exact ⟨0, fun _ => 0, fun _ => 0, Nat.zero_le _, rfl, lv_none _ _ _ _ _, fun i hi => by omega, fun i hi => by omega, fun i hi => by omega, Below.refl _ _⟩
  case round =>
    obtain ⟨k, ρ, κ, hk, rfl, hown, hR, hP, hI, hb⟩ := hrel
    by_cases hlt : k < r
    · have j1 : (k : Int) < (r : Int) := by omega
      have M1 : Hid (k + 1 ≤ maxLen) := by show _ ≤ _; unfold maxLen; omega
      obtain ⟨b1, o1, rows1, ep, hc1, hn1⟩ := nm_at H1.out (by omega)
      subst ep
      obtain ⟨px, cx, ex, _⟩ := nr_un (hn1 k hlt)
      have g1 : wr.cell? ⟨b1, o1 + k, none⟩ = some (.slice px (L k) cx) := by rw [cell_below (hc1 k hlt) hb, ex]
      have HNX := (show Hid _ from NrE.below (hn1 k hlt) hb)
      rw [ex] at HNX
      have LE := (show Hid _ from lent_core px (L k) cx (M k) wr (hL.out k hlt) HNX)
      clear hc1 hn1 ex HNX
      go_wp2_with (first
        | (go_at_call 18; refine LE.out.mono ?_; rintro e w2 ⟨g, cap, rfl, hg, hLn, hb2⟩; have hown2 := owns_below hown hb2; have HLn := (show Hid _ from hLn); clear hLn LE)
        | (at_builtin; refine wpList_append_own _ rfl _ _ 22 rfl w.heap.size 23 i0 (.slice none 0 0) 1 24 Try.underlying22 hif hz0 hz1 hz2 rfl (by decide) _ _ _ rfl (hown2.alloc _) ⟨_, 0, none⟩ 1 1 [.slice (some ⟨g, 0, none⟩) (L k) cap] rfl rfl (one_new _ _ _) (one_cellv rfl) M1.out (by omega) (by have := hb.size; have := hb2.size; simp at *; omega) ?_; intro v' w3 hown' hgrow _))
      have hs1 := hb.size
      have hs2 := hb2.size
      have hs3 := hgrow.size
      have hglt : g < w2.heap.size := lnt_lt HLn.out
      have hb3 := below_append ((bt hb hb2).alloc (by omega) _) (by simp at *; omega) hgrow (hown2.alloc _) (Nat.le_refl _)
      rw [push_lv] at hown'
      have hal : Below w2.heap.size w2 (w2.alloc (.cells #[.slice (some ⟨g, 0, none⟩) (L k) cap] 23)) := (Below.refl _ _).alloc (Nat.le_refl _) _
      have hR3 : Hid (∀ i, i < k + 1 → Lnt w3 (if i = k then g else ρ i) (L i) (if i = k then cap else κ i) (M i)) := fun i hi => by
        by_cases e : i = k
        · subst e
          rw [if_pos rfl, if_pos rfl]
          exact Lnt.grown (HLn.out.below hal) (hown2.alloc _) hgrow
        · rw [if_neg e, if_neg e]
          exact Lnt.grown (((hR.out i (by omega)).below hb2).below hal) (hown2.alloc _) hgrow
      have hsz3 : w2.heap.size < w3.heap.size := by simp at hs3; omega
      clear hgrow g1 hs3
      go_roundw
      case rel =>
        refine ⟨k + 1, fun i => if i = k then g else ρ i, fun i => if i = k then cap else κ i, by omega, by go_num, ?_, hR3, fun i hi => ?_, fun i hi j hj => ?_, hb3⟩
        · rw [lv_congr (f := fun i => if i = k then .slice (some ⟨g, 0, none⟩) (L k) cap else .slice (some ⟨ρ i, 0, none⟩) (L i) (κ i)) (g := fun i => .slice (some ⟨if i = k then g else ρ i, 0, none⟩) (L i) (if i = k then cap else κ i)) (fun i _ => by by_cases e : i = k; (simp only [if_pos e]; rw [e]); simp only [if_neg e])] at hown'
          exact hown'
        · show w.heap.size ≤ (if i = k then g else ρ i) ∧ (if i = k then g else ρ i) < w3.heap.size
          by_cases e : i = k
          · rw [if_pos e]; omega
          · rw [if_neg e]; have := hP.out i (by omega); omega
        · show (if i = k then g else ρ i) = (if j = k then g else ρ j) → i = j
          by_cases e : i = k
          · rw [if_pos e]
            by_cases e2 : j = k
            · intro _; omega
            · rw [if_neg e2]; have := hP.out j (by omega); intro; omega
          · rw [if_neg e]
            by_cases e2 : j = k
            · rw [if_pos e2]; have := hP.out i (by omega); intro; omega
            · rw [if_neg e2]; exact hI.out i (by omega) j (by omega)
      case measure => simp [intOf]; omega
    · obtain rfl : k = r := by omega
      obtain ⟨W0, hW0⟩ : ∃ W0, W0 = wr := ⟨_, rfl⟩
      subst hW0
      have HOWN := (show Hid _ from hown)
      have HB0 := (show Hid _ from hb)
      clear hown hb
      go_wp2
      go_loopw [3, 5] (fun v i wr => ∃ (t : Nat) (μ : Nat → Nat), t ≤ 64 ∧ i = .int .i64 t ∧ wr.ownsRow w.heap.size 23 1 v (k + t) (lv (lnr k ρ κ L μ) (k + t)) ∧ Hid (∀ i, i < k → Lnt wr (ρ i) (L i) (κ i) (M i)) ∧ Hid (∀ j, j < t → wr.cell? ⟨μ j, 0, none⟩ = some (.int .u8 77) ∧ W0.heap.size ≤ μ j ∧ Uty wr (μ j)) ∧ Hid (W0.heap.size ≤ wr.heap.size) ∧ Below w.heap.size w wr) (fun _ i _ => 64 - (intOf i).toNat)
      case atStart => exact ⟨0, fun _ => 0, Nat.zero_le _, rfl, by rw [← lnr_lv]; exact HOWN.out, hR, fun j hj => by omega, Nat.le_refl _, HB0.out⟩
      case round =>
        clear HOWN HB0 hR
        obtain ⟨t, μ, ht, rfl, hown, hR, hMu, hSz, hb⟩ := hrel
        by_cases hlt : t < 64
        · have j1 : (t : Int) < 64 := by omega
          have M1 : Hid (k + t + 1 ≤ maxLen) := by show _ ≤ _; unfold maxLen; omega
          have hs0 := hSz.out
          have hs1 := hb.size
          obtain ⟨V, hV⟩ : ∃ V, V = wr.alloc (.cells #[.int .u8 77] 5) := ⟨_, rfl⟩
          have hbV : Below wr.heap.size wr V := by rw [hV]; exact (Below.refl _ _).alloc (Nat.le_refl _) _
          have hVs : V.heap.size = wr.heap.size + 1 := by rw [hV]; simp
          have hV7 : V.cell? ⟨wr.heap.size, 0, none⟩ = some (.int .u8 77) := by rw [hV, cell_of_row _ _ _ _ _ (0, 0) (heap_alloc_new wr _)]; rfl
          have hVu : Uty V wr.heap.size := by rw [hV]; exact uty_new _ _
          have HV : Hid (V = wr.alloc (.cells #[.int .u8 77] 5)) := hV
          have hown2 := owns_below hown hbV
          have HVS : Hid (V.heap.size = wr.heap.size + 1) := hVs
          clear hV hVs
          go_wp2_with (at_builtin; rw [← HV.out]; refine wpList_append_own _ rfl _ _ 22 rfl w.heap.size 23 i0 (.slice none 0 0) 1 24 Try.underlying22 hif hz0 hz1 hz2 rfl (by decide) _ _ _ rfl (hown2.alloc _) ⟨wr.heap.size + 1, 0, none⟩ 1 1 [.slice (some ⟨wr.heap.size, 0, none⟩) 1 1] rfl rfl (by rw [← HVS.out]; exact one_new _ _ _) (one_cellv rfl) M1.out (by omega) (by have := HVS.out; simp at *; omega) ?_; intro v' w3 hown' hgrow _)
          have hal : Below V.heap.size V (V.alloc (.cells #[.slice (some ⟨wr.heap.size, 0, none⟩) 1 1] 23)) := (Below.refl _ _).alloc (Nat.le_refl _) _
          have hs3 := hgrow.size
          have hs4 := hal.size
          have hVS := HVS.out
          have hb3 := below_append ((bt hb hbV).alloc (by omega) _) (by omega) hgrow (hown2.alloc _) (Nat.le_refl _)
          rw [lnr_mu, Nat.add_assoc] at hown'
          have hR3 : Hid (∀ i, i < k → Lnt w3 (ρ i) (L i) (κ i) (M i)) := fun i hi => Lnt.grown (((hR.out i hi).below hbV).below hal) (hown2.alloc _) hgrow
          have hMu3 : Hid (∀ j, j < t + 1 → w3.cell? ⟨(fun j => if j = t then wr.heap.size else μ j) j, 0, none⟩ = some (.int .u8 77) ∧ W0.heap.size ≤ (fun j => if j = t then wr.heap.size else μ j) j ∧ Uty w3 ((fun j => if j = t then wr.heap.size else μ j) j)) := fun j hj => by
            dsimp only
            by_cases e : j = t
            · rw [if_pos e]
              have hu := hVu.below hal
              exact ⟨hgrow.cell (cell_below hV7 hal) (hu.ne (hown2.alloc _)), hs0, hu.grown (hown2.alloc _) hgrow⟩
            · rw [if_neg e]
              obtain ⟨m1, m2, m3⟩ := hMu.out j (by omega)
              have hu := (m3.below hbV).below hal
              exact ⟨hgrow.cell (cell_below (cell_below m1 hbV) hal) (hu.ne (hown2.alloc _)), m2, hu.grown (hown2.alloc _) hgrow⟩
          have hSz3 : Hid (W0.heap.size ≤ w3.heap.size) := by show _ ≤ _; omega
          clear hown hown2 hgrow hal hs3 hs4 hVS hR hMu
          go_roundw
          case rel => exact ⟨t + 1, _, by omega, by go_num, hown', hR3, hMu3, hSz3, hb3⟩
          case measure => simp [intOf]; omega
        · obtain rfl : t = 64 := by omega
          obtain ⟨B, cB, f, ev, hgB, hcB, hO, hf⟩ := owned_cap hown (by omega)
          subst ev
          have k1 : (k : Int) ≤ (cB : Int) := by omega
          have k2 : (0 : Int) ≤ (k : Int) := by omega
          have HLN : Hid (Lns wr B cB k ρ κ L μ M) := ⟨hcB, ⟨f, hO, hf⟩, hR.out, hI.out, fun j hj => (hMu.out j hj).1, fun i hi j hj e => by have := (hP.out i hi).2; have := (hMu.out j hj).2.1; omega⟩
          clear hO hf hown
          go_wp2
          go_ret
          exact ⟨B, cB, ρ, κ, μ, rfl, HLN.out, hgB, fun i hi => (hP.out i hi).1, hb⟩
end
end Go.Proofs.Ytienknoahjhopaa
