/-
  again: the same memory holds others.
-/
import Derived.Test.YtgconfcijmemmaaOk16
import Derived.Laws.OwnMore
import Derived.Maps.AppendAt
namespace Go.Proofs.Ytgconfcijmemmaa
open Go.RowKit
theorem Ln.frozen {w : World} {B g cap : Nat} {zs : List Int} (h : Ln w B g cap zs) (i : Nat) : w.frozen? ⟨g, i, none⟩ = false := by
  have h1 := h.own
  unfold Oz at h1
  rcases h1.2 with ⟨h2, _⟩ | ⟨g', cap', cur, h2, _, hh, _⟩
  · cases h2
  · injection h2 with h2
    injection h2 with h2
    injection h2 with h2
    subst h2
    unfold World.frozen?
    simp [hh]
theorem Ln.at {w : World} {B g cap : Nat} {zs : List Int} (h : Ln w B g cap zs) {i : Nat} (hi : i < zs.length) : w.cell? ⟨g, i, none⟩ = some (.int .i64 (zs.getD i 0)) := by
  have := oz_at h.own (i := i) (by simp; omega)
  rw [this]
  simp [List.getD, hi, List.getElem?_append_left]
theorem Ln.set {w : World} {B g cap : Nat} {zs : List Int} (h : Ln w B g cap zs) {i : Nat} (hi : i < zs.length) (z : Int) : Ln (w.setCell ⟨g, i, none⟩ (.int .i64 z)) B g cap (zs.set i z) ∧ w.grownBy (w.setCell ⟨g, i, none⟩ (.int .i64 z)) (some g) := by
  have h1 := h.own
  unfold Oz at h1
  have hl : (zs ++ [77]).length = zs.length + 1 := by simp
  rw [hl] at h1
  obtain ⟨h2, h3⟩ := World.ownsRow.stored h1 i (.int .i64 z)
  refine ⟨⟨?_⟩, h3⟩
  unfold Oz
  rw [← List.map_set, List.set_append_left _ _ hi] at h2
  simpa using h2
/-- A list that is overwritten, as far as k. -/
def ovl (zs : List Int) (k : Nat) (z : Int) : List Int := List.replicate k z ++ zs.drop k
theorem ovl_len {zs : List Int} {k : Nat} (h : k ≤ zs.length) (z : Int) : (ovl zs k z).length = zs.length := by
  unfold ovl; simp; omega
theorem ovl_set {zs : List Int} {k : Nat} (h : k < zs.length) (z : Int) : (ovl zs k z).set k z = ovl zs (k + 1) z := by
  unfold ovl
  rw [List.set_append_right _ _ (by simp)]
  simp only [List.length_replicate, Nat.sub_self]
  rw [List.drop_eq_getElem_cons h, List.set_cons_zero, List.replicate_succ']
  simp
theorem ovl_all {zs : List Int} (z : Int) : ovl zs zs.length z = List.replicate zs.length z := by
  unfold ovl; simp
theorem rep_count (n : Nat) (z : Int) : (List.replicate n z).countP (ieq z) = n := by
  rw [List.countP_replicate]
  simp [ieq]
theorem rep_mst (n : Nat) (z : Int) : (mst ieq 0 (List.replicate n z)).2 = n ∧ (n ≠ 0 → (mst ieq 0 (List.replicate n z)).1 = z) := by
  induction n with
  | zero => exact ⟨rfl, fun h => absurd rfl h⟩
  | succ n ih =>
    have hc := rep_count (n + 1) z
    rw [List.replicate_succ] at hc ⊢
    rw [mst, if_pos (by rw [ih.1, hc]; omega)]
    exact ⟨hc, fun _ => rfl⟩
theorem grown_below' {w a b : World} {r : Option Nat} (hg : w.grownBy a r) (hb : Below a.heap.size a b) : w.grownBy b r :=
  ⟨hb.os.trans hg.os, hb.tape.trans hg.tape, hb.output.trans hg.output, Nat.le_trans hg.size hb.size, fun i hi hr => (hb.block i (Nat.lt_of_lt_of_le hi hg.size)).trans (hg.block i hi hr)⟩
theorem grown_refl (w : World) (r : Option Nat) : w.grownBy w r := ⟨rfl, rfl, rfl, Nat.le_refl _, fun _ _ _ => rfl⟩
section
attribute [local irreducible] Calls Oz
set_option maxRecDepth 1000000 in
set_option maxHeartbeats 4000000 in
theorem again_any {w : World} {B g cap : Nat} {zs : List Int} (h : Ln w B g cap zs) (x : Int) (n : Nat) (hn : zs.length = n) (hm : n ≤ 1000000000) :
    Calls Try.prog 6 #[.slice (some ⟨g, 0, none⟩) n cap, .int .i64 x] w fun e w' => e = .returned (.bool true) ∧ Ln w' B g cap (List.replicate n (wrap64 (x + 1))) ∧ w.grownBy w' (some g) := by
  have HL := (show Hid (Ln w B g cap zs) from h)
  have HN := (show Hid (zs.length = n) from hn)
  clear h hn
  obtain ⟨T, hT⟩ : ∃ T, zs.countP (ieq x) = T := ⟨_, rfl⟩
  have HT := (show Hid (zs.countP (ieq x) = T) from hT)
  clear hT
  have hT0 : ¬ (T : Int) < 0 := by omega
  obtain ⟨y, hy⟩ : ∃ y, wrap64 (x + 1) = y := ⟨_, rfl⟩
  rw [hy]
  go_enter Try.func6, Try.ntmps6
  go_wp2_with (first
    | (go_at_call 11; refine (icount_any HL.out.ir n _ x HN.out (by omega)).mono ?_; rw [HT.out]; rintro e w1 ⟨rfl, h⟩; obtain rfl := h.symm))
  go_loopw [6] (fun i wr => ∃ k : Nat, k ≤ n ∧ i = .int .i64 k ∧ Hid (Ln wr B g cap (ovl zs k x) ∧ w.grownBy wr (some g))) (fun i _ => n - (intOf i).toNat)
  case atStart => exact ⟨0, Nat.zero_le _, rfl, by (show _ ∧ _; exact ⟨by simpa [ovl] using HL.out, grown_refl _ _⟩)⟩
  case round =>
    obtain ⟨k, hk, rfl, HW⟩ := hrel
    by_cases hlt : k < n
    · have hi : (k : Int) < (n : Int) := by omega
      have hlz : k < (ovl zs k x).length := by rw [ovl_len (by rw [HN.out]; exact hk), HN.out]; exact hlt
      have g1 := HW.out.1.at hlz
      have f1 := HW.out.1.frozen k
      have HS := (show Hid (Ln (wr.setCell ⟨g, k, none⟩ (.int .i64 x)) B g cap (ovl zs (k + 1) x) ∧ w.grownBy (wr.setCell ⟨g, k, none⟩ (.int .i64 x)) (some g)) from by
        have hs := HW.out.1.set hlz x
        rw [ovl_set (by rw [HN.out]; exact hlt)] at hs
        exact ⟨hs.1, HW.out.2.trans hs.2⟩)
      obtain ⟨y0, hy0⟩ : ∃ y, (ovl zs k x).getD k 0 = y := ⟨_, rfl⟩
      rw [hy0] at g1
      clear hy0 hlz
      go_wp2
      go_roundw
      case rel => exact ⟨k + 1, by omega, by go_num, HS⟩
      case measure => simp [intOf]; omega
    · obtain rfl : k = n := by omega
      have HW1 := (show Hid (Ln wr B g cap (List.replicate k x) ∧ w.grownBy wr (some g)) from ⟨by have h := HW.out.1; rw [← HN.out, ovl_all] at h; rw [← HN.out]; exact h, HW.out.2⟩)
      have hlr : Hid ((List.replicate k x).length = k) := by show _ = _; simp
      clear HW
      go_wp2_with (first
        | (go_at_call 11; refine (icount_any HW1.out.1.ir k _ x hlr.out (by omega)).mono ?_; rw [rep_count]; rintro e w1 ⟨rfl, h⟩; obtain rfl := h.symm)
        | (go_at_call 12; refine (imost_any HW1.out.1.ir k _ hlr.out (by omega)).mono ?_; rintro e w2 ⟨rfl, hb2⟩; have HW2 := (show Hid (Ln w2 B g cap (List.replicate k x) ∧ w.grownBy w2 (some g)) from ⟨HW1.out.1.below hb2, grown_below' HW1.out.2 hb2⟩); clear hb2))
      go_loopw [7] (fun i wr => ∃ t : Nat, t ≤ k ∧ i = .int .i64 t ∧ Hid (Ln wr B g cap (ovl (List.replicate k x) t y) ∧ w.grownBy wr (some g))) (fun i _ => k - (intOf i).toNat)
      case atStart => exact ⟨0, Nat.zero_le _, rfl, by (show _ ∧ _; exact ⟨by simpa [ovl] using HW2.out.1, HW2.out.2⟩)⟩
      case round =>
        obtain ⟨t, ht, rfl, HW⟩ := hrel
        by_cases hlt : t < k
        · have hi : (t : Int) < (k : Int) := by omega
          have hlz : t < (ovl (List.replicate k x) t y).length := by rw [ovl_len (by rw [hlr.out]; exact ht), hlr.out]; exact hlt
          have g1 := HW.out.1.at hlz
          have f1 := HW.out.1.frozen t
          have HS := (show Hid (Ln (wr.setCell ⟨g, t, none⟩ (.int .i64 y)) B g cap (ovl (List.replicate k x) (t + 1) y) ∧ w.grownBy (wr.setCell ⟨g, t, none⟩ (.int .i64 y)) (some g)) from by
            have hs := HW.out.1.set hlz y
            rw [ovl_set (by rw [hlr.out]; exact hlt)] at hs
            exact ⟨hs.1, HW.out.2.trans hs.2⟩)
          obtain ⟨y0, hy0⟩ : ∃ z, (ovl (List.replicate k x) t y).getD t 0 = z := ⟨_, rfl⟩
          rw [hy0] at g1
          clear hy0 hlz
          go_wp2
          go_roundw
          case rel => exact ⟨t + 1, by omega, by go_num, HS⟩
          case measure => simp [intOf]; omega
        · obtain rfl : t = k := by omega
          have HW3 := (show Hid (Ln wr B g cap (List.replicate t y) ∧ w.grownBy wr (some g)) from ⟨by have h := HW.out.1; unfold ovl at h; simpa using h, HW.out.2⟩)
          have hly : Hid ((List.replicate t y).length = t) := by show _ = _; simp
          obtain ⟨E, hE⟩ : ∃ E, (mst ieq 0 (List.replicate t y)).1 = E := ⟨_, rfl⟩
          have HE := (show Hid ((mst ieq 0 (List.replicate t y)).1 = E) from hE)
          clear HW hE
          by_cases h0 : t = 0
          · subst h0
            go_wp2_with (first
              | (go_at_call 12; refine (imost_any HW3.out.1.ir _ _ hly.out (by omega)).mono ?_; rw [HE.out, (rep_mst _ y).1]; unfold ivl; rintro e w4 ⟨rfl, hb4⟩; have HW4 := (show Hid (Ln w4 B g cap (List.replicate 0 y) ∧ w.grownBy w4 (some g)) from ⟨HW3.out.1.below hb4, grown_below' HW3.out.2 hb4⟩); clear hb4))
            go_ret
            exact ⟨rfl, HW4.out⟩
          · have hEy : Hid (E = y) := by show E = y; rw [← HE.out]; exact (rep_mst t y).2 h0
            have ht0 : ((t : Int) == 0) = false := by simp; omega
            go_wp2_with (first
              | (go_at_call 12; refine (imost_any HW3.out.1.ir _ _ hly.out (by omega)).mono ?_; rw [HE.out, hEy.out, (rep_mst _ y).1]; unfold ivl; rintro e w4 ⟨rfl, hb4⟩; have HW4 := (show Hid (Ln w4 B g cap (List.replicate t y) ∧ w.grownBy w4 (some g)) from ⟨HW3.out.1.below hb4, grown_below' HW3.out.2 hb4⟩); clear hb4))
            go_ret
            exact ⟨rfl, HW4.out⟩
end
end Go.Proofs.Ytgconfcijmemmaa
