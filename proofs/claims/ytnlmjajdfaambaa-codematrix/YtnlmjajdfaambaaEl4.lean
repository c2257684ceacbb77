/-
  The law's 'elems', 'equal'.
-/
import Derived.Test.YtnlmjajdfaambaaMx
namespace Go.Proofs.Ytnlmjajdfaambaa
open Go.RowKit
theorem lv_elem (f : Nat → BitVec 8) (j : Nat) : lv (clE f) j ++ [.int .u8 (el (f j))] = lv (clE f) (j + 1) := by rw [lv_succ]; rfl
theorem tre_of {w : World} {b n : Nat} {v : Value} {f : Nat → BitVec 8} (h : w.ownsRow b 54 1 v n (lv (clE f) n)) : TrE w v n f := owns_st1 h
theorem nmE_mk' {w : World} {v : Value} {r : Nat} {L : Nat → Nat} {N : Nat → Nat → BitVec 8} {rows : Nat → Value} (h1 : Sv w v r rows r) (h2 : ∀ i, i < r → NrE w (rows i) (L i) (N i)) : NmE w v r L N := ⟨rows, h1, h2⟩
section
attribute [local irreducible] Calls NmE NrE TrE lv clE el
set_option maxHeartbeats 16000000 in
set_option maxRecDepth 1000000 in
theorem elems4_core (p : Option Addr) (r c : Nat) (L : Nat → Nat) (M : Nat → Nat → BitVec 8) (w : World) (hr : r ≤ 255) (hL : Hid (∀ i, i < r → L i ≤ 255)) (H1 : Hid (NmE w (.slice p r c) r L M)) :
    Calls Try.prog 32 #[.slice p r c] w fun e w' => ∃ v rows, e = .returned v ∧ w'.ownsRow w.heap.size 80 1 v r (lv rows r) ∧ (∀ i, i < r → TrE w' (rows i) (L i) (M i)) ∧ Below w.heap.size w w' := by
  obtain ⟨i0, hif, hz0, hz1, hz2⟩ := info_parts infoER
  obtain ⟨i1, hif1, hz01, hz11, hz21⟩ := info_parts infoE
  go_enter Try.func32, Try.ntmps32
  go_wp2
  go_loopw [3, 4] (fun v i wr => ∃ (t : Nat) (rows : Nat → Value), t ≤ r ∧ i = .int .i64 t ∧ wr.ownsRow w.heap.size 80 1 v t (lv rows t) ∧ Hid (∀ i, i < t → TrE wr (rows i) (L i) (M i)) ∧ Below w.heap.size w wr) (fun _ i _ => r - (intOf i).toNat)
  case atStart => exact ⟨0, fun _ => .bool false, Nat.zero_le _, rfl, lv_none _ _ _ _ _, fun i hi => by omega, Below.refl _ _⟩
  case round =>
    obtain ⟨t, rows, ht, rfl, hown, hR, hb⟩ := hrel
    by_cases hlt : t < r
    · have j1 : (t : Int) < (r : Int) := by omega
      have M1 : Hid (t + 1 ≤ maxLen) := by show _ ≤ _; unfold maxLen; omega
      obtain ⟨b1, o1, rows1, ep, hc1, hn1⟩ := nm_at H1.out (by omega)
      subst ep
      obtain ⟨W0, hW0⟩ : ∃ W0, W0 = wr := ⟨_, rfl⟩
      subst hW0
      obtain ⟨n, hn⟩ : ∃ n, L t = n := ⟨_, rfl⟩
      have hn255 : n ≤ 255 := by rw [← hn]; exact hL.out t hlt
      obtain ⟨pr, cr, er, hrc⟩ := nr_un (NrE.below (hn1 t hlt) hb)
      rw [hn] at er hrc
      have HN : Hid (L t = n) := hn
      have G1 : Hid (W0.cell? ⟨b1, o1 + t, none⟩ = some (.slice pr n cr)) := by show _ = _; rw [cell_below (hc1 t hlt) hb, er]
      have HRC := (show Hid _ from hrc)
      have HOWN := (show Hid _ from hown)
      have HB := (show Hid _ from hb)
      clear hc1 hn1 er hrc hown hb hn
      go_wp2
      go_loopw [5, 6] (fun v i wr => ∃ j : Nat, j ≤ n ∧ i = .int .i64 j ∧ wr.ownsRow W0.heap.size 54 1 v j (lv (clE (M t)) j) ∧ Below W0.heap.size W0 wr) (fun _ i _ => n - (intOf i).toNat)
      case atStart => exact ⟨0, Nat.zero_le _, rfl, lv_none _ _ _ _ _, Below.refl _ _⟩
      case round =>
        obtain ⟨j, hj, rfl, hown2, hb2⟩ := hrel
        have g1 := cell_below G1.out hb2
        by_cases hjn : j < n
        · have j2 : (j : Int) < (n : Int) := by omega
          obtain ⟨b2, o2, ep2, hc2⟩ := HRC.out (by omega)
          subst ep2
          have g2 := cell_below (hc2 j hjn) hb2
          have M2 : Hid (j + 1 ≤ maxLen) := by show _ ≤ _; unfold maxLen; omega
          have M3 : Hid (∀ o : Obj, W0.heap.size ≤ (wr.alloc o).heap.size) := fun o => by have := hb2.size; simp; omega
          clear hc2
          go_wp2_with (at_builtin; refine wpList_append_own _ rfl _ _ 80 rfl W0.heap.size 54 i1 (.int .u8 0) 1 1 Try.underlying80 hif1 hz01 hz11 hz21 rfl (by decide) _ _ _ rfl (hown2.alloc _) ⟨wr.heap.size, 0, none⟩ 1 1 [.int .u8 (el (M t j))] rfl rfl (one_new _ _ _) (one_cellv rfl) M2.out (by omega) (M3.out _) ?_; intro v' w3 hown' hgrow _)
          have hb3 := below_append (hb2.alloc hb2.size _) (M3.out _) hgrow (hown2.alloc _) (Nat.le_refl _)
          rw [lv_elem] at hown'
          clear hown2 hgrow g1 g2
          go_roundw
          case rel => first | exact ⟨j + 1, by omega, by go_num, hown', hb3⟩ | exact ⟨_, _, ⟨j + 1, by omega, rfl, hown', hb3⟩, rfl, by go_num⟩ | ((repeat apply Exists.intro); exact ⟨⟨j + 1, by omega, by go_num, hown', hb3⟩, rfl⟩)
          case measure => simp [intOf]; omega
        · obtain rfl : j = n := by omega
          have HI : Hid (TrE wr _ j (M t)) := tre_of hown2
          obtain ⟨px, cx, ex⟩ := HI.out.form
          subst ex
          have hown3 := owns_below HOWN.out hb2
          have hb3 := bt HB.out hb2
          clear hown2
          go_wp2_with (at_builtin; refine wpList_append_own _ rfl _ _ 60 rfl w.heap.size 80 i0 (.slice none 0 0) 1 24 Try.underlying60 hif hz0 hz1 hz2 rfl (by decide) _ _ _ rfl (hown3.alloc _) ⟨_, 0, none⟩ 1 1 [.slice px j cx] rfl rfl (one_new _ _ _) (one_cellv rfl) M1.out (by omega) (by have := hb3.size; simp at *; omega) ?_; intro v' w4 hown' hgrow _)
          have hb4 := below_append (hb3.alloc hb3.size _) (by have := hb3.size; simp at *; omega) hgrow (hown3.alloc _) (Nat.le_refl _)
          rw [push_lv] at hown'
          have hR3 : Hid (∀ i, i < t + 1 → TrE w4 ((fun i => if i = t then .slice px j cx else rows i) i) (L i) (M i)) := push_trE hown3 hgrow (fun i hi => (hR.out i hi).below hb2) (by rw [HN.out]; exact HI.out)
          clear hown3 hgrow
          go_roundw
          case rel => exact ⟨t + 1, _, by omega, by go_num, hown', hR3, hb4⟩
          case measure => simp [intOf]; omega
    · obtain rfl : t = r := by omega
      go_wp2
      go_ret
      exact ⟨_, rows, rfl, hown, hR.out, hb⟩
end
theorem elems4_ok {w : World} {v : Value} {r : Nat} {L : Nat → Nat} {M : Nat → Nat → BitVec 8} (hr : r ≤ 255) (hL : ∀ i, i < r → L i ≤ 255) (h : NmE w v r L M) :
    Calls Try.prog 32 #[v] w fun e w' => ∃ v', e = .returned v' ∧ NmE w' v' r L M ∧ Below w.heap.size w w' := by
  obtain ⟨p, c, e⟩ := nmE_form h
  subst e
  exact (elems4_core p r c L M w hr hL h).mono fun e w' ⟨v', rows, he, ho, hR, hb⟩ => ⟨v', he, nmE_mk' (St.sv (owns_st1 ho)) (fun i hi => (hR i hi).nr), hb⟩
end Go.Proofs.Ytnlmjajdfaambaa
