/-
  The laws' 'sameTexts'.
-/
import Derived.Test.YtmcbeikgdcgdcaaPt
import Derived.Test.YtmcbeikgdcgdcaaRt
import Derived.Deep.QuietTactic
import Derived.BigQuiet
namespace Go.Proofs.Ytmcbeikgdcgdcaa
open Go.RowKit
theorem Ot.rs {w : World} {base : Nat} {v : Value} {ts : List (List (BitVec 8))} (h : Ot w base v ts) : ∃ p c, v = .slice p ts.length c ∧ ts.length ≤ c ∧ Rs' w p ts := by
  rcases h.2 with ⟨hv, h0⟩ | ⟨g, cap, cur, hv, hb, hh, hn, hc, hs, ht⟩
  · have : ts = [] := List.length_eq_zero_iff.1 h0
    subst this
    exact ⟨none, 0, hv, Nat.le_refl _, .inl rfl⟩
  · refine ⟨some ⟨g, 0, none⟩, cap, hv, hn, .inr ⟨g, 0, rfl, fun i hi => ?_⟩⟩
    rw [Nat.zero_add, cell_of_row w g i _ _ (0, 0) hh]
    have h1 : (cur.toList.take (ts.length * 1))[i]? = cur.toList[i]? := List.getElem?_take_of_lt (by omega)
    rw [ht] at h1
    rw [← Array.getElem?_toList, ← h1, List.getElem?_map, List.getElem?_eq_getElem hi]
    simp [List.getD, List.getElem?_eq_getElem hi]
theorem take_eq_step {α : Type} (d : α) (a b : List α) (i : Nat) (ha : i < a.length) (hb : i < b.length) (h : a.take i = b.take i) (e : a.getD i d = b.getD i d) : a.take (i + 1) = b.take (i + 1) := by
  rw [List.take_add_one, List.take_add_one, h]
  simp only [List.getD, List.getElem?_eq_getElem ha, List.getElem?_eq_getElem hb, Option.getD_some] at e
  rw [List.getElem?_eq_getElem ha, List.getElem?_eq_getElem hb, e]
section
attribute [local irreducible] Calls el bstr
set_option maxHeartbeats 1000000 in
set_option maxRecDepth 1000000 in
theorem sameT_any {w : World} {a1 a2 : Option Addr} {ts us : List (List (BitVec 8))} (h1 : Rs' w a1 ts) (h2 : Rs' w a2 us) (n c1 m c2 : Nat) (hn : ts.length = n) (hm : us.length = m) (hx : n ≤ 140737488350000) :
    Calls Try.prog 57 #[.slice a1 n c1, .slice a2 m c2] w fun e w' => e = .returned (.bool (decide (ts = us))) ∧ Below w.heap.size w w' := by
  by_cases hnm : n = m
  · subst hnm
    go_enter Try.func57, Try.ntmps57
    go_wp2
    go_loopw [5] (fun i wr => ∃ j : Nat, j ≤ n ∧ i = .int .i64 (j : Int) ∧ ts.take j = us.take j ∧ Below w.heap.size w wr) (fun i _ => n - (intOf i).toNat)
    case atStart => exact ⟨0, Nat.zero_le _, rfl, rfl, Below.refl _ _⟩
    case round =>
      obtain ⟨j, hj, rfl, ht, hb⟩ := hrel
      by_cases hlt : j < n
      · have hi : (j : Int) < (n : Int) := by omega
        obtain ⟨b1, o1, rfl, hc1⟩ : ∃ b o, a1 = some ⟨b, o, none⟩ ∧ ∀ i, i < n → w.cell? ⟨b, o + i, none⟩ = some (.string (bstr (ts.getD i []))) := by
          rcases h1 with hp | ⟨b, o, e, hc⟩
          · subst hp; simp at hn; omega
          · rw [hn] at hc; exact ⟨b, o, e, hc⟩
        obtain ⟨b2, o2, rfl, hc2⟩ : ∃ b o, a2 = some ⟨b, o, none⟩ ∧ ∀ i, i < n → w.cell? ⟨b, o + i, none⟩ = some (.string (bstr (us.getD i []))) := by
          rcases h2 with hp | ⟨b, o, e, hc⟩
          · subst hp; simp at hm; omega
          · rw [hm] at hc; exact ⟨b, o, e, hc⟩
        have g1 := cell_below (hc1 j hlt) hb
        have g2 := cell_below (hc2 j hlt) hb
        have hst : ts.getD j [] = us.getD j [] → ts.take (j + 1) = us.take (j + 1) := take_eq_step [] ts us j (by omega) (by omega) ht
        obtain ⟨x, hxd⟩ : ∃ x, x = ts.getD j [] := ⟨_, rfl⟩
        obtain ⟨y, hyd⟩ : ∃ y, y = us.getD j [] := ⟨_, rfl⟩
        have hne : ¬ x = y → decide (ts = us) = false := fun h => decide_eq_false (fun e => h (by rw [hxd, hyd, e]))
        rw [← hxd] at g1 hst
        rw [← hyd] at g2 hst
        clear hxd hyd hc1 hc2
        have eq := bstr_beq x y
        by_cases hxy : x = y
        · have hst' := (show Hid _ from hst hxy)
          clear hst hne
          rw [decide_eq_true hxy] at eq
          have eq2 : ((bstr x).toList != (bstr y).toList) = false := by rw [bne, eq]; rfl
          go_wp2
          go_quiet (fail)
          go_wp2
          go_roundw
          case rel => exact ⟨j + 1, by omega, by go_num, hst'.out, below_drewN hb _⟩
          case measure => simp [intOf]; omega
        · rw [decide_eq_false hxy] at eq
          have eq2 : ((bstr x).toList != (bstr y).toList) = true := by rw [bne, eq]; rfl
          have D : Hid (decide (ts = us) = false) := hne hxy
          clear hne hst
          go_wp2
          go_quiet (fail)
          go_wp2
          go_ret
          exact ⟨by rw [D.out]; rfl, below_drewN hb _⟩
      · obtain rfl : j = n := by omega
        have e : ts = us := by
          rw [List.take_of_length_le (by omega), List.take_of_length_le (by omega)] at ht
          exact ht
        have D : Hid (decide (ts = us) = true) := decide_eq_true e
        clear e
        go_wp2
        go_ret
        exact ⟨by rw [D.out]; rfl, hb⟩
  · have h0 : ((n : Int) != (m : Int)) = true := by simp; omega
    rw [decide_eq_false (fun e => hnm (by rw [← hn, ← hm, e]))]
    go_enter Try.func57, Try.ntmps57
    go_wp2
    go_ret
    exact ⟨rfl, Below.refl _ _⟩
end
end Go.Proofs.Ytmcbeikgdcgdcaa
