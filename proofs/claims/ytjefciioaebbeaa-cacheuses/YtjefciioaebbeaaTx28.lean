/-
  Lists of texts that are read: sameTexts, within; Pick.
-/
import Derived.Test.YtjefciioaebbeaaKy28
import Derived.Laws.AppendOwn
import Derived.WalkSmall
import Derived.Deep.LoopGhost
import Derived.Laws.StructEq
import Derived.Laws.Strings
namespace Go.Proofs.Ytjefciioaebbeaa
open Go.RowKit
/-- A list of texts, read. -/
def Rt (w : World) (p : Option Addr) (ts : List Tx) : Prop := ts = [] ∨ ∃ b o, p = some ⟨b, o, none⟩ ∧ ∀ i, i < ts.length → w.cell? ⟨b, o + i, none⟩ = some (encStr (ts.getD i []))
theorem rt_own {w : World} {base : Nat} {v : Value} {ks : List Tx} (h : w.ownsRow base 9 1 v ks.length (ks.map encStr)) : ∃ p c, v = .slice p ks.length c ∧ ks.length ≤ c ∧ Rt w p ks := by
  rcases h.2 with ⟨hv, h1⟩ | ⟨g, cap, cur, hv, hg, hb, h1, h2, h3, h4⟩
  · have : ks = [] := by
      cases ks with
      | nil => rfl
      | cons a t => simp at h1
    subst this
    exact ⟨none, 0, hv, Nat.le_refl _, .inl rfl⟩
  · refine ⟨_, cap, hv, by simpa using h1, .inr ⟨g, 0, rfl, fun i hi => ?_⟩⟩
    rw [Nat.zero_add, cell_of_row w g i _ _ _ hb]
    have : (ks.map encStr)[i]? = some (encStr (ks.getD i [])) := by simp [hi]
    rw [← this, ← h4]
    simp [hi]
theorem Rt.below {w w' : World} {p : Option Addr} {ts : List Tx} (h : Rt w p ts) (hb : Below w.heap.size w w') : Rt w' p ts := by
  rcases h with h | ⟨b, o, e, h⟩
  · exact .inl h
  · refine .inr ⟨b, o, e, fun i hi => ?_⟩
    have h1 := h i hi
    rw [hb.cell (p := ⟨b, o + i, none⟩) (block_lt_of_cell h1)]
    exact h1
theorem tol_eq (x y : Tx) : ((⟨x.toArray⟩ : ByteArray).toList == (⟨y.toArray⟩ : ByteArray).toList) = txq x y := by
  rw [ByteArray.toList_eq, ByteArray.toList_eq]
  rfl
theorem neq_str (x y : Tx) (w : World) : (binOp .neq 9 (encStr x) (encStr y)).run Try.prog w = .ok (.bool (!txq x y)) w := by
  rw [← tol_eq]
  simp only [binOp, Op.stringOp]
  rfl
theorem eql_str (x y : Tx) (w : World) : (binOp .eql 9 (encStr x) (encStr y)).run Try.prog w = .ok (.bool (txq x y)) w := by
  rw [← tol_eq]
  simp only [binOp, Op.stringOp]
  rfl
section
attribute [local irreducible] Calls
set_option maxRecDepth 1000000 in
theorem pick_any (k : Int) (n : Nat) (hn : 1 ≤ n) (hn2 : n ≤ 1000000000000) (w : World) : Calls Try.prog 18 #[.int .i64 k, .int .i64 (n : Int)] w fun e w' => e = .returned (.int .i64 (k % (n : Int))) ∧ w' = w := by
  have n1 : ¬ (n : Int) < 1 := by omega
  have n2 : ((n : Int) == 0) = false := by simp; omega
  have n3 : ¬ (n : Int) = 0 := by omega
  have n4 : (n == 0) = false := by simp; omega
  have n5 : ¬ n = 0 := by omega
  have e1 : k.tmod (n : Int) = if 0 ≤ k then k % (n : Int) else -((-k) % (n : Int)) := by
    split
    · exact Int.tmod_eq_emod_of_nonneg (by assumption)
    · have := Int.neg_tmod (-k) (n : Int)
      rw [Int.neg_neg] at this
      rw [this, Int.tmod_eq_emod_of_nonneg (by omega)]
  have r1 := Int.emod_nonneg k (show (n : Int) ≠ 0 by omega)
  have r2 := Int.emod_lt_of_pos k (show (0 : Int) < n by omega)
  have r3 := Int.emod_nonneg (-k) (show (n : Int) ≠ 0 by omega)
  have r4 := Int.emod_lt_of_pos (-k) (show (0 : Int) < n by omega)
  have key : (0 ≤ k.tmod (n : Int) ∧ k.tmod (n : Int) = k % (n : Int)) ∨ (k.tmod (n : Int) < 0 ∧ IntKind.i64.wrap (k.tmod (n : Int) + (n : Int)) = k % (n : Int)) := by
    by_cases h0 : 0 ≤ k
    · rw [e1, if_pos h0]; exact .inl ⟨r1, rfl⟩
    · rw [e1, if_neg h0]
      by_cases hz : (-k) % (n : Int) = 0
      · left
        rw [hz]
        refine ⟨by omega, ?_⟩
        have : (n : Int) ∣ k := by have := Int.dvd_of_emod_eq_zero hz; exact (Int.dvd_neg).1 this
        rw [Int.emod_eq_zero_of_dvd this]; rfl
      · right
        have e2 : k % (n : Int) = (n : Int) - (-k) % (n : Int) := by
          have h3 := Int.emod_add_mul_ediv (-k) (n : Int)
          have h4 : k = ((n : Int) - (-k) % (n : Int)) + (n : Int) * (-((-k) / (n : Int)) - 1) := by
            rw [Int.mul_sub, Int.mul_neg, Int.mul_one]; omega
          generalize hq : (-k) / (n : Int) = q at *
          generalize hr : (-k) % (n : Int) = r at *
          rw [h4, Int.add_mul_emod_self_left]
          exact Int.emod_eq_of_lt (by omega) (by omega)
        refine ⟨by omega, ?_⟩
        rw [IntKind.wrap_i64]
        omega
  rcases key with ⟨h1, h2⟩ | ⟨h1, h2⟩
  · have h3 : ¬ k.tmod (n : Int) < 0 := by omega
    clear e1 r1 r2 r3 r4
    go_enter Try.func18, Try.ntmps18
    go_wp2
    go_ret
    exact ⟨by rw [← h2]; rfl, rfl⟩
  · clear e1 r1 r2 r3 r4
    have h3 : wrap64 (k.tmod (n : Int) + (n : Int)) = k % (n : Int) := by
      have h4 := h2
      rw [IntKind.wrap_i64] at h4
      unfold wrap64
      omega
    go_enter Try.func18, Try.ntmps18
    go_wp2
    go_ret
    exact ⟨by first | rfl | rw [← h2]; rfl, rfl⟩
theorem sameTexts_core (pa pb : Option Addr) (n ca cb : Nat) (la lb : List Tx) (w : World) (ha : la.length = n) (hb : lb.length = n) (hA : Rt w pa la) (hB : Rt w pb lb) (hn : n ≤ 8796093022207) :
    Calls Try.prog 12 #[.slice pa n ca, .slice pb n cb] w fun e w' => e = .returned (.bool (decide (la = lb))) ∧ Below w.heap.size w w' := by
  have HR := (show Hid (la.length = n ∧ lb.length = n ∧ Rt w pa la ∧ Rt w pb lb) from ⟨ha, hb, hA, hB⟩)
  clear ha hb hA hB
  obtain ⟨z, hz⟩ : ∃ z, z = decide (la = lb) := ⟨_, rfl⟩
  rw [← hz]
  have HZ := (show Hid (z = decide (la = lb)) from hz)
  clear hz
  go_enter Try.func12, Try.ntmps12
  go_wp2
  go_loopg [5] n (fun m i wr => ∃ k : Nat, k ≤ n ∧ m = n - k ∧ i = .int .i64 k ∧ Hid (la.take k = lb.take k) ∧ Hid (Below w.heap.size w wr))
  case atStart => exact ⟨0, Nat.zero_le _, rfl, rfl, by show _ = _; simp, Below.refl _ _⟩
  case round =>
    obtain ⟨k, hk, hgk, rfl, hT, hW⟩ := hrel
    have HK := (show Hid (gk = n - k) from hgk)
    clear hgk
    by_cases hlt : k < n
    · have hi : (k : Int) < (n : Int) := by omega
      obtain ⟨ha, hb, hA, hB⟩ := HR.out
      obtain ⟨x, hx⟩ : ∃ x, la[k]? = some x := ⟨la[k]'(by omega), by simp [ha, hlt]⟩
      obtain ⟨y, hy⟩ : ∃ y, lb[k]? = some y := ⟨lb[k]'(by omega), by simp [hb, hlt]⟩
      have gx : la.getD k [] = x := by simp [List.getD, hx]
      have gy : lb.getD k [] = y := by simp [List.getD, hy]
      rcases hA with hA | ⟨ba, oa, rfl, hA⟩
      · rw [hA] at ha; simp at ha; omega
      rcases hB with hB | ⟨bb, ob, rfl, hB⟩
      · rw [hB] at hb; simp at hb; omega
      have c1 := hA k (by omega)
      have c2 := hB k (by omega)
      rw [gx, ← hW.out.cell (block_lt_of_cell c1)] at c1
      rw [gy, ← hW.out.cell (block_lt_of_cell c2)] at c2
      have H1 := (show Hid (la[k]? = some x ∧ lb[k]? = some y) from ⟨hx, hy⟩)
      clear hx hy gx gy hA hB ha hb
      by_cases hxy : txq x y = true
      · obtain rfl := txq_iff.1 hxy
        clear hxy
        go_wp2
        go_quiet (fail)
        go_wp2
        go_roundg (n - (k + 1))
        case measure => have := HK.out; omega
        case rel => exact ⟨k + 1, by omega, rfl, by go_num, (by show la.take (k + 1) = lb.take (k + 1); rw [List.take_add_one, List.take_add_one, hT.out, H1.out.1, H1.out.2]), below_drewN hW.out _⟩
      · have q1 : ¬ x = y := fun h => hxy (txq_iff.2 h)
        have q2 : (x == y) = false := by simpa using q1
        have hne : decide (la = lb) = false := by
          rw [decide_eq_false]
          intro h
          have := H1.out.1
          rw [h, H1.out.2] at this
          injection this with h9
          exact hxy (txq_iff.2 h9.symm)
        have hne := (show Hid (z = false) from HZ.out.trans hne)
        clear hxy
        go_wp2
        go_quiet (fail)
        go_wp2
        go_ret
        exact ⟨by rw [hne.out]; rfl, below_drewN hW.out _⟩
    · obtain rfl : k = n := by omega
      have hi : ¬ (k : Int) < (k : Int) := by omega
      have h1 := hT.out
      rw [show la.take k = la from List.take_of_length_le (by rw [HR.out.1]; omega), show lb.take k = lb from List.take_of_length_le (by rw [HR.out.2.1]; omega)] at h1
      have hz := (show Hid (z = true) from HZ.out.trans (decide_eq_true h1))
      clear h1
      go_wp2
      go_ret
      exact ⟨by rw [hz.out]; rfl, hW.out⟩
set_option maxRecDepth 1000000 in
theorem sameTexts_any (pa pb : Option Addr) (ca cb : Nat) (la lb : List Tx) (w : World) (hA : Rt w pa la) (hB : Rt w pb lb) (hn : la.length ≤ 8796093022207) :
    Calls Try.prog 12 #[.slice pa la.length ca, .slice pb lb.length cb] w fun e w' => e = .returned (.bool (decide (la = lb))) ∧ Below w.heap.size w w' := by
  by_cases h : la.length = lb.length
  · rw [← h]
    exact sameTexts_core pa pb la.length ca cb la lb w rfl h.symm hA hB hn
  · rw [decide_eq_false (fun e => h (by rw [e]))]
    obtain ⟨m, hm⟩ : ∃ m, m = la.length := ⟨_, rfl⟩
    obtain ⟨k, hk⟩ : ∃ k, k = lb.length := ⟨_, rfl⟩
    rw [← hm, ← hk] at h ⊢
    have h1 : ¬ (m : Int) = (k : Int) := by omega
    clear hA hB hn
    go_enter Try.func12, Try.ntmps12
    go_wp2
    go_ret
    exact ⟨rfl, Below.refl _ _⟩
theorem drop_cons {α : Type} {l : List α} {k : Nat} {x : α} (h : l[k]? = some x) : l.drop k = x :: l.drop (k + 1) := by
  obtain ⟨h1, h2⟩ := List.getElem?_eq_some_iff.1 h
  rw [List.drop_eq_getElem_cons h1, h2]
set_option maxHeartbeats 1000000 in
set_option maxRecDepth 1000000 in
theorem within_core (pa pb : Option Addr) (n m ca cb : Nat) (la lb : List Tx) (w : World) (ha : la.length = n) (hb : lb.length = m) (hA : Rt w pa la) (hB : Rt w pb lb) (hn : n ≤ 8796093022207) (hm : m ≤ 8796093022207) (hS : la.Sublist lb) :
    Calls Try.prog 33 #[.slice pa n ca, .slice pb m cb] w fun e w' => e = .returned (.bool true) ∧ Below w.heap.size w w' := by
  have HR := (show Hid (la.length = n ∧ lb.length = m ∧ Rt w pa la ∧ Rt w pb lb) from ⟨ha, hb, hA, hB⟩)
  have HS := (show Hid (la.Sublist lb) from hS)
  clear ha hb hA hB hS
  go_enter Try.func33, Try.ntmps33
  go_wp2
  go_loopg [5, 6] n (fun q t i wr => ∃ k j : Nat, k ≤ n ∧ j ≤ m ∧ q = n - k ∧ i = .int .i64 k ∧ t = .int .i64 j ∧ Hid ((la.drop k).Sublist (lb.drop j)) ∧ Hid (Below w.heap.size w wr))
  case atStart => exact ⟨0, 0, Nat.zero_le _, Nat.zero_le _, rfl, rfl, rfl, HS.out, Below.refl _ _⟩
  case round =>
    obtain ⟨k, j0, hk, hj0, hgk, rfl, rfl, hT, hW⟩ := hrel
    have HK := (show Hid (gk = n - k) from hgk)
    clear hgk
    by_cases hlt : k < n
    · have hi : (k : Int) < (n : Int) := by omega
      obtain ⟨ha, hb, hA, hB⟩ := HR.out
      obtain ⟨x, hx⟩ : ∃ x, la[k]? = some x := ⟨la[k]'(by omega), by simp [ha, hlt]⟩
      have gx : la.getD k [] = x := by simp [List.getD, hx]
      rcases hA with hA | ⟨ba, oa, rfl, hA⟩
      · rw [hA] at ha; simp at ha; omega
      have hne : lb ≠ [] := by
        rintro rfl
        have h1 := hT.out.length_le
        simp at h1; omega
      rcases hB with hB | ⟨bb, ob, rfl, hB⟩
      · exact absurd hB hne
      have c1 := hA k (by omega)
      rw [gx] at c1
      have HX := (show Hid (la[k]? = some x) from hx)
      have HB := (show Hid (∀ i, i < lb.length → w.cell? ⟨bb, ob + i, none⟩ = some (encStr (lb.getD i []))) from hB)
      have HL := (show Hid (lb.length = m) from hb)
      have HC := (show Hid (w.cell? ⟨ba, oa + k, none⟩ = some (encStr x)) from c1)
      clear hx gx hA hB ha hb hne c1
      go_wp2
      go_loopg [5] (m - j0) (fun q t wr2 => ∃ j : Nat, j ≤ m ∧ q = m - j ∧ t = .int .i64 j ∧ Hid ((la.drop k).Sublist (lb.drop j)) ∧ Hid (Below w.heap.size w wr2))
      case atStart => exact ⟨j0, hj0, rfl, rfl, hT.out, hW.out⟩
      case round =>
        obtain ⟨j, hj, hgk2, rfl, hT2, hW2⟩ := hrel
        have HK2 := (show Hid (gk = m - j) from hgk2)
        clear hgk2
        have hjm : j < m := by
          have h1 := hT2.out.length_le
          have h2 := HL.out
          have h3 := HR.out.1
          simp at h1; omega
        have hji : (j : Int) < (m : Int) := by omega
        have hjn : ¬ (m : Int) ≤ (j : Int) := by omega
        obtain ⟨y, hy⟩ : ∃ y, lb[j]? = some y := ⟨lb[j]'(by rw [HL.out]; exact hjm), by simp [HL.out, hjm]⟩
        have c1 := HC.out
        have c2 := HB.out j (by rw [HL.out]; exact hjm)
        rw [show lb.getD j [] = y from by simp [List.getD, hy]] at c2
        rw [← hW2.out.cell (block_lt_of_cell c1)] at c1
        rw [← hW2.out.cell (block_lt_of_cell c2)] at c2
        have hS := hT2.out
        rw [drop_cons HX.out, drop_cons hy] at hS
        by_cases hxy : y = x
        · subst hxy
          have HS2 := (show Hid ((la.drop (k + 1)).Sublist (lb.drop (j + 1))) from List.cons_sublist_cons.1 hS)
          clear hS hy
          go_wp2
          go_quiet (fail)
          go_wp2
          go_roundg (n - (k + 1))
          case measure => have := HK.out; omega
          case rel => exact ⟨k + 1, j + 1, by omega, by omega, rfl, by go_num, by go_num, HS2.out, below_drewN hW2.out _⟩
        · have q1 : ¬ x = y := fun h => hxy h.symm
          have q2 : (x == y) = false := by simpa using q1
          have q3 : (y == x) = false := by simpa using hxy
          have HS2 : Hid ((la.drop k).Sublist (lb.drop (j + 1))) := by
            show List.Sublist _ _
            rw [drop_cons HX.out]
            cases hS with
            | cons _ h => exact h
            | cons_cons _ h => exact absurd rfl hxy
          clear hS hy
          go_wp2
          go_quiet (fail)
          go_wp2
          go_roundg (m - (j + 1))
          case measure => have := HK2.out; omega
          case rel => exact ⟨j + 1, by omega, rfl, by go_num, HS2.out, below_drewN hW2.out _⟩
    · obtain rfl : k = n := by omega
      have hi : ¬ (k : Int) < (k : Int) := by omega
      go_wp2
      go_ret
      exact ⟨rfl, hW.out⟩
end
end Go.Proofs.Ytjefciioaebbeaa
