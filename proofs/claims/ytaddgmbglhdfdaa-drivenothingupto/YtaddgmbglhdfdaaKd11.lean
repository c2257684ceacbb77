/-
  Layer 11's laws: 'keptFate'.
-/
import Derived.Test.YtaddgmbglhdfdaaKc11
namespace Go.Proofs.Ytaddgmbglhdfdaa
open Go.RowKit Go.Maps
theorem lnt_at {xs ms : List Value} {i : Nat} (hi : i < xs.length) : (xs ++ ms).getD i undef = xs.getD i undef := by simp [List.getD, List.getElem?_append_left hi]
theorem bov_at (xs : List Bool) {i : Nat} (hi : i < xs.length) : (xs.map bov).getD i undef = .bool (xs.getD i false) := by
  simp only [List.getD, List.getElem?_map, List.getElem?_eq_getElem hi]; rfl
theorem inv_at (xs : List Int) {i : Nat} (hi : i < xs.length) : (xs.map inv6).getD i undef = .int .i64 (xs.getD i 0) := by
  simp only [List.getD, List.getElem?_map, List.getElem?_eq_getElem hi]; rfl
theorem mark_at {xs ms : List Value} {n : Nat} (hn : xs.length = n) (k : Nat) : (xs ++ ms).getD (n + k) undef = ms.getD k undef := by
  subst hn
  simp [List.getD, List.getElem?_append_right (Nat.le_add_right _ _)]
def isBo (v : Value) : Prop := ∃ b, v = .bool b
def isIn (v : Value) : Prop := ∃ z, v = .int .i64 z
theorem lent_bo (xs : List Bool) : ∀ u ∈ xs.map bov ++ mkB, isBo u := by
  intro u hu
  rcases List.mem_append.1 hu with h | h
  · obtain ⟨x, _, rfl⟩ := List.mem_map.1 h
    exact ⟨x, rfl⟩
  · simp only [mkB, List.mem_cons, List.not_mem_nil, or_false] at h
    rcases h with rfl | rfl | rfl | rfl <;> exact ⟨_, rfl⟩
theorem lent_in (xs : List Int) : ∀ u ∈ xs.map inv6 ++ mkI, isIn u := by
  intro u hu
  rcases List.mem_append.1 hu with h | h
  · obtain ⟨x, _, rfl⟩ := List.mem_map.1 h
    exact ⟨x, rfl⟩
  · simp only [mkI, List.mem_cons, List.not_mem_nil, or_false] at h
    rcases h with rfl | rfl | rfl | rfl <;> exact ⟨_, rfl⟩
theorem bls_cell {w : World} {p : Option Addr} {xs : List Bool} (h : Bls w p xs) {i : Nat} (hi : i < xs.length) : ∃ b o, p = some ⟨b, o, none⟩ ∧ w.cell? ⟨b, o + i, none⟩ = some (.bool (xs.getD i false)) := h i hi
theorem Spl.here {P : Value → Prop} {te : TypeId} {w0 w X : World} {g N : Nat} (h : Spl P te w0 g N w) (hb : Below w.heap.size w X) : Spl P te X g N X := by
  obtain ⟨_, _, cs, hg, hc⟩ := h
  exact ⟨Tn.refl _ _, rfl, cs, by rw [hb.block g (blt hg)]; exact hg, hc⟩
theorem Spl.over {P : Value → Prop} {te : TypeId} {w0 w X : World} {g N : Nat} {F : Nat → Prop} (h : Spl P te w0 g N w) (hT : Tn F w X) (hF : ¬ F g) : Spl P te X g N X := by
  obtain ⟨_, _, cs, hg, hc⟩ := h
  exact ⟨Tn.refl _ _, rfl, cs, by rw [hT.block g (blt hg) hF]; exact hg, hc⟩
theorem spl_ty {P : Value → Prop} {te : TypeId} {w0 w : World} {g N : Nat} (h : Spl P te w0 g N w) : ∃ cs, w.heap[g]? = some (.cells cs te (0, 0)) := by
  obtain ⟨_, _, cs, hg, _⟩ := h
  exact ⟨cs, hg⟩
section
attribute [local irreducible] Calls GB ftC Spl
set_option maxHeartbeats 4000000 in
set_option maxRecDepth 1000000 in
theorem keptFate_any {w : World} {B : Nat} {v1 v2 : Value} {pd pc : Option Addr} {nd cd nc cc : Nat} {dirs : List Bool} {cuts : List Int} (h1 : Lnt w B 4 v1 (dirs.map bov) mkB) (h2 : Lnt w B 3 v2 (cuts.map inv6) mkI) (hd : Bls w pd dirs) (hc : Ils w pc cuts) (hdl : dirs.length = nd) (hcl : cuts.length = nc) (hnd : nd ≤ 134217728) (hnc : nc ≤ 134217728) :
    Calls Try.prog 54 #[.agg (ftC v1 v2), .agg (ftC (.slice pd nd cd) (.slice pc nc cc))] w fun e w' => e = .returned (.bool true) ∧ Tn (fun b => v1.ownBlock = some b ∨ v2.ownBlock = some b) w w' := by
  have LD : (dirs.map bov).length = nd := by rw [List.length_map, hdl]
  have LC : (cuts.map inv6).length = nc := by rw [List.length_map, hcl]
  obtain ⟨g1, cap1, rfl, hcap1, hB1, hl1, hce1, hfr1⟩ := h1.cells
  obtain ⟨g2, cap2, rfl, hcap2, hB2, hl2, hce2, hfr2⟩ := h2.cells
  have S1 := (show Hid (Spl isBo 4 w g1 _ w) from h1.spl (lent_bo dirs))
  have S2 := (show Hid (Spl isIn 3 w g2 _ w) from h2.spl (lent_in cuts))
  rw [LD] at hcap1 hce1 S1 ⊢
  rw [LC] at hcap2 hce2 S2 ⊢
  rw [show mkB.length = 4 from rfl] at hcap1 hce1 S1
  rw [show mkI.length = 4 from rfl] at hcap2 hce2 S2
  have E1 := (show Hid (∀ i, i < nd → w.cell? ⟨g1, i, none⟩ = some (.bool (dirs.getD i false))) from fun i hi => by rw [hce1 i (by omega), lnt_at (by omega), bov_at _ (by omega)])
  have E2 := (show Hid (∀ i, i < nc → w.cell? ⟨g2, i, none⟩ = some (.int .i64 (cuts.getD i 0))) from fun i hi => by rw [hce2 i (by omega), lnt_at (by omega), inv_at _ (by omega)])
  have M1 := (show Hid (∀ k, k < 4 → w.cell? ⟨g1, nd + k, none⟩ = some (mkB.getD k undef)) from fun k hk => by rw [hce1 _ (by omega), mark_at LD])
  have M2 := (show Hid (∀ k, k < 4 → w.cell? ⟨g2, nc + k, none⟩ = some (mkI.getD k undef)) from fun k hk => by rw [hce2 _ (by omega), mark_at LC])
  have HD := (show Hid (∀ i, i < nd → ∃ b o, pd = some ⟨b, o, none⟩ ∧ w.cell? ⟨b, o + i, none⟩ = some (.bool (dirs.getD i false))) from fun i hi => hd i (by omega))
  have HC := (show Hid (∀ i, i < nc → ∃ b o, pc = some ⟨b, o, none⟩ ∧ w.cell? ⟨b, o + i, none⟩ = some (.int .i64 (cuts.getD i 0))) from fun i hi => hc i (by omega))
  have K1 : (nd : Int) + 4 ≤ (cap1 : Int) := by omega
  have K2 : (nc : Int) + 4 ≤ (cap2 : Int) := by omega
  clear h1 h2 hd hc hce1 hce2 hfr1 hfr2 hcap1 hcap2 LD LC hdl hcl hB1 hB2 hl1 hl2
  go_enter Try.func54, Try.ntmps54
  go_upto_region 1 with (first
    | (refine wpList_bxB (cs := ftC (.slice (some ⟨g1, 0, none⟩) nd cap1) (.slice (some ⟨g2, 0, none⟩) nc cap2)) rfl _ rfl rfl ?_; intro w1 hG1 hb1 hs1)
    | (refine wpList_bxB (cs := ftC (.slice pd nd cd) (.slice pc nc cc)) rfl _ rfl rfl ?_; intro w2 hG2 hb2 hs2))
  have L2 := (show Hid (LF w w1.heap.size (ftC (.slice (some ⟨g1, 0, none⟩) nd cap1) (.slice (some ⟨g2, 0, none⟩) nc cap2)) (ftC (.slice pd nd cd) (.slice pc nc cc)) w2) from ⟨hG1.below hb2, hG2, bt hb1 hb2⟩)
  clear hG1 hG2 hb1 hb2 hs1 hs2
  have c0 := ft_c0 L2.out.p
  have c1 := ft_c1 L2.out.p
  have d0 := ft_c0 L2.out.r
  have d1 := ft_c1 L2.out.r
  go_upto_region 6 with fail
  clear c0 c1 d0 d1
  have c0 := (show Hid _ from ft_c0 L2.out.p)
  have c1 := (show Hid _ from ft_c1 L2.out.p)
  have d0 := (show Hid _ from ft_c0 L2.out.r)
  have d1 := (show Hid _ from ft_c1 L2.out.r)
  go_loopw [7] (fun i wr => ∃ j : Nat, j ≤ nd ∧ i = .int .i64 (j : Int) ∧ Below w2.heap.size w2 wr) (fun i _ => nd - (intOf i).toNat)
  case atStart => exact ⟨0, Nat.zero_le _, rfl, Below.refl _ _⟩
  case round =>
    obtain ⟨j, hj, rfl, hb⟩ := hrel
    have d0' := cell_below d0.out hb
    by_cases hlt : j < nd
    · have hi : (j : Int) < (nd : Int) := by omega
      have e1 := cell_below (cell_below (E1.out j hlt) L2.out.b) hb
      obtain ⟨b, o, hp, e2⟩ := HD.out j hlt
      have e3 := cell_below (cell_below e2 L2.out.b) hb
      rw [hp] at d0'
      generalize dirs.getD j false = x at e1 e3
      have bq : (x != x) = false := by simp
      have hi4 : (j : Int) < (nd : Int) + 4 := by omega
      have hj4 : j < nd + 4 := by omega
      clear e2 hp
      go_upto_region 8 with fail
      go_quiet (fail)
      go_wp2
      go_roundw
      case rel => exact ⟨j + 1, by omega, by go_num, hb.trans ⟨rfl, rfl, rfl, Nat.le_refl _, fun _ _ => rfl⟩⟩
      case measure => simp [intOf]; omega
    · obtain rfl : nd = j := by omega
      go_upto_region 11 with fail
      obtain ⟨W, hW⟩ : ∃ W, W = wr := ⟨_, rfl⟩
      subst hW
      have hB := (show Hid (Below w2.heap.size w2 W) from hb)
      clear hb d0' hlt
      go_loopw [8] (fun i wr => ∃ k : Nat, k ≤ nc ∧ i = .int .i64 (k : Int) ∧ Below W.heap.size W wr) (fun i _ => nc - (intOf i).toNat)
      case atStart => exact ⟨0, Nat.zero_le _, rfl, Below.refl _ _⟩
      case round =>
        obtain ⟨k, hk, rfl, hb⟩ := hrel
        have d1' := cell_below (cell_below d1.out hB.out) hb
        by_cases hlt : k < nc
        · have hi : (k : Int) < (nc : Int) := by omega
          have e1 := cell_below (cell_below (cell_below (E2.out k hlt) L2.out.b) hB.out) hb
          obtain ⟨b, o, hp, e2⟩ := HC.out k hlt
          have e3 := cell_below (cell_below (cell_below e2 L2.out.b) hB.out) hb
          rw [hp] at d1'
          generalize cuts.getD k 0 = x at e1 e3
          have bq : (x != x) = false := by simp
          have hi4 : (k : Int) < (nc : Int) + 4 := by omega
          have hj4 : k < nc + 4 := by omega
          clear e2 hp
          go_upto_region 13 with fail
          go_quiet (fail)
          go_wp2
          go_roundw
          case rel => exact ⟨k + 1, by omega, by go_num, hb.trans ⟨rfl, rfl, rfl, Nat.le_refl _, fun _ _ => rfl⟩⟩
          case measure => simp [intOf]; omega
        · obtain rfl : nc = k := by omega
          obtain ⟨X, hX⟩ : ∃ X, X = wr := ⟨_, rfl⟩
          subst hX
          have HX := (show Hid (Below w2.heap.size w2 X) from hB.out.trans (hb.mono hB.out.size))
          have a0 := cell_below d0.out HX.out
          have a1 := cell_below d1.out HX.out
          have BX : Below w.heap.size w X := L2.out.b.trans (HX.out.mono L2.out.b.size)
          have m0 := cell_below (M1.out 0 (by decide)) BX
          have m1 := cell_below (M1.out 1 (by decide)) BX
          have m2 := cell_below (M1.out 2 (by decide)) BX
          have m3 := cell_below (M1.out 3 (by decide)) BX
          have n0 := cell_below (M2.out 0 (by decide)) BX
          have n1 := cell_below (M2.out 1 (by decide)) BX
          have n2 := cell_below (M2.out 2 (by decide)) BX
          have n3 := cell_below (M2.out 3 (by decide)) BX
          rw [show mkB.getD 0 undef = .bool true from rfl, Nat.add_zero] at m0
          rw [show mkB.getD 1 undef = .bool false from rfl] at m1
          rw [show mkB.getD 2 undef = .bool true from rfl] at m2
          rw [show mkB.getD 3 undef = .bool true from rfl] at m3
          rw [show mkI.getD 0 undef = .int .i64 5 from rfl, Nat.add_zero] at n0
          rw [show mkI.getD 1 undef = .int .i64 6 from rfl] at n1
          rw [show mkI.getD 2 undef = .int .i64 7 from rfl] at n2
          rw [show mkI.getD 3 undef = .int .i64 8 from rfl] at n3
          have i0 : (nd : Int) < (nd : Int) + 4 := by omega
          have i1 : (nd : Int) + 1 < (nd : Int) + 4 := by omega
          have i2 : (nd : Int) + 2 < (nd : Int) + 4 := by omega
          have i3 : (nd : Int) + 3 < (nd : Int) + 4 := by omega
          have k0 : (nc : Int) < (nc : Int) + 4 := by omega
          have k1 : (nc : Int) + 1 < (nc : Int) + 4 := by omega
          have k2 : (nc : Int) + 2 < (nc : Int) + 4 := by omega
          have k3 : (nc : Int) + 3 < (nc : Int) + 4 := by omega
          clear hb d1' hlt
          go_upto_region 17 with fail
          go_upto_region 20 with fail
          have SX := (show Hid (Spl isBo 4 X g1 (nd + 4) X) from S1.out.here BX)
          have TX := (show Hid (Spl isIn 3 X g2 (nc + 4) X) from S2.out.here BX)
          have BW := (show Hid (Below w.heap.size w X) from BX)
          clear m0 m1 m2 m3 n0 n1 n2 n3 i0 i1 i2 i3 k0 k1 k2 k3 a0 a1 BX
          go_loopw [11] (fun i wr => ∃ t : Nat, t ≤ nd + 4 ∧ i = .int .i64 (t : Int) ∧ Hid (Spl isBo 4 X g1 (nd + 4) wr)) (fun i _ => nd + 4 - (intOf i).toNat)
          case atStart => exact ⟨0, Nat.zero_le _, rfl, SX⟩
          case round =>
            obtain ⟨t, ht, rfl, hS⟩ := hrel
            by_cases hlt : t < nd + 4
            · have hi : (t : Int) < (nd : Int) + 4 := by omega
              obtain ⟨⟨_, ⟨u, rfl⟩, hu⟩, hf⟩ := hS.out.cell hlt
              go_wp2
              go_roundw
              case rel => exact ⟨t + 1, by omega, by go_num, hS.out.set t ⟨_, rfl⟩⟩
              case measure => simp [intOf]; omega
            · obtain rfl : nd + 4 = t := by omega
              go_upto_region 24 with fail
              obtain ⟨Y, hY⟩ : ∃ Y, Y = wr := ⟨_, rfl⟩
              subst hY
              have SY := (show Hid (Spl isIn 3 Y g2 (nc + 4) Y) from TX.out.over (spl_tn hS.out).1 (fun e => by
                obtain ⟨c1, e1⟩ := spl_ty SX.out
                obtain ⟨c2, e2⟩ := spl_ty TX.out
                rw [e, e1] at e2
                injection e2 with e2
                injection e2 with _ e3
                revert e3
                decide))
              have TY := (show Hid (Tn (fun b => b = g1 ∨ b = g2) w Y) from (Tn.of_below BW.out).trans ((spl_tn hS.out).1.more (fun b e => .inl e)))
              clear hS SX TX hlt ht
              go_loopw [12] (fun i wr => ∃ t : Nat, t ≤ nc + 4 ∧ i = .int .i64 (t : Int) ∧ Hid (Spl isIn 3 Y g2 (nc + 4) wr)) (fun i _ => nc + 4 - (intOf i).toNat)
              case atStart => exact ⟨0, Nat.zero_le _, rfl, SY⟩
              case round =>
                obtain ⟨t, ht, rfl, hS⟩ := hrel
                by_cases hlt : t < nc + 4
                · have hi : (t : Int) < (nc : Int) + 4 := by omega
                  obtain ⟨⟨_, ⟨u, rfl⟩, hu⟩, hf⟩ := hS.out.cell hlt
                  go_wp2
                  go_roundw
                  case rel => exact ⟨t + 1, by omega, by go_num, hS.out.set t ⟨_, rfl⟩⟩
                  case measure => simp [intOf]; omega
                · obtain rfl : nc + 4 = t := by omega
                  go_wp2
                  go_ret
                  exact ⟨rfl, (TY.out.trans ((spl_tn hS.out).1.more (fun b e => .inr e))).more (fun b e => by rcases e with rfl | rfl; exact .inl rfl; exact .inr rfl)⟩
end
end Go.Proofs.Ytaddgmbglhdfdaa
