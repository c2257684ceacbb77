/-
  The document's Worst.
-/
import Derived.Test.YtnnepmofhedkpaaFn25
namespace Go.Proofs.Ytnnepmofhedkpaa
open Go.RowKit
theorem wst_first {f : Nat → Fi} {n t : Nat} (h : nnw f n (f t) = true) (hz : ∀ j, j < t → nnw f n (f j) = false) (ht : t < n) : f t = wst f n ∧ decide (0 < n) = true := by
  cases n with
  | zero => omega
  | succ m => exact ⟨by rw [nnw_first f m t h hz]; rfl, by simp⟩
theorem wst_none {f : Nat → Fi} {n : Nat} (hz : ∀ j, j < n → nnw f n (f j) = false) : fi0 = wst f n ∧ decide (0 < n) = false := by
  cases n with
  | zero => exact ⟨rfl, rfl⟩
  | succ m =>
    have := nnw_bi f m
    rw [hz _ (by have := bi_le f m; omega)] at this
    cases this
section
attribute [local irreducible] Calls Fi.cs GB wfi worse bi nnw wst
set_option maxHeartbeats 8000000 in
set_option maxRecDepth 1000000 in
theorem rworst_any {w : World} {p : Option Addr} {n c : Nat} {f : Nat → Fi} (HS : FL w p n f) (hn : n ≤ 1000000000000000) :
    Calls Try.prog 5 #[.slice p n c] w fun e w' => e = .returned (.tuple #[.agg (wst f n).cs, .bool (decide (0 < n))]) ∧ Below w.heap.size w w' := by
  have HL := (show Hid (FL w p n f) from HS)
  have HN := (show Hid (n ≤ 1000000000000000) from hn)
  obtain ⟨V, hV⟩ : ∃ V, wst f n = V := ⟨_, rfl⟩
  obtain ⟨D, hD⟩ : ∃ D, decide (0 < n) = D := ⟨_, rfl⟩
  have HV := (show Hid (wst f n = V ∧ decide (0 < n) = D) from ⟨hV, hD⟩)
  rw [hV, hD]
  clear HS hn hV hD
  go_enter Try.func5, Try.ntmps5
  go_wp2_with (first
    | (refine wpList_alB rfl rfl zero_Fi ?_; intro w1 hG1 hb1 hs1))
  obtain ⟨ga, hga⟩ : ∃ ga, w.heap.size = ga := ⟨_, rfl⟩
  have HX := (show Hid (w.heap.size = ga) from hga)
  have HG1 := (show Hid (GB w1 ga 26 fi0.cs) from by rw [← hga]; exact hG1)
  have HB1 := (show Hid (Below w.heap.size w w1) from hb1)
  clear hG1 hb1 hs1
  rw [hga]
  clear hga
  go_loopw [4] (fun i wr => ∃ t : Nat, t ≤ n ∧ i = .int .i64 (t : Int) ∧ Hid (∀ j, j < t → nnw f n (f j) = false) ∧ Hid (GB wr ga 26 fi0.cs) ∧ Hid (Below w.heap.size w wr)) (fun i _ => n - (intOf i).toNat)
  case atStart => exact ⟨0, Nat.zero_le _, rfl, fun j hj => absurd hj (Nat.not_lt_zero j), HG1.out, HB1.out⟩
  case round =>
    obtain ⟨t, ht, rfl, hz, HG, HB⟩ := hrel
    by_cases hlt : t < n
    · have hi : (t : Int) < (n : Int) := by omega
      have HT := (show Hid (t < n) from hlt)
      have WT := (show Hid (wrap64 ((t : Int) + 1) = ((t + 1 : Nat) : Int)) from by have := HN.out; show _ = _; unfold wrap64; omega)
      obtain ⟨b, o, rfl, A1⟩ := (HL.out.below HB.out).at hlt
      have HA := (show Hid (∀ j, j < n → FiAt wr b (o + j * 8) (f j)) from A1)
      clear A1 hlt ht
      obtain ⟨W0, hW0⟩ : ∃ W0, W0 = wr := ⟨_, rfl⟩
      subst hW0
      go_wp2_with (fail)
      go_loopw [5, 6] (fun v j wr => ∃ k : Nat, k ≤ n ∧ j = .int .i64 (k : Int) ∧ v = .bool (nnw f k (f t)) ∧ Hid (GB wr ga 26 fi0.cs) ∧ Hid (Below W0.heap.size W0 wr)) (fun _ j _ => n - (intOf j).toNat)
      case atStart => exact ⟨0, Nat.zero_le _, rfl, by rw [nnw_zero], HG.out, Below.refl _ _⟩
      case round =>
        obtain ⟨k, hk, rfl, rfl, HG2, HBq⟩ := hrel
        by_cases hlk : k < n
        · have hik : (k : Int) < (n : Int) := by omega
          have HK := (show Hid (k < n) from hlk)
          have WK := (show Hid (wrap64 ((k : Int) + 1) = ((k + 1 : Nat) : Int)) from by have := HN.out; show _ = _; unfold wrap64; omega)
          have A2 : ∀ j, j < n → FiAt wr b (o + j * 8) (f j) := fun j hj => (HA.out j hj).below HBq.out
          have HB2 := (show Hid (Below w.heap.size w wr) from bt HB.out HBq.out)
          have HBr := (show Hid (Below W0.heap.size W0 wr) from HBq.out)
          have hbd : Below wr.heap.size wr wr.drew := (Below.refl _ _).drew
          clear hlk hk
          go_wp2_with (fail)
          refine wp_region_held_drew (S := fun X => (loadVar 26 ⟨b, o + k * 8, none⟩).run Try.prog X = .ok (.agg (f k).cs) X ∧ (loadVar 26 ⟨b, o + t * 8, none⟩).run Try.prog X = .ok (.agg (f t).cs) X) (by kernel_rfl) ⟨((A2 k HK.out).below hbd).run, ((A2 t HT.out).below hbd).run⟩ (fun hHeld => ?_)
          refine takeHr (i := 0) (d := some 20) (v := ?v1) rfl rfl (by kernel_rfl) (by kernel_rfl) (by kernel_rfl) (fun _ _ _ h => h) (Or.inl ⟨by rfl, ?hy1⟩) hHeld ?rest1
          case hy1 => intro X hSw; obtain ⟨g1, g2⟩ := hSw; go_simp <;> with_reducible rfl
          try simp only [Act.put, List.setIfInBounds_toArray, List.set_cons_zero, List.set_cons_succ]
          refine takeHr (i := 1) (d := some 21) (v := ?v2) rfl rfl (by kernel_rfl) (by kernel_rfl) (by kernel_rfl) (fun _ _ _ h => h) (Or.inl ⟨by rfl, ?hy2⟩) hHeld ?rest2
          case hy2 => intro X hSw; obtain ⟨g1, g2⟩ := hSw; go_simp <;> with_reducible rfl
          try simp only [Act.put, List.setIfInBounds_toArray, List.set_cons_zero, List.set_cons_succ]
          refine takeHr (i := 2) (d := some 22) (v := ?v3) rfl rfl (by kernel_rfl) (by kernel_rfl) (by kernel_rfl) (fun _ _ _ h => h) (Or.inl ⟨by rfl, ?hy3⟩) hHeld ?rest3
          case hy3 => intro X hSw; obtain ⟨g1, g2⟩ := hSw; go_simp <;> with_reducible rfl
          try simp only [Act.put, List.setIfInBounds_toArray, List.set_cons_zero, List.set_cons_succ]
          refine takeHr (i := 3) (d := some 23) (v := .agg (f k).cs) rfl rfl (by kernel_rfl) (by kernel_rfl) (by kernel_rfl) (fun _ _ _ h => h) (Or.inl ⟨by rfl, ?hy4⟩) hHeld ?rest4
          case hy4 => intro X hSw; exact ex_ldR rfl rfl hSw.1
          try simp only [Act.put, List.setIfInBounds_toArray, List.set_cons_zero, List.set_cons_succ]
          refine takeHr (i := 4) (d := some 24) (v := ?v5) rfl rfl (by kernel_rfl) (by kernel_rfl) (by kernel_rfl) (fun _ _ _ h => h) (Or.inl ⟨by rfl, ?hy5⟩) hHeld ?rest5
          case hy5 => intro X hSw; obtain ⟨g1, g2⟩ := hSw; go_simp <;> with_reducible rfl
          try simp only [Act.put, List.setIfInBounds_toArray, List.set_cons_zero, List.set_cons_succ]
          refine takeHr (i := 5) (d := some 25) (v := ?v6) rfl rfl (by kernel_rfl) (by kernel_rfl) (by kernel_rfl) (fun _ _ _ h => h) (Or.inl ⟨by rfl, ?hy6⟩) hHeld ?rest6
          case hy6 => intro X hSw; obtain ⟨g1, g2⟩ := hSw; go_simp <;> with_reducible rfl
          try simp only [Act.put, List.setIfInBounds_toArray, List.set_cons_zero, List.set_cons_succ]
          refine takeHr (i := 6) (d := some 26) (v := ?v7) rfl rfl (by kernel_rfl) (by kernel_rfl) (by kernel_rfl) (fun _ _ _ h => h) (Or.inl ⟨by rfl, ?hy7⟩) hHeld ?rest7
          case hy7 => intro X hSw; obtain ⟨g1, g2⟩ := hSw; go_simp <;> with_reducible rfl
          try simp only [Act.put, List.setIfInBounds_toArray, List.set_cons_zero, List.set_cons_succ]
          refine takeHr (i := 7) (d := some 27) (v := .agg (f t).cs) rfl rfl (by kernel_rfl) (by kernel_rfl) (by kernel_rfl) (fun _ _ _ h => h) (Or.inl ⟨by rfl, ?hy8⟩) hHeld ?rest8
          case hy8 => intro X hSw; exact ex_ldR rfl rfl hSw.2
          try simp only [Act.put, List.setIfInBounds_toArray, List.set_cons_zero, List.set_cons_succ]
          refine wpAnyH_ready (rs := [8]) (by kernel_rfl) (by simp) ?_
          refine AllReadyH.cons (o := { dst := some 28, op := Op.call { callee := Callee.value (Operand.func 8), args := #[Operand.tmp 23, Operand.tmp 27], argTypes := #[26, 26] }, type := 4, pos := "ref.go:166", after := #[{ on := 3, ground := Ground.data }, { on := 7, ground := Ground.data }], guard := none }) rfl (fun Kq hKq => ?_) AllReadyH.nil
          · go_simp
            refine (rworse_any (f k) (f t) wr.drew).mono ?_
            rintro e w5 ⟨rfl, hb5⟩
            have HB5 := (show Hid (Below wr.heap.size wr w5) from bt hbd hb5)
            refine hKq.out _ _ ⟨((A2 k HK.out).below HB5.out).run, ((A2 t HT.out).below HB5.out).run⟩ (fun hHeld => ?_)
            clear hKq Kq
            try simp only [Act.put, List.setIfInBounds_toArray, List.set_cons_zero, List.set_cons_succ]
            refine takeHr (i := 9) (d := some 7) (v := ?v10) rfl rfl (by kernel_rfl) (by kernel_rfl) (by kernel_rfl) (fun _ _ _ h => h) (Or.inl ⟨by rfl, ?hy10⟩) hHeld ?rest10
            case hy10 => intro X hSw; obtain ⟨g1, g2⟩ := hSw; go_simp <;> with_reducible rfl
            try simp only [Act.put, List.setIfInBounds_toArray, List.set_cons_zero, List.set_cons_succ]
            refine wpAnyH_done (by kernel_rfl) ?_ _
            have HG5 := (show Hid (GB w5 ga 26 fi0.cs) from HG2.out.below HB5.out)
            have HB5' := (show Hid (Below W0.heap.size W0 w5) from bt HBr.out HB5.out)
            have HNS := (show Hid _ from nnw_succ f k (f t))
            clear hHeld HG2 HB2 hbd A2 hb5 HB5
            cases hw : worse (f k) (f t) with
            | true =>
              rw [hw] at HNS
              go_wp2_with (fail)
              go_roundw
              case rel => exact ⟨k + 1, HK.out, by rw [WK.out], by rw [HNS.out]; simp, HG5.out, HB5'.out⟩
              case measure => rw [WK.out]; exact meas25 HK.out
            | false =>
              rw [hw] at HNS
              go_wp2_with (fail)
              go_roundw
              case rel => exact ⟨k + 1, HK.out, by rw [WK.out], by rw [HNS.out]; simp, HG5.out, HB5'.out⟩
              case measure => rw [WK.out]; exact meas25 HK.out
        · have e : k = n := by omega
          rw [e]
          cases hq : nnw f n (f t) with
          | true =>
            have HF := (show Hid (f t = V ∧ D = true) from by
              have := wst_first hq hz.out HT.out
              have h2 := HV.out
              exact ⟨this.1.trans h2.1, h2.2.symm.trans this.2⟩)
            have RT := ((HA.out t HT.out).below HBq.out).run
            have HB2 := (show Hid (Below w.heap.size w wr) from bt HB.out HBq.out)
            go_wp2_with (first
              | (refine wpList_ldAt rfl _ _ rfl b (o + t * 8) rfl _ RT ?_)
              | (refine wpList_stB (cs := (f t).cs) rfl _ _ rfl rfl ga rfl rfl HG2.out (size_FiS _) (fcs_same _ _) (fcs_one _) ?_; intro w6 hG6 hg6 hs6))
            refine bodyPost_ret (res_B2 rfl _ _ ga rfl hG6 Try.underlying26 (size_FiS _)) rfl ?_
            exact ⟨by rw [HF.out.1, HF.out.2]; rfl, grown_below HB2.out hg6 HB2.out.size (Nat.le_of_eq HX.out)⟩
          | false =>
            have HZ := (show Hid (∀ j, j < t + 1 → nnw f n (f j) = false) from fun j hj => by
              by_cases e2 : j = t
              · rw [e2]; exact hq
              · exact hz.out j (by omega))
            go_wp2_with (fail)
            go_roundw
            case rel => exact ⟨t + 1, HT.out, by rw [WT.out], HZ.out, HG2.out, bt HB.out HBq.out⟩
            case measure => rw [WT.out]; exact meas25 HT.out
    · have e : t = n := by omega
      have HF := (show Hid (fi0 = V ∧ D = false) from by
        have := wst_none (fun j hj => hz.out j (by omega))
        have h2 := HV.out
        exact ⟨this.1.trans h2.1, h2.2.symm.trans this.2⟩)
      rw [e]
      go_wp2_with (first
        | (refine wpList_stB (cs := fi0.cs) rfl _ _ rfl rfl ga rfl fi0_cs HG.out (size_FiS _) (fcs_same _ _) (fcs_one _) ?_; intro w6 hG6 hg6 hs6))
      refine bodyPost_ret (res_B2 rfl _ _ ga rfl hG6 Try.underlying26 (size_FiS _)) rfl ?_
      exact ⟨by rw [HF.out.1, HF.out.2]; rfl, grown_below HB.out hg6 HB.out.size (Nat.le_of_eq HX.out)⟩
end
end Go.Proofs.Ytnnepmofhedkpaa
