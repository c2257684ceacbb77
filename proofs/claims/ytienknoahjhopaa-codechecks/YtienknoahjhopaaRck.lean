/-
  The document's 'Check'.
-/
import Derived.Test.YtienknoahjhopaaChk
import Derived.Test.YtienknoahjhopaaEnW
namespace Go.Proofs.Ytienknoahjhopaa
open Go.RowKit
section
attribute [local irreducible] Calls NmE NrE Cd Fac mm acc shr Lm An2 str
set_option maxHeartbeats 4000000 in
set_option maxRecDepth 1000000 in
theorem refCheck_rows (p : Option Addr) (r c k m : Nat) (w : World) (hkm : k + m ≤ 255) (h : ¬ r = k + m) : Calls Try.prog 16 #[.int .i64 (k : Int), .int .i64 (m : Int), .slice p r c] w fun e w' => e = .returned (.tuple #[.bool false, .int .i64 40]) ∧ w' = w := by
  have e2 : wrap64 ((k : Int) + (m : Int)) = (k : Int) + (m : Int) := by unfold wrap64; omega
  have e1 : ((r : Int) != (k : Int) + (m : Int)) = true := by simp; omega
  go_enter Try.func16, Try.ntmps16
  go_wp2
  go_ret2
  exact ⟨rfl, rfl⟩
set_option maxHeartbeats 4000000 in
set_option maxRecDepth 1000000 in
theorem refCheck_uneven (p : Option Addr) (k m c : Nat) (L : Nat → Nat) (w : World) (hk : 1 ≤ k) (hkm : k + m ≤ 255) (HL : Hid (Lm w (.slice p (k + m) c) (k + m) L)) (h : ¬ ∀ i, i < k + m → L i = L 0) : Calls Try.prog 16 #[.int .i64 (k : Int), .int .i64 (m : Int), .slice p (k + m) c] w fun e w' => e = .returned (.tuple #[.bool false, .int .i64 41]) ∧ w' = w := by
  have e2 : wrap64 ((k : Int) + (m : Int)) = (k : Int) + (m : Int) := by unfold wrap64; omega
  have e1 : ((k : Int) + (m : Int) != (k : Int) + (m : Int)) = false := by simp
  obtain ⟨b, o, c', pp, cc, e, hc⟩ := Lm.cells HL.out (by omega)
  injection e with e _ e3
  subst e e3
  have g0 : w.cell? ⟨b, o, none⟩ = some (.slice (pp 0) (L 0) (cc 0)) := hc 0 (by omega)
  have ON := (show Hid _ from one_any (some ⟨b, o, none⟩) (k + m) c (L 0) L w (by omega) HL)
  have H : Hid (¬ ∀ i, i < k + m → L i = L 0) := h
  have jk : (0 : Int) < (k : Int) + (m : Int) := by omega
  clear hc h
  go_enter Try.func16, Try.ntmps16
  go_wp2_with (go_at_call 28; refine ON.out.mono ?_; rintro e w' ⟨ha, h⟩; obtain rfl := h.symm; obtain rfl := ans_f ha H.out; clear ha)
  go_ret2
  exact ⟨rfl, rfl⟩
set_option maxHeartbeats 8000000 in
set_option maxRecDepth 1000000 in
theorem refCheck_any (p : Option Addr) (k m c n : Nat) (F W : Nat → Nat → BitVec 8) (w : World) (hk : 1 ≤ k) (hkm : k + m ≤ 255) (hn : n ≤ 140737488355328) (hc : k + m ≤ c) (HF : Hid (Fac k F)) (HN : Hid (NmE w (.slice p (k + m) c) (k + m) (fun _ => n) W)) : Calls Try.prog 16 #[.int .i64 (k : Int), .int .i64 (m : Int), .slice p (k + m) c] w fun e w' => An2 e (∀ i, i < k + m → ∀ x, x < n → mm fdE k F W i x = W i x) ∧ Below w.heap.size w w' := by
  have e2 : wrap64 ((k : Int) + (m : Int)) = (k : Int) + (m : Int) := by unfold wrap64; omega
  have e3 : IntKind.i64.wrap ((k : Int) + (m : Int)) = (k : Int) + (m : Int) := by rw [IntKind.wrap_i64]; omega
  have e1 : ((k : Int) + (m : Int) != (k : Int) + (m : Int)) = false := by simp
  have HL : Hid (Lm w (.slice p (k + m) c) (k + m) (fun _ => n)) := NmE.lm HN.out
  obtain ⟨b, o, rowsN, e, hcN, hnN⟩ := nm_at HN.out (by omega)
  subst e
  obtain ⟨p0, c0, e0, _⟩ := nr_un (hnN 0 (by omega))
  have g0 : w.cell? ⟨b, o, none⟩ = some (.slice p0 n c0) := by rw [← e0]; exact hcN 0 (by omega)
  have HCN := (show Hid _ from hcN)
  have HNN := (show Hid _ from hnN)
  have ON := (show Hid _ from one_any (some ⟨b, o, none⟩) (k + m) c n (fun _ => n) w (by omega) HL)
  have jk : (0 : Int) < (k : Int) + (m : Int) := by omega
  have k1 : (k : Int) ≤ (c : Int) := by omega
  have k2 : (0 : Int) ≤ (k : Int) := by omega
  clear hcN hnN e0
  go_enter Try.func16, Try.ntmps16
  go_wp2_with (go_at_call 28; refine ON.out.mono ?_; rintro e w' ⟨ha, h⟩; obtain rfl := h.symm; obtain rfl := ans_t ha (fun _ _ => rfl); clear ha ON)
  clear g0
  go_region_with (first
    | (go_at_call 35; refine (first_core k (by omega) w.drew).mono ?_; rintro e w1 ⟨v1, rfl, hF1, hb1⟩; obtain ⟨bF, oF, cF, eF, hcF⟩ := first_cells hF1 hk; subst eF; have hbw := bt (bdr w) hb1; have SP := (show Hid _ from spread_core bF oF k cF c n (k + m) (some ⟨b, o, none⟩) (fun t => t) W w1 hk (by omega) (by omega) hkm hn (fun t ht => by omega) (fun i _ j _ h => h) hcF (nm_cut (NmE.below HN.out hbw) (by omega))); rw [Int.natCast_add] at SP; clear hF1 hcF)
    | (go_at_call 29; refine SP.out.mono ?_; rintro e w2 ⟨v2, rfl, hN2, hb2⟩; have HN2 := (show Hid _ from nm_congr hN2 (fun i _ x _ => acc_fac HF.out (by omega) i x)); obtain ⟨p2, c2, e2'⟩ := nmE_form HN2.out; subst e2'; have HB2 := (show Hid _ from bt hbw hb2); clear hN2 SP hb2))
  all_goals
    go_wp2
    obtain ⟨b2, o2, rows2, ep2, hc2, hn2⟩ := nm_at HN2.out (by omega)
    subst ep2
    have HC2 := (show Hid _ from hc2)
    have HNN2 := (show Hid _ from hn2)
    clear hc2 hn2
    go_loopw [9] (fun i wr => ∃ t : Nat, t ≤ k + m ∧ i = .int .i64 t ∧ Hid (∀ i, i < t → ∀ x, x < n → mm fdE k F W i x = W i x) ∧ Below w2.heap.size w2 wr) (fun i _ => k + m - (intOf i).toNat)
    case atStart => exact ⟨0, Nat.zero_le _, rfl, fun i hi => by omega, Below.refl _ _⟩
    case round =>
      obtain ⟨t, ht, rfl, hA, hb⟩ := hrel
      by_cases hlt : t < k + m
      · have j1 : (t : Int) < (k : Int) + (m : Int) := by omega
        have hbd := (show Hid _ from hb.drew)
        have g1 := cell_below (HC2.out t hlt) hb
        have g2 := cell_below (HCN.out t hlt) (bt HB2.out hb)
        have f1 := conv_row (NrE.below (HNN2.out t hlt) hbd.out)
        have f2 := conv_row (NrE.below (HNN.out t hlt) (bt HB2.out hbd.out))
        have KS := (show Hid (_ ∧ _ ∧ _ ∧ _) from ⟨cell_below (HC2.out t hlt) hbd.out, cell_below (HCN.out t hlt) (bt HB2.out hbd.out), f1, f2⟩)
        clear f1 f2 hb
        by_cases hs : str (mm fdE k F W t) n = str (W t) n
        · have HS : Hid (∀ x, x < n → mm fdE k F W t x = W t x) := (str_inj hs).2
          have hs2 : ((str (mm fdE k F W t) n).toList == (str (W t) n).toList) = true := by rw [hs]; simp
          clear hs
          go_wp2
          go_region_held3 (fun X => X.cell? ⟨b2, o2 + t, none⟩ = some (rows2 t) ∧ X.cell? ⟨b, o + t, none⟩ = some (rowsN t) ∧ (convert 23 9 (rows2 t)).run Try.prog X = .ok (.string (str (mm fdE k F W t) n)) X ∧ (convert 23 9 (rowsN t)).run Try.prog X = .ok (.string (str (W t) n)) X) (first | exact KS.out | go_keep) (fail)
          all_goals
            go_wp2
            go_roundw
            case rel => exact ⟨t + 1, by omega, by go_num, fun i hi => by
              by_cases e : i = t
              · rw [e]; exact HS.out
              · exact hA.out i (by omega), hbd.out⟩
            case measure => simp [intOf]; omega
        · have HS : Hid (¬ ∀ x, x < n → mm fdE k F W t x = W t x) := fun h => hs (str_congr h)
          have hs2 : ((str (mm fdE k F W t) n).toList == (str (W t) n).toList) = false := by
            rw [beq_eq_false_iff_ne]
            exact fun e => hs (bytes_inj e)
          clear hs
          go_wp2
          go_region_held3 (fun X => X.cell? ⟨b2, o2 + t, none⟩ = some (rows2 t) ∧ X.cell? ⟨b, o + t, none⟩ = some (rowsN t) ∧ (convert 23 9 (rows2 t)).run Try.prog X = .ok (.string (str (mm fdE k F W t) n)) X ∧ (convert 23 9 (rowsN t)).run Try.prog X = .ok (.string (str (W t) n)) X) (first | exact KS.out | go_keep) (fail)
          all_goals
            go_wp2
            go_ret2
            exact ⟨an2_no (fun h => HS.out (h t hlt)), bt HB2.out hbd.out⟩
      · obtain rfl : t = k + m := by omega
        go_wp2
        go_ret2
        exact ⟨an2_yes hA.out, bt HB2.out hb⟩
end
/-- The two questions are one. -/
theorem check_same {k m n : Nat} {F W : Nat → Nat → BitVec 8} (hF : Fac k F) : (∀ i, k ≤ i → i < k + m → ∀ c, c < n → W i c = skk plE oE (fun j => tiE (F i j) (W j c)) k) ↔ ∀ i, i < k + m → ∀ x, x < n → mm fdE k F W i x = W i x := by
  constructor
  · intro h i hi x hx
    by_cases e : i < k
    · exact hF.data e x
    · rw [h i (by omega) hi x hx]; exact (skk_mm k F W i x).symm
  · intro h i h1 h2 c hc
    rw [← h i h2 c hc]; exact (skk_mm k F W i c).symm
end Go.Proofs.Ytienknoahjhopaa
