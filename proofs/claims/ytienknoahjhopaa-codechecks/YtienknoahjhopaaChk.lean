/-
  The program's 'Check', whatever it answers.
-/
import Derived.Test.YtienknoahjhopaaEn
namespace Go.Proofs.Ytienknoahjhopaa
open Go.RowKit
/-- An answer, yes or no, with no error. -/
def An2 (e : Ending) (Q : Prop) : Prop := ∃ b : Bool, e = .returned (.tuple #[.bool b, .int .i64 0]) ∧ (b = true ↔ Q)
theorem an2_yes {Q : Prop} (h : Q) : An2 (.returned (.tuple #[.bool true, .int .i64 0])) Q := ⟨true, rfl, ⟨fun _ => h, fun _ => rfl⟩⟩
theorem an2_no {Q : Prop} (h : ¬ Q) : An2 (.returned (.tuple #[.bool false, .int .i64 0])) Q := ⟨false, rfl, ⟨fun h2 => (by cases h2), fun h2 => absurd h2 h⟩⟩
theorem an2_t {e : Ending} {Q : Prop} (h : An2 e Q) (q : Q) : e = .returned (.tuple #[.bool true, .int .i64 0]) := by
  obtain ⟨b, he, hb⟩ := h
  rw [he, hb.2 q]
theorem an2_f {e : Ending} {Q : Prop} (h : An2 e Q) (q : ¬ Q) : e = .returned (.tuple #[.bool false, .int .i64 0]) := by
  obtain ⟨b, he, hb⟩ := h
  cases b with
  | true => exact absurd (hb.1 rfl) q
  | false => exact he
section
attribute [local irreducible] Calls NrE str
set_option maxHeartbeats 4000000 in
set_option maxRecDepth 1000000 in
theorem equal_no {w : World} {v1 v2 : Value} {n : Nat} {f g : Nat → BitVec 8} (h1 : NrE w v1 n f) (h2 : NrE w v2 n g) (hne : ¬ str f n = str g n) : Calls Try.prog 37 #[v1, v2] w fun e w' => e = .returned (.bool false) ∧ w' = w := by
  have e1 := conv_row h1
  have e2 := conv_row h2
  have hs : ((str f n).toList == (str g n).toList) = false := by
    rw [beq_eq_false_iff_ne]
    exact fun e => hne (bytes_inj e)
  clear h1 h2 hne
  go_enter Try.func37, Try.ntmps37
  go_wp2
  go_ret
  exact ⟨rfl, rfl⟩
end
section
attribute [local irreducible] Calls el Ov clE NmE NrE Cd Fac mm skk tiE plE An2 str
set_option maxHeartbeats 8000000 in
set_option maxRecDepth 1000000 in
theorem check_any {w : World} {v vW : Value} {k m n : Nat} {F W : Nat → Nat → BitVec 8} (hk : 1 ≤ k) (hm : 1 ≤ m) (hkm : k + m ≤ 255) (hn : n ≤ 140737488355328) (hC : Hid (Cd w v k m F)) (hN : Hid (NmE w vW (k + m) (fun _ => n) W)) :
    Calls Try.prog 17 #[v, vW] w fun e w' => An2 e (∀ i, k ≤ i → i < k + m → ∀ c, c < n → W i c = skk plE oE (fun j => tiE (F i j) (W j c)) k) ∧ Below w.heap.size w w' := by
  obtain ⟨cb, pF, cF, ev, c1, c2, _, hNF⟩ := cd_open hC.out
  subst ev
  obtain ⟨bF, oF, rowsF, e2, hcF, hrF⟩ := nm_at hNF (by omega)
  subst e2
  obtain ⟨pW, cW, eW⟩ := nmE_form hN.out
  subst eW
  obtain ⟨bW, oW, rowsW, e3, hcW, hrW⟩ := nm_at hN.out (by omega)
  subst e3
  have HCF : Hid (∀ i, i < k + m → w.cell? ⟨bF, oF + i, none⟩ = some (rowsF i)) := hcF
  have HRF : Hid (∀ i, i < k + m → NrE w (rowsF i) k (F i)) := hrF
  have HCW : Hid (∀ i, i < k + m → w.cell? ⟨bW, oW + i, none⟩ = some (rowsW i)) := hcW
  have HRW : Hid (∀ i, i < k + m → NrE w (rowsW i) n (W i)) := hrW
  have NO := (show Hid _ from none_ok hC.out hk)
  have FO := (show Hid _ from fault_ok (some ⟨bW, oW, none⟩) (k + m) cW n w (by omega) (NmE.lm hN.out))
  rw [Int.natCast_add] at FO
  clear hNF hcF hrF hcW hrW
  go_enter Try.func17, Try.ntmps17
  go_wp2_with (first
    | (go_at_call 30; refine NO.out.mono ?_; rintro e w' ⟨rfl, h⟩; obtain rfl := h.symm)
    | (go_at_call 36; refine FO.out.mono ?_; rintro e w' ⟨rfl, h⟩; obtain rfl := h.symm))
  go_loopw [7] (fun i wr => ∃ t : Nat, k ≤ t ∧ t ≤ k + m ∧ i = .int .i64 t ∧ Hid (∀ i, k ≤ i → i < t → ∀ c, c < n → W i c = skk plE oE (fun j => tiE (F i j) (W j c)) k) ∧ Below w.heap.size w wr) (fun i _ => k + m - (intOf i).toNat)
  case atStart => exact ⟨k, Nat.le_refl _, by omega, rfl, fun i h1 h2 => by omega, Below.refl _ _⟩
  case round =>
    obtain ⟨t, hkt, ht, rfl, hA, hb⟩ := hrel
    by_cases hlt : t < k + m
    · have j1 : (t : Int) < (k : Int) + (m : Int) := by omega
      have hbd := (show Hid _ from hb.drew)
      obtain ⟨pr, cr, er, hra⟩ := nr_un (HRF.out t hlt)
      have f0 := HCF.out t hlt
      rw [er] at f0
      have g1 := cell_below (HCW.out t hlt) hb
      have g2 := cell_below c2 hb
      have g3 := cell_below f0 hb
      have KS := (show Hid (_ ∧ _ ∧ _) from ⟨cell_below (HCW.out t hlt) hbd.out, cell_below c2 hbd.out, cell_below f0 hbd.out⟩)
      have SU := (show Hid _ from codeSum_core pr (some ⟨bW, oW, none⟩) k cr (k + m) cW n (F t) W wr.drew (by omega) (by omega) (by omega) hn (fun h0 => by obtain ⟨b, o, e, h⟩ := hra h0; exact ⟨b, o, e, fun i hi => cell_below (h i hi) hbd.out⟩) (NmE.below hN.out hbd.out))
      have HRT := (show Hid _ from NrE.below (HRW.out t hlt) hbd.out)
      clear er hra hb
      by_cases hWT : ∀ c, c < n → W t c = skk plE oE (fun j => tiE (F t j) (W j c)) k
      · have HWT := (show Hid _ from hWT)
        clear hWT
        go_wp2
        go_region_held3 (fun X => X.cell? ⟨bW, oW + t, none⟩ = some (rowsW t) ∧ X.cell? ⟨cb, 1, none⟩ = some (.slice (some ⟨bF, oF, none⟩) (k + m) cF) ∧ X.cell? ⟨bF, oF + t, none⟩ = some (.slice pr k cr)) (first | exact KH.out | exact KS.out | go_keep)
          (first
          | (go_at_call 38; refine SU.out.mono ?_; rintro e w3 ⟨g, rfl, hO3, hg3, hb3⟩; have KH := (show Hid (_ ∧ _ ∧ _) from ⟨cell_below KS.out.1 hb3, cell_below KS.out.2.1 hb3, cell_below KS.out.2.2 hb3⟩))
          | (go_at_call 37; refine (equal_ok (nr_congr (NrE.below HRT.out hb3) HWT.out) (ov_nr hO3)).mono ?_; rintro e w' ⟨rfl, h⟩; obtain rfl := h.symm))
        all_goals
          go_wp2
          go_roundw
          case rel => exact ⟨t + 1, by omega, by omega, by go_num, fun i h1 h2 => by
            by_cases e : i = t
            · rw [e]; exact HWT.out
            · exact hA.out i h1 (by omega), bt hbd.out hb3⟩
          case measure => simp [intOf]; omega
      · have HWT := (show Hid _ from hWT)
        clear hWT
        go_wp2
        go_region_held3 (fun X => X.cell? ⟨bW, oW + t, none⟩ = some (rowsW t) ∧ X.cell? ⟨cb, 1, none⟩ = some (.slice (some ⟨bF, oF, none⟩) (k + m) cF) ∧ X.cell? ⟨bF, oF + t, none⟩ = some (.slice pr k cr)) (first | exact KH.out | exact KS.out | go_keep)
          (first
          | (go_at_call 38; refine SU.out.mono ?_; rintro e w3 ⟨g, rfl, hO3, hg3, hb3⟩; have KH := (show Hid (_ ∧ _ ∧ _) from ⟨cell_below KS.out.1 hb3, cell_below KS.out.2.1 hb3, cell_below KS.out.2.2 hb3⟩))
          | (go_at_call 37; refine (equal_no (NrE.below HRT.out hb3) (ov_nr hO3) (fun h => HWT.out (str_inj h).2)).mono ?_; rintro e w' ⟨rfl, h⟩; obtain rfl := h.symm))
        all_goals
          go_wp2
          go_ret2
          exact ⟨an2_no (fun h => HWT.out (h t hkt hlt)), bt hbd.out hb3⟩
    · obtain rfl : t = k + m := by omega
      go_wp2
      go_ret2
      exact ⟨an2_yes hA.out, hb⟩
end
section
attribute [local irreducible] Calls NmE NrE Cd Fac mm
set_option maxHeartbeats 4000000 in
set_option maxRecDepth 1000000 in
theorem check_err {w : World} {v vD : Value} {k m : Nat} {F : Nat → Nat → BitVec 8} {x : Int} (hk : 1 ≤ k) (hx : x = 40 ∨ x = 41) (hC : Hid (Cd w v k m F)) (HF : Hid (Calls Try.prog 36 #[vD, .int .i64 ((k : Int) + (m : Int))] w fun e w' => e = .returned (.int .i64 x) ∧ w' = w)) :
    Calls Try.prog 17 #[v, vD] w fun e w' => e = .returned (.tuple #[.bool false, .int .i64 x]) ∧ w' = w := by
  have NO := (show Hid _ from none_ok hC.out hk)
  obtain ⟨cb, pF, cF, ev, c1, c2, _⟩ := cd_open hC.out
  subst ev
  have e1 : (x != 0) = true := by rcases hx with rfl | rfl <;> rfl
  clear hx
  go_enter Try.func17, Try.ntmps17
  go_wp2_with (first
    | (go_at_call 30; refine NO.out.mono ?_; rintro e w' ⟨rfl, h⟩; obtain rfl := h.symm)
    | (go_at_call 36; refine HF.out.mono ?_; rintro e w' ⟨rfl, h⟩; obtain rfl := h.symm))
  go_ret2
  exact ⟨rfl, rfl⟩
end
end Go.Proofs.Ytienknoahjhopaa
