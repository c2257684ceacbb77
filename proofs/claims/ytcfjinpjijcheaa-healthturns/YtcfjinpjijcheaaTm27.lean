/-
  HealthTurns: the walk.
-/
import Derived.Test.YtcfjinpjijcheaaTq27
namespace Go.Proofs.Ytcfjinpjijcheaa
open Go.RowKit
theorem trv_ac (xs : List Nat) (k : Int) : Ac 1000000 (trv xs k).1.1 ∧ Ac 1000000 (trv xs k).1.2 := by
  unfold trv
  split
  · exact ⟨Ac.zero _, Ac.zero _⟩
  · split
    · exact ⟨Ac.zero _, Ac.zero _⟩
    · rename_i h1 h2
      have h := acc_ok (k := k) (any_falseS (fs := xs) (by simpa using h2)) xs.length (Nat.le_refl _) (by omega)
      exact ⟨h.1.mono (by omega), h.2.mono (by omega)⟩
/-- 1 by such a sum, and whether that tells a zero with a sign. -/
theorem quo_ac {t R : Nat} (h : Ac t R) : ∃ d, (∀ (t : TypeId) (W : World), (binOp .quo t (.float .f64 4607182418800017408) (.float .f64 R)).run Try.prog W = .ok (.float .f64 d) W) ∧
    ((FloatKind.f64.format.order d 0 == some .lt) = false ∨ (FloatKind.f64.format.order d 0 == some .lt) = true ∧ (FloatKind.f64.format.order R 0 == some .eq) = false) := by
  by_cases h0 : R = 0
  · subst h0
    exact ⟨_, fl_run (op := .quo) div_zero, .inl inf_zero⟩
  · obtain ⟨d, hd⟩ := div_ac h h0
    refine ⟨d, fl_run (op := .quo) hd, ?_⟩
    cases hb : (FloatKind.f64.format.order d 0 == some .lt)
    · exact .inl rfl
    · exact .inr ⟨rfl, order_zero h h0⟩
section
attribute [local irreducible] Calls trv LnF
set_option maxHeartbeats 4000000 in
set_option maxRecDepth 1000000 in
theorem healthTurns_walk {w : World} {a : Option Addr} {xs : List Nat} (h : Fr w a xs) (n c : Nat) (m : Int) (hm0 : -9223372036854775808 ≤ m) (hm1 : m ≤ 9223372036854775807) (hn : xs.length = n) (hm : n ≤ 17592186044000) :
    Calls Try.prog 8 #[.slice a n c, .int .i64 m] w fun e w' => e = .returned (.bool true) ∧ Below w.heap.size w w' := by
  have LA := (show Hid _ from lentF_any h n c hn hm)
  clear h
  go_enter Try.func8, Try.ntmps8
  go_wp2_with (go_at_call 21; refine LA.out.mono ?_; rintro e w1 ⟨v, rfl, hL, hb1⟩)
  obtain ⟨g, cap, rfl, hcap, hg, _, _⟩ := hL.rd
  rw [hn] at hL
  rw [hn] at hcap
  rw [hn]
  have HL := (show Hid (LnF w1 w.heap.size _ xs) from hL)
  clear LA hL
  go_loopw [6] (fun i wr => ∃ t : Nat, t ≤ 2 ∧ i = .int .i64 (t : Int) ∧ (∃ ys, ys.length = n ∧ LnF wr w.heap.size (.slice (some ⟨g, 0, none⟩) n cap) ys) ∧ Below w.heap.size w wr) (fun i _ => 2 - (intOf i).toNat)
  case atStart => exact ⟨0, by omega, rfl, ⟨xs, hn, HL.out⟩, hb1⟩
  case round =>
    obtain ⟨t, ht, rfl, ⟨ys, hys, hLy⟩, hb⟩ := hrel
    obtain ⟨V, hV⟩ : ∃ V, V = wr := ⟨_, rfl⟩
    subst hV
    by_cases hlt : t < 2
    · have hi : (t : Int) < 2 := by omega
      have HR : Hid (Fr V (some ⟨g, 0, none⟩) ys) := by
        obtain ⟨g', cap', e, _, _, _, hc⟩ := hLy.rd
        injection e with e1 e2 e3
        injection e1 with e1
        injection e1 with e1
        subst e1
        exact .inr ⟨g, 0, rfl, fun i u hu => by
          have hi : i < ys.length := by
            rcases Nat.lt_or_ge i ys.length with h1 | h1
            · exact h1
            · rw [List.getElem?_eq_none (by rw [fc_len]; exact h1)] at hu; cases hu
          rw [fc_at _ _ hi] at hu
          rw [hc i (by omega), ← hu]
          simp [List.getD, List.getElem?_append_left hi]⟩
      have HLY := (show Hid (LnF V w.heap.size _ ys) from hLy)
      have HB := (show Hid _ from hb)
      clear hLy hb hb1
      go_wp2_with (at_builtin; refine wpList_apF rfl (.const (.slice none 0 0)) (.tmp 20) rfl V.heap.size _ [] rfl (Of.nil _ _) (some ⟨g, 0, none⟩) n cap ys rfl HR.out hys (by simp; omega) (Nat.le_refl _) ?_; intro v1 w2 ho1 hg1; rw [List.nil_append] at ho1)
      have hb2 : Below V.heap.size V w2 := below_append (t := 23) (Below.refl _ _) (Nat.le_refl _) hg1 (Of.nil V V.heap.size) (Nat.le_refl _)
      obtain ⟨p1, c1, rfl, hc1, hf1⟩ := ho1.rd
      rw [hys] at hc1
      rw [hys]
      have HF1 := (show Hid (Fr w2 p1 ys) from hf1)
      have HB2 := (show Hid (Below V.heap.size V w2) from hb2)
      have RC := (show Hid _ from fun (W : World) (hW : Fr W p1 ys) => rturn_any hW n c1 m hys (by omega) hm0 hm1)
      have PC := (show Hid _ from fun (W : World) (hW : Fr W (some ⟨g, 0, none⟩) ys) => turn_any hW n cap m hys (by omega))
      have UC := (show Hid _ from fun (W : World) (hL : LnF W w.heap.size (.slice (some ⟨g, 0, none⟩) n cap) ys) (hW : Fr W p1 ys) => unmarkedF_any hL hW n c1 hys (by omega))
      obtain ⟨R1, R2⟩ := trv_ac ys m
      obtain ⟨re, hF⟩ : ∃ F, (trv ys m).1.1 = F := ⟨_, rfl⟩
      obtain ⟨im, hG⟩ : ∃ F, (trv ys m).1.2 = F := ⟨_, rfl⟩
      obtain ⟨E, hE⟩ : ∃ E, (trv ys m).2 = E := ⟨_, rfl⟩
      simp only [hF, hG, hE] at RC PC
      rw [hF] at R1
      rw [hG] at R2
      have cs : (FloatKind.f64.format.order re re != some .eq) = false := by rw [show FloatKind.f64.format.order re re = some .eq from order_ac R1]; rfl
      have cs2 : (FloatKind.f64.format.order im im != some .eq) = false := by rw [show FloatKind.f64.format.order im im = some .eq from order_ac R2]; rfl
      clear hF hG hE ho1 hf1 hb2 hg1
      have ee : (E != E) = false := by simp
      obtain ⟨dr, hd1, hbr⟩ := quo_ac R1
      obtain ⟨di, hd2, hbi⟩ := quo_ac R2
      clear R1 R2
      rcases hbr with b1 | ⟨b1, z1⟩ <;> rcases hbi with b2 | ⟨b2, z2⟩
      all_goals
        go_wp2_with (first
          | (go_at_call 25; refine (RC.out _ HF1.out).mono ?_; rintro e w3 ⟨rfl, hb3⟩)
          | (go_at_call 26; refine (PC.out _ (HR.out.below (bt HB2.out hb3))).mono ?_; rintro e w4 ⟨rfl, hb4⟩)
          | (go_at_call 24; refine (UC.out _ (LnF.below HLY.out (bt HB2.out (bt hb3 hb4))) (HF1.out.below (bt hb3 hb4))).mono ?_; rintro e w5 ⟨rfl, hb5⟩))
        have hb6 : Below V.heap.size V w5 := bt HB2.out (bt hb3 (bt hb4 hb5))
        have HL6 := (show Hid (LnF w5 w.heap.size _ ys) from LnF.below HLY.out hb6)
        have HB6 := (show Hid (Below w.heap.size w w5) from bt HB.out hb6)
        clear RC PC UC hb6 hb3 hb4 hb5 cs
        go_loopw [13] (fun i wr => ∃ k : Nat, k ≤ n ∧ i = .int .i64 (k : Int) ∧ (∃ zs, zs.length = n ∧ LnF wr w.heap.size (.slice (some ⟨g, 0, none⟩) n cap) zs) ∧ Below w.heap.size w wr) (fun i _ => n - (intOf i).toNat)
        case atStart => exact ⟨0, Nat.zero_le _, rfl, ⟨ys, hys, HL6.out⟩, HB6.out⟩
        case round =>
          obtain ⟨k, hk, rfl, ⟨zs, hzs, hLz⟩, hb⟩ := hrel
          by_cases hlk : k < n
          · have hk1 : (k : Int) < (n : Int) := by omega
            have g1 : wr.cell? ⟨g, k, none⟩ = some (.float .f64 (zs.getD k 0)) := by
              obtain ⟨g', cap', e, _, _, _, hc⟩ := hLz.rd
              injection e with e1 e2 e3
              injection e1 with e1
              injection e1 with e1
              subst e1
              have := hc k (by omega)
              rw [Nat.zero_add] at this
              rw [this]
              simp [List.getD, List.getElem?_append_left (show k < zs.length by omega)]
            have st := fun b => hLz.set hzs k b hlk
            have fz := (st 0).2.1
            have hge := (st 0).2.2
            have HS := (show Hid (∀ b, LnF (wr.setCell ⟨g, k, none⟩ (.float .f64 b)) w.heap.size (.slice (some ⟨g, 0, none⟩) n cap) (zs.set k b)) from fun b => (st b).1)
            have HBr := (show Hid (Below w.heap.size w wr) from hb)
            have hst := run_store_flt
            obtain ⟨y, hy⟩ : ∃ y, zs.getD k 0 = y := ⟨_, rfl⟩
            rw [hy] at g1
            clear st hLz hb
            rcases sub_any 4613937818241073152 y with ⟨r, hr⟩ | ⟨nb, hr⟩
            · go_wp2
              go_roundw
              case rel => exact ⟨k + 1, by omega, by go_num, ⟨_, by rw [List.length_set]; exact hzs, HS.out r⟩, HBr.out.setCell hge _⟩
              case measure => simp [intOf]; omega
            · have fz2 : wr.drew.frozen? ⟨g, k, none⟩ = false := fz
              have g2 : wr.drew.cell? ⟨g, k, none⟩ = some (.float .f64 y) := g1
              obtain ⟨b, hnb⟩ : ∃ b, nb wr = b := ⟨_, rfl⟩
              have hr' : ∀ t, (binOp .sub t (.float .f64 4613937818241073152) (.float .f64 y)).run Try.prog wr = .ok (.float .f64 b) wr.drew := fun t => by rw [hr t wr, hnb]
              clear hr
              go_wp2
              go_roundw
              case rel => exact ⟨k + 1, by omega, by go_num, ⟨_, by rw [List.length_set]; exact hzs, LnF.drew (HS.out b)⟩, (HBr.out.setCell hge _).drew⟩
              case measure => simp [intOf]; omega
          · obtain rfl : k = n := by omega
            go_wp2
            go_roundw
            case rel => exact ⟨t + 1, by omega, by go_num, ⟨zs, hzs, hLz⟩, hb⟩
            case measure => simp [intOf]; omega
    · obtain rfl : t = 2 := by omega
      go_wp2
      go_ret
      exact ⟨rfl, hb⟩
end
end Go.Proofs.Ytcfjinpjijcheaa
