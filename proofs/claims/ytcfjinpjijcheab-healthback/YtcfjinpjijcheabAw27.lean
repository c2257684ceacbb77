/-
  sameInts; awake.
-/
import Derived.Test.YtcfjinpjijcheabOp27
import Derived.Test.YtcfjinpjijcheabTp27
import Derived.Test.YtcfjinpjijcheabCj27
namespace Go.Proofs.Ytcfjinpjijcheab
open Go.RowKit
theorem tel_half : tel 1056964608 1065353216 false = 1056964608 := by decide +kernel
theorem cv_half : cv6 1056964608 = 4602678819172646912 := by decide +kernel
theorem cv3_half : floatToFloatBits .f64 4602678819172646912 .f32 = some 1056964608 := by decide +kernel
theorem chv_half : chv [4602678819172646912, 4602678819172646912] 0 = (4604930618986332160, 0) := by decide +kernel
theorem trv_four : trv [4607182418800017408, 4611686018427387904, 4613937818241073152, 4616189618054758400] 1 = ((13835058055282163712, 13835058055282163712), 0) := by decide +kernel
theorem ins_three : insS [1065353216, 1056964608, 1065353216] 0 3 (List.range 3) = [0, 2, 1] := by decide +kernel
theorem eq_half : (FloatKind.f64.format.order 4602678819172646912 4602678819172646912 == some .eq) = true := by decide +kernel
theorem eq_34 : (FloatKind.f64.format.order 4604930618986332160 4604930618986332160 == some .eq) = true := by decide +kernel
theorem eq_m2 : (FloatKind.f64.format.order 13835058055282163712 13835058055282163712 == some .eq) = true := by decide +kernel
theorem kp_half : Kp 1056964608 := by unfold Kp; decide +kernel
attribute [local irreducible] dW dR p2 fR fW fV fval sW sR
section
attribute [local irreducible] Calls
set_option maxRecDepth 1000000 in
theorem sameI_any {w : World} {p q : Option Addr} {xs : List Nat} (h1 : Vr w p (nc xs)) (h2 : Vr w q (nc xs)) (n c d : Nat) (hn : xs.length = n) (hm : n ≤ 1000000) :
    Calls Try.prog 23 #[.slice p n c, .slice q n d] w fun e w' => e = .returned (.bool true) ∧ Below w.heap.size w w' := by
  have HV := (show Hid (Vr w p (nc xs) ∧ Vr w q (nc xs)) from ⟨h1, h2⟩)
  clear h1 h2
  go_enter Try.func23, Try.ntmps23
  go_wp2
  go_loopw [5] (fun i wr => ∃ t : Nat, t ≤ n ∧ i = .int .i64 (t : Int) ∧ Below w.heap.size w wr) (fun i _ => n - (intOf i).toNat)
  case atStart => exact ⟨0, Nat.zero_le _, rfl, Below.refl _ _⟩
  case round =>
    obtain ⟨t, ht, rfl, hb⟩ := hrel
    by_cases hlt : t < n
    · have hi : (t : Int) < (n : Int) := by omega
      have e0 : nc xs ≠ [] := by intro e; have := nc_len xs; rw [e] at this; simp at this; omega
      obtain ⟨b1, o1, rfl, hc1⟩ := HV.out.1.resolve_left e0
      obtain ⟨b2, o2, rfl, hc2⟩ := HV.out.2.resolve_left e0
      have g1 := cell_below (hc1 t _ (nc_at xs t (by omega))) hb
      have g2 := cell_below (hc2 t _ (nc_at xs t (by omega))) hb
      obtain ⟨y, hy⟩ : ∃ y, xs.getD t 0 = y := ⟨_, rfl⟩
      rw [hy] at g1 g2
      clear hc1 hc2 hy
      go_wp2
      go_quiet (fail)
      go_wp2
      go_roundw
      case rel => exact ⟨t + 1, hlt, by go_num, below_drewN hb _⟩
      case measure => simp [intOf]; omega
    · obtain rfl : t = n := by omega
      go_wp2
      go_ret
      exact ⟨rfl, hb⟩
attribute [local irreducible] chv trv cv6 tel insS
set_option maxRecDepth 1000000 in
set_option maxHeartbeats 4000000 in
theorem awake_any (w : World) : Calls Try.prog 9 #[] w fun e w' => e = .returned (.bool true) ∧ Below w.heap.size w w' := by
  have NW := (show Hid _ from new_any (w := w) 3 4602678819172646912 1056964608 (by omega) (by omega) cv3_half kp_half)
  have TL := (show Hid _ from fun (W : World) (b s : Nat) (h : Bd W b s 1056964608 (List.replicate 3 1065353216)) => tell_any h 1 false (by simp) kp_half (Nat.le_refl _))
  have SR := (show Hid _ from fun (W : World) (b s : Nat) (h : Bd W b s 1056964608 [1065353216, 1056964608, 1065353216]) => score_any h 1 (by simp) (by unfold Sc; decide))
  have CH := (show Hid _ from fun (W : World) => chance_any (w := W.alloc (.cells #[.float .f64 4602678819172646912, .float .f64 4602678819172646912] 22)) (fs := [4602678819172646912, 4602678819172646912]) (bl_new W 22 (fc [4602678819172646912, 4602678819172646912])).rd 2 2 0 rfl (by omega))
  have TU := (show Hid _ from fun (W : World) => turn_any (w := W.alloc (.cells #[.float .f64 4607182418800017408, .float .f64 4611686018427387904, .float .f64 4613937818241073152, .float .f64 4616189618054758400] 22)) (xs := [4607182418800017408, 4611686018427387904, 4613937818241073152, 4616189618054758400]) (bl_new W 22 (fc [4607182418800017408, 4611686018427387904, 4613937818241073152, 4616189618054758400])).rd 4 4 1 rfl (by omega))
  have OD := (show Hid _ from fun (W : World) (b s : Nat) (h : Bd W b s 1056964608 [1065353216, 1056964608, 1065353216]) (hs : s < W.heap.size) => order_small h (by intro x hx; simp at hx; unfold Sc; omega) hs 3 rfl (by omega))
  have SI := (show Hid _ from fun (W : World) (G : Nat) (h : Bl W 3 G (nc [0, 2, 1])) => sameI_any (w := W.alloc (.cells #[.int .i64 0, .int .i64 2, .int .i64 1] 3)) (xs := [0, 2, 1]) (h.below (balloc _ _)).rd (bl_new W 3 (nc [0, 2, 1])).rd 3 3 3 rfl (by omega))
  simp only [chv_half] at CH
  simp only [trv_four] at TU
  simp only [show (List.replicate 3 1065353216).getD 1 0 = 1065353216 from rfl, tel_half, show (List.replicate 3 1065353216).set 1 1056964608 = [1065353216, 1056964608, 1065353216] from rfl] at TL
  simp only [show ([1065353216, 1056964608, 1065353216] : List Nat).getD 1 0 = 1056964608 from rfl, cv_half] at SR
  simp only [ins_three] at OD
  have b1 := eq_half
  have b2 := eq_34
  have b3 := eq_m2
  go_enter Try.func9, Try.ntmps9
  go_wp2_with (first
    | (go_at_call 22; refine NW.out.mono ?_; rintro e w1 ⟨b, s, rfl, hB1, hb1, hs1, hl1⟩)
    | (go_at_call 13; refine (TL.out _ _ _ hB1).mono ?_; rintro e w2 ⟨rfl, hB2, hg2⟩)
    | (go_at_call 17; refine (SR.out _ _ _ hB2).mono ?_; rintro e w3 ⟨rfl, h⟩; obtain rfl := h.symm)
    | (go_at_call 19; refine (CH.out _).mono ?_; rintro e w4 ⟨rfl, hb4⟩; have hB4 := hB2.below (bt (balloc _ _) hb4))
    | (go_at_call 21; refine (TU.out _).mono ?_; rintro e w5 ⟨rfl, hb5⟩; have hB5 := hB4.below (bt (balloc _ _) hb5))
    | (go_at_call 16; refine (OD.out _ _ _ hB5 hB5.row.lt).mono ?_; rintro e w6 ⟨G, rfl, hG1, hG2, hb6⟩)
    | (go_at_call 23; refine (SI.out _ _ hG2).mono ?_; rintro e w7 ⟨rfl, hb7⟩))
  go_ret
  refine ⟨rfl, ?_⟩
  have h2 : Below w.heap.size w w2 := hl1.grown hg2 hl1.size (fun k hk => by injection hk with hk; omega)
  exact bt h2 (bt (bt (balloc _ _) hb4) (bt (bt (balloc _ _) hb5) (bt hb6 (bt (balloc _ _) hb7))))
end
end Go.Proofs.Ytcfjinpjijcheab
