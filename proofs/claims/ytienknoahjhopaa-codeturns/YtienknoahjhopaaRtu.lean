/-
  The document's 'Turn'.
-/
import Derived.Test.YtienknoahjhopaaTu
import Derived.Test.YtienknoahjhopaaEnW
namespace Go.Proofs.Ytienknoahjhopaa
open Go.RowKit
theorem el_xorT (a b : BitVec 8) : bits .xor .i64 (el a) (el b) = el (a ^^^ b) := by
  unfold el; rw [i64_xor_natO _ _ (by have := a.isLt; omega) (by have := b.isLt; omega), BitVec.toNat_xor]
theorem xor_0T (a : BitVec 8) : bits .xor .i64 (el a) 0 = el a := by
  have h := el_xorT a 0#8
  rw [BitVec.xor_zero] at h
  exact h
theorem refTimes_0 (b : BitVec 8) (w : World) : Calls Try.prog 40 #[.int .i64 0, .int .i64 (el b)] w fun e w' => e = .returned (.int .i64 0) ∧ w' = w := by
  have h := refTimes_any 0#8 b w
  rw [gm_zero_l] at h
  exact h
theorem tur_at {k a t : Nat} {F W : Nat → Nat → BitVec 8} {d : Nat → BitVec 8} (c : Nat) : tur k a t F W d a c = d c := if_pos rfl
theorem tur_data {k a t i : Nat} {F W : Nat → Nat → BitVec 8} {d : Nat → BitVec 8} (h : ¬ i = a) (hi : i < k) (c : Nat) : tur k a t F W d i c = W i c := by
  unfold tur; rw [if_neg h, if_neg (by omega)]
theorem tur_par {k m a i : Nat} {F W : Nat → Nat → BitVec 8} {d : Nat → BitVec 8} (hF : Fac k F) (hkm : k + m ≤ 255) (ha : a < k) (h1 : k ≤ i) (h2 : i < k + m) (c : Nat) : tur k a (k + m) F W d i c = W i c ^^^ gm (shr (fun t => t) k i a) (W a c ^^^ d c) := by
  unfold tur; rw [if_neg (by omega), if_pos ⟨h1, h2⟩, ← shr_id hF (by omega) ha i]; rfl
section
attribute [local irreducible] Calls NmE NrE Cd Fac Br lv clE el gm shr Ov Lm tur
set_option maxHeartbeats 64000000 in
set_option maxRecDepth 1000000 in
theorem refTurn_ok (p pd : Option Addr) (k m n a c cd : Nat) (F W : Nat → Nat → BitVec 8) (d : Nat → BitVec 8) (w : World) (hk : 1 ≤ k) (hkm : k + m ≤ 255) (hn : n ≤ 140737488355328) (ha : a < k) (HF : Hid (Fac k F)) (HN : Hid (NmE w (.slice p (k + m) c) (k + m) (fun _ => n) W)) (HD : Hid (NrE w (.slice pd n cd) n d)) :
    Calls Try.prog 19 #[.int .i64 (k : Int), .int .i64 (m : Int), .slice p (k + m) c, .int .i64 (a : Int), .slice pd n cd] w fun e w' => ∃ v, e = .returned (.tuple #[v, .int .i64 0]) ∧ NmE w' v (k + m) (fun _ => n) (tur k a (k + m) F W d) ∧ Below w.heap.size w w' := by
  obtain ⟨i0, hif, hz0, hz1, hz2⟩ := info_parts infoY
  obtain ⟨i1, hif1, hz01, hz11, hz21⟩ := info_parts info5
  have e2 : wrap64 ((k : Int) + (m : Int)) = (k : Int) + (m : Int) := by unfold wrap64; omega
  have e1 : ((k : Int) + (m : Int) != (k : Int) + (m : Int)) = false := by simp
  have e4 : ((n : Int) != (n : Int)) = false := by simp
  have HL : Hid (Lm w (.slice p (k + m) c) (k + m) (fun _ => n)) := NmE.lm HN.out
  obtain ⟨b, o, rowsN, e, hcN, hnN⟩ := nm_at HN.out (by omega)
  subst e
  obtain ⟨p0, c0, e0, _⟩ := nr_un (hnN 0 (by omega))
  have g0 : w.cell? ⟨b, o, none⟩ = some (.slice p0 n c0) := by rw [← e0]; exact hcN 0 (by omega)
  have HCN := (show Hid _ from hcN)
  have HNN := (show Hid _ from hnN)
  obtain ⟨pd', cd', ed, hdd⟩ := nr_un HD.out
  injection ed with ed1 _ ed2
  subst ed1 ed2
  have HDD := (show Hid _ from hdd)
  have ON := (show Hid _ from one_any (some ⟨b, o, none⟩) (k + m) c n (fun _ => n) w (by omega) HL)
  have jk : (0 : Int) < (k : Int) + (m : Int) := by omega
  have ja1 : ¬ (a : Int) < 0 := by omega
  have ja2 : ¬ (k : Int) ≤ (a : Int) := by omega
  have ja3 : (a : Int) < (k : Int) := by omega
  have ja4 : (0 : Int) ≤ (a : Int) := by omega
  have ja5 : (a : Int) < (k : Int) + (m : Int) := by omega
  have haN : a < k + m := by omega
  clear hcN hnN e0 hdd
  go_enter Try.func19, Try.ntmps19
  go_wp2_with (first
    | (go_at_call 28; refine ON.out.mono ?_; rintro e w' ⟨ha, h⟩; obtain rfl := h.symm; obtain rfl := ans_t ha (fun _ _ => rfl); clear ha)
    | (go_at_call 35; refine (first_core k (by omega) w).mono ?_; rintro e w1 ⟨v1, rfl, hF1, hb1⟩; obtain ⟨bF, oF, cF, eF, hcF⟩ := first_cells hF1 hk; subst eF; have HCF := (show Hid _ from hcF); clear hF1 hcF))
  have HB1 := (show Hid _ from hb1)
  clear hb1 g0 ON
  go_loopw [12, 14] (fun v i wr => ∃ (t : Nat) (rows : Nat → Value), t ≤ k + m ∧ i = .int .i64 t ∧ wr.ownsRow w1.heap.size 23 1 v t (lv rows t) ∧ Hid (∀ i, i < t → Br wr (rows i) n (tur k a (k + m) F W d i)) ∧ Below w1.heap.size w1 wr) (fun _ i _ => k + m - (intOf i).toNat)
  case atStart => exact ⟨0, fun _ => .bool false, Nat.zero_le _, rfl, lv_none _ _ _ _ _, fun i hi => by omega, Below.refl _ _⟩
  case round =>
    obtain ⟨t, rows, ht, rfl, hown, hR, hb⟩ := hrel
    by_cases hlt : t < k + m
    · have j1 : (t : Int) < (k : Int) + (m : Int) := by omega
      have M1 : Hid (t + 1 ≤ maxLen) := by show _ ≤ _; unfold maxLen; omega
      have HOWN := (show Hid _ from hown)
      have HB := (show Hid _ from hb)
      by_cases htk : t < k
      · have jt : ¬ (k : Int) ≤ (t : Int) := by omega
        obtain ⟨W0, hW0⟩ : ∃ W0, W0 = wr := ⟨_, rfl⟩
        subst hW0
        have HBw : Hid (Below W0.heap.size W0 W0) := Below.refl _ _
        have HWW : Hid (Below w.heap.size w W0) := bt HB1.out hb
        clear hown hb
        by_cases hta : t = a
        · obtain rfl : a = t := hta.symm
          clear hta hlt
          go_wp2
          go_loopw [16, 17] (fun v i wr => ∃ j : Nat, j ≤ n ∧ i = .int .i64 j ∧ wr.ownsRow W0.heap.size 5 1 v j (lv (clE (tur k a (k + m) F W d a)) j) ∧ Below W0.heap.size W0 wr) (fun _ i _ => n - (intOf i).toNat)
          case atStart => exact ⟨0, Nat.zero_le _, rfl, lv_none _ _ _ _ _, Below.refl _ _⟩
          case round =>
            obtain ⟨j, hj, rfl, hown2, hb2⟩ := hrel
            by_cases hjn : j < n
            · have j2 : (j : Int) < (n : Int) := by omega
              obtain ⟨px, cx, ex, hx⟩ := nr_un (HNN.out a haN)
              obtain ⟨bx, ox, epx, hcx⟩ := hx (by omega)
              subst epx
              obtain ⟨py, cy, ey, hy⟩ := nr_un (HNN.out a haN)
              obtain ⟨by', oy, epy, hcy⟩ := hy (by omega)
              subst epy
              obtain ⟨bd, od, epd, hcd⟩ := HDD.out (by omega)
              subst epd
              have c1 : w.cell? ⟨b, o + a, none⟩ = some (.slice (some ⟨bx, ox, none⟩) n cx) := by rw [HCN.out a haN, ex]
              have c2 : w.cell? ⟨b, o + a, none⟩ = some (.slice (some ⟨by', oy, none⟩) n cy) := by rw [HCN.out a haN, ey]
              have c3 := hcx j hjn
              have c4 := hcy j hjn
              have c5 := hcd j hjn
              obtain ⟨z, hz⟩ : ∃ z, el (tur k a (k + m) F W d a j) = z := ⟨_, rfl⟩
              have hzb := el_bd (tur k a (k + m) F W d a j)
              have zw := wrap_el (tur k a (k + m) F W d a j)
              rw [hz] at hzb zw
              obtain ⟨hz3, hz4⟩ := hzb
              have HZ : Hid (el (tur k a (k + m) F W d a j) = z) := hz
              have x0 := wrap_el (W a j)
              have x1 := el_xor (W a j) (d j)
              have x3 := wrap_el (W a j ^^^ d j)
              have x2 := xor_0T (W a j)
              have x5 : el (d j) = z := by rw [← hz]; exact congrArg el (tur_at j).symm
              rw [x5] at c5 x1
              clear x5
              have hbd := (show Hid _ from hb2.drew)
              have HWd : Hid (Below w.heap.size w wr.drew) := bt HWW.out hbd.out
              have KS := (show Hid (_ ∧ _ ∧ _ ∧ _ ∧ _) from ⟨cell_below c1 HWd.out, cell_below c2 HWd.out, cell_below c3 HWd.out, cell_below c4 HWd.out, cell_below c5 HWd.out⟩)
              have y5 := cell_below c5 HWd.out
              have M2 : Hid (j + 1 ≤ maxLen) := by show _ ≤ _; unfold maxLen; omega
              have M3 : Hid (∀ o : Obj, W0.heap.size ≤ (wr.drew.alloc o).heap.size) := fun o => by have := hbd.out.size; simp at *; omega
              have HOW3 : Hid (wr.drew.ownsRow W0.heap.size 5 1 _ j (lv (clE (tur k a (k + m) F W d a)) j)) := owns_below hown2 (bdr wr)
              clear hz hown2 hb2 ex hx hcx ey hy hcy hcd c1 c2 c3 c4 c5
              go_wp2
              go_region_held3 (fun X => X.cell? ⟨b, o + a, none⟩ = some (.slice (some ⟨bx, ox, none⟩) n cx) ∧ X.cell? ⟨b, o + a, none⟩ = some (.slice (some ⟨by', oy, none⟩) n cy) ∧ X.cell? ⟨bx, ox + j, none⟩ = some (.int .u8 (el (W a j))) ∧ X.cell? ⟨by', oy + j, none⟩ = some (.int .u8 (el (W a j))) ∧ X.cell? ⟨bd, od + j, none⟩ = some (.int .u8 z)) (first | exact KS.out | go_keep)
                (first | (go_at_call 40; refine (refTimes_0 _ _).mono ?_; rintro e w' ⟨rfl, h⟩; obtain rfl := h.symm))
              all_goals
                have hown3 : wr.drew.ownsRow W0.heap.size 5 1 _ j (lv (clE (tur k a (k + m) F W d a)) j) := HOW3.out
                go_wp2_with (at_builtin; (refine wpList_append_own _ rfl _ _ 23 rfl W0.heap.size 5 i1 (.int .u8 0) 1 1 Try.underlying23 hif1 hz01 hz11 hz21 rfl (by decide) _ _ _ rfl (hown3.alloc _) ⟨_, 0, none⟩ 1 1 [.int .u8 z] rfl rfl (one_new _ _ _) (one_cellv rfl) M2.out (by omega) (M3.out _) ?_; intro v' w3 hown' hgrow _))
                have hb3 := below_append (hbd.out.alloc hbd.out.size _) (M3.out _) hgrow (hown3.alloc _) (Nat.le_refl _)
                rw [← HZ.out, lv_byte] at hown'
                clear hown3 hgrow
                go_roundw
                case rel => first | exact ⟨j + 1, by omega, by go_num, hown', hb3⟩ | exact ⟨_, _, ⟨j + 1, by omega, rfl, hown', hb3⟩, rfl, by go_num⟩ | ((repeat apply Exists.intro); exact ⟨⟨j + 1, by omega, by go_num, hown', hb3⟩, rfl⟩)
                case measure => simp [intOf]; omega
            · obtain rfl : n = j := by omega
              have HI : Hid (Br wr _ n (tur k a (k + m) F W d a)) := br_of hown2
              obtain ⟨px, cx, ex⟩ := HI.out.form
              subst ex
              have HX2 := (show Hid _ from bt HBw.out hb2)
              have hown3 := owns_below HOWN.out HX2.out
              have hb3 := bt HB.out HX2.out
              clear hown2
              go_wp2_with (at_builtin; refine wpList_append_own _ rfl _ _ 22 rfl w1.heap.size 23 i0 (.slice none 0 0) 1 24 Try.underlying22 hif hz0 hz1 hz2 rfl (by decide) _ _ _ rfl (hown3.alloc _) ⟨_, 0, none⟩ 1 1 [.slice px n cx] rfl rfl (one_new _ _ _) (one_cellv rfl) M1.out (by omega) (by have := hb3.size; simp at *; omega) ?_; intro v' w4 hown' hgrow _)
              have hb4 := below_append (hb3.alloc hb3.size _) (by have := hb3.size; simp at *; omega) hgrow (hown3.alloc _) (Nat.le_refl _)
              rw [push_lv] at hown'
              have hR3 : Hid (∀ i, i < a + 1 → Br w4 ((fun i => if i = a then .slice px n cx else rows i) i) n (tur k a (k + m) F W d i)) := push_br (l := fun _ => n) (M := tur k a (k + m) F W d) hown3 hgrow (fun i hi => (hR.out i hi).below HX2.out) HI.out
              clear hown3 hgrow
              go_roundw
              case rel => exact ⟨a + 1, _, by omega, by go_num, hown', hR3, hb4⟩
              case measure => simp [intOf]; omega
        · have hne : ¬ t = a := hta
          have e7 : ((t : Int) == (a : Int)) = false := by simp; omega
          have HNE : Hid (¬ t = a) := hne
          clear hta
          go_wp2
          go_loopw [16, 17] (fun v i wr => ∃ j : Nat, j ≤ n ∧ i = .int .i64 j ∧ wr.ownsRow W0.heap.size 5 1 v j (lv (clE (tur k a (k + m) F W d t)) j) ∧ Below W0.heap.size W0 wr) (fun _ i _ => n - (intOf i).toNat)
          case atStart => exact ⟨0, Nat.zero_le _, rfl, lv_none _ _ _ _ _, Below.refl _ _⟩
          case round =>
            obtain ⟨j, hj, rfl, hown2, hb2⟩ := hrel
            by_cases hjn : j < n
            · have j2 : (j : Int) < (n : Int) := by omega
              obtain ⟨px, cx, ex, hx⟩ := nr_un (HNN.out t hlt)
              obtain ⟨bx, ox, epx, hcx⟩ := hx (by omega)
              subst epx
              obtain ⟨py, cy, ey, hy⟩ := nr_un (HNN.out a haN)
              obtain ⟨by', oy, epy, hcy⟩ := hy (by omega)
              subst epy
              obtain ⟨bd, od, epd, hcd⟩ := HDD.out (by omega)
              subst epd
              have c1 : w.cell? ⟨b, o + t, none⟩ = some (.slice (some ⟨bx, ox, none⟩) n cx) := by rw [HCN.out t hlt, ex]
              have c2 : w.cell? ⟨b, o + a, none⟩ = some (.slice (some ⟨by', oy, none⟩) n cy) := by rw [HCN.out a haN, ey]
              have c3 := hcx j hjn
              have c4 := hcy j hjn
              have c5 := hcd j hjn
              obtain ⟨z, hz⟩ : ∃ z, el (tur k a (k + m) F W d t j) = z := ⟨_, rfl⟩
              have hzb := el_bd (tur k a (k + m) F W d t j)
              have zw := wrap_el (tur k a (k + m) F W d t j)
              rw [hz] at hzb zw
              obtain ⟨hz3, hz4⟩ := hzb
              have HZ : Hid (el (tur k a (k + m) F W d t j) = z) := hz
              have x0 := wrap_el (W t j)
              have x1 := el_xor (W a j) (d j)
              have x3 := wrap_el (W a j ^^^ d j)
              have x2 : bits .xor .i64 (el (W t j)) 0 = z := by rw [xor_0T, ← hz]; exact congrArg el (tur_data hne (by omega) j).symm
              have hbd := (show Hid _ from hb2.drew)
              have HWd : Hid (Below w.heap.size w wr.drew) := bt HWW.out hbd.out
              have KS := (show Hid (_ ∧ _ ∧ _ ∧ _ ∧ _) from ⟨cell_below c1 HWd.out, cell_below c2 HWd.out, cell_below c3 HWd.out, cell_below c4 HWd.out, cell_below c5 HWd.out⟩)
              have M2 : Hid (j + 1 ≤ maxLen) := by show _ ≤ _; unfold maxLen; omega
              have M3 : Hid (∀ o : Obj, W0.heap.size ≤ (wr.drew.alloc o).heap.size) := fun o => by have := hbd.out.size; simp at *; omega
              have HOW3 : Hid (wr.drew.ownsRow W0.heap.size 5 1 _ j (lv (clE (tur k a (k + m) F W d t)) j)) := owns_below hown2 (bdr wr)
              clear hz hown2 hb2 ex hx hcx ey hy hcy hcd c1 c2 c3 c4 c5
              go_wp2
              go_region_held3 (fun X => X.cell? ⟨b, o + t, none⟩ = some (.slice (some ⟨bx, ox, none⟩) n cx) ∧ X.cell? ⟨b, o + a, none⟩ = some (.slice (some ⟨by', oy, none⟩) n cy) ∧ X.cell? ⟨bx, ox + j, none⟩ = some (.int .u8 (el (W t j))) ∧ X.cell? ⟨by', oy + j, none⟩ = some (.int .u8 (el (W a j))) ∧ X.cell? ⟨bd, od + j, none⟩ = some (.int .u8 (el (d j)))) (first | exact KS.out | go_keep)
                (first | (go_at_call 40; refine (refTimes_0 _ _).mono ?_; rintro e w' ⟨rfl, h⟩; obtain rfl := h.symm))
              all_goals
                have hown3 : wr.drew.ownsRow W0.heap.size 5 1 _ j (lv (clE (tur k a (k + m) F W d t)) j) := HOW3.out
                go_wp2_with (at_builtin; (refine wpList_append_own _ rfl _ _ 23 rfl W0.heap.size 5 i1 (.int .u8 0) 1 1 Try.underlying23 hif1 hz01 hz11 hz21 rfl (by decide) _ _ _ rfl (hown3.alloc _) ⟨_, 0, none⟩ 1 1 [.int .u8 z] rfl rfl (one_new _ _ _) (one_cellv rfl) M2.out (by omega) (M3.out _) ?_; intro v' w3 hown' hgrow _))
                have hb3 := below_append (hbd.out.alloc hbd.out.size _) (M3.out _) hgrow (hown3.alloc _) (Nat.le_refl _)
                rw [← HZ.out, lv_byte] at hown'
                clear hown3 hgrow
                go_roundw
                case rel => first | exact ⟨j + 1, by omega, by go_num, hown', hb3⟩ | exact ⟨_, _, ⟨j + 1, by omega, rfl, hown', hb3⟩, rfl, by go_num⟩ | ((repeat apply Exists.intro); exact ⟨⟨j + 1, by omega, by go_num, hown', hb3⟩, rfl⟩)
                case measure => simp [intOf]; omega
            · obtain rfl : n = j := by omega
              have HI : Hid (Br wr _ n (tur k a (k + m) F W d t)) := br_of hown2
              obtain ⟨px, cx, ex⟩ := HI.out.form
              subst ex
              have HX2 := (show Hid _ from bt HBw.out hb2)
              have hown3 := owns_below HOWN.out HX2.out
              have hb3 := bt HB.out HX2.out
              clear hown2
              go_wp2_with (at_builtin; refine wpList_append_own _ rfl _ _ 22 rfl w1.heap.size 23 i0 (.slice none 0 0) 1 24 Try.underlying22 hif hz0 hz1 hz2 rfl (by decide) _ _ _ rfl (hown3.alloc _) ⟨_, 0, none⟩ 1 1 [.slice px n cx] rfl rfl (one_new _ _ _) (one_cellv rfl) M1.out (by omega) (by have := hb3.size; simp at *; omega) ?_; intro v' w4 hown' hgrow _)
              have hb4 := below_append (hb3.alloc hb3.size _) (by have := hb3.size; simp at *; omega) hgrow (hown3.alloc _) (Nat.le_refl _)
              rw [push_lv] at hown'
              have hR3 : Hid (∀ i, i < t + 1 → Br w4 ((fun i => if i = t then .slice px n cx else rows i) i) n (tur k a (k + m) F W d i)) := push_br (l := fun _ => n) (M := tur k a (k + m) F W d) hown3 hgrow (fun i hi => (hR.out i hi).below HX2.out) HI.out
              clear hown3 hgrow
              go_roundw
              case rel => exact ⟨t + 1, _, by omega, by go_num, hown', hR3, hb4⟩
              case measure => simp [intOf]; omega
      · have jt : (k : Int) ≤ (t : Int) := by omega
        have e7 : ((t : Int) == (a : Int)) = false := by simp; omega
        have SH := (show Hid _ from shares_core bF oF k cF t (fun t => t) wr hk (by omega) (by omega) (fun s hs => by omega) (fun i _ j _ h => h) (fun s hs => cell_below (HCF.out s hs) hb))
        clear hown hb
        go_wp2_with (go_at_call 39; refine SH.out.mono ?_; rintro e W0 ⟨rfl, hO0, hb0⟩; have gs : W0.cell? ⟨wr.heap.size, a, none⟩ = some (.int .i64 (el (shr (fun t => t) k t a))) := Ov.cell hO0 ha; have HBw := (show Hid _ from hb0); clear hO0 hb0 SH)
        have HWW : Hid (Below w.heap.size w W0) := bt HB1.out (bt HB.out HBw.out)
        obtain ⟨G, hG⟩ : ∃ G, wr.heap.size = G := ⟨_, rfl⟩
        have HWG : Hid (wr.heap.size = G) := hG
        clear hG gs
        rw [HWG.out]
        go_loopw [16, 17] (fun v i wr => ∃ j : Nat, j ≤ n ∧ i = .int .i64 j ∧ wr.ownsRow W0.heap.size 5 1 v j (lv (clE (tur k a (k + m) F W d t)) j) ∧ Below W0.heap.size W0 wr) (fun _ i _ => n - (intOf i).toNat)
        case atStart => exact ⟨0, Nat.zero_le _, rfl, lv_none _ _ _ _ _, Below.refl _ _⟩
        case round =>
          obtain ⟨j, hj, rfl, hown2, hb2⟩ := hrel
          by_cases hjn : j < n
          · have j2 : (j : Int) < (n : Int) := by omega
            obtain ⟨px, cx, ex, hx⟩ := nr_un (HNN.out t hlt)
            obtain ⟨bx, ox, epx, hcx⟩ := hx (by omega)
            subst epx
            obtain ⟨py, cy, ey, hy⟩ := nr_un (HNN.out a haN)
            obtain ⟨by', oy, epy, hcy⟩ := hy (by omega)
            subst epy
            obtain ⟨bd, od, epd, hcd⟩ := HDD.out (by omega)
            subst epd
            have c1 : w.cell? ⟨b, o + t, none⟩ = some (.slice (some ⟨bx, ox, none⟩) n cx) := by rw [HCN.out t hlt, ex]
            have c2 : w.cell? ⟨b, o + a, none⟩ = some (.slice (some ⟨by', oy, none⟩) n cy) := by rw [HCN.out a haN, ey]
            have c3 := hcx j hjn
            have c4 := hcy j hjn
            have c5 := hcd j hjn
            obtain ⟨z, hz⟩ : ∃ z, el (tur k a (k + m) F W d t j) = z := ⟨_, rfl⟩
            have hzb := el_bd (tur k a (k + m) F W d t j)
            have zw := wrap_el (tur k a (k + m) F W d t j)
            rw [hz] at hzb zw
            obtain ⟨hz3, hz4⟩ := hzb
            have HZ : Hid (el (tur k a (k + m) F W d t j) = z) := hz
            have x0 := wrap_el (W t j)
            have x1 := el_xor (W a j) (d j)
            have x3 := wrap_el (W a j ^^^ d j)
            have x2 : bits .xor .i64 (el (W t j)) (el (gm (shr (fun t => t) k t a) (W a j ^^^ d j))) = z := by rw [el_xorT, ← hz]; exact congrArg el (tur_par HF.out hkm ha (by omega) hlt j).symm
            have hbd := (show Hid _ from hb2.drew)
            have HWd : Hid (Below w.heap.size w wr.drew) := bt HWW.out hbd.out
            have KS := (show Hid (_ ∧ _ ∧ _ ∧ _ ∧ _) from ⟨cell_below c1 HWd.out, cell_below c2 HWd.out, cell_below c3 HWd.out, cell_below c4 HWd.out, cell_below c5 HWd.out⟩)
            have M2 : Hid (j + 1 ≤ maxLen) := by show _ ≤ _; unfold maxLen; omega
            have M3 : Hid (∀ o : Obj, W0.heap.size ≤ (wr.drew.alloc o).heap.size) := fun o => by have := hbd.out.size; simp at *; omega
            have HOW3 : Hid (wr.drew.ownsRow W0.heap.size 5 1 _ j (lv (clE (tur k a (k + m) F W d t)) j)) := owns_below hown2 (bdr wr)
            clear hz hown2 hb2 ex hx hcx ey hy hcy hcd c1 c2 c3 c4 c5
            go_wp2
            go_region_held3 (fun X => X.cell? ⟨b, o + t, none⟩ = some (.slice (some ⟨bx, ox, none⟩) n cx) ∧ X.cell? ⟨b, o + a, none⟩ = some (.slice (some ⟨by', oy, none⟩) n cy) ∧ X.cell? ⟨bx, ox + j, none⟩ = some (.int .u8 (el (W t j))) ∧ X.cell? ⟨by', oy + j, none⟩ = some (.int .u8 (el (W a j))) ∧ X.cell? ⟨bd, od + j, none⟩ = some (.int .u8 (el (d j)))) (first | exact KS.out | go_keep)
              (first | (go_at_call 40; refine (refTimes_any _ _ _).mono ?_; rintro e w' ⟨rfl, h⟩; obtain rfl := h.symm))
            all_goals
              have hown3 : wr.drew.ownsRow W0.heap.size 5 1 _ j (lv (clE (tur k a (k + m) F W d t)) j) := HOW3.out
              go_wp2_with (at_builtin; (refine wpList_append_own _ rfl _ _ 23 rfl W0.heap.size 5 i1 (.int .u8 0) 1 1 Try.underlying23 hif1 hz01 hz11 hz21 rfl (by decide) _ _ _ rfl (hown3.alloc _) ⟨_, 0, none⟩ 1 1 [.int .u8 z] rfl rfl (one_new _ _ _) (one_cellv rfl) M2.out (by omega) (M3.out _) ?_; intro v' w3 hown' hgrow _))
              have hb3 := below_append (hbd.out.alloc hbd.out.size _) (M3.out _) hgrow (hown3.alloc _) (Nat.le_refl _)
              rw [← HZ.out, lv_byte] at hown'
              clear hown3 hgrow
              go_roundw
              case rel => first | exact ⟨j + 1, by omega, by go_num, hown', hb3⟩ | exact ⟨_, _, ⟨j + 1, by omega, rfl, hown', hb3⟩, rfl, by go_num⟩ | ((repeat apply Exists.intro); exact ⟨⟨j + 1, by omega, by go_num, hown', hb3⟩, rfl⟩)
              case measure => simp [intOf]; omega
          · obtain rfl : n = j := by omega
            have HI : Hid (Br wr _ n (tur k a (k + m) F W d t)) := br_of hown2
            obtain ⟨px, cx, ex⟩ := HI.out.form
            subst ex
            have HX2 := (show Hid _ from bt HBw.out hb2)
            have hown3 := owns_below HOWN.out HX2.out
            have hb3 := bt HB.out HX2.out
            clear hown2
            go_wp2_with (at_builtin; refine wpList_append_own _ rfl _ _ 22 rfl w1.heap.size 23 i0 (.slice none 0 0) 1 24 Try.underlying22 hif hz0 hz1 hz2 rfl (by decide) _ _ _ rfl (hown3.alloc _) ⟨_, 0, none⟩ 1 1 [.slice px n cx] rfl rfl (one_new _ _ _) (one_cellv rfl) M1.out (by omega) (by have := hb3.size; simp at *; omega) ?_; intro v' w4 hown' hgrow _)
            have hb4 := below_append (hb3.alloc hb3.size _) (by have := hb3.size; simp at *; omega) hgrow (hown3.alloc _) (Nat.le_refl _)
            rw [push_lv] at hown'
            have hR3 : Hid (∀ i, i < t + 1 → Br w4 ((fun i => if i = t then .slice px n cx else rows i) i) n (tur k a (k + m) F W d i)) := push_br (l := fun _ => n) (M := tur k a (k + m) F W d) hown3 hgrow (fun i hi => (hR.out i hi).below HX2.out) HI.out
            clear hown3 hgrow
            go_roundw
            case rel => exact ⟨t + 1, _, by omega, by go_num, hown', hR3, hb4⟩
            case measure => simp [intOf]; omega
    · obtain rfl : t = k + m := by omega
      go_wp2
      go_ret2
      exact ⟨_, rfl, Bm.nm (L := fun _ => n) ⟨rows, hown, hR.out⟩, bt HB1.out hb⟩
end
end Go.Proofs.Ytienknoahjhopaa
