/-
  MatrixPoints: the walk.
-/
import Derived.Test.YtchmggehbajebabPtA
import Derived.Deep.RegionHeld3
namespace Go.Proofs.Ytchmggehbajebab
open Go.RowKit
theorem Jr.congr {w : World} {v : Value} {n : Nat} {f f' : Nat → Int} (h : Jr w v n f) (e : ∀ i, i < n → f i = f' i) : Jr w v n f' := Sv.congr h (fun i hi => by rw [e i hi])
section
attribute [local irreducible] Calls el nuE Im Jm Ir Jr ivs lv NmE NrE TrE GxE Has po mm dl sm fdE
set_option maxHeartbeats 16000000 in
set_option maxRecDepth 1000000 in
theorem matrixPoints_walk (fl n5 n6 : Int) (vA vB vAt vV : Value) (nA nV : Nat) (fA fV : Nat → Int) (hnA : nA ≤ 17592186044416) (hnV : nV ≤ 17592186044416) (w : World) (hAt : Jr w vAt nA fA) (hV : Jr w vV nV fV) :
    Calls Try.prog 4 #[.agg #[.int .i64 fl, vA, vB, vAt, vV, .int .i64 n5, .int .i64 n6]] w fun e w' => e = .returned (.bool true) ∧ Below w.heap.size w w' := by
  obtain ⟨pA, cA, eA, hcA⟩ := jr_at hAt
  subst eA
  obtain ⟨i1, hi1, hz01, hz11, hz21⟩ := info_parts infoI
  have hb0 : Below w.heap.size w (w.alloc (.cells #[.int .i64 fl, vA, vB, .slice pA nA cA, vV, .int .i64 n5, .int .i64 n6] 25)) := (Below.refl _ _).alloc (Nat.le_refl _) _
  have q3 := ask_cell w #[.int .i64 fl, vA, vB, .slice pA nA cA, vV, .int .i64 n5, .int .i64 n6] 25 3 (.slice pA nA cA) rfl
  have q4 := ask_cell w #[.int .i64 fl, vA, vB, .slice pA nA cA, vV, .int .i64 n5, .int .i64 n6] 25 4 vV rfl
  obtain ⟨W, hW⟩ : ∃ W, W = w.alloc (.cells #[.int .i64 fl, vA, vB, .slice pA nA cA, vV, .int .i64 n5, .int .i64 n6] 25) := ⟨_, rfl⟩
  rw [← hW] at hb0 q3 q4
  have HW : Hid (w.alloc (.cells #[.int .i64 fl, vA, vB, .slice pA nA cA, vV, .int .i64 n5, .int .i64 n6] 25) = W) := hW.symm
  have hV0 := (show Hid _ from hV.below hb0)
  have HCA := (show Hid _ from hcA)
  have HNV : Hid (nV ≤ 17592186044416) := hnV
  clear hW hV hAt hnV hcA
  go_enter Try.func4, Try.ntmps4
  go_wp2_with (first
    | (go_at_call 9; rw [HW.out]; refine (known_any _).mono ?_; rintro e w1 ⟨rfl, hb1⟩; have q31 := cell_below q3 hb1; have q41 := cell_below q4 hb1)
    | (go_at_call 14; refine (list_any (Jr.below hV0.out hb1) 256 (by omega) HNV.out).mono ?_; rintro e w2 ⟨v2, rfl, hI2, hb2⟩; have q32 := cell_below q31 hb2)
    | (go_at_call 19; refine (unlike_any (Ir.jr hI2) HNV.out).mono ?_; rintro e w3 ⟨v3, L, rfl, ho3, hND, hM, hb3⟩; have q33 := cell_below q32 hb3))
  have HND : Hid L.Nodup := hND
  have HR : Hid (∀ x, x ∈ L → 0 ≤ x ∧ x < 256) := fun x hx => by obtain ⟨i, _, e⟩ := hM x hx; omega
  have hL256 : L.length ≤ 256 := pigeon 256 L hND (fun x hx => HR.out x hx)
  obtain ⟨g, hg⟩ := nuE_list L HR.out
  have HGL : Hid (∀ j, j < L.length → nuE (g j) = L.getD j 0) := hg
  obtain ⟨p3, c3, e3⟩ := owns_form ho3
  subst e3
  have HO3 : Hid (World.ownsRow w3 w2.heap.size 3 1 (.slice p3 L.length c3) L.length (ivs L)) := ho3
  have hcap : L.length ≤ c3 := by
    by_cases h0 : L.length = 0
    · omega
    · obtain ⟨g9, cap9, e9, _, _, h9, _⟩ := owns_some ho3 (by omega)
      injection e9 with _ _ e9
      omega
  obtain ⟨q, hq⟩ : ∃ q, q = L.length := ⟨_, rfl⟩
  have HQ : Hid (q = L.length) := hq
  rw [← hq] at hL256 hcap
  rw [← hq]
  have HB3 := (show Hid _ from bt (bt (bt hb0 hb1) hb2) hb3)
  clear hND hM hg ho3 hq hI2 q31 q32 q41 q3 q4 hb0 hb1 hb2 hb3 hV0
  go_loopw [4, 5] (fun v i wr => ∃ k : Nat, k ≤ nA ∧ (q = 0 → k = 0) ∧ i = .int .i64 k ∧ wr.ownsRow w3.heap.size 3 1 v k (lv (fun j => .int .i64 (fA j % (q : Int))) k) ∧ Below w3.heap.size w3 wr) (fun _ i _ => nA - (intOf i).toNat)
  case atStart => exact ⟨0, Nat.zero_le _, fun _ => rfl, rfl, lv_none _ _ _ _ _, Below.refl _ _⟩
  case round =>
    obtain ⟨k, hk, hk0, rfl, hown, hb⟩ := hrel
    have g3 := cell_below q33 hb
    by_cases hlt : k < nA ∧ 0 < q
    · have j1 : (k : Int) < (nA : Int) := by omega
      have j2 : (0 : Int) < (q : Int) := by omega
      obtain ⟨bA, oA, eA, hc⟩ := HCA.out (by omega)
      subst eA
      have g4 := cell_below (cell_below (hc k hlt.1) HB3.out) hb
      have M1 : Hid (k + 1 ≤ maxLen) := by show _ ≤ _; unfold maxLen; omega
      have M2 : Hid (∀ o : Obj, w3.heap.size ≤ (wr.alloc o).heap.size) := fun o => by have := hb.size; simp; omega
      have LG := (show Hid _ from fun (w : World) => low_gen (s := (q : Int)) (fA k) (by omega) (by omega) w)
      clear hc
      go_wp2_with (first
        | (go_at_call 20; refine (LG.out _).mono ?_; rintro e w' ⟨rfl, h⟩; obtain rfl := h.symm)
        | (at_builtin; refine wpList_append_own _ rfl _ _ 23 rfl w3.heap.size 3 i1 (.int .i64 0) 1 8 Try.underlying23 hi1 hz01 hz11 hz21 rfl (by decide) _ _ _ rfl (hown.alloc _) ⟨wr.heap.size, 0, none⟩ 1 1 [.int .i64 (fA k % (q : Int))] rfl rfl (one_new _ _ _) (one_cellv rfl) M1.out (by omega) (M2.out _) ?_; intro v' w1 hown' hgrow _))
      rw [← lv_succ (fun j => .int .i64 (fA j % (q : Int))) k] at hown'
      have hb' := below_append (hb.alloc hb.size _) (M2.out _) hgrow (hown.alloc _) (Nat.le_refl _)
      clear hown hgrow g3 g4
      go_roundw
      case rel => exact ⟨k + 1, by omega, fun h => by omega, by go_num, hown', hb'⟩
      case measure => simp [intOf]; omega
    · have HL4 := (show Hid _ from own_ir hown)
      obtain ⟨p4, c4, e4⟩ := owns_form hown
      subst e4
      have UL := (show Hid _ from unlike_any (Ir.jr HL4.out) (by omega))
      have HB4 := (show Hid _ from bt HB3.out hb)
      have HO4 : Hid (World.ownsRow wr w2.heap.size 3 1 (.slice p3 L.length c3) L.length (ivs L)) := owns_below HO3.out hb
      have HXIT : Hid (¬ (k : Int) < (nA : Int) ∨ ((k : Int) < (nA : Int) ∧ ¬ (0 : Int) < (q : Int))) := by
        show _ ∨ _
        omega
      have HK0 : Hid (q = 0 → k = 0) := hk0
      clear hown hb HL4 hk0
      by_cases hq255 : q ≤ 255
      · have l1 : ¬ (255 : Int) < (q : Int) := by omega
        rcases HXIT.out with x1 | ⟨x1, x2⟩
        · go_wp2_with (go_at_call 19; refine UL.out.mono ?_; rintro e w5 ⟨v5, L2, rfl, ho5, hN2, hM5, hb5⟩; obtain ⟨p5, c5, e5⟩ := owns_form ho5; subst e5)
          have HN2 : Hid L2.Nodup := hN2
          have HPos : Hid (∀ j, j < L2.length → 0 ≤ L2.getD j 0) := fun j hj => by
            obtain ⟨i, hi, e⟩ := hM5 _ (getD_mem hj)
            have hq0 : q ≠ 0 := fun h => by have := HK0.out h; omega
            rw [← e]
            exact Int.emod_nonneg _ (by omega)
          obtain ⟨z2, hz2⟩ : ∃ z2 : Nat → Int, z2 = fun j => L2.getD j 0 := ⟨_, rfl⟩
          have HZ2 : Hid (z2 = fun j => L2.getD j 0) := hz2
          have HJ5 : Hid (Jr w5 (.slice p5 L2.length c5) L2.length z2) := by rw [hz2]; exact owns_jr ho5
          have hmb : L2.length ≤ 256 := by
            by_cases hq0 : q = 0
            · have hk1 := HK0.out hq0
              have : L2 = [] := List.eq_nil_iff_forall_not_mem.2 (fun x hx => by obtain ⟨i, hi, _⟩ := hM5 x hx; omega)
              rw [this]; exact Nat.zero_le _
            · have := pigeon q L2 hN2 (fun x hx => by obtain ⟨i, _, e⟩ := hM5 x hx; rw [← e]; exact ⟨Int.emod_nonneg _ (by omega), Int.emod_lt_of_pos _ (by omega)⟩)
              omega
          have HJ3 : Hid (Jr w5 (.slice p3 L.length c3) L.length (fun j => L.getD j 0)) := Jr.below (owns_jr HO4.out) hb5
          obtain ⟨m2, hm2⟩ : ∃ m2, m2 = L2.length := ⟨_, rfl⟩
          have HM2 : Hid (m2 = L2.length) := hm2
          have HC5 : Hid (0 < m2 → ∃ b o, p5 = some ⟨b, o, none⟩ ∧ ∀ i, i < L2.length → w5.cell? ⟨b, o + i, none⟩ = some (.int .i64 (z2 i))) := fun h0 => by
            obtain ⟨p', c', e', h'⟩ := jr_at HJ5.out
            injection e' with e'
            subst e'
            exact h' (by omega)
          rw [← HM2.out] at HJ5 hmb
          rw [← hm2]
          have HB5 := (show Hid _ from bt HB4.out hb5)
          clear hN2 hM5 ho5 hb5 hm2 UL hz2
          (try go_wp2)
          go_loop [6] (fun i => ∃ t : Nat, t ≤ m2 ∧ i = .int .i64 t ∧ Hid (∀ j, j < t → z2 j < (q : Int))) (fun i => m2 - (intOf i).toNat)
          case atStart => exact ⟨0, Nat.zero_le _, rfl, fun j hj => by omega⟩
          case round =>
            obtain ⟨t, ht, rfl, hlow⟩ := hrel
            by_cases hltt : t < m2
            · have k1 : (t : Int) < (m2 : Int) := by omega
              obtain ⟨b5, o5, e5, hc5⟩ := HC5.out (by omega)
              subst e5
              have g5 := hc5 t (by have := HM2.out; omega)
              by_cases hbig : z2 t < (q : Int)
              · have k2 : ¬ (q : Int) ≤ z2 t := by omega
                have hlow2 : Hid (∀ j, j < t + 1 → z2 j < (q : Int)) := fun j hj => by
                  by_cases e : j = t
                  · rw [e]; exact hbig
                  · exact hlow.out j (by omega)
                clear hbig hc5
                go_wp2
                go_round
                case rel => exact ⟨t + 1, by omega, by go_num, hlow2⟩
                case measure => simp [intOf]; omega
              · have k2 : (q : Int) ≤ z2 t := by omega
                clear hbig hc5
                go_wp2
                go_ret
                exact ⟨rfl, HB5.out⟩
            · obtain rfl : t = m2 := by omega
              have HF : Hid (∀ j, j < L2.length → 0 ≤ L2.getD j 0 ∧ L2.getD j 0 < (q : Int)) := fun j hj => ⟨HPos.out j hj, by have h := hlow.out j (by have := HM2.out; omega); rw [HZ2.out] at h; exact h⟩
              have hmq : t ≤ q := by
                have h := pigeon q L2 HN2.out (fun x hx => by
                  obtain ⟨i, hi, e⟩ := List.getElem_of_mem hx
                  have h2 := HF.out i hi
                  rw [List.getD_eq_getElem?_getD, List.getElem?_eq_getElem hi] at h2
                  have e2 : L2[i] = x := e
                  rw [← e2]; exact h2)
                have := HM2.out; omega
              have HX : Hid (∀ i, i < t → ∀ j, j < t → i ≠ j → g (z2 i).toNat ≠ g (z2 j).toNat) := fun i hi j hj => by rw [HZ2.out]; exact picked (q := q) HND.out HN2.out HGL.out (by have := HQ.out; omega) HF.out i (by have := HM2.out; omega) j (by have := HM2.out; omega)
              have HVJ : Hid (Jr w5 (.slice p3 q c3) q (fun j => nuE (g j))) := by
                have h := jr_cut HJ3.out (q := q) (by have := HQ.out; omega)
                exact Jr.congr h (fun j hj => (HGL.out j (by have := HQ.out; omega)).symm)
              have HF2 : Hid (∀ i, i < t → 0 ≤ z2 i ∧ z2 i < (q : Int)) := fun i hi => by rw [HZ2.out]; exact HF.out i (by have := HM2.out; omega)
              have HS : Hid (∀ y : Nat → BitVec 8, (∀ i, i < t → sm fdE (fun j => fdE.ti (po fdE (g (z2 i).toNat) j) (y j)) t = fdE.oo) → ∀ j, j < t → y j = fdE.oo) := vand_pts HX.out
              have hm255 : t ≤ 255 := by omega
              have z1 : ((t : Int) != (t : Int)) = false := by simp
              clear hlow HF HPos
              go_wp2_with (first
                | (go_at_call 22; refine (elems_any HVJ.out (by omega)).mono ?_; rintro e w6 ⟨v6, rfl, hT6, hb6⟩)
                | (go_at_call 23; refine (elem_one _).mono ?_; rintro e w' ⟨rfl, h⟩; obtain rfl := h.symm)
                | (go_at_call 21; refine (powers_pts (m := t) (TrE.nr hT6) (by omega) hm255).mono ?_; rintro e w7 ⟨v7, rfl, hN7, hb7⟩)
                | (go_at_call 24; refine (rows_pts hN7 (Jr.below HJ5.out (bt hb6 hb7)) (by omega) hmq HF2.out).mono ?_; rintro e w8 ⟨v8, rfl, hN8, hb8⟩)
                | (go_at_call 25; refine (rank_pts hN8 hm255 HS.out).mono ?_; rintro e w9 ⟨rfl, hHas, hb9⟩)
                | (go_at_call 26; refine (inverse_ok (NmE.below hN8 hb9) (sq2 t hm255) hHas).mono ?_; rintro e w10 ⟨v10, X, rfl, hG10, hx1, hx2, hb10⟩)
                | (go_at_call 27; refine (times_pts (NmE.below hN8 (bt hb9 hb10)) (GxE.nm hG10) hm255 hx2).mono ?_; rintro e w11 ⟨v11, rfl, hN11, hb11⟩)
                | (go_at_call 28; refine (intsE_any hN11 (by omega) (fun i _ => by omega)).mono ?_; rintro e w12 ⟨v12, rfl, hI12, hb12⟩; have hI12' := Im.congr hI12 (M' := fun i j => if i = j then 1 else 0) (fun i _ j _ => nu_dl i j))
                | (go_at_call 18; refine (lawUnit_core t (by omega) _).mono ?_; rintro e w13 ⟨v13, rfl, hI13, hb13⟩)
                | (go_at_call 17; refine (alike_any (Im.jm (Im.below hI12' hb13)) (Im.jm hI13) (by omega) (fun i _ => by omega)).mono ?_; rintro e w14 ⟨rfl, hb14⟩))
              go_ret
              exact ⟨rfl, bt HB5.out (bt (bt (bt (bt (bt (bt (bt (bt hb6 hb7) hb8) hb9) hb10) hb11) hb12) hb13) hb14)⟩
        · go_wp2_with (go_at_call 19; refine UL.out.mono ?_; rintro e w5 ⟨v5, L2, rfl, ho5, hN2, hM5, hb5⟩; obtain ⟨p5, c5, e5⟩ := owns_form ho5; subst e5)
          have HN2 : Hid L2.Nodup := hN2
          have HPos : Hid (∀ j, j < L2.length → 0 ≤ L2.getD j 0) := fun j hj => by
            obtain ⟨i, hi, e⟩ := hM5 _ (getD_mem hj)
            have hq0 : q ≠ 0 := fun h => by have := HK0.out h; omega
            rw [← e]
            exact Int.emod_nonneg _ (by omega)
          obtain ⟨z2, hz2⟩ : ∃ z2 : Nat → Int, z2 = fun j => L2.getD j 0 := ⟨_, rfl⟩
          have HZ2 : Hid (z2 = fun j => L2.getD j 0) := hz2
          have HJ5 : Hid (Jr w5 (.slice p5 L2.length c5) L2.length z2) := by rw [hz2]; exact owns_jr ho5
          have hmb : L2.length ≤ 256 := by
            by_cases hq0 : q = 0
            · have hk1 := HK0.out hq0
              have : L2 = [] := List.eq_nil_iff_forall_not_mem.2 (fun x hx => by obtain ⟨i, hi, _⟩ := hM5 x hx; omega)
              rw [this]; exact Nat.zero_le _
            · have := pigeon q L2 hN2 (fun x hx => by obtain ⟨i, _, e⟩ := hM5 x hx; rw [← e]; exact ⟨Int.emod_nonneg _ (by omega), Int.emod_lt_of_pos _ (by omega)⟩)
              omega
          have HJ3 : Hid (Jr w5 (.slice p3 L.length c3) L.length (fun j => L.getD j 0)) := Jr.below (owns_jr HO4.out) hb5
          obtain ⟨m2, hm2⟩ : ∃ m2, m2 = L2.length := ⟨_, rfl⟩
          have HM2 : Hid (m2 = L2.length) := hm2
          have HC5 : Hid (0 < m2 → ∃ b o, p5 = some ⟨b, o, none⟩ ∧ ∀ i, i < L2.length → w5.cell? ⟨b, o + i, none⟩ = some (.int .i64 (z2 i))) := fun h0 => by
            obtain ⟨p', c', e', h'⟩ := jr_at HJ5.out
            injection e' with e'
            subst e'
            exact h' (by omega)
          rw [← HM2.out] at HJ5 hmb
          rw [← hm2]
          have HB5 := (show Hid _ from bt HB4.out hb5)
          clear hN2 hM5 ho5 hb5 hm2 UL hz2
          (try go_wp2)
          go_loop [6] (fun i => ∃ t : Nat, t ≤ m2 ∧ i = .int .i64 t ∧ Hid (∀ j, j < t → z2 j < (q : Int))) (fun i => m2 - (intOf i).toNat)
          case atStart => exact ⟨0, Nat.zero_le _, rfl, fun j hj => by omega⟩
          case round =>
            obtain ⟨t, ht, rfl, hlow⟩ := hrel
            by_cases hltt : t < m2
            · have k1 : (t : Int) < (m2 : Int) := by omega
              obtain ⟨b5, o5, e5, hc5⟩ := HC5.out (by omega)
              subst e5
              have g5 := hc5 t (by have := HM2.out; omega)
              by_cases hbig : z2 t < (q : Int)
              · have k2 : ¬ (q : Int) ≤ z2 t := by omega
                have hlow2 : Hid (∀ j, j < t + 1 → z2 j < (q : Int)) := fun j hj => by
                  by_cases e : j = t
                  · rw [e]; exact hbig
                  · exact hlow.out j (by omega)
                clear hbig hc5
                go_wp2
                go_round
                case rel => exact ⟨t + 1, by omega, by go_num, hlow2⟩
                case measure => simp [intOf]; omega
              · have k2 : (q : Int) ≤ z2 t := by omega
                clear hbig hc5
                go_wp2
                go_ret
                exact ⟨rfl, HB5.out⟩
            · obtain rfl : t = m2 := by omega
              have HF : Hid (∀ j, j < L2.length → 0 ≤ L2.getD j 0 ∧ L2.getD j 0 < (q : Int)) := fun j hj => ⟨HPos.out j hj, by have h := hlow.out j (by have := HM2.out; omega); rw [HZ2.out] at h; exact h⟩
              have hmq : t ≤ q := by
                have h := pigeon q L2 HN2.out (fun x hx => by
                  obtain ⟨i, hi, e⟩ := List.getElem_of_mem hx
                  have h2 := HF.out i hi
                  rw [List.getD_eq_getElem?_getD, List.getElem?_eq_getElem hi] at h2
                  have e2 : L2[i] = x := e
                  rw [← e2]; exact h2)
                have := HM2.out; omega
              have HX : Hid (∀ i, i < t → ∀ j, j < t → i ≠ j → g (z2 i).toNat ≠ g (z2 j).toNat) := fun i hi j hj => by rw [HZ2.out]; exact picked (q := q) HND.out HN2.out HGL.out (by have := HQ.out; omega) HF.out i (by have := HM2.out; omega) j (by have := HM2.out; omega)
              have HVJ : Hid (Jr w5 (.slice p3 q c3) q (fun j => nuE (g j))) := by
                have h := jr_cut HJ3.out (q := q) (by have := HQ.out; omega)
                exact Jr.congr h (fun j hj => (HGL.out j (by have := HQ.out; omega)).symm)
              have HF2 : Hid (∀ i, i < t → 0 ≤ z2 i ∧ z2 i < (q : Int)) := fun i hi => by rw [HZ2.out]; exact HF.out i (by have := HM2.out; omega)
              have HS : Hid (∀ y : Nat → BitVec 8, (∀ i, i < t → sm fdE (fun j => fdE.ti (po fdE (g (z2 i).toNat) j) (y j)) t = fdE.oo) → ∀ j, j < t → y j = fdE.oo) := vand_pts HX.out
              have hm255 : t ≤ 255 := by omega
              have z1 : ((t : Int) != (t : Int)) = false := by simp
              clear hlow HF HPos
              go_wp2_with (first
                | (go_at_call 22; refine (elems_any HVJ.out (by omega)).mono ?_; rintro e w6 ⟨v6, rfl, hT6, hb6⟩)
                | (go_at_call 23; refine (elem_one _).mono ?_; rintro e w' ⟨rfl, h⟩; obtain rfl := h.symm)
                | (go_at_call 21; refine (powers_pts (m := t) (TrE.nr hT6) (by omega) hm255).mono ?_; rintro e w7 ⟨v7, rfl, hN7, hb7⟩)
                | (go_at_call 24; refine (rows_pts hN7 (Jr.below HJ5.out (bt hb6 hb7)) (by omega) hmq HF2.out).mono ?_; rintro e w8 ⟨v8, rfl, hN8, hb8⟩)
                | (go_at_call 25; refine (rank_pts hN8 hm255 HS.out).mono ?_; rintro e w9 ⟨rfl, hHas, hb9⟩)
                | (go_at_call 26; refine (inverse_ok (NmE.below hN8 hb9) (sq2 t hm255) hHas).mono ?_; rintro e w10 ⟨v10, X, rfl, hG10, hx1, hx2, hb10⟩)
                | (go_at_call 27; refine (times_pts (NmE.below hN8 (bt hb9 hb10)) (GxE.nm hG10) hm255 hx2).mono ?_; rintro e w11 ⟨v11, rfl, hN11, hb11⟩)
                | (go_at_call 28; refine (intsE_any hN11 (by omega) (fun i _ => by omega)).mono ?_; rintro e w12 ⟨v12, rfl, hI12, hb12⟩; have hI12' := Im.congr hI12 (M' := fun i j => if i = j then 1 else 0) (fun i _ j _ => nu_dl i j))
                | (go_at_call 18; refine (lawUnit_core t (by omega) _).mono ?_; rintro e w13 ⟨v13, rfl, hI13, hb13⟩)
                | (go_at_call 17; refine (alike_any (Im.jm (Im.below hI12' hb13)) (Im.jm hI13) (by omega) (fun i _ => by omega)).mono ?_; rintro e w14 ⟨rfl, hb14⟩))
              go_ret
              exact ⟨rfl, bt HB5.out (bt (bt (bt (bt (bt (bt (bt (bt hb6 hb7) hb8) hb9) hb10) hb11) hb12) hb13) hb14)⟩
      · have l1 : (255 : Int) < (q : Int) := by omega
        have l2 : (255 : Int) ≤ (c3 : Int) := by omega
        rcases HXIT.out with x1 | ⟨x1, x2⟩
        · go_wp2_with (go_at_call 19; refine UL.out.mono ?_; rintro e w5 ⟨v5, L2, rfl, ho5, hN2, hM5, hb5⟩; obtain ⟨p5, c5, e5⟩ := owns_form ho5; subst e5)
          have HN2 : Hid L2.Nodup := hN2
          have HPos : Hid (∀ j, j < L2.length → 0 ≤ L2.getD j 0) := fun j hj => by
            obtain ⟨i, hi, e⟩ := hM5 _ (getD_mem hj)
            have hq0 : q ≠ 0 := fun h => by have := HK0.out h; omega
            rw [← e]
            exact Int.emod_nonneg _ (by omega)
          obtain ⟨z2, hz2⟩ : ∃ z2 : Nat → Int, z2 = fun j => L2.getD j 0 := ⟨_, rfl⟩
          have HZ2 : Hid (z2 = fun j => L2.getD j 0) := hz2
          have HJ5 : Hid (Jr w5 (.slice p5 L2.length c5) L2.length z2) := by rw [hz2]; exact owns_jr ho5
          have hmb : L2.length ≤ 256 := by
            by_cases hq0 : q = 0
            · have hk1 := HK0.out hq0
              have : L2 = [] := List.eq_nil_iff_forall_not_mem.2 (fun x hx => by obtain ⟨i, hi, _⟩ := hM5 x hx; omega)
              rw [this]; exact Nat.zero_le _
            · have := pigeon q L2 hN2 (fun x hx => by obtain ⟨i, _, e⟩ := hM5 x hx; rw [← e]; exact ⟨Int.emod_nonneg _ (by omega), Int.emod_lt_of_pos _ (by omega)⟩)
              omega
          have HJ3 : Hid (Jr w5 (.slice p3 L.length c3) L.length (fun j => L.getD j 0)) := Jr.below (owns_jr HO4.out) hb5
          obtain ⟨m2, hm2⟩ : ∃ m2, m2 = L2.length := ⟨_, rfl⟩
          have HM2 : Hid (m2 = L2.length) := hm2
          have HC5 : Hid (0 < m2 → ∃ b o, p5 = some ⟨b, o, none⟩ ∧ ∀ i, i < L2.length → w5.cell? ⟨b, o + i, none⟩ = some (.int .i64 (z2 i))) := fun h0 => by
            obtain ⟨p', c', e', h'⟩ := jr_at HJ5.out
            injection e' with e'
            subst e'
            exact h' (by omega)
          rw [← HM2.out] at HJ5 hmb
          rw [← hm2]
          have HB5 := (show Hid _ from bt HB4.out hb5)
          clear hN2 hM5 ho5 hb5 hm2 UL hz2
          (try go_wp2)
          go_loop [6] (fun i => ∃ t : Nat, t ≤ m2 ∧ i = .int .i64 t ∧ Hid (∀ j, j < t → z2 j < (255 : Int))) (fun i => m2 - (intOf i).toNat)
          case atStart => exact ⟨0, Nat.zero_le _, rfl, fun j hj => by omega⟩
          case round =>
            obtain ⟨t, ht, rfl, hlow⟩ := hrel
            by_cases hltt : t < m2
            · have k1 : (t : Int) < (m2 : Int) := by omega
              obtain ⟨b5, o5, e5, hc5⟩ := HC5.out (by omega)
              subst e5
              have g5 := hc5 t (by have := HM2.out; omega)
              by_cases hbig : z2 t < (255 : Int)
              · have k2 : ¬ (255 : Int) ≤ z2 t := by omega
                have hlow2 : Hid (∀ j, j < t + 1 → z2 j < (255 : Int)) := fun j hj => by
                  by_cases e : j = t
                  · rw [e]; exact hbig
                  · exact hlow.out j (by omega)
                clear hbig hc5
                go_wp2
                go_round
                case rel => exact ⟨t + 1, by omega, by go_num, hlow2⟩
                case measure => simp [intOf]; omega
              · have k2 : (255 : Int) ≤ z2 t := by omega
                clear hbig hc5
                go_wp2
                go_ret
                exact ⟨rfl, HB5.out⟩
            · obtain rfl : t = m2 := by omega
              have HF : Hid (∀ j, j < L2.length → 0 ≤ L2.getD j 0 ∧ L2.getD j 0 < (255 : Int)) := fun j hj => ⟨HPos.out j hj, by have h := hlow.out j (by have := HM2.out; omega); rw [HZ2.out] at h; exact h⟩
              have hmq : t ≤ 255 := by
                have h := pigeon 255 L2 HN2.out (fun x hx => by
                  obtain ⟨i, hi, e⟩ := List.getElem_of_mem hx
                  have h2 := HF.out i hi
                  rw [List.getD_eq_getElem?_getD, List.getElem?_eq_getElem hi] at h2
                  have e2 : L2[i] = x := e
                  rw [← e2]; exact h2)
                have := HM2.out; omega
              have HX : Hid (∀ i, i < t → ∀ j, j < t → i ≠ j → g (z2 i).toNat ≠ g (z2 j).toNat) := fun i hi j hj => by rw [HZ2.out]; exact picked (q := 255) HND.out HN2.out HGL.out (by have := HQ.out; omega) HF.out i (by have := HM2.out; omega) j (by have := HM2.out; omega)
              have HVJ : Hid (Jr w5 (.slice p3 255 c3) 255 (fun j => nuE (g j))) := by
                have h := jr_cut HJ3.out (q := 255) (by have := HQ.out; omega)
                exact Jr.congr h (fun j hj => (HGL.out j (by have := HQ.out; omega)).symm)
              have HF2 : Hid (∀ i, i < t → 0 ≤ z2 i ∧ z2 i < (255 : Int)) := fun i hi => by rw [HZ2.out]; exact HF.out i (by have := HM2.out; omega)
              have HS : Hid (∀ y : Nat → BitVec 8, (∀ i, i < t → sm fdE (fun j => fdE.ti (po fdE (g (z2 i).toNat) j) (y j)) t = fdE.oo) → ∀ j, j < t → y j = fdE.oo) := vand_pts HX.out
              have hm255 : t ≤ 255 := by omega
              have z1 : ((t : Int) != (t : Int)) = false := by simp
              clear hlow HF HPos
              go_wp2_with (first
                | (go_at_call 22; refine (elems_any HVJ.out (by omega)).mono ?_; rintro e w6 ⟨v6, rfl, hT6, hb6⟩)
                | (go_at_call 23; refine (elem_one _).mono ?_; rintro e w' ⟨rfl, h⟩; obtain rfl := h.symm)
                | (go_at_call 21; refine (powers_pts (m := t) (TrE.nr hT6) (by omega) hm255).mono ?_; rintro e w7 ⟨v7, rfl, hN7, hb7⟩)
                | (go_at_call 24; refine (rows_pts hN7 (Jr.below HJ5.out (bt hb6 hb7)) (by omega) hmq HF2.out).mono ?_; rintro e w8 ⟨v8, rfl, hN8, hb8⟩)
                | (go_at_call 25; refine (rank_pts hN8 hm255 HS.out).mono ?_; rintro e w9 ⟨rfl, hHas, hb9⟩)
                | (go_at_call 26; refine (inverse_ok (NmE.below hN8 hb9) (sq2 t hm255) hHas).mono ?_; rintro e w10 ⟨v10, X, rfl, hG10, hx1, hx2, hb10⟩)
                | (go_at_call 27; refine (times_pts (NmE.below hN8 (bt hb9 hb10)) (GxE.nm hG10) hm255 hx2).mono ?_; rintro e w11 ⟨v11, rfl, hN11, hb11⟩)
                | (go_at_call 28; refine (intsE_any hN11 (by omega) (fun i _ => by omega)).mono ?_; rintro e w12 ⟨v12, rfl, hI12, hb12⟩; have hI12' := Im.congr hI12 (M' := fun i j => if i = j then 1 else 0) (fun i _ j _ => nu_dl i j))
                | (go_at_call 18; refine (lawUnit_core t (by omega) _).mono ?_; rintro e w13 ⟨v13, rfl, hI13, hb13⟩)
                | (go_at_call 17; refine (alike_any (Im.jm (Im.below hI12' hb13)) (Im.jm hI13) (by omega) (fun i _ => by omega)).mono ?_; rintro e w14 ⟨rfl, hb14⟩))
              go_ret
              exact ⟨rfl, bt HB5.out (bt (bt (bt (bt (bt (bt (bt (bt hb6 hb7) hb8) hb9) hb10) hb11) hb12) hb13) hb14)⟩
        · exact absurd (show (0 : Int) < (q : Int) by omega) x2
end
end Go.Proofs.Ytchmggehbajebab
