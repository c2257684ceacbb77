/-
  The document's 'Rebuild'.
-/
import Derived.Test.YtienknoahjhopaaRbl
import Derived.Test.YtienknoahjhopaaEnW
namespace Go.Proofs.Ytienknoahjhopaa
open Go.RowKit
theorem jr_at {w : World} {v : Value} {n : Nat} {f : Nat → Int} (h : Jr w v n f) (h0 : 0 < n) : ∃ b o c, v = .slice (some ⟨b, o, none⟩) n c ∧ ∀ i, i < n → w.cell? ⟨b, o + i, none⟩ = some (.int .i64 (f i)) := Sv.cells h h0
theorem there_lm {w' : World} {b : Nat} {v : Value} {L : Nat → Nat} {r : Nat} {rows : Nat → Value} {R : Nat → Nat → BitVec 8} (h : w'.ownsRow b 23 1 v (thr L r).length (gv rows (thr L r))) (hr : ∀ i, i < r → NrE w' (rows i) (L i) (R i)) : Lm w' v (thr L r).length (fun t => L (pk L r t)) := by
  rw [gv_lv] at h
  refine ⟨_, St.sv (owns_st1 h), fun i hi => ?_⟩
  have hm := pk_mem hi
  obtain ⟨p, c, e, _⟩ := nr_un (hr (pk L r i) hm.1)
  exact ⟨p, c, e⟩
theorem thr_pk {L : Nat → Nat} {r i : Nat} (hi : i < r) (hp : 0 < L i) : ∃ t, t < (thr L r).length ∧ pk L r t = i := by
  obtain ⟨t, ht, e⟩ := List.getElem_of_mem (thr_mem.2 ⟨hi, hp⟩)
  refine ⟨t, ht, ?_⟩
  unfold pk
  rw [List.getD_eq_getElem?_getD, List.getElem?_eq_getElem ht]
  exact e
section
attribute [local irreducible] Calls NmE NrE Cd Fac mm acc shr Lm thr pvs gv pk Jr
set_option maxHeartbeats 4000000 in
set_option maxRecDepth 1000000 in
theorem refRebuild_rows (p : Option Addr) (r c k m : Nat) (w : World) (hkm : k + m ≤ 255) (h : ¬ r = k + m) : Calls Try.prog 11 #[.int .i64 (k : Int), .int .i64 (m : Int), .slice p r c] w fun e w' => e = .returned (.tuple #[.slice none 0 0, .int .i64 40]) ∧ w' = w := by
  have e2 : wrap64 ((k : Int) + (m : Int)) = (k : Int) + (m : Int) := by unfold wrap64; omega
  have e1 : ((r : Int) != (k : Int) + (m : Int)) = true := by simp; omega
  go_enter Try.func11, Try.ntmps11
  go_wp2
  go_ret2
  exact ⟨rfl, rfl⟩
set_option maxHeartbeats 8000000 in
set_option maxRecDepth 1000000 in
theorem refRebuild_uneven (p : Option Addr) (k m c : Nat) (L : Nat → Nat) (R : Nat → Nat → BitVec 8) (w : World) (hk : 1 ≤ k) (hkm : k + m ≤ 255) (HN : Hid (NmE w (.slice p (k + m) c) (k + m) L R)) (hbad : ¬ ∀ t, t < (thr L (k + m)).length → L (pk L (k + m) t) = L (pk L (k + m) 0)) : Calls Try.prog 11 #[.int .i64 (k : Int), .int .i64 (m : Int), .slice p (k + m) c] w fun e w' => e = .returned (.tuple #[.slice none 0 0, .int .i64 41]) ∧ Below w.heap.size w w' := by
  have e2 : wrap64 ((k : Int) + (m : Int)) = (k : Int) + (m : Int) := by unfold wrap64; omega
  have e1 : ((k : Int) + (m : Int) != (k : Int) + (m : Int)) = false := by simp
  obtain ⟨i0, hi0, hz0, hz1, hz2⟩ := info_parts infoY
  obtain ⟨i1, hi1, hz01, hz11, hz21⟩ := info_parts infoI
  obtain ⟨b, o, rows, ep, hc, hn⟩ := nm_at HN.out (by omega)
  subst ep
  have HC := (show Hid _ from hc)
  have HNN := (show Hid _ from hn)
  obtain ⟨r, hre⟩ : ∃ r, k + m = r := ⟨_, rfl⟩
  have HRE : Hid (k + m = r) := hre
  have hr255 : r ≤ 255 := by omega
  have e3 : ((r : Int) != (k : Int) + (m : Int)) = false := by rw [← hre]; simp
  rw [hre] at HC HNN hbad ⊢
  clear hc hn hre e1
  go_enter Try.func11, Try.ntmps11
  go_wp2
  go_loopw [8, 9, 10] (fun v1 v2 i wr => ∃ t : Nat, t ≤ r ∧ i = .int .i64 t ∧ wr.ownsRow w.heap.size 3 1 v1 (thr L t).length (pvs (thr L t)) ∧ wr.ownsRow w.heap.size 23 1 v2 (thr L t).length (gv rows (thr L t)) ∧ Below w.heap.size w wr) (fun _ _ i _ => r - (intOf i).toNat)
  case atStart => exact ⟨0, Nat.zero_le _, rfl, by unfold thr pvs; exact World.ownsRow_nil _ _ _ _, by unfold thr gv; exact World.ownsRow_nil _ _ _ _, Below.refl _ _⟩
  case round =>
    obtain ⟨t, ht, rfl, ho1, ho2, hb⟩ := hrel
    by_cases hlt : t < r
    · have j1 : (t : Int) < (r : Int) := by omega
      obtain ⟨pr, cr, er, _⟩ := nr_un (HNN.out t hlt)
      have g0 := HC.out t hlt
      rw [er] at g0
      have g1 := cell_below g0 hb
      have hlen := thr_len L t
      by_cases hp : 0 < L t
      · have j2 : (0 : Int) < (L t : Int) := by omega
        have M1 : Hid ((thr L t).length + 1 ≤ maxLen) := by show _ ≤ _; unfold maxLen; omega
        have M3 : Hid (∀ o : Obj, w.heap.size ≤ (wr.alloc o).heap.size) := fun o => by have := hb.size; simp; omega
        have AL : Hid (∀ X, (wr.alloc (.cells #[.int .i64 (t : Int)] 3)).grownBy X (Value.ownBlock _) → X.cell? ⟨b, o + t, none⟩ = some (.slice pr (L t) cr)) := fun X hX => cell_below g0 (below_append (hb.alloc hb.size _) (M3.out _) hX (ho1.alloc _) (Nat.le_refl _))
        go_wp2_with (first
          | (at_builtin; refine wpList_append_own _ rfl _ _ 47 rfl w.heap.size 3 i1 (.int .i64 0) 1 8 Try.underlying47 hi1 hz01 hz11 hz21 rfl (by decide) _ _ _ rfl (ho1.alloc _) ⟨wr.heap.size, 0, none⟩ 1 1 [.int .i64 (t : Int)] rfl rfl (one_new _ _ _) (one_cellv rfl) M1.out (by omega) (M3.out _) ?_; intro v1' w2 ho1' hg1 _; have g2 := AL.out w2 hg1; have ho2' := owns_other (ho2.alloc _) (ho1.alloc _) hg1 (by decide); have SZ : Hid (w.heap.size ≤ w2.heap.size) := Nat.le_trans (M3.out (.cells #[.int .i64 (t : Int)] 3)) hg1.size)
          | (at_builtin; refine wpList_append_own _ rfl _ _ 22 rfl w.heap.size 23 i0 (.slice none 0 0) 1 24 Try.underlying22 hi0 hz0 hz1 hz2 rfl (by decide) _ _ _ rfl (ho2'.alloc _) ⟨w2.heap.size, 0, none⟩ 1 1 [.slice pr (L t) cr] rfl rfl (one_new _ _ _) (one_cellv rfl) M1.out (by omega) (by have := SZ.out; simp at *; omega) ?_; intro v2' w3 ho2'' hg2 _))
        have hb2 := below_append (hb.alloc hb.size _) (M3.out _) hg1 (ho1.alloc _) (Nat.le_refl _)
        have hb3 := below_append (hb2.alloc SZ.out _) (by have := SZ.out; simp at *; omega) hg2 (ho2'.alloc _) (Nat.le_refl _)
        have ho1'' := owns_other (ho1'.alloc _) (ho2'.alloc _) hg2 (by decide)
        have hl2 : (thr L t).length + 1 = (thr L (t + 1)).length := by rw [thr_pos hp]; simp
        rw [pvs_app, ← thr_pos hp, hl2] at ho1''
        rw [← er, gv_app, ← thr_pos hp, hl2] at ho2''
        clear ho1 ho2 hg1 hg2 ho1' ho2' g1 g2
        go_roundw
        case rel => first | exact ⟨t + 1, by omega, by go_num, ho1'', ho2'', hb3⟩ | ((repeat apply Exists.intro); exact ⟨⟨t + 1, by omega, by go_num, ho1'', ho2'', hb3⟩, rfl⟩)
        case measure => simp [intOf]; omega
      · have j2 : ¬ (0 : Int) < (L t : Int) := by omega
        rw [← thr_neg hp] at ho1 ho2
        go_wp2
        go_roundw
        case rel => exact ⟨t + 1, by omega, by go_num, ho1, ho2, hb⟩
        case measure => simp [intOf]; omega
    · obtain rfl : r = t := by omega
      obtain ⟨q, hq⟩ : ∃ q, (thr L r).length = q := ⟨_, rfl⟩
      obtain ⟨p1, k1, f1, hc1⟩ := own_form ho1
      obtain ⟨p2, k2, f2, hc2⟩ := own_form ho2
      subst f1 f2
      have HLM := (show Hid _ from there_lm ho2 (fun i hi => NrE.below (HNN.out i hi) hb))
      have HO1 := (show Hid _ from ho1)
      have HO2 := (show Hid _ from ho2)
      have HQ : Hid ((thr L r).length = q) := hq
      rw [hq] at HLM hc1 hc2 ⊢
      clear ho1 ho2
      rw [hq] at hbad
      clear hq
      have q0 : 0 < q := by
        rcases Nat.eq_zero_or_pos q with h | h
        · exact absurd (fun t ht => by omega) hbad
        · exact h
      obtain ⟨b3, o3, c3, pp, cc, e4, hc3⟩ := Lm.cells HLM.out q0
      injection e4 with e4 _ e5
      subst e4 e5
      have g0 : wr.cell? ⟨b3, o3, none⟩ = some (.slice (pp 0) (L (pk L r 0)) (cc 0)) := hc3 0 q0
      have ON := (show Hid _ from one_any (some ⟨b3, o3, none⟩) q k2 (L (pk L r 0)) (fun t => L (pk L r t)) wr (by have := hc2; have := thr_len L r; have := HQ.out; omega) HLM)
      have HB := (show Hid _ from hbad)
      have d1 : decide (0 < q) = true := decide_eq_true q0
      have d2 : (0 : Int) < (q : Int) := by omega
      have d3 : decide ((0 : Int) < (q : Int)) = true := decide_eq_true d2
      clear hc3 hbad
      go_wp2_with (go_at_call 28; refine ON.out.mono ?_; rintro e w' ⟨ha, h⟩; obtain rfl := h.symm; obtain rfl := ans_f ha HB.out; clear ha)
      go_ret2
      exact ⟨rfl, hb⟩
set_option maxHeartbeats 8000000 in
set_option maxRecDepth 1000000 in
theorem refRebuild_few (p : Option Addr) (k m c : Nat) (L : Nat → Nat) (R : Nat → Nat → BitVec 8) (w : World) (hk : 1 ≤ k) (hkm : k + m ≤ 255) (HN : Hid (NmE w (.slice p (k + m) c) (k + m) L R)) (hev : ∀ t, t < (thr L (k + m)).length → L (pk L (k + m) t) = L (pk L (k + m) 0)) (hfew : (thr L (k + m)).length < k) : Calls Try.prog 11 #[.int .i64 (k : Int), .int .i64 (m : Int), .slice p (k + m) c] w fun e w' => e = .returned (.tuple #[.slice none 0 0, .int .i64 42]) ∧ Below w.heap.size w w' := by
  have e2 : wrap64 ((k : Int) + (m : Int)) = (k : Int) + (m : Int) := by unfold wrap64; omega
  have e1 : ((k : Int) + (m : Int) != (k : Int) + (m : Int)) = false := by simp
  obtain ⟨i0, hi0, hz0, hz1, hz2⟩ := info_parts infoY
  obtain ⟨i1, hi1, hz01, hz11, hz21⟩ := info_parts infoI
  obtain ⟨b, o, rows, ep, hc, hn⟩ := nm_at HN.out (by omega)
  subst ep
  have HC := (show Hid _ from hc)
  have HNN := (show Hid _ from hn)
  obtain ⟨r, hre⟩ : ∃ r, k + m = r := ⟨_, rfl⟩
  have HRE : Hid (k + m = r) := hre
  have hr255 : r ≤ 255 := by omega
  have e3 : ((r : Int) != (k : Int) + (m : Int)) = false := by rw [← hre]; simp
  rw [hre] at HC HNN hev hfew ⊢
  clear hc hn hre e1
  go_enter Try.func11, Try.ntmps11
  go_wp2
  go_loopw [8, 9, 10] (fun v1 v2 i wr => ∃ t : Nat, t ≤ r ∧ i = .int .i64 t ∧ wr.ownsRow w.heap.size 3 1 v1 (thr L t).length (pvs (thr L t)) ∧ wr.ownsRow w.heap.size 23 1 v2 (thr L t).length (gv rows (thr L t)) ∧ Below w.heap.size w wr) (fun _ _ i _ => r - (intOf i).toNat)
  case atStart => exact ⟨0, Nat.zero_le _, rfl, by unfold thr pvs; exact World.ownsRow_nil _ _ _ _, by unfold thr gv; exact World.ownsRow_nil _ _ _ _, Below.refl _ _⟩
  case round =>
    obtain ⟨t, ht, rfl, ho1, ho2, hb⟩ := hrel
    by_cases hlt : t < r
    · have j1 : (t : Int) < (r : Int) := by omega
      obtain ⟨pr, cr, er, _⟩ := nr_un (HNN.out t hlt)
      have g0 := HC.out t hlt
      rw [er] at g0
      have g1 := cell_below g0 hb
      have hlen := thr_len L t
      by_cases hp : 0 < L t
      · have j2 : (0 : Int) < (L t : Int) := by omega
        have M1 : Hid ((thr L t).length + 1 ≤ maxLen) := by show _ ≤ _; unfold maxLen; omega
        have M3 : Hid (∀ o : Obj, w.heap.size ≤ (wr.alloc o).heap.size) := fun o => by have := hb.size; simp; omega
        have AL : Hid (∀ X, (wr.alloc (.cells #[.int .i64 (t : Int)] 3)).grownBy X (Value.ownBlock _) → X.cell? ⟨b, o + t, none⟩ = some (.slice pr (L t) cr)) := fun X hX => cell_below g0 (below_append (hb.alloc hb.size _) (M3.out _) hX (ho1.alloc _) (Nat.le_refl _))
        go_wp2_with (first
          | (at_builtin; refine wpList_append_own _ rfl _ _ 47 rfl w.heap.size 3 i1 (.int .i64 0) 1 8 Try.underlying47 hi1 hz01 hz11 hz21 rfl (by decide) _ _ _ rfl (ho1.alloc _) ⟨wr.heap.size, 0, none⟩ 1 1 [.int .i64 (t : Int)] rfl rfl (one_new _ _ _) (one_cellv rfl) M1.out (by omega) (M3.out _) ?_; intro v1' w2 ho1' hg1 _; have g2 := AL.out w2 hg1; have ho2' := owns_other (ho2.alloc _) (ho1.alloc _) hg1 (by decide); have SZ : Hid (w.heap.size ≤ w2.heap.size) := Nat.le_trans (M3.out (.cells #[.int .i64 (t : Int)] 3)) hg1.size)
          | (at_builtin; refine wpList_append_own _ rfl _ _ 22 rfl w.heap.size 23 i0 (.slice none 0 0) 1 24 Try.underlying22 hi0 hz0 hz1 hz2 rfl (by decide) _ _ _ rfl (ho2'.alloc _) ⟨w2.heap.size, 0, none⟩ 1 1 [.slice pr (L t) cr] rfl rfl (one_new _ _ _) (one_cellv rfl) M1.out (by omega) (by have := SZ.out; simp at *; omega) ?_; intro v2' w3 ho2'' hg2 _))
        have hb2 := below_append (hb.alloc hb.size _) (M3.out _) hg1 (ho1.alloc _) (Nat.le_refl _)
        have hb3 := below_append (hb2.alloc SZ.out _) (by have := SZ.out; simp at *; omega) hg2 (ho2'.alloc _) (Nat.le_refl _)
        have ho1'' := owns_other (ho1'.alloc _) (ho2'.alloc _) hg2 (by decide)
        have hl2 : (thr L t).length + 1 = (thr L (t + 1)).length := by rw [thr_pos hp]; simp
        rw [pvs_app, ← thr_pos hp, hl2] at ho1''
        rw [← er, gv_app, ← thr_pos hp, hl2] at ho2''
        clear ho1 ho2 hg1 hg2 ho1' ho2' g1 g2
        go_roundw
        case rel => first | exact ⟨t + 1, by omega, by go_num, ho1'', ho2'', hb3⟩ | ((repeat apply Exists.intro); exact ⟨⟨t + 1, by omega, by go_num, ho1'', ho2'', hb3⟩, rfl⟩)
        case measure => simp [intOf]; omega
      · have j2 : ¬ (0 : Int) < (L t : Int) := by omega
        rw [← thr_neg hp] at ho1 ho2
        go_wp2
        go_roundw
        case rel => exact ⟨t + 1, by omega, by go_num, ho1, ho2, hb⟩
        case measure => simp [intOf]; omega
    · obtain rfl : r = t := by omega
      obtain ⟨q, hq⟩ : ∃ q, (thr L r).length = q := ⟨_, rfl⟩
      obtain ⟨p1, k1, f1, hc1⟩ := own_form ho1
      obtain ⟨p2, k2, f2, hc2⟩ := own_form ho2
      subst f1 f2
      have HLM := (show Hid _ from there_lm ho2 (fun i hi => NrE.below (HNN.out i hi) hb))
      have HO1 := (show Hid _ from ho1)
      have HO2 := (show Hid _ from ho2)
      have HQ : Hid ((thr L r).length = q) := hq
      rw [hq] at HLM hc1 hc2 ⊢
      clear ho1 ho2
      rw [hq] at hev hfew
      clear hq
      have j3 : (q : Int) < (k : Int) := by omega
      have HE := (show Hid _ from hev)
      clear hev
      by_cases q0 : 0 < q
      · obtain ⟨b3, o3, c3, pp, cc, e4, hc3⟩ := Lm.cells HLM.out q0
        injection e4 with e4 _ e5
        subst e4 e5
        have g0 : wr.cell? ⟨b3, o3, none⟩ = some (.slice (pp 0) (L (pk L r 0)) (cc 0)) := hc3 0 q0
        have ON := (show Hid _ from one_any (some ⟨b3, o3, none⟩) q k2 (L (pk L r 0)) (fun t => L (pk L r t)) wr (by omega) HLM)
        have d1 : decide (0 < q) = true := decide_eq_true q0
        have d2 : (0 : Int) < (q : Int) := by omega
        have d3 : decide ((0 : Int) < (q : Int)) = true := decide_eq_true d2
        clear hc3
        go_wp2_with (go_at_call 28; refine ON.out.mono ?_; rintro e w' ⟨ha, h⟩; obtain rfl := h.symm; obtain rfl := ans_t ha HE.out; clear ha)
        go_ret2
        exact ⟨rfl, hb⟩
      · obtain rfl : q = 0 := by omega
        go_wp2
        go_ret2
        exact ⟨rfl, hb⟩
set_option maxHeartbeats 16000000 in
set_option maxRecDepth 1000000 in
theorem refRebuild_ok (p : Option Addr) (k m c n : Nat) (L : Nat → Nat) (R : Nat → Nat → BitVec 8) (w : World) (hk : 1 ≤ k) (hkm : k + m ≤ 255) (hnb : n ≤ 140737488355328) (HN : Hid (NmE w (.slice p (k + m) c) (k + m) L R)) (hev : ∀ t, t < (thr L (k + m)).length → L (pk L (k + m) t) = L (pk L (k + m) 0)) (hn0 : L (pk L (k + m) 0) = n) (hfew : ¬ (thr L (k + m)).length < k) : Calls Try.prog 11 #[.int .i64 (k : Int), .int .i64 (m : Int), .slice p (k + m) c] w fun e w' => ∃ v, e = .returned (.tuple #[v, .int .i64 0]) ∧ NmE w' v (k + m) (fun _ => n) (fun i x => acc (shr (pk L (k + m)) k) (fun t => R (pk L (k + m) t)) i k x) ∧ Below w.heap.size w w' := by
  have e2 : wrap64 ((k : Int) + (m : Int)) = (k : Int) + (m : Int) := by unfold wrap64; omega
  have e1 : ((k : Int) + (m : Int) != (k : Int) + (m : Int)) = false := by simp
  obtain ⟨i0, hi0, hz0, hz1, hz2⟩ := info_parts infoY
  obtain ⟨i1, hi1, hz01, hz11, hz21⟩ := info_parts infoI
  obtain ⟨b, o, rows, ep, hc, hn⟩ := nm_at HN.out (by omega)
  subst ep
  have HC := (show Hid _ from hc)
  have HNN := (show Hid _ from hn)
  obtain ⟨r, hre⟩ : ∃ r, k + m = r := ⟨_, rfl⟩
  have HRE : Hid (k + m = r) := hre
  have hr255 : r ≤ 255 := by omega
  have e3 : ((r : Int) != (k : Int) + (m : Int)) = false := by rw [← hre]; simp
  rw [hre] at HC HNN hev hn0 hfew ⊢
  clear hc hn hre e1
  go_enter Try.func11, Try.ntmps11
  go_wp2
  go_loopw [8, 9, 10] (fun v1 v2 i wr => ∃ t : Nat, t ≤ r ∧ i = .int .i64 t ∧ wr.ownsRow w.heap.size 3 1 v1 (thr L t).length (pvs (thr L t)) ∧ wr.ownsRow w.heap.size 23 1 v2 (thr L t).length (gv rows (thr L t)) ∧ Below w.heap.size w wr) (fun _ _ i _ => r - (intOf i).toNat)
  case atStart => exact ⟨0, Nat.zero_le _, rfl, by unfold thr pvs; exact World.ownsRow_nil _ _ _ _, by unfold thr gv; exact World.ownsRow_nil _ _ _ _, Below.refl _ _⟩
  case round =>
    obtain ⟨t, ht, rfl, ho1, ho2, hb⟩ := hrel
    by_cases hlt : t < r
    · have j1 : (t : Int) < (r : Int) := by omega
      obtain ⟨pr, cr, er, _⟩ := nr_un (HNN.out t hlt)
      have g0 := HC.out t hlt
      rw [er] at g0
      have g1 := cell_below g0 hb
      have hlen := thr_len L t
      by_cases hp : 0 < L t
      · have j2 : (0 : Int) < (L t : Int) := by omega
        have M1 : Hid ((thr L t).length + 1 ≤ maxLen) := by show _ ≤ _; unfold maxLen; omega
        have M3 : Hid (∀ o : Obj, w.heap.size ≤ (wr.alloc o).heap.size) := fun o => by have := hb.size; simp; omega
        have AL : Hid (∀ X, (wr.alloc (.cells #[.int .i64 (t : Int)] 3)).grownBy X (Value.ownBlock _) → X.cell? ⟨b, o + t, none⟩ = some (.slice pr (L t) cr)) := fun X hX => cell_below g0 (below_append (hb.alloc hb.size _) (M3.out _) hX (ho1.alloc _) (Nat.le_refl _))
        go_wp2_with (first
          | (at_builtin; refine wpList_append_own _ rfl _ _ 47 rfl w.heap.size 3 i1 (.int .i64 0) 1 8 Try.underlying47 hi1 hz01 hz11 hz21 rfl (by decide) _ _ _ rfl (ho1.alloc _) ⟨wr.heap.size, 0, none⟩ 1 1 [.int .i64 (t : Int)] rfl rfl (one_new _ _ _) (one_cellv rfl) M1.out (by omega) (M3.out _) ?_; intro v1' w2 ho1' hg1 _; have g2 := AL.out w2 hg1; have ho2' := owns_other (ho2.alloc _) (ho1.alloc _) hg1 (by decide); have SZ : Hid (w.heap.size ≤ w2.heap.size) := Nat.le_trans (M3.out (.cells #[.int .i64 (t : Int)] 3)) hg1.size)
          | (at_builtin; refine wpList_append_own _ rfl _ _ 22 rfl w.heap.size 23 i0 (.slice none 0 0) 1 24 Try.underlying22 hi0 hz0 hz1 hz2 rfl (by decide) _ _ _ rfl (ho2'.alloc _) ⟨w2.heap.size, 0, none⟩ 1 1 [.slice pr (L t) cr] rfl rfl (one_new _ _ _) (one_cellv rfl) M1.out (by omega) (by have := SZ.out; simp at *; omega) ?_; intro v2' w3 ho2'' hg2 _))
        have hb2 := below_append (hb.alloc hb.size _) (M3.out _) hg1 (ho1.alloc _) (Nat.le_refl _)
        have hb3 := below_append (hb2.alloc SZ.out _) (by have := SZ.out; simp at *; omega) hg2 (ho2'.alloc _) (Nat.le_refl _)
        have ho1'' := owns_other (ho1'.alloc _) (ho2'.alloc _) hg2 (by decide)
        have hl2 : (thr L t).length + 1 = (thr L (t + 1)).length := by rw [thr_pos hp]; simp
        rw [pvs_app, ← thr_pos hp, hl2] at ho1''
        rw [← er, gv_app, ← thr_pos hp, hl2] at ho2''
        clear ho1 ho2 hg1 hg2 ho1' ho2' g1 g2
        go_roundw
        case rel => first | exact ⟨t + 1, by omega, by go_num, ho1'', ho2'', hb3⟩ | ((repeat apply Exists.intro); exact ⟨⟨t + 1, by omega, by go_num, ho1'', ho2'', hb3⟩, rfl⟩)
        case measure => simp [intOf]; omega
      · have j2 : ¬ (0 : Int) < (L t : Int) := by omega
        rw [← thr_neg hp] at ho1 ho2
        go_wp2
        go_roundw
        case rel => exact ⟨t + 1, by omega, by go_num, ho1, ho2, hb⟩
        case measure => simp [intOf]; omega
    · obtain rfl : r = t := by omega
      obtain ⟨q, hq⟩ : ∃ q, (thr L r).length = q := ⟨_, rfl⟩
      obtain ⟨p1, k1, f1, hc1⟩ := own_form ho1
      obtain ⟨p2, k2, f2, hc2⟩ := own_form ho2
      subst f1 f2
      have HLM := (show Hid _ from there_lm ho2 (fun i hi => NrE.below (HNN.out i hi) hb))
      have HO1 := (show Hid _ from ho1)
      have HO2 := (show Hid _ from ho2)
      have HQ : Hid ((thr L r).length = q) := hq
      rw [hq] at HLM hc1 hc2 ⊢
      clear ho1 ho2
      rw [hq] at hev hfew
      clear hq
      have q0 : 0 < q := by omega
      have j3 : ¬ (q : Int) < (k : Int) := by omega
      obtain ⟨b3, o3, c3, pp, cc, e4, hc3⟩ := Lm.cells HLM.out q0
      injection e4 with e4 _ e5
      subst e4 e5
      have g0 : wr.cell? ⟨b3, o3, none⟩ = some (.slice (pp 0) (L (pk L r 0)) (cc 0)) := hc3 0 q0
      have ON := (show Hid _ from one_any (some ⟨b3, o3, none⟩) q k2 (L (pk L r 0)) (fun t => L (pk L r t)) wr (by have := thr_len L r; have := HQ.out; omega) HLM)
      have d1 : decide (0 < q) = true := decide_eq_true q0
      have d2 : (0 : Int) < (q : Int) := by omega
      have d3 : decide ((0 : Int) < (q : Int)) = true := decide_eq_true d2
      have HE := (show Hid _ from hev)
      have HLN : Hid (∀ i, i < r → 0 < L i → L i = n) := fun i hi hp => by
        obtain ⟨t, ht, e⟩ := thr_pk hi hp
        rw [← e, HE.out t (by have := HQ.out; omega), hn0]
      have HT := (show Hid _ from there_nm HO2.out HNN.out hb HLN.out)
      have HJ := (show Hid _ from pls_jr HO1.out)
      rw [HQ.out] at HT HJ
      obtain ⟨b5, o5, c5, e6, hc5⟩ := jr_at HJ.out q0
      injection e6 with e6 _ e7
      subst e6 e7
      have HC5 := (show Hid _ from hc5)
      have SP := (show Hid _ from fun (X : World) (hX : Below wr.heap.size wr X) => spread_core b5 o5 k k1 k2 n r (some ⟨b3, o3, none⟩) (pk L r) (fun t => R (pk L r t)) X hk (by omega) (by have := HRE.out; omega) hr255 hnb (fun t ht => by have := (pk_mem (L := L) (r := r) (t := t) (by have := HQ.out; omega)).1; omega) (fun i hi j hj hne => pk_ne (by have := HQ.out; omega) (by have := HQ.out; omega) hne) (fun t ht => cell_below (HC5.out t (by omega)) hX) (nm_cut (NmE.below HT.out hX) (by omega)))
      have s1 : (k : Int) ≤ (k1 : Int) := by omega
      have s2 : (k : Int) ≤ (k2 : Int) := by omega
      have s3 : (0 : Int) ≤ (k : Int) := by omega
      have s4 : IntKind.i64.wrap ((k : Int) + (m : Int)) = (k : Int) + (m : Int) := by rw [IntKind.wrap_i64]; omega
      have HWR : Hid (wrap64 ((k : Int) + (m : Int)) = (r : Int)) := by show _ = _; rw [e2, ← HRE.out]; omega
      have e9 : (k : Int) + (m : Int) = (r : Int) := by rw [← HRE.out]; omega
      have HE9 : Hid ((k : Int) + (m : Int) = (r : Int)) := e9
      clear hc3 hc5 hev e9 hn0
      go_wp2_with (go_at_call 28; refine ON.out.mono ?_; rintro e w' ⟨ha, h⟩; obtain rfl := h.symm; obtain rfl := ans_t ha HE.out; clear ha)
      go_region_with (first | (go_at_call 29; rw [HE9.out]; refine (SP.out _ (bdr wr)).mono ?_; rintro e w2 ⟨v2, rfl, hN2, hb2⟩; have HN2 := (show Hid _ from hN2); have HB2 := (show Hid _ from bt (bdr wr) hb2); clear hN2 hb2))
      all_goals
        go_wp2
        go_ret2
        exact ⟨_, rfl, HN2.out, bt hb HB2.out⟩
end
end Go.Proofs.Ytienknoahjhopaa
