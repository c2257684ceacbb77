/-
  'present', 'data', 'Rebuild'.
-/
import Derived.Test.YtgokkppojhokbaaCg
import Derived.Test.YtgokkppojhokbaaMr
namespace Go.Proofs.Ytgokkppojhokbaa
open Go.RowKit
/-- The places below j whose rows have bytes. -/
def thr (L : Nat → Nat) (j : Nat) : List Nat := (List.range j).filter (fun i => decide (0 < L i))
theorem thr_pos {L : Nat → Nat} {k : Nat} (h : 0 < L k) : thr L (k + 1) = thr L k ++ [k] := by
  unfold thr
  rw [List.range_succ, List.filter_append]
  simp [h]
theorem thr_neg {L : Nat → Nat} {k : Nat} (h : ¬ 0 < L k) : thr L (k + 1) = thr L k := by
  unfold thr
  rw [List.range_succ, List.filter_append]
  have : L k = 0 := by omega
  simp [this]
theorem thr_mem {L : Nat → Nat} {k j : Nat} : j ∈ thr L k ↔ j < k ∧ 0 < L j := by
  unfold thr; rw [List.mem_filter, List.mem_range]; simp
theorem thr_len (L : Nat → Nat) (k : Nat) : (thr L k).length ≤ k := by
  unfold thr
  have := List.length_filter_le (fun i => decide (0 < L i)) (List.range k)
  simpa using this
theorem thr_inc (L : Nat → Nat) (k : Nat) : (thr L k).Pairwise (· < ·) := List.Pairwise.filter _ List.pairwise_lt_range
def gv (rows : Nat → Value) (l : List Nat) : List Value := l.map rows
theorem gv_app (rows : Nat → Value) (l : List Nat) (k : Nat) : gv rows l ++ [rows k] = gv rows (l ++ [k]) := by unfold gv; rw [List.map_append]; rfl
theorem pvs_lv (l : List Nat) : pvs l = lv (fun j => .int .i64 (l.getD j 0 : Nat)) l.length := by
  apply List.ext_getElem?
  intro i
  by_cases h : i < l.length
  · rw [pvs_at h, lv_at _ _ _ h]; simp [h]
  · rw [List.getElem?_eq_none (by unfold pvs; rw [List.length_map]; omega), List.getElem?_eq_none (by rw [lv_len]; omega)]
theorem gv_lv (rows : Nat → Value) (l : List Nat) : gv rows l = lv (fun j => rows (l.getD j 0)) l.length := by
  apply List.ext_getElem?
  intro i
  unfold gv
  by_cases h : i < l.length
  · rw [List.getElem?_map, List.getElem?_eq_getElem h, lv_at _ _ _ h]; simp [h]
  · rw [List.getElem?_eq_none (by rw [List.length_map]; omega), List.getElem?_eq_none (by rw [lv_len]; omega)]
/-- Another row of one's own is as it was. -/
theorem owns_other {w w' : World} {b b' : Nat} {t t' : TypeId} {k k' n n' : Nat} {u v : Value} {xs ys : List Value} (h : w.ownsRow b t k u n xs) (ho : w.ownsRow b' t' k' v n' ys) (hg : w.grownBy w' v.ownBlock) (ht : t ≠ t') : w'.ownsRow b t k u n xs := by
  refine ⟨h.1, ?_⟩
  rcases h.2 with h1 | ⟨g, cap, cur, hv, hgb, hh, hr⟩
  · exact .inl h1
  · refine .inr ⟨g, cap, cur, hv, hgb, ?_, hr⟩
    rw [hg.block g (lt_of_block hh) ?_]
    · exact hh
    · intro hb
      rcases ho.2 with ⟨hv', _⟩ | ⟨g', cap', cur', hv', _, hh', _⟩
      · rw [hv'] at hb; cases hb
      · rw [hv'] at hb
        injection hb with hb
        subst hb
        rw [hh'] at hh
        injection hh with hh
        injection hh with _ hh _
        exact ht hh.symm
section
attribute [local irreducible] Calls NmE NrE thr pvs gv
set_option maxHeartbeats 8000000 in
set_option maxRecDepth 1000000 in
theorem present_core (p : Option Addr) (r c : Nat) (L : Nat → Nat) (R : Nat → Nat → BitVec 8) (w : World) (hr : r ≤ 255) (NR : Hid (NmE w (.slice p r c) r L R)) :
    Calls Try.prog 47 #[.slice p r c] w fun e w' => ∃ v1 v2 rows, e = .returned (.tuple #[v1, v2]) ∧ w'.ownsRow w.heap.size 3 1 v1 (thr L r).length (pvs (thr L r)) ∧ w'.ownsRow w.heap.size 23 1 v2 (thr L r).length (gv rows (thr L r)) ∧ (∀ i, i < r → NrE w (rows i) (L i) (R i)) ∧ Below w.heap.size w w' := by
  obtain ⟨i0, hi0, hz0, hz1, hz2⟩ := info_parts infoY
  obtain ⟨i1, hi1, hz01, hz11, hz21⟩ := info_parts infoI
  obtain ⟨rows, hX⟩ : ∃ rows : Nat → Value, (0 < r → ∃ (b o : Nat), p = some ⟨b, o, none⟩ ∧ ∀ i, i < r → w.cell? ⟨b, o + i, none⟩ = some (rows i)) ∧ ∀ i, i < r → NrE w (rows i) (L i) (R i) := by
    by_cases h0 : 0 < r
    · obtain ⟨b, o, rows, e, hc, hn⟩ := nm_at NR.out h0
      exact ⟨rows, fun _ => ⟨b, o, e, hc⟩, hn⟩
    · exact ⟨fun _ => .bool false, fun h => absurd h h0, fun i hi => by omega⟩
  have HC := (show Hid _ from hX.1)
  have HN := (show Hid _ from hX.2)
  clear hX
  go_enter Try.func47, Try.ntmps47
  go_wp2
  go_loopw [4, 5, 10] (fun v1 v2 i wr => ∃ k : Nat, k ≤ r ∧ i = .int .i64 k ∧ wr.ownsRow w.heap.size 3 1 v1 (thr L k).length (pvs (thr L k)) ∧ wr.ownsRow w.heap.size 23 1 v2 (thr L k).length (gv rows (thr L k)) ∧ Below w.heap.size w wr) (fun _ _ i _ => r - (intOf i).toNat)
  case atStart => exact ⟨0, Nat.zero_le _, rfl, by unfold thr pvs; exact World.ownsRow_nil _ _ _ _, by unfold thr gv; exact World.ownsRow_nil _ _ _ _, Below.refl _ _⟩
  case round =>
    obtain ⟨k, hk, rfl, ho1, ho2, hb⟩ := hrel
    by_cases hlt : k < r
    · have j1 : (k : Int) < (r : Int) := by omega
      obtain ⟨b, o, ep, hc⟩ := HC.out (by omega)
      subst ep
      obtain ⟨pr, cr, er, _⟩ := nr_un (HN.out k hlt)
      have g0 := hc k hlt
      rw [er] at g0
      have g1 := cell_below g0 hb
      have hlen := thr_len L k
      by_cases hp : 0 < L k
      · have j2 : (0 : Int) < (L k : Int) := by omega
        have M1 : Hid ((thr L k).length + 1 ≤ maxLen) := by show _ ≤ _; unfold maxLen; omega
        have M3 : Hid (∀ o : Obj, w.heap.size ≤ (wr.alloc o).heap.size) := fun o => by have := hb.size; simp; omega
        go_wp2_with (first
          | (at_builtin; refine wpList_append_own _ rfl _ _ 24 rfl w.heap.size 3 i1 (.int .i64 0) 1 8 Try.underlying24 hi1 hz01 hz11 hz21 rfl (by decide) _ _ _ rfl (ho1.alloc _) ⟨wr.heap.size, 0, none⟩ 1 1 [.int .i64 (k : Int)] rfl rfl (one_new _ _ _) (one_cellv rfl) M1.out (by omega) (M3.out _) ?_; intro v1' w2 ho1' hg1 _; have ho2' := owns_other (ho2.alloc _) (ho1.alloc _) hg1 (by decide); have SZ : Hid (w.heap.size ≤ w2.heap.size) := Nat.le_trans (M3.out (.cells #[.int .i64 (k : Int)] 3)) hg1.size)
          | (at_builtin; refine wpList_append_own _ rfl _ _ 42 rfl w.heap.size 23 i0 (.slice none 0 0) 1 24 Try.underlying42 hi0 hz0 hz1 hz2 rfl (by decide) _ _ _ rfl (ho2'.alloc _) ⟨w2.heap.size, 0, none⟩ 1 1 [.slice pr (L k) cr] rfl rfl (one_new _ _ _) (one_cellv rfl) M1.out (by omega) (by have := SZ.out; simp at *; omega) ?_; intro v2' w3 ho2'' hg2 _))
        have a1 := (Below.refl _ wr).alloc (Nat.le_refl _) (.cells #[.int .i64 (k : Int)] 3)
        have hb2 := below_append (hb.alloc hb.size _) (M3.out _) hg1 (ho1.alloc _) (Nat.le_refl _)
        have hb3 := below_append (hb2.alloc SZ.out _) (by have := SZ.out; simp at *; omega) hg2 (ho2'.alloc _) (Nat.le_refl _)
        have ho1'' := owns_other (ho1'.alloc _) (ho2'.alloc _) hg2 (by decide)
        have hl2 : (thr L k).length + 1 = (thr L (k + 1)).length := by rw [thr_pos hp]; simp
        rw [pvs_app, ← thr_pos hp, hl2] at ho1''
        rw [← er, gv_app, ← thr_pos hp, hl2] at ho2''
        clear ho1 ho2 hg1 hg2 ho1' ho2' a1 g1
        go_roundw
        case rel => exact ⟨k + 1, by omega, by go_num, ho1'', ho2'', hb3⟩
        case measure => simp [intOf]; omega
      · have j2 : ¬ (0 : Int) < (L k : Int) := by omega
        rw [← thr_neg hp] at ho1 ho2
        go_wp2
        go_roundw
        case rel => exact ⟨k + 1, by omega, by go_num, ho1, ho2, hb⟩
        case measure => simp [intOf]; omega
    · obtain rfl : k = r := by omega
      go_wp2
      go_ret2
      exact ⟨_, _, rows, rfl, ho1, ho2, HN.out, hb⟩
end
end Go.Proofs.Ytgokkppojhokbaa
/-
  'data', 'Rebuild'.
-/
namespace Go.Proofs.Ytgokkppojhokbaa
open Go.RowKit
theorem rows_fac {w : World} {v vP : Value} {k m : Nat} {F : Nat → Nat → BitVec 8} {pl : Nat → Nat} (hkm : k + m ≤ 255) (hm : 1 ≤ m) (h : NmE w v (k + m) (fun _ => k) F) (hP : Jr w vP k (fun j => (pl j : Nat))) (hp : ∀ i, i < k → pl i < k + m) :
    Calls Try.prog 59 #[v, vP] w fun e w' => ∃ v', e = .returned (.tuple #[v', .int .i64 0]) ∧ NmE w' v' k (fun _ => k) (fun i j => F (pl i) j) ∧ Below w.heap.size w w' := by
  have hf : fc (k + m) (fun _ => k) = 0 := fc_ok (by omega) (fun _ _ => by omega) (fun _ _ => rfl)
  have hc : rc (k + m) (fun _ => k) k (fun j => ((pl j : Nat) : Int)) = 0 := rc_ok hf (by omega) (fun i hi => by
    have := hp i hi
    unfold bad
    have e1 : decide (((pl i : Nat) : Int) < 0) = false := by simp
    have e2 : decide (((k + m : Nat) : Int) ≤ ((pl i : Nat) : Int)) = false := by simp; omega
    rw [e1, e2]; rfl)
  have hw : cw (k + m) (fun _ => k) = k := by unfold cw; rw [if_neg (by omega)]
  have h2 := rowsE_any h hP
  rw [hc, rn_ok hc, hw] at h2
  exact h2
theorem sv_row {w : World} {B r l : Nat} {ρ : Nat → Nat} {N : Nat → Nat → BitVec 8} (h : GmE w B r l ρ N) {i : Nat} (hi : i < r) : NrE w (.slice (some ⟨ρ i, 0, none⟩) l l) l (N i) := St.sv ((Gr.row h i hi).st l l)
section
attribute [local irreducible] Calls el Ov clE NmE NrE GmE Cd Fac mm skk tiE plE Jr
set_option maxHeartbeats 8000000 in
set_option maxRecDepth 1000000 in
theorem data_core {k m n q cP cT : Nat} {pP pT : Option Addr} {v : Value} {pl : Nat → Nat} {F T : Nat → Nat → BitVec 8} {w : World} (hk : 1 ≤ k) (hm : 1 ≤ m) (hkm : k + m ≤ 255) (hn : n ≤ 140737488355328) (hq : k ≤ q) (hq2 : q ≤ 255) (hC : Hid (Cd w v k m F)) (hF : Hid (Fac k F)) (hP : Hid (Jr w (.slice pP k cP) k (fun j => (pl j : Nat)))) (hp : Hid (∀ i, i < k → pl i < k + m)) (hi : Hid (∀ i, i < k → ∀ j, j < k → i ≠ j → pl i ≠ pl j)) (hT : Hid (NmE w (.slice pT q cT) q (fun _ => n) T)) :
    Calls Try.prog 48 #[v, .slice pP k cP, .slice pT q cT] w fun e w' => ∃ B ρ Z, e = .returned (.slice (some ⟨B, 0, none⟩) k k) ∧ Gr w' 23 5 B k n n ρ (fun j => clE (fun c => skk plE oE (fun t => tiE (Z j t) (T t c)) k)) ∧ (∀ i, i < k → ∀ j, j < k → mm fdE k Z (fun i j => F (pl i) j) i j = dl fdE i j) ∧ Below w.heap.size w w' := by
  obtain ⟨cb, pF, cF, ev, c1, c2, hcap, hNF⟩ := cd_open hC.out
  subst ev
  have hmk := makeY k (by omega)
  rw [Nat.mul_one] at hmk
  have RF := (show Hid _ from rows_fac hkm hm hNF hP.out hp.out)
  have HS := (show Hid _ from hF.out.has (p := pl) (fun i hi => by have := hp.out i hi; omega) hi.out)
  clear hNF
  go_enter Try.func48, Try.ntmps48
  go_wp2_with (first
    | (go_at_call 59; refine RF.out.mono ?_; rintro e w1 ⟨v1, rfl, hN1, hb1⟩; have c11 := cell_below c1 hb1)
    | (go_at_call 41; refine (inverse_ok hN1 (sq_con (by omega)) HS.out).mono ?_; rintro e w2 ⟨v2, Z, rfl, ⟨B2, ρ2, e2, hG2, hB2, hρ2⟩, hz1, hz2, hb2⟩; subst e2; have c12 := cell_below c11 hb2))
  have HG2 := (show Hid _ from hG2)
  have HZ1 := (show Hid _ from hz1)
  have HB2 := (show Hid _ from bt hb1 hb2)
  have HO0 : Hid (Ov (w2.alloc (.cells (Array.replicate k (.slice none 0 0)) 23)) 23 w2.heap.size (fun i => if i < 0 then .slice (some ⟨0, 0, none⟩) n n else .slice none 0 0) k) := (ov_new w2 23 (.slice none 0 0) k).congr (fun i _ => by rw [if_neg (by omega)])
  have HB0 : Hid (Below w2.heap.size w2 (w2.alloc (.cells (Array.replicate k (.slice none 0 0)) 23))) := (Below.refl _ _).alloc (Nat.le_refl _) _
  have HS0 : Hid (w2.heap.size < (w2.alloc (.cells (Array.replicate k (.slice none 0 0)) 23)).heap.size) := by show _ < _; simp
  clear hmk hG2 hz1 hz2 hb1 hb2 c1 c2 c11 c12 hN1 RF HS
  go_loopw [35] (fun i wr => ∃ (t : Nat) (ρ : Nat → Nat), t ≤ k ∧ i = .int .i64 t ∧ Ov wr 23 w2.heap.size (fun i => if i < t then .slice (some ⟨ρ i, 0, none⟩) n n else .slice none 0 0) k ∧ Hid (∀ i, i < t → Ov wr 5 (ρ i) (clE (fun c => skk plE oE (fun s => tiE (Z i s) (T s c)) k)) n) ∧ Hid (∀ i, i < t → w2.heap.size < ρ i ∧ ρ i < wr.heap.size) ∧ Hid (∀ i, i < t → ∀ j, j < t → ρ i = ρ j → i = j) ∧ Hid (w2.heap.size < wr.heap.size) ∧ Below w2.heap.size w2 wr) (fun i _ => k - (intOf i).toNat)
  case atStart => exact ⟨0, fun _ => 0, Nat.zero_le _, rfl, HO0.out, fun i hi => by omega, fun i hi => by omega, fun i hi => by omega, HS0, HB0.out⟩
  case round =>
    clear HO0 HB0 HS0
    obtain ⟨t, ρ, ht, rfl, hO, hR, hP2, hI, hS, hb⟩ := hrel
    by_cases hlt : t < k
    · have j1 : (t : Int) < (k : Int) := by omega
      have g1 := cell_below (HG2.out.out hlt) hb
      have SU := (show Hid _ from codeSum_core (some ⟨ρ2 t, 0, none⟩) pT k k q cT n (Z t) T wr hq (by omega) (by omega) hn (fun _ => ⟨_, _, rfl, fun i hi => by have h := cell_below (GmE.cell HG2.out hlt hi) hb; rw [Nat.zero_add]; exact h⟩) (NmE.below hT.out (bt HB2.out hb)))
      have hsz := hS.out
      have HO := (show Hid _ from hO)
      have HB := (show Hid _ from hb)
      clear hO hb
      go_wp2_with (go_at_call 45; refine SU.out.mono ?_; rintro e w3 ⟨g, rfl, hO3, hg3, hb3⟩; have hO1 := Ov.below HO.out hb3; have g3 := Ov.cell hO1 hlt; have g4 := Ov.frozen hO1 t)
      have hs3 := hb3.size
      have glt := hO3.lt
      go_roundw
      case rel =>
        refine ⟨t + 1, fun i => if i = t then g else ρ i, by omega, by go_num, (hO1.set hlt (.slice (some ⟨g, 0, none⟩) n n)).congr (fun i _ => ?_), fun i hi => ?_, fun i hi => ?_, fun i hi j hj => ?_, ?_, (bt HB.out hb3).setCell (Nat.le_refl _) _⟩
        · dsimp only
          by_cases e : i = t
          · rw [if_pos e, if_pos (by omega), if_pos e]
          · rw [if_neg e]
            by_cases e2 : i < t
            · rw [if_pos e2, if_pos (by omega), if_neg e]
            · rw [if_neg e2, if_neg (by omega)]
        · show Ov _ _ (if i = t then g else ρ i) _ _
          by_cases e : i = t
          · subst e; rw [if_pos rfl]; exact hO3.other (p := ⟨w2.heap.size, i, none⟩) (by show g ≠ w2.heap.size; omega) rfl
          · rw [if_neg e]; exact ((hR.out i (by omega)).below hb3).other (p := ⟨w2.heap.size, t, none⟩) (by show ρ i ≠ w2.heap.size; have := (hP2.out i (by omega)).1; omega) rfl
        · show w2.heap.size < (if i = t then g else ρ i) ∧ (if i = t then g else ρ i) < _
          rw [← size_set]
          by_cases e : i = t
          · rw [if_pos e]; omega
          · rw [if_neg e]; have := hP2.out i (by omega); omega
        · show (if i = t then g else ρ i) = (if j = t then g else ρ j) → i = j
          by_cases e : i = t
          · rw [if_pos e]
            by_cases e2 : j = t
            · intro _; omega
            · rw [if_neg e2]; have := hP2.out j (by omega); intro; omega
          · rw [if_neg e]
            by_cases e2 : j = t
            · rw [if_pos e2]; have := hP2.out i (by omega); intro; omega
            · rw [if_neg e2]; exact hI.out i (by omega) j (by omega)
        · show _ < _
          rw [← size_set]; omega
      case measure => simp [intOf]; omega
    · obtain rfl : t = k := by omega
      go_wp2
      go_ret
      exact ⟨_, ρ, Z, rfl, ⟨hO.congr (fun i hi => by rw [if_pos hi]), hR.out, fun i hi => by have := hP2.out i hi; omega, hI.out⟩, HZ1.out, bt HB2.out hb⟩
end
end Go.Proofs.Ytgokkppojhokbaa
/-
  'Rebuild'.
-/
namespace Go.Proofs.Ytgokkppojhokbaa
open Go.RowKit
/-- The places, as they are picked. -/
def pk (L : Nat → Nat) (r t : Nat) : Nat := (thr L r).getD t 0
theorem pk_mem {L : Nat → Nat} {r t : Nat} (h : t < (thr L r).length) : pk L r t < r ∧ 0 < L (pk L r t) := by
  unfold pk
  rw [List.getD_eq_getElem?_getD, List.getElem?_eq_getElem h]
  exact thr_mem.1 (List.getElem_mem h)
theorem pk_ne {L : Nat → Nat} {r i j : Nat} (hi : i < (thr L r).length) (hj : j < (thr L r).length) (h : i ≠ j) : pk L r i ≠ pk L r j := by
  unfold pk
  rw [List.getD_eq_getElem?_getD, List.getElem?_eq_getElem hi, List.getD_eq_getElem?_getD, List.getElem?_eq_getElem hj]
  show (thr L r)[i] ≠ (thr L r)[j]
  rcases Nat.lt_or_ge i j with h1 | h1
  · have := List.pairwise_iff_getElem.1 (thr_inc L r) i j hi hj h1; omega
  · have := List.pairwise_iff_getElem.1 (thr_inc L r) j i hj hi (by omega); omega
theorem pls_jr {w : World} {b : Nat} {v : Value} {L : Nat → Nat} {r : Nat} (h : w.ownsRow b 3 1 v (thr L r).length (pvs (thr L r))) : Jr w v (thr L r).length (fun j => (pk L r j : Nat)) := by
  rw [pvs_lv] at h
  exact St.sv (owns_st1 h)
theorem jr_cut {w : World} {p : Option Addr} {n c q : Nat} {f : Nat → Int} (h : Jr w (.slice p n c) n f) (hq : q ≤ n) : Jr w (.slice p q c) q f := by
  obtain ⟨p', c', e, h⟩ := h
  injection e with e1 e2 e3
  subst e1 e3
  refine ⟨_, _, rfl, ?_⟩
  rcases h with h | ⟨b, o, e, hc⟩
  · exact .inl (by omega)
  · exact .inr ⟨b, o, e, fun i hi => hc i (by omega)⟩
theorem there_nm {w w' : World} {b : Nat} {v : Value} {L : Nat → Nat} {r n : Nat} {rows : Nat → Value} {R : Nat → Nat → BitVec 8} (h : w'.ownsRow b 23 1 v (thr L r).length (gv rows (thr L r))) (hr : ∀ i, i < r → NrE w (rows i) (L i) (R i)) (hb : Below w.heap.size w w') (hL : ∀ i, i < r → 0 < L i → L i = n) : NmE w' v (thr L r).length (fun _ => n) (fun t => R (pk L r t)) := by
  rw [gv_lv] at h
  refine nmE_mk (St.sv (owns_st1 h)) (fun i hi => ?_)
  have hm := pk_mem hi
  have h2 := NrE.below (hr (pk L r i) hm.1) hb
  rw [hL _ hm.1 hm.2] at h2
  exact h2
section
attribute [local irreducible] Calls el NmE NrE Cd Fac mm skk tiE plE Jr thr pk pvs gv
set_option maxHeartbeats 8000000 in
set_option maxRecDepth 1000000 in
theorem rebuild_core {w : World} {v vR : Value} {k m n : Nat} {L : Nat → Nat} {F R : Nat → Nat → BitVec 8} (hk : 1 ≤ k) (hm : 1 ≤ m) (hkm : k + m ≤ 255) (hn : n ≤ 140737488355328) (hC : Hid (Cd w v k m F)) (hF : Hid (Fac k F)) (hR : Hid (NmE w vR (k + m) L R)) (hL : Hid (∀ i, i < k + m → 0 < L i → L i = n)) (hq : k ≤ (thr L (k + m)).length) :
    Calls Try.prog 34 #[v, vR] w fun e w' => ∃ v' Z, e = .returned (.tuple #[v', .int .i64 0]) ∧ (∀ i, i < k → ∀ j, j < k → mm fdE k Z (fun i j => F (pk L (k + m) i) j) i j = dl fdE i j) ∧ NmE w' v' (k + m) (fun _ => n) (fun i c => if i < k then skk plE oE (fun t => tiE (Z i t) (R (pk L (k + m) t) c)) k else skk plE oE (fun j => tiE (F i j) (skk plE oE (fun t => tiE (Z j t) (R (pk L (k + m) t) c)) k)) k) ∧ Below w.heap.size w w' := by
  obtain ⟨cb, pF, cF, ev, c1, c2, _, _⟩ := cd_open hC.out
  subst ev
  obtain ⟨pR, cR, eR⟩ := nmE_form hR.out
  subst eR
  have NO := (show Hid _ from none_ok hC.out hk)
  have PR := (show Hid _ from present_core pR (k + m) cR L R w hkm hR)
  have hlen : (thr L (k + m)).length ≤ k + m := thr_len _ _
  obtain ⟨q, hqe⟩ : ∃ q, q = (thr L (k + m)).length := ⟨_, rfl⟩
  have HQ : Hid ((thr L (k + m)).length = q) := hqe.symm
  have PM : Hid (∀ t, t < q → pk L (k + m) t < k + m) := fun t ht => (pk_mem (by omega)).1
  have PN : Hid (∀ i, i < q → ∀ j, j < q → i ≠ j → pk L (k + m) i ≠ pk L (k + m) j) := fun i hi j hj => pk_ne (by omega) (by omega)
  rw [← hqe] at hq hlen
  clear hqe
  have j0 : ((k : Int) + (m : Int) != (k : Int) + (m : Int)) = false := by simp
  have j1 : ¬ (q : Int) < (k : Int) := by omega
  have j2 : (0 : Int) ≤ (k : Int) := by omega
  go_enter Try.func34, Try.ntmps34
  go_wp2_with (first
    | (go_at_call 25; refine NO.out.mono ?_; rintro e w' ⟨rfl, h⟩; obtain rfl := h.symm)
    | (go_at_call 47; refine PR.out.mono ?_; rintro e w1 ⟨v1, v2, rows, rfl, ho1, ho2, hrw, hb1⟩; have c11 := cell_below c1 hb1; have HJ1 := (show Hid _ from pls_jr ho1); have HT1 := (show Hid _ from there_nm ho2 hrw hb1 hL.out); obtain ⟨p1, k1, e1, hc1⟩ := own_form ho1; obtain ⟨p2, k2, e2, hc2⟩ := own_form ho2; rw [HQ.out] at e1 e2 hc1 hc2; rw [HQ.out] at HJ1 HT1; subst e1 e2; have x1 : (k : Int) ≤ (k1 : Int) := (by omega); have HLM := (show Hid _ from NmE.lm HT1.out); have JC := (show Hid _ from jr_cut HJ1.out hq); have HCd := (show Hid _ from Cd.below hC.out hb1); clear ho1 ho2)
    | (go_at_call 44; refine (even_ok p2 q k2 n w1 (by omega) HLM).mono ?_; rintro e w' ⟨rfl, h⟩; obtain rfl := h.symm)
    | (go_at_call 48; refine (data_core (pl := pk L (k + m)) hk hm hkm hn hq (by omega) HCd hF JC (fun i hi => PM.out i (by omega)) (fun i hi j hj => PN.out i (by omega) j (by omega)) HT1).mono ?_; rintro e w2 ⟨B, ρ, Z, rfl, hG, hz, hb2⟩)
    | (go_at_call 27; refine (word_core k m n B ρ _ F _ w2 hk hm hkm hn (Cd.below HCd.out hb2) hG).mono ?_; rintro e w3 ⟨v3, rfl, hN3, hb3, _⟩))
  go_ret2
  exact ⟨_, Z, rfl, hz, hN3, bt (bt hb1 hb2) hb3⟩
end
/-- The word comes back. -/
theorem rebuild_ok {w : World} {v vR : Value} {k m n : Nat} {L : Nat → Nat} {F R D : Nat → Nat → BitVec 8} (hk : 1 ≤ k) (hm : 1 ≤ m) (hkm : k + m ≤ 255) (hn : n ≤ 140737488355328) (hC : Cd w v k m F) (hF : Fac k F) (hR : NmE w vR (k + m) L R) (hL : ∀ i, i < k + m → 0 < L i → L i = n) (hq : k ≤ (thr L (k + m)).length) (hD : ∀ i, i < k + m → 0 < L i → ∀ c, c < n → R i c = mm fdE k F D i c) :
    Calls Try.prog 34 #[v, vR] w fun e w' => ∃ v', e = .returned (.tuple #[v', .int .i64 0]) ∧ NmE w' v' (k + m) (fun _ => n) (mm fdE k F D) ∧ Below w.heap.size w w' := by
  refine (rebuild_core hk hm hkm hn hC hF hR hL hq).mono fun e w' ⟨v', Z, he, hz, hN, hb⟩ => ⟨v', he, nm_congr hN (fun i _ c hc => ?_), hb⟩
  have key : ∀ j, j < k → skk plE oE (fun t => tiE (Z j t) (R (pk L (k + m) t) c)) k = D j c := fun j hj => by
    rw [skk_mm (P := Z) (Q := fun t c => R (pk L (k + m) t) c) (i := j) (j := c), mm_congr (A' := Z) (B' := mm fdE k (fun i j => F (pk L (k + m) i) j) D) (fun _ _ => rfl) (fun t ht => by
      have hp := pk_mem (L := L) (r := k + m) (t := t) (by omega)
      exact hD _ hp.1 hp.2 c hc), ← mm_assoc, mm_congr (A' := dl fdE) (B' := D) (fun t ht => hz j hj t ht) (fun _ _ => rfl), mm_dl_l hj]
  by_cases e : i < k
  · rw [if_pos e, key i e, mm_congr (A' := dl fdE) (B' := D) (fun t ht => hF.id e ht) (fun _ _ => rfl), mm_dl_l e]
  · rw [if_neg e, skk_mm (P := F) (Q := fun j c => skk plE oE (fun t => tiE (Z j t) (R (pk L (k + m) t) c)) k) (i := i) (j := c)]
    exact mm_congr (fun _ _ => rfl) (fun t ht => key t ht)
end Go.Proofs.Ytgokkppojhokbaa
