/-
  'present', 'data', 'Rebuild'.
-/
import Derived.Test.YtmjobnabnkiakaaCg
import Derived.Test.YtmjobnabnkiakaaMr
namespace Go.Proofs.Ytmjobnabnkiakaa
open Go.RowKit
/-- The places below j whose rows have bytes. -/
def thr (L : Nat → Nat) (j : Nat) : List Nat := (List.range j).filter (fun i => decide (0 < L i))
theorem thr_pos {L : Nat → Nat} {k : Nat} (h : 0 < L k) : thr L (k + 1) = thr L k ++ [k] := by
  unfold thr
  rw [List.range_succ, List.filter_append]
  simp [h]
theorem thr_neg {L : Nat → Nat} {k : Nat} (h : ¬ 0 < L k) : thr L (k + 1) = thr L k := by
  unfold thr
  rw [List.range_succ, List.filter_append]
  have : L k = 0 := by omega
  simp [this]
theorem thr_mem {L : Nat → Nat} {k j : Nat} : j ∈ thr L k ↔ j < k ∧ 0 < L j := by
  unfold thr; rw [List.mem_filter, List.mem_range]; simp
theorem thr_len (L : Nat → Nat) (k : Nat) : (thr L k).length ≤ k := by
  unfold thr
  have := List.length_filter_le (fun i => decide (0 < L i)) (List.range k)
  simpa using this
theorem thr_inc (L : Nat → Nat) (k : Nat) : (thr L k).Pairwise (· < ·) := List.Pairwise.filter _ List.pairwise_lt_range
def gv (rows : Nat → Value) (l : List Nat) : List Value := l.map rows
theorem gv_app (rows : Nat → Value) (l : List Nat) (k : Nat) : gv rows l ++ [rows k] = gv rows (l ++ [k]) := by unfold gv; rw [List.map_append]; rfl
theorem pvs_lv (l : List Nat) : pvs l = lv (fun j => .int .i64 (l.getD j 0 : Nat)) l.length := by
  apply List.ext_getElem?
  intro i
  by_cases h : i < l.length
  · rw [pvs_at h, lv_at _ _ _ h]; simp [h]
  · rw [List.getElem?_eq_none (by unfold pvs; rw [List.length_map]; omega), List.getElem?_eq_none (by rw [lv_len]; omega)]
theorem gv_lv (rows : Nat → Value) (l : List Nat) : gv rows l = lv (fun j => rows (l.getD j 0)) l.length := by
  apply List.ext_getElem?
  intro i
  unfold gv
  by_cases h : i < l.length
  · rw [List.getElem?_map, List.getElem?_eq_getElem h, lv_at _ _ _ h]; simp [h]
  · rw [List.getElem?_eq_none (by rw [List.length_map]; omega), List.getElem?_eq_none (by rw [lv_len]; omega)]
/-- Another row of one's own is as it was. -/
theorem owns_other {w w' : World} {b b' : Nat} {t t' : TypeId} {k k' n n' : Nat} {u v : Value} {xs ys : List Value} (h : w.ownsRow b t k u n xs) (ho : w.ownsRow b' t' k' v n' ys) (hg : w.grownBy w' v.ownBlock) (ht : t ≠ t') : w'.ownsRow b t k u n xs := by
  refine ⟨h.1, ?_⟩
  rcases h.2 with h1 | ⟨g, cap, cur, hv, hgb, hh, hr⟩
  · exact .inl h1
  · refine .inr ⟨g, cap, cur, hv, hgb, ?_, hr⟩
    rw [hg.block g (lt_of_block hh) ?_]
    · exact hh
    · intro hb
      rcases ho.2 with ⟨hv', _⟩ | ⟨g', cap', cur', hv', _, hh', _⟩
      · rw [hv'] at hb; cases hb
      · rw [hv'] at hb
        injection hb with hb
        subst hb
        rw [hh'] at hh
        injection hh with hh
        injection hh with _ hh _
        exact ht hh.symm
section
attribute [local irreducible] Calls NmE NrE thr pvs gv
set_option maxHeartbeats 8000000 in
set_option maxRecDepth 1000000 in
theorem present_core (p : Option Addr) (r c : Nat) (L : Nat → Nat) (R : Nat → Nat → BitVec 8) (w : World) (hr : r ≤ 255) (NR : Hid (NmE w (.slice p r c) r L R)) :
    Calls Try.prog 38 #[.slice p r c] w fun e w' => ∃ v1 v2 rows, e = .returned (.tuple #[v1, v2]) ∧ w'.ownsRow w.heap.size 3 1 v1 (thr L r).length (pvs (thr L r)) ∧ w'.ownsRow w.heap.size 37 1 v2 (thr L r).length (gv rows (thr L r)) ∧ (∀ i, i < r → NrE w (rows i) (L i) (R i)) ∧ Below w.heap.size w w' := by
  obtain ⟨i0, hi0, hz0, hz1, hz2⟩ := info_parts infoY
  obtain ⟨i1, hi1, hz01, hz11, hz21⟩ := info_parts infoI
  obtain ⟨rows, hX⟩ : ∃ rows : Nat → Value, (0 < r → ∃ (b o : Nat), p = some ⟨b, o, none⟩ ∧ ∀ i, i < r → w.cell? ⟨b, o + i, none⟩ = some (rows i)) ∧ ∀ i, i < r → NrE w (rows i) (L i) (R i) := by
    by_cases h0 : 0 < r
    · obtain ⟨b, o, rows, e, hc, hn⟩ := nm_at NR.out h0
      exact ⟨rows, fun _ => ⟨b, o, e, hc⟩, hn⟩
    · exact ⟨fun _ => .bool false, fun h => absurd h h0, fun i hi => by omega⟩
  have HC := (show Hid _ from hX.1)
  have HN := (show Hid _ from hX.2)
  clear hX
  go_enter Try.func38, Try.ntmps38
  go_wp2
  go_loopw [4, 5, 10] (fun v1 v2 i wr => ∃ k : Nat, k ≤ r ∧ i = .int .i64 k ∧ wr.ownsRow w.heap.size 3 1 v1 (thr L k).length (pvs (thr L k)) ∧ wr.ownsRow w.heap.size 37 1 v2 (thr L k).length (gv rows (thr L k)) ∧ Below w.heap.size w wr) (fun _ _ i _ => r - (intOf i).toNat)
  case atStart => exact ⟨0, Nat.zero_le _, rfl, by unfold thr pvs; exact World.ownsRow_nil _ _ _ _, by unfold thr gv; exact World.ownsRow_nil _ _ _ _, Below.refl _ _⟩
  case round =>
    obtain ⟨k, hk, rfl, ho1, ho2, hb⟩ := hrel
    by_cases hlt : k < r
    · have j1 : (k : Int) < (r : Int) := by omega
      obtain ⟨b, o, ep, hc⟩ := HC.out (by omega)
      subst ep
      obtain ⟨pr, cr, er, _⟩ := nr_un (HN.out k hlt)
      have g0 := hc k hlt
      rw [er] at g0
      have g1 := cell_below g0 hb
      have hlen := thr_len L k
      by_cases hp : 0 < L k
      · have j2 : (0 : Int) < (L k : Int) := by omega
        have M1 : Hid ((thr L k).length + 1 ≤ maxLen) := by show _ ≤ _; unfold maxLen; omega
        have M3 : Hid (∀ o : Obj, w.heap.size ≤ (wr.alloc o).heap.size) := fun o => by have := hb.size; simp; omega
        go_wp2_with (first
          | (at_builtin; refine wpList_append_own _ rfl _ _ 50 rfl w.heap.size 3 i1 (.int .i64 0) 1 8 Try.underlying50 hi1 hz01 hz11 hz21 rfl (by decide) _ _ _ rfl (ho1.alloc _) ⟨wr.heap.size, 0, none⟩ 1 1 [.int .i64 (k : Int)] rfl rfl (one_new _ _ _) (one_cellv rfl) M1.out (by omega) (M3.out _) ?_; intro v1' w2 ho1' hg1 _; have ho2' := owns_other (ho2.alloc _) (ho1.alloc _) hg1 (by decide); have SZ : Hid (w.heap.size ≤ w2.heap.size) := Nat.le_trans (M3.out (.cells #[.int .i64 (k : Int)] 3)) hg1.size)
          | (at_builtin; refine wpList_append_own _ rfl _ _ 27 rfl w.heap.size 37 i0 (.slice none 0 0) 1 24 Try.underlying27 hi0 hz0 hz1 hz2 rfl (by decide) _ _ _ rfl (ho2'.alloc _) ⟨w2.heap.size, 0, none⟩ 1 1 [.slice pr (L k) cr] rfl rfl (one_new _ _ _) (one_cellv rfl) M1.out (by omega) (by have := SZ.out; simp at *; omega) ?_; intro v2' w3 ho2'' hg2 _))
        have a1 := (Below.refl _ wr).alloc (Nat.le_refl _) (.cells #[.int .i64 (k : Int)] 3)
        have hb2 := below_append (hb.alloc hb.size _) (M3.out _) hg1 (ho1.alloc _) (Nat.le_refl _)
        have hb3 := below_append (hb2.alloc SZ.out _) (by have := SZ.out; simp at *; omega) hg2 (ho2'.alloc _) (Nat.le_refl _)
        have ho1'' := owns_other (ho1'.alloc _) (ho2'.alloc _) hg2 (by decide)
        have hl2 : (thr L k).length + 1 = (thr L (k + 1)).length := by rw [thr_pos hp]; simp
        rw [pvs_app, ← thr_pos hp, hl2] at ho1''
        rw [← er, gv_app, ← thr_pos hp, hl2] at ho2''
        clear ho1 ho2 hg1 hg2 ho1' ho2' a1 g1
        go_roundw
        case rel => exact ⟨k + 1, by omega, by go_num, ho1'', ho2'', hb3⟩
        case measure => simp [intOf]; omega
      · have j2 : ¬ (0 : Int) < (L k : Int) := by omega
        rw [← thr_neg hp] at ho1 ho2
        go_wp2
        go_roundw
        case rel => exact ⟨k + 1, by omega, by go_num, ho1, ho2, hb⟩
        case measure => simp [intOf]; omega
    · obtain rfl : k = r := by omega
      go_wp2
      go_ret2
      exact ⟨_, _, rows, rfl, ho1, ho2, HN.out, hb⟩
end
end Go.Proofs.Ytmjobnabnkiakaa
