/-
  Layer 11's laws: 'fresh' of a trace.
-/
import Derived.Test.YtaddgmbglhdfdaaLo11
import Derived.Deep.RegionHeld3
namespace Go.Proofs.Ytaddgmbglhdfdaa
open Go.RowKit Go.Maps Go.Sort
/-- A row of those behind the five is left. -/
theorem Tq.drop {w0 w : World} {H : Nat → Prop} {tb N : Nat} {R : Nat → Rwt} (h : Tq w0 H tb N R w) {k : Nat} (hk5 : 5 ≤ k) : Tq w0 H tb N (upd R k ⟨3, .slice none 0 0, 0, []⟩) w := by
  refine ⟨⟨fun i hi => ?_, fun i j hi hj hne g e1 e2 => ?_⟩, by rw [trC_other R k hk5]; exact h.gb, fun i hi g e => ?_, h.tn, h.hb, h.hl, h.n5, fun i hi => ?_⟩
  · by_cases e : i = k
    · subst e; rw [upd_same]; exact ⟨rfl, .inl ⟨rfl, rfl⟩⟩
    · rw [upd_other R _ e]; exact h.rw'.o i hi
  · by_cases ei : i = k
    · subst ei; rw [upd_same] at e1; cases e1
    · rw [upd_other R _ ei] at e1
      by_cases ej : j = k
      · subst ej; rw [upd_same] at e2; cases e2
      · rw [upd_other R _ ej] at e2
        exact h.rw'.s i j hi hj hne g e1 e2
  · by_cases ei : i = k
    · subst ei; rw [upd_same] at e; cases e
    · rw [upd_other R _ ei] at e; exact h.hg i hi g e
  · by_cases ei : i = k
    · subst ei; rw [upd_same]; exact (show (3 : TypeId) ≠ 120 by decide)
    · rw [upd_other R _ ei]; exact h.ty i hi
/-- A new row in the place of one of those behind the five. -/
theorem Tq.anew {w0 w : World} {H : Nat → Prop} {tb N : Nat} {R : Nat → Rwt} (h : Tq w0 H tb N R w) {k : Nat} (hk : k < N) (hk5 : 5 ≤ k) (y : Value) : Tq w0 H tb N (upd R k ⟨3, .slice (some ⟨w.heap.size, 0, none⟩) 1 1, 1, [y]⟩) (w.alloc (.cells #[y] 3)) := by
  refine h.row hk hk5 (World.grownBy_alloc w _ _) ⟨3, .slice (some ⟨w.heap.size, 0, none⟩) 1 1, 1, [y]⟩ ?_ (.inr rfl) (show (3 : TypeId) ≠ 120 by decide)
  exact ⟨rfl, .inr ⟨w.heap.size, 1, #[y], rfl, Nat.zero_le _, heap_alloc_new w _, Nat.le_refl _, by unfold maxLen; omega, rfl, rfl⟩⟩
theorem Tr.Wf.lds {t : Tr} (h : t.Wf) {i : Nat} {l : List Nat} (hl : ∀ b ∈ l, b < t.da.length) : Tr.Wf { t with lds := t.lds.set i l } := by
  refine ⟨h.l1, by simp [h.l2], h.l3, h.nd, h.b1, fun j m e b hb => ?_⟩
  have e' : (t.lds.set i l)[j]? = some m := e
  rw [set_get] at e'
  split at e'
  · split at e'
    · injection e' with e'; subst e'; exact hl b hb
    · cases e'
  · exact h.b2 j m e' b hb
/-- Behind the first k names' turns. -/
def Tr.frs (t : Tr) : Nat → Tr
  | 0 => t
  | k + 1 => { t.frs k with lds := (t.frs k).lds.set k (t.ld.getD k none).toList }
theorem frs_eq (t : Tr) : ∀ k, (t.frs k).nm = t.nm ∧ (t.frs k).ld = t.ld ∧ (t.frs k).da = t.da ∧ (t.frs k).sa = t.sa ∧ (t.frs k).lds.length = t.lds.length
  | 0 => ⟨rfl, rfl, rfl, rfl, rfl⟩
  | k + 1 => by
    obtain ⟨h1, h2, h3, h4, h5⟩ := frs_eq t k
    exact ⟨h1, h2, h3, h4, by show ((t.frs k).lds.set k _).length = _; rw [List.length_set]; exact h5⟩
theorem frs_get (t : Tr) : ∀ (k i : Nat), (t.frs k).lds[i]? = if i < k ∧ i < t.lds.length then some (t.ld.getD i none).toList else t.lds[i]?
  | 0, i => by rw [if_neg (by omega)]; rfl
  | k + 1, i => by
    show ((t.frs k).lds.set k (t.ld.getD k none).toList)[i]? = _
    rw [set_get, frs_get t k i, (frs_eq t k).2.2.2.2]
    by_cases e : k = i
    · subst e
      rw [if_pos rfl]
      by_cases hl : k < t.lds.length
      · rw [if_pos hl, if_pos ⟨by omega, hl⟩]
      · rw [if_neg hl, if_neg (by omega), List.getElem?_eq_none (by omega)]
    · rw [if_neg e]
      by_cases h : i < k ∧ i < t.lds.length
      · rw [if_pos h, if_pos ⟨by omega, h.2⟩]
      · rw [if_neg h, if_neg (by omega)]
theorem frs_all {t : Tr} (h : t.Wf) : t.frs t.nm.length = t.fresh := by
  obtain ⟨h1, h2, h3, h4, h5⟩ := frs_eq t t.nm.length
  have h6 : (t.frs t.nm.length).lds = t.ld.map fun o => o.toList := by
    apply List.ext_getElem?
    intro i
    rw [frs_get, List.getElem?_map]
    by_cases hi : i < t.nm.length
    · rw [if_pos ⟨hi, by rw [h.l2]; exact hi⟩]
      have : i < t.ld.length := by rw [h.l1]; exact hi
      rw [List.getElem?_eq_getElem this, List.getD, List.getElem?_eq_getElem this]
      rfl
    · rw [if_neg (by omega), List.getElem?_eq_none (by rw [h.l2]; omega), List.getElem?_eq_none (by rw [h.l1]; omega)]
      rfl
  unfold Tr.fresh
  rw [← h6]
  cases he : t.frs t.nm.length with
  | mk nm ld lds da sa =>
    rw [he] at h1 h2 h3 h4
    simp only at h1 h2 h3 h4
    rw [h1, h2, h3, h4]
theorem frs_wf {t : Tr} (h : t.Wf) : ∀ k, (t.frs k).Wf
  | 0 => h
  | k + 1 => by
    have h1 := frs_wf h k
    refine h1.lds (fun b hb => ?_)
    rw [(frs_eq t k).2.2.1]
    cases ho : t.ld.getD k none with
    | none => rw [ho] at hb; cases hb
    | some c =>
      rw [ho] at hb
      simp at hb
      subst hb
      refine h.b1 k b ?_
      rw [List.getD] at ho
      cases e : t.ld[k]? with
      | none => rw [e] at ho; cases ho
      | some o => rw [e] at ho; simp at ho; rw [ho]
theorem lvv_z (o : Option Nat) : ∃ z : Int, lvv o = .int .i64 z ∧ (o = none → z = -1) ∧ ∀ b, o = some b → z = (b : Int) := by
  cases o with
  | none => exact ⟨-1, rfl, fun _ => rfl, fun b e => by cases e⟩
  | some b => exact ⟨b, rfl, fun e => (by cases e), fun b' e => (by injection e with e; rw [e])⟩
theorem TrR.ldat {w0 w : World} {H : Nat → Prop} {tb : Nat} {t : Tr} {R : Nat → Rwt} (hw : t.Wf) (hq : Tq w0 H tb (5 + t.nm.length) R w) (hr : TrR t R) {i : Nat} (hi : i < t.nm.length) : ∃ g c, (R 1).v = .slice (some ⟨g, 0, none⟩) t.nm.length c ∧ w.cell? ⟨g, i, none⟩ = some (lvv (t.ld.getD i none)) := by
  obtain ⟨g, c, cur, e1, e2, e3⟩ := own_cell (hq.own (by omega) hr.r1) i hi
  have hl : i < t.ld.length := by rw [hw.l1]; exact hi
  exact ⟨g, c, e1, by rw [e3]; simp [List.getD, hl]⟩
section
attribute [local irreducible] Calls GB
set_option maxHeartbeats 2000000 in
set_option maxRecDepth 1000000 in
theorem fresh_any {w0 w : World} {H : Nat → Prop} {tb : Nat} {t : Tr} (h : TrAt w0 H tb t w) (hn : t.nm.length ≤ 100000000) : Calls Try.prog 64 #[.pointer (some ⟨tb, 0, none⟩)] w fun e w' => (∃ r, e = .returned r) ∧ TrAt w0 H tb t.fresh w' := by
  obtain ⟨n, hnn⟩ : ∃ n, n = t.nm.length := ⟨_, rfl⟩
  rw [← hnn] at hn
  have HH := (show Hid (TrAt w0 H tb t w ∧ n = t.nm.length) from ⟨h, hnn⟩)
  clear h hnn
  go_enter Try.func64, Try.ntmps64
  go_wp2
  go_loopw [2] (fun i wr => ∃ k : Nat, k ≤ n ∧ i = .int .i64 (k : Int) ∧ Hid (TrAt w0 H tb (t.frs k) wr)) (fun i _ => n - (intOf i).toNat)
  case atStart => exact ⟨0, Nat.zero_le _, rfl, HH.out.1⟩
  case round =>
    obtain ⟨k, hk, rfl, hB⟩ := hrel
    obtain ⟨u, hu⟩ : ∃ u, u = t.frs k := ⟨_, rfl⟩
    have HU := (show Hid (u = t.frs k ∧ n = u.nm.length ∧ u.ld = t.ld ∧ u.Wf) from ⟨hu, by rw [hu, (frs_eq t k).1]; exact HH.out.2, by rw [hu]; exact (frs_eq t k).2.1, by rw [hu]; exact frs_wf HH.out.1.wf k⟩)
    obtain ⟨R, hq, hr⟩ := hB.out.ex
    rw [← hu] at hq hr
    have TQ := (show Hid (Tq w0 H tb (5 + u.nm.length) R wr ∧ TrR u R) from ⟨hq, hr⟩)
    have O0 := own_form (hq.own (by omega) hr.r0)
    obtain ⟨p0, c0, e0, _⟩ := O0
    have k0 := hq.cells.1
    rw [e0, ← HU.out.2.1] at k0
    clear hu e0
    by_cases hlt : k < n
    · have hi : (k : Int) < (n : Int) := by omega
      have hku : k < u.nm.length := by have := HU.out.2.1; omega
      obtain ⟨g2, c2, cur2, e1, e2, e3⟩ := own_cell (hq.own (by omega) hr.r2) k hku
      have k2 := hq.cells.2.2.1
      rw [e1, ← HU.out.2.1] at k2
      have f2 := frozen_of_row wr g2 k _ _ e2
      have SE := (show Hid (∃ R', Tq w0 H tb (5 + u.nm.length) R' (wr.setCell ⟨g2, k, none⟩ (.slice none 0 0)) ∧ TrR { u with lds := u.lds.set k [] } R') from TrAt.setE HU.out.2.2.2 ⟨3, .slice none 0 0, 0, []⟩ [] (hq.drop (by omega)) hr hku e1 ⟨rfl, rfl, rfl⟩)
      have HKU := (show Hid (k < u.nm.length) from hku)
      clear hq hr e1 e2 hku hB
      go_upto_region 4 with fail
      clear k0 k2 f2 e3
      generalize wr.setCell ⟨g2, k, none⟩ (.slice none 0 0) = w2 at SE ⊢
      obtain ⟨R1, hq1, hr1⟩ := SE.out
      obtain ⟨u1, hu1⟩ : ∃ u1 : Tr, u1 = { u with lds := u.lds.set k [] } := ⟨_, rfl⟩
      rw [← hu1] at hr1
      have HU1 := (show Hid (u1 = { u with lds := u.lds.set k [] } ∧ u1.nm = u.nm ∧ u1.ld = u.ld ∧ u1.Wf) from ⟨hu1, by rw [hu1], by rw [hu1], by rw [hu1]; exact HU.out.2.2.2.lds (fun b hb => by cases hb)⟩)
      rw [← HU1.out.2.1] at hq1
      obtain ⟨g1, c1, e1, e3⟩ := TrR.ldat HU1.out.2.2.2 hq1 hr1 (i := k) (by rw [HU1.out.2.1]; exact HKU.out)
      have k1 := hq1.cells.2.1
      rw [e1, HU1.out.2.1, ← HU.out.2.1] at k1
      obtain ⟨z, hz, hz0, hzb⟩ := lvv_z (u1.ld.getD k none)
      rw [hz] at e3
      have HZ := (show Hid ((u1.ld.getD k none = none → z = -1) ∧ (∀ b, u1.ld.getD k none = some b → z = (b : Int)) ∧ u1.ld.getD k none = t.ld.getD k none) from ⟨hz0, hzb, by rw [HU1.out.2.2.1, HU.out.2.2.1]⟩)
      have T1 := (show Hid (Tq w0 H tb (5 + u1.nm.length) R1 w2 ∧ TrR u1 R1) from ⟨hq1, hr1⟩)
      clear hu1 SE TQ hz hz0 hzb
      have HS := (show Hid (∀ X, TrAt w0 H tb { u1 with lds := u1.lds.set k (t.ld.getD k none).toList } X → TrAt w0 H tb (t.frs (k + 1)) X) from fun X hX => by
        have e9 : ({ u1 with lds := u1.lds.set k (t.ld.getD k none).toList } : Tr) = t.frs (k + 1) := by
          rw [HU1.out.1, HU.out.1]
          show ({ t.frs k with lds := ((t.frs k).lds.set k []).set k _ } : Tr) = _
          rw [List.set_set]
          rfl
        rw [← e9]; exact hX)
      cases ho : u1.ld.getD k none with
      | none =>
        obtain rfl : z = -1 := HZ.out.1 ho
        have HO := (show Hid (t.ld.getD k none = none) from by rw [← HZ.out.2.2]; exact ho)
        clear ho hq1 hr1 e1
        go_wp2_with fail
        go_roundw
        case rel =>
          refine ⟨k + 1, by omega, by go_num, HS.out _ ?_⟩
          have e9 : ({ u1 with lds := u1.lds.set k (t.ld.getD k none).toList } : Tr) = u1 := by
            rw [HO.out, HU1.out.1]
            show ({ u with lds := (u.lds.set k []).set k [] } : Tr) = _
            rw [List.set_set]
          rw [e9]
          exact ⟨HU1.out.2.2.2, R1, T1.out.1, T1.out.2⟩
        case measure => simp [intOf]; omega
      | some b =>
        obtain rfl : z = (b : Int) := HZ.out.2.1 b ho
        have hb0 : (0 : Int) ≤ (b : Int) := by omega
        have HO := (show Hid (t.ld.getD k none = some b ∧ b < u1.da.length) from ⟨by rw [← HZ.out.2.2]; exact ho, HU1.out.2.2.2.b1 k b (by
          have hl : k < u1.ld.length := by rw [HU1.out.2.2.2.l1, HU1.out.2.1]; exact HKU.out
          rw [List.getD, List.getElem?_eq_getElem hl] at ho
          rw [List.getElem?_eq_getElem hl]
          exact congrArg some ho)⟩)
        obtain ⟨g3, c3, cur3, e4, e5, e6⟩ := own_cell (hq1.own (by omega) hr1.r2) k (by rw [HU1.out.2.1]; exact HKU.out)
        have k3 := hq1.cells.2.2.1
        rw [e4, HU1.out.2.1, ← HU.out.2.1] at k3
        have TA := (show Hid (Tq w0 H tb (5 + u1.nm.length) (upd R1 (5 + k) ⟨3, .slice (some ⟨w2.heap.size, 0, none⟩) 1 1, 1, [.int .i64 (b : Int)]⟩) (w2.alloc (.cells #[.int .i64 (b : Int)] 3))) from hq1.anew (by have := HKU.out; have := HU1.out.2.1; rw [this]; omega) (by omega) _)
        have AL := (show Hid (Below w2.heap.size w2 (w2.alloc (.cells #[.int .i64 (b : Int)] 3))) from alb _ _)
        have j1 := cell_below k1 AL.out.drew
        have j3 := cell_below k3 AL.out.drew
        have j4 := cell_below e3 AL.out.drew
        have j6 := cell_below e6 AL.out.drew
        have f5 := frozen_of_row w2 g3 k _ _ e5
        have f6 : (w2.alloc (.cells #[.int .i64 (b : Int)] 3)).drew.frozen? ⟨g3, k, none⟩ = false := frozen_of_row _ g3 k _ _ ((AL.out.block g3 (blt e5)).trans e5)
        have SE := (show Hid (∃ R', Tq w0 H tb (5 + u1.nm.length) R' ((w2.alloc (.cells #[.int .i64 (b : Int)] 3)).setCell ⟨g3, k, none⟩ (.slice (some ⟨w2.heap.size, 0, none⟩) 1 1)) ∧ TrR { u1 with lds := u1.lds.set k [b] } R') from TrAt.setE HU1.out.2.2.2 ⟨3, .slice (some ⟨w2.heap.size, 0, none⟩) 1 1, 1, [.int .i64 (b : Int)]⟩ [b] TA.out hr1 (by rw [HU1.out.2.1]; exact HKU.out) e4 ⟨rfl, rfl, rfl⟩)
        have FIN := (show Hid (TrAt w0 H tb (t.frs (k + 1)) ((w2.alloc (.cells #[.int .i64 (b : Int)] 3)).setCell ⟨g3, k, none⟩ (.slice (some ⟨w2.heap.size, 0, none⟩) 1 1)).drew) from by
          obtain ⟨R', h1, h2⟩ := SE.out
          refine HS.out _ (TrAt.below ?_ (Below.refl _ _).drew)
          rw [HO.out.1]
          exact ⟨HU1.out.2.2.2.lds (fun b' hb' => by simp at hb'; subst hb'; exact HO.out.2), R', h1, h2⟩)
        clear ho hq1 hr1 e1 e4 e5 SE TA
        go_wp2
        go_region
        go_wp2_with fail
        go_roundw
        case rel => exact ⟨k + 1, by omega, by go_num, FIN⟩
        case measure => simp [intOf]; omega
    · obtain rfl : k = n := by omega
      have hi : ¬ (k : Int) < (k : Int) := by omega
      have TE := (show Hid (TrAt w0 H tb t.fresh wr) from by rw [← frs_all HH.out.1.wf, ← HH.out.2]; exact hB.out)
      clear hq hr hB
      go_wp2_with fail
      go_end0
      exact ⟨⟨_, rfl⟩, TE.out⟩
end
end Go.Proofs.Ytaddgmbglhdfdaa
/-
  Layer 11's laws: 'anew' of a trace.
-/
namespace Go.Proofs.Ytaddgmbglhdfdaa
open Go.RowKit Go.Maps Go.Sort
def Tr.addL (t : Tr) (x : Tx) (o : Option Nat) (l : List Nat) : Tr := { t with nm := t.nm ++ [x], ld := t.ld ++ [o], lds := t.lds ++ [l] }
theorem TrR.addL {t : Tr} {R R' : Nat → Rwt} (h : TrR t R) (hw : t.Wf) (x : Tx) (o : Option Nat) (l : List Nat) (r : Rwt) (hr : RowIs r 3 l.length (l.map nvv)) (h0 : RowIs (R' 0) 9 (t.nm.length + 1) (t.nm.map encStr ++ [encStr x])) (h1 : RowIs (R' 1) 3 (t.nm.length + 1) (t.ld.map lvv ++ [lvv o])) (h2 : RowIs (R' 2) 28 (t.nm.length + 1) ((List.range t.nm.length).map (fun i => (R (5 + i)).v) ++ [r.v])) (h3 : R' 3 = R 3) (h4 : R' 4 = R 4) (h5 : ∀ i, i < t.nm.length → R' (5 + i) = R (5 + i)) (h6 : R' (5 + t.nm.length) = r) : TrR (t.addL x o l) R' := by
  have hl : (t.addL x o l).nm.length = t.nm.length + 1 := by simp [Tr.addL]
  refine ⟨?_, ?_, ?_, ?_, ?_, fun i hi => ?_⟩
  · rw [hl]; show RowIs _ _ _ ((t.nm ++ [x]).map encStr); rw [List.map_append]; exact h0
  · rw [hl]; show RowIs _ _ _ ((t.ld ++ [o]).map lvv); rw [List.map_append]; exact h1
  · rw [hl, List.range_succ, List.map_append]
    have e1 : (List.range t.nm.length).map (fun i => (R' (5 + i)).v) = (List.range t.nm.length).map (fun i => (R (5 + i)).v) := List.map_congr_left (fun i hi => by rw [h5 i (by simpa using hi)])
    rw [e1, List.map_singleton, h6]
    exact h2
  · rw [h3]; exact h.r3
  · rw [h4]; exact h.r4
  · rw [hl] at hi
    show RowIs _ _ ((t.lds ++ [l]).getD i []).length (((t.lds ++ [l]).getD i []).map nvv)
    by_cases e : i = t.nm.length
    · subst e
      rw [h6]
      have : (t.lds ++ [l]).getD t.nm.length [] = l := by rw [List.getD, get_app, if_neg (by rw [hw.l2]; omega), if_pos hw.l2.symm]; rfl
      rw [this]
      exact hr
    · have hlt : i < t.nm.length := by omega
      rw [h5 i hlt]
      have : (t.lds ++ [l]).getD i [] = t.lds.getD i [] := by rw [List.getD, get_app, if_pos (by rw [hw.l2]; exact hlt), List.getD]
      rw [this]
      exact h.r5 i hlt
theorem new_succ (L : List (Tx × Tx)) (k : Nat) (h : k < L.length) : Tr.new (L.take (k + 1)) = ((Tr.new (L.take k)).bod (L.getD k ([], [])).2 (L.getD k ([], [])).2.length).addL (L.getD k ([], [])).1 (some k) [k] := by
  have hl : (L.take (k + 1)).length = k + 1 := by rw [List.length_take]; omega
  have hl' : (L.take k).length = k := by rw [List.length_take]; omega
  have ht : L.take (k + 1) = L.take k ++ [L.getD k ([], [])] := by rw [List.take_add_one, List.getElem?_eq_getElem h]; simp [List.getD, h]
  unfold Tr.new Tr.addL Tr.bod
  rw [hl, hl', ht, List.range_succ]
  simp
theorem new_wf (L : List (Tx × Tx)) (hd : (L.map (·.1)).Nodup) : (Tr.new L).Wf := by
  refine ⟨by simp [Tr.new], by simp [Tr.new], by simp [Tr.new], hd, fun i b e => ?_, fun i l e b hb => ?_⟩
  · have e' : ((List.range L.length).map some)[i]? = some (some b) := e
    rw [List.getElem?_map] at e'
    by_cases h : i < L.length
    · rw [List.getElem?_range h] at e'
      simp at e'
      show b < (L.map (·.2)).length
      simp; omega
    · rw [List.getElem?_eq_none (by simp; omega)] at e'; cases e'
  · have e' : ((List.range L.length).map fun i => [i])[i]? = some l := e
    rw [List.getElem?_map] at e'
    by_cases h : i < L.length
    · rw [List.getElem?_range h] at e'
      simp at e'
      subst e'
      simp at hb
      show b < (L.map (·.2)).length
      simp; omega
    · rw [List.getElem?_eq_none (by simp; omega)] at e'; cases e'
/-- The rows of a trace at first. -/
def rz : Nat → Rwt
  | 0 => ⟨9, .slice none 0 0, 0, []⟩
  | 2 => ⟨28, .slice none 0 0, 0, []⟩
  | 3 => ⟨9, .slice none 0 0, 0, []⟩
  | _ => ⟨3, .slice none 0 0, 0, []⟩
theorem rz_v : ∀ i, (rz i).v = .slice none 0 0 ∧ (rz i).n = 0 ∧ (rz i).xs = [] ∧ (rz i).te ≠ 120
  | 0 => ⟨rfl, rfl, rfl, by decide⟩
  | 1 => ⟨rfl, rfl, rfl, by decide⟩
  | 2 => ⟨rfl, rfl, rfl, by decide⟩
  | 3 => ⟨rfl, rfl, rfl, by decide⟩
  | _ + 4 => ⟨rfl, rfl, rfl, (show (3 : TypeId) ≠ 120 by decide)⟩
def trZ : Array Value := #[.slice none 0 0, .slice none 0 0, .slice none 0 0, .slice none 0 0, .slice none 0 0]
theorem tr_first {w w1 : World} (h : GB w1 w.heap.size 120 trZ) : TrAt w1 (fun b => b = w.heap.size) w.heap.size (Tr.new []) w1 := by
  refine ⟨new_wf [] (by simp), rz, ⟨⟨fun i hi => ?_, fun i j hi hj hne g e => ?_⟩, h, fun i hi g e => ?_, Tn.refl _ _, rfl, fun b hb => by rw [hb]; exact h.lt, Nat.le_refl _, fun i _ => (rz_v i).2.2.2⟩, ?_⟩
  · obtain ⟨h1, h2, h3, _⟩ := rz_v i
    rw [h1, h2, h3]
    exact ⟨rfl, .inl ⟨rfl, rfl⟩⟩
  · rw [(rz_v i).1] at e; cases e
  · rw [(rz_v i).1] at e; cases e
  · exact ⟨⟨rfl, rfl, rfl⟩, ⟨rfl, rfl, rfl⟩, ⟨rfl, rfl, rfl⟩, ⟨rfl, rfl, rfl⟩, ⟨rfl, rfl, rfl⟩, fun i hi => absurd hi (Nat.not_lt_zero _)⟩
/-- Files stay while a trace grows that is younger. -/
theorem tr_files {w w1 X : World} {tb : Nat} {t : Tr} {b : Nat} {v : Value} {L : List (Tx × Tx)} (hF : FsAt w b v L) (hB : Below w.heap.size w w1) (h : TrAt w1 (fun g => g = w.heap.size) tb t X) : FsAt X b v L := by
  obtain ⟨R, hq, _⟩ := h.ex
  have hz := hB.size
  exact hF.keep (fun g _ hg => (hq.tn.block g (by omega) (by omega)).trans (hB.block g hg))
section
attribute [local irreducible] Calls GB
set_option maxHeartbeats 4000000 in
set_option maxRecDepth 1000000 in
theorem anew_any {w : World} {b : Nat} {v : Value} {L : List (Tx × Tx)} (hF : FsAt w b v L) (hL : L.length ≤ 50000000) (hd : (L.map (·.1)).Nodup) : Calls Try.prog 23 #[v] w fun e w' => e = .returned (.pointer (some ⟨w.heap.size, 0, none⟩)) ∧ ∃ w1, TrAt w1 (fun b => b = w.heap.size) w.heap.size (Tr.new L) w' ∧ Below w.heap.size w w1 ∧ w1.heap.size = w.heap.size + 1 := by
  obtain ⟨n, hn⟩ : ∃ n, n = L.length := ⟨_, rfl⟩
  obtain ⟨pv, cv, rfl⟩ : ∃ p c, v = .slice p n c := by rw [hn]; exact hF.len
  have HF := (show Hid (FsAt w b (.slice pv n cv) L ∧ n = L.length ∧ (L.map (·.1)).Nodup) from ⟨hF, hn, hd⟩)
  rw [← hn] at hL
  clear hF hn hd
  go_enter Try.func23, Try.ntmps23
  go_upto_region 2 with (refine wpList_bxB (cs := trZ) rfl _ rfl rfl ?_; intro w1 hG1 hb1 hs1)
  have B1 := (show Hid (Below w.heap.size w w1 ∧ w1.heap.size = w.heap.size + 1) from ⟨hb1, hs1.out⟩)
  have T0 := (show Hid (TrAt w1 (fun b => b = w.heap.size) w.heap.size (Tr.new (L.take 0)) w1) from tr_first hG1)
  clear hG1 hb1 hs1
  go_wp2_with fail
  go_loopw [4, 5] (fun i a1 wr => ∃ k : Nat, k ≤ n ∧ i = .int .i64 (k : Int) ∧ Hid (TrAt w1 (fun b => b = w.heap.size) w.heap.size (Tr.new (L.take k)) wr)) (fun i _ _ => n - (intOf i).toNat)
  case atStart => exact ⟨0, Nat.zero_le _, rfl, T0⟩
  case round =>
    obtain ⟨k, hk, rfl, hB⟩ := hrel
    by_cases hlt : k < n
    · have hi : (k : Int) < (n : Int) := by omega
      have hkL : k < L.length := by have := HF.out.2.1; omega
      have FS := (show Hid (∀ X t, TrAt w1 (fun b => b = w.heap.size) w.heap.size t X → FsAt X b (.slice pv n cv) L) from fun X t h => tr_files HF.out.1 B1.out.1 h)
      obtain ⟨g, cg, pd, cd, e1, e2, e3, e4⟩ := (FS.out wr _ hB.out).file k hkL
      injection e1 with e1 en ec
      subst e1 ec
      have FC := (show Hid (∀ X t, TrAt w1 (fun b => b = w.heap.size) w.heap.size t X → X.cell? ⟨g, k * 2, none⟩ = some (encStr (L.getD k ([], [])).1)) from fun X t h => by
        obtain ⟨g', cg', pd', cd', f1, f2, f3, f4⟩ := (FS.out X t h).file k hkL
        injection f1 with f1
        injection f1 with f1
        injection f1 with f1
        subst f1
        exact f2)
      have c4 := conv_tv e4
      have c5 := conv_tv (e4.below (Below.refl _ wr).drew)
      have NS := (show Hid (Tr.new (L.take (k + 1)) = ((Tr.new (L.take k)).bod (L.getD k ([], [])).2 (L.getD k ([], [])).2.length).addL (L.getD k ([], [])).1 (some k) [k]) from new_succ L k hkL)
      have NW := (show Hid ((Tr.new (L.take (k + 1))).Wf) from new_wf _ (by rw [List.map_take]; exact HF.out.2.2.sublist (List.take_sublist _ _)))
      obtain ⟨t, ht⟩ : ∃ t, t = Tr.new (L.take k) := ⟨_, rfl⟩
      have HT := (show Hid (t.nm.length = k ∧ t.da.length = k ∧ t.Wf) from by
        have hl : (L.take k).length = k := by rw [List.length_take]; omega
        refine ⟨by rw [ht]; simp [Tr.new]; omega, by rw [ht]; simp [Tr.new]; omega, by rw [ht]; exact hB.out.wf⟩)
      have T1 := (show Hid (TrAt w1 (fun b => b = w.heap.size) w.heap.size t wr) from by rw [ht]; exact hB.out)
      rw [← ht] at NS
      generalize (L.getD k ([], [])).1 = x at *
      generalize (L.getD k ([], [])).2 = d at *
      obtain ⟨nd, hnd⟩ : ∃ nd, nd = d.length := ⟨_, rfl⟩
      rw [← hnd] at e3 c4 c5 NS
      clear ht hB en hkL hnd e4
      have BO := (show Hid (∀ X, TrAt w1 (fun b => b = w.heap.size) w.heap.size t X → Calls Try.prog 59 #[.pointer (some ⟨w.heap.size, 0, none⟩), encStr d, .int .i64 (nd : Int)] X fun e w' => e = .returned (.int .i64 (k : Int)) ∧ TrAt w1 (fun b => b = w.heap.size) w.heap.size (t.bod d nd) w') from fun X h => by
        have h9 := body_any h d nd (by have := HT.out.2.1; omega)
        rw [HT.out.2.1] at h9
        exact h9)
      go_wp2
      go_cut [5] from 14 to 27 (fun v wx => v = .int .i64 (k : Int) ∧ Hid (TrAt w1 (fun b => b = w.heap.size) w.heap.size (t.bod d nd) wx))
      case first =>
        go_region_with (go_at_call 59; refine (BO.out _ (T1.out.below (Below.refl _ _).drew)).mono ?_; rintro e x1 ⟨rfl, hX⟩; have TX := (show Hid _ from hX); clear hX)
        all_goals
          go_wp2_with fail
          go_meet
          case rel => exact ⟨rfl, TX⟩
      case rest =>
      obtain ⟨rfl, hcw⟩ := hcut
      obtain ⟨y1, hy1⟩ : ∃ y1, y1 = wc := ⟨_, rfl⟩
      rw [← hy1] at hcw ⊢
      have T2 := (show Hid (TrAt w1 (fun b => b = w.heap.size) w.heap.size (t.bod d nd) y1) from hcw.out)
      clear hy1 hcw e2 e3 c4 c5
      have n2 := FC.out y1 _ T2.out
      obtain ⟨R, hq, hr⟩ := T2.out.ex
      obtain ⟨u, hu⟩ : ∃ u, u = t.bod d nd := ⟨_, rfl⟩
      rw [← hu] at hq hr
      have HU := (show Hid (u = t.bod d nd ∧ u.nm.length = k ∧ u.Wf) from ⟨hu, by rw [hu]; exact HT.out.1, by rw [hu]; exact T2.out.wf⟩)
      rw [HU.out.2.1] at hq
      have TQ := (show Hid (Tq w1 (fun b => b = w.heap.size) w.heap.size (5 + k) R y1 ∧ TrR u R) from ⟨hq, hr⟩)
      have O0 := (show Hid (y1.ownsRow 0 9 1 (R 0).v k (u.nm.map encStr)) from hq.own (by omega) (by rw [← HU.out.2.1]; exact hr.r0))
      obtain ⟨p0, c0, e0, _⟩ := own_form O0.out
      have E0 := (show Hid ((R 0).v = .slice p0 k c0) from e0)
      have k0 := hq.cells.1
      rw [e0] at k0
      have TA := (show Hid (Tq w1 (fun b => b = w.heap.size) w.heap.size (5 + k) R (y1.alloc (.cells #[encStr x] 9)).drew) from (hq.below (alb _ _)).drew)
      have OA := (show Hid ((y1.alloc (.cells #[encStr x] 9)).drew.ownsRow 0 9 1 (.slice p0 k c0) k (u.nm.map encStr)) from by rw [← E0.out]; exact own_below O0.out (alb _ _).drew)
      have q0 := TA.out.cells.1
      rw [e0] at q0
      have n3 := cell_below n2 (alb y1 (.cells #[encStr x] 9)).drew
      have NC := (show Hid ((y1.alloc (.cells #[encStr x] 9)).drew.cell? ⟨y1.heap.size, 0, none⟩ = some (encStr x)) from by have h9 := (GB.new y1 9 #[encStr x]).cell 0; exact h9)
      have AQ := (show Hid (∀ v1 w3, w3.ownsRow 0 9 1 v1 (k + 1) (u.nm.map encStr ++ [encStr x]) → (y1.alloc (.cells #[encStr x] 9)).drew.grownBy w3 (Value.slice p0 k c0).ownBlock → (v1.ownBlock = (Value.slice p0 k c0).ownBlock ∨ v1.ownBlock = some (y1.alloc (.cells #[encStr x] 9)).drew.heap.size) → w3.cell? ⟨w.heap.size, 0, none⟩ = some (R 0).v ∧ w3.frozen? ⟨w.heap.size, 0, none⟩ = false ∧ Tq w1 (fun b => b = w.heap.size) w.heap.size (5 + k) (upd R 0 ⟨9, v1, k + 1, u.nm.map encStr ++ [encStr x]⟩) (w3.setCell ⟨w.heap.size, 0, none⟩ v1)) from fun v1 w3 ho1 hg1 hk1 => by
        have h9 := TA.out.app (k := 0) (by decide) (by rw [E0.out]; exact hg1) ⟨9, v1, k + 1, u.nm.map encStr ++ [encStr x]⟩ ho1 (by rw [E0.out]; exact hk1) TQ.out.2.r0.1.symm
        exact ⟨h9.1.cell 0, h9.1.frozen 0, h9.2⟩)
      clear hu hq hr e0
      go_upto_region 6 with fail
      go_cut [] from 28 to 41 (fun wx => Hid (∃ p1 c1, Tq w1 (fun b => b = w.heap.size) w.heap.size (5 + k) (upd R 0 ⟨9, .slice p1 (k + 1) c1, k + 1, u.nm.map encStr ++ [encStr x]⟩) wx))
      case first =>
        go_region_law (refine step_apT rfl (.tmp 32) (.tmp 38) 47 9 rfl Try.underlying47 infoSt rfl (.slice p0 k c0) k (u.nm.map encStr) (by first | (simp [Act.eval]; done) | simp [Act.eval, Act.put]) OA.out y1.heap.size 1 (encStr x) (by first | (simp [Act.eval]; done) | simp [Act.eval, Act.put]) NC.out rfl (by omega) (by decide) ?_; intro v1 w3 ho1 hg1 hk1; obtain ⟨d0, f0, h9⟩ := AQ.out v1 w3 ho1 hg1 hk1; have AP := (show Hid (Tq w1 (fun b => b = w.heap.size) w.heap.size (5 + k) (upd R 0 ⟨9, v1, k + 1, u.nm.map encStr ++ [encStr x]⟩) (w3.setCell ⟨w.heap.size, 0, none⟩ v1)) from h9); clear h9; obtain ⟨p1, c1, e1, _⟩ := own_form ho1; subst e1)
        all_goals
          go_wp2_with fail
          go_meet
          case rel => first | exact ⟨p1, c1, AP.out⟩ | exact ⟨p1, c1, AP.out.drew⟩
      case rest =>
      obtain ⟨p1, c1, hcw⟩ := hcut.out
      obtain ⟨y2, hy2⟩ : ∃ y2, y2 = wc := ⟨_, rfl⟩
      rw [← hy2] at hcw ⊢
      obtain ⟨R1, hR1⟩ : ∃ R1, R1 = upd R 0 ⟨9, .slice p1 (k + 1) c1, k + 1, u.nm.map encStr ++ [encStr x]⟩ := ⟨_, rfl⟩
      have T3 := (show Hid (Tq w1 (fun b => b = w.heap.size) w.heap.size (5 + k) R1 y2) from by rw [hR1]; exact hcw)
      have HR1 := (show Hid (RowIs (R1 0) 9 (k + 1) (u.nm.map encStr ++ [encStr x]) ∧ ∀ i, i ≠ 0 → R1 i = R i) from ⟨by rw [hR1, upd_same]; exact ⟨rfl, rfl, rfl⟩, fun i hi => by rw [hR1, upd_other R _ hi]⟩)
      clear hy2 hcw hcut hR1 AQ NC TA OA q0 n3 k0 n2
      have O1 := (show Hid (y2.ownsRow 0 3 1 (R1 1).v k (u.ld.map lvv)) from T3.out.own (by omega) (by rw [HR1.out.2 1 (by decide), ← HU.out.2.1]; exact TQ.out.2.r1))
      obtain ⟨p2, c2, e2, _⟩ := own_form O1.out
      have E2 := (show Hid ((R1 1).v = .slice p2 k c2) from e2)
      have k1 := T3.out.cells.2.1
      rw [e2] at k1
      have TB := (show Hid (Tq w1 (fun b => b = w.heap.size) w.heap.size (5 + k) R1 (y2.alloc (.cells #[.int .i64 (k : Int)] 3))) from T3.out.below (alb _ _))
      have OB := (show Hid ((y2.alloc (.cells #[.int .i64 (k : Int)] 3)).ownsRow 0 3 1 (.slice p2 k c2) k (u.ld.map lvv)) from by rw [← E2.out]; exact own_below O1.out (alb _ _))
      have q1 := TB.out.cells.2.1
      rw [e2] at q1
      clear e2
      go_upto_region 8 with (at_builtin; refine wpList_apS rfl (.tmp 46) (.tmp 48) 28 3 rfl Try.underlying28 infoI rfl 0 (.slice p2 k c2) k (u.ld.map lvv) rfl OB.out (some ⟨y2.heap.size, 0, none⟩) 1 1 [.int .i64 (k : Int)] rfl (sr_new y2 [.int .i64 (k : Int)] _) rfl (one_int _) (by omega) (by decide) (Nat.zero_le _) ?_; intro v1 w3 ho1 hg1 hk1; have AP := (show Hid _ from TB.out.app (k := 1) (by decide) (by rw [E2.out]; exact hg1) ⟨3, v1, k + 1, u.ld.map lvv ++ [.int .i64 (k : Int)]⟩ ho1 (by rw [E2.out]; exact hk1) (by rw [HR1.out.2 1 (by decide)]; exact TQ.out.2.r1.1.symm)); have d0 := AP.out.1.cell 1; have f0 := AP.out.1.frozen 1; obtain ⟨p3, c3, e1, _⟩ := own_form ho1; subst e1)
      have T4 := (show Hid (Tq w1 (fun b => b = w.heap.size) w.heap.size (5 + k) (upd R1 1 ⟨3, .slice p3 (k + 1) c3, k + 1, u.ld.map lvv ++ [.int .i64 (k : Int)]⟩) (w3.setCell ⟨w.heap.size, 1, none⟩ (.slice p3 (k + 1) c3))) from AP.out.2)
      generalize w3.setCell ⟨w.heap.size, 1, none⟩ (.slice p3 (k + 1) c3) = y4 at T4 ⊢
      obtain ⟨R2, hR2⟩ : ∃ R2, R2 = upd R1 1 ⟨3, .slice p3 (k + 1) c3, k + 1, u.ld.map lvv ++ [.int .i64 (k : Int)]⟩ := ⟨_, rfl⟩
      rw [← hR2] at T4
      have HR2 := (show Hid (RowIs (R2 0) 9 (k + 1) (u.nm.map encStr ++ [encStr x]) ∧ RowIs (R2 1) 3 (k + 1) (u.ld.map lvv ++ [lvv (some k)]) ∧ ∀ i, 2 ≤ i → R2 i = R i) from ⟨by rw [hR2, upd_other R1 _ (by decide)]; exact HR1.out.1, by rw [hR2, upd_same]; exact ⟨rfl, rfl, rfl⟩, fun i hi => by rw [hR2, upd_other R1 _ (by omega)]; exact HR1.out.2 i (by omega)⟩)
      clear hR2 AP d0 f0 q1 k1 TB OB ho1 hg1 hk1 T3 O1 HR1
      have T5 := (show Hid (Tq w1 (fun b => b = w.heap.size) w.heap.size (5 + k + 1) (upd R2 (5 + k) ⟨3, .slice (some ⟨y4.heap.size, 0, none⟩) 1 1, 1, [.int .i64 (k : Int)]⟩) (y4.alloc (.cells #[.int .i64 (k : Int)] 3))) from T4.out.more (alb _ _) ⟨3, .slice (some ⟨y4.heap.size, 0, none⟩) 1 1, 1, [.int .i64 (k : Int)]⟩ ⟨rfl, .inr ⟨y4.heap.size, 1, #[.int .i64 (k : Int)], rfl, Nat.zero_le _, heap_alloc_new y4 _, Nat.le_refl _, by unfold maxLen; omega, rfl, rfl⟩⟩ (fun g e => by injection e with e; simp only at e; omega) (show (3 : TypeId) ≠ 120 by decide))
      obtain ⟨R3, hR3⟩ : ∃ R3, R3 = upd R2 (5 + k) ⟨3, .slice (some ⟨y4.heap.size, 0, none⟩) 1 1, 1, [.int .i64 (k : Int)]⟩ := ⟨_, rfl⟩
      rw [← hR3] at T5
      have HR3 := (show Hid (R3 (5 + k) = ⟨3, .slice (some ⟨y4.heap.size, 0, none⟩) 1 1, 1, [.int .i64 (k : Int)]⟩ ∧ ∀ i, i ≠ 5 + k → R3 i = R2 i) from ⟨by rw [hR3, upd_same], fun i hi => by rw [hR3, upd_other R2 _ hi]⟩)
      have k4 := T4.out.cells.2.2.1
      obtain ⟨y5, hy5⟩ : ∃ y5, y5 = y4.alloc (.cells #[.int .i64 (k : Int)] 3) := ⟨_, rfl⟩
      have TC := (show Hid (Tq w1 (fun b => b = w.heap.size) w.heap.size (5 + k + 1) R3 ((y4.alloc (.cells #[.int .i64 (k : Int)] 3)).alloc (.cells #[.slice (some ⟨y4.heap.size, 0, none⟩) 1 1] 28))) from T5.out.below (alb _ _))
      have O5 := (show Hid (((y4.alloc (.cells #[.int .i64 (k : Int)] 3)).alloc (.cells #[.slice (some ⟨y4.heap.size, 0, none⟩) 1 1] 28)).ownsRow 0 28 1 (R3 2).v k ((List.range k).map fun i => (R (5 + i)).v)) from TC.out.own (by omega) (by rw [HR3.out.2 2 (by omega), HR2.out.2.2 2 (by decide)]; have h9 := TQ.out.2.r2; rw [HU.out.2.1] at h9; exact h9))
      obtain ⟨p4, c4, e4, _⟩ := own_form O5.out
      have E4 := (show Hid ((R3 2).v = .slice p4 k c4) from e4)
      rw [← HR3.out.2 2 (by omega), e4] at k4
      have q4 := TC.out.cells.2.2.1
      rw [e4] at q4
      have k5 := T5.out.cells.2.2.1
      rw [e4] at k5
      rw [e4] at O5
      clear e4 hR3 hy5
      have SRN := (show Hid (Sr ((y4.alloc (.cells #[.int .i64 (k : Int)] 3)).alloc (.cells #[.slice (some ⟨y4.heap.size, 0, none⟩) 1 1] 28)) (some ⟨y4.heap.size + 1, 0, none⟩) [.slice (some ⟨y4.heap.size, 0, none⟩) 1 1]) from by have h9 := sr_new (y4.alloc (.cells #[.int .i64 (k : Int)] 3)) [.slice (some ⟨y4.heap.size, 0, none⟩) 1 1] 28; simp only [World.size_alloc] at h9; exact h9)
      go_wp2_with (at_builtin; refine wpList_apS rfl (.tmp 56) (.tmp 59) 118 28 rfl Try.underlying118 infoIs rfl 0 (.slice p4 k c4) k ((List.range k).map fun i => (R (5 + i)).v) rfl O5.out (some ⟨y4.heap.size + 1, 0, none⟩) 1 1 [.slice (some ⟨y4.heap.size, 0, none⟩) 1 1] rfl SRN.out rfl (by intro u' hu'; simp at hu'; subst hu'; rfl) (by omega) (by decide) (Nat.zero_le _) ?_; intro v1 w5 ho1 hg1 hk1; have AP := (show Hid _ from TC.out.app (k := 2) (by decide) (by rw [E4.out]; exact hg1) ⟨28, v1, k + 1, (List.range k).map (fun i => (R (5 + i)).v) ++ [.slice (some ⟨y4.heap.size, 0, none⟩) 1 1]⟩ ho1 (by rw [E4.out]; exact hk1) (by rw [HR3.out.2 2 (by omega), HR2.out.2.2 2 (by decide)]; exact TQ.out.2.r2.1.symm)); have d0 := AP.out.1.cell 2; have f0 := AP.out.1.frozen 2; obtain ⟨p5, c5, e1, _⟩ := own_form ho1; subst e1)
      go_roundw
      case rel =>
        refine ⟨k + 1, by omega, by go_num, ?_⟩
        show TrAt _ _ _ _ _
        have hwf := NW.out
        rw [NS.out, ← HU.out.1] at hwf ⊢
        have hkn := HU.out.2.1
        have g3 := HR3.out.2
        refine ⟨hwf, upd R3 2 ⟨28, .slice p5 (k + 1) c5, k + 1, (List.range k).map (fun i => (R (5 + i)).v) ++ [.slice (some ⟨y4.heap.size, 0, none⟩) 1 1]⟩, ?_, ?_⟩
        · have hl : 5 + (u.addL x (some k) [k]).nm.length = 5 + k + 1 := by simp [Tr.addL, hkn]; omega
          rw [hl]
          exact AP.out.2
        · refine TQ.out.2.addL HU.out.2.2 x (some k) [k] ⟨3, .slice (some ⟨y4.heap.size, 0, none⟩) 1 1, 1, [.int .i64 (k : Int)]⟩ ⟨rfl, rfl, rfl⟩ ?_ ?_ ?_ ?_ ?_ (fun i hi => ?_) ?_
          · rw [upd_other R3 _ (by omega), g3 0 (by omega), hkn]; exact HR2.out.1
          · rw [upd_other R3 _ (by omega), g3 1 (by omega), hkn]; exact HR2.out.2.1
          · rw [upd_same, hkn]; exact ⟨rfl, rfl, rfl⟩
          · rw [upd_other R3 _ (by omega), g3 3 (by omega)]; exact HR2.out.2.2 3 (by omega)
          · rw [upd_other R3 _ (by omega), g3 4 (by omega)]; exact HR2.out.2.2 4 (by omega)
          · rw [upd_other R3 _ (by omega), g3 _ (by omega)]; exact HR2.out.2.2 _ (by omega)
          · rw [hkn, upd_other R3 _ (by omega)]; exact HR3.out.1
      case measure => simp [intOf]; omega
    · obtain rfl : k = n := by omega
      have hi : ¬ (k : Int) < (k : Int) := by omega
      have TE := (show Hid (TrAt w1 (fun b => b = w.heap.size) w.heap.size (Tr.new L) wr) from by have h9 := hB.out; rw [HF.out.2.1, List.take_length] at h9; exact h9)
      clear hB
      go_wp2_with fail
      go_ret
      exact ⟨rfl, w1, TE.out, B1.out⟩
end
end Go.Proofs.Ytaddgmbglhdfdaa
/-
  Layer 11's laws: 'has' and 'see' of a trace.
-/
namespace Go.Proofs.Ytaddgmbglhdfdaa
open Go.RowKit Go.Maps Go.Sort
theorem cut_enc (t : Tx) (n : Nat) : (⟨t.toArray⟩ : ByteArray).extract 0 n = ⟨(t.take n).toArray⟩ := by
  rw [ByteArray.extract_mk]
  congr 1
theorem TrR.led {w0 w : World} {H : Nat → Prop} {tb : Nat} {t : Tr} {R : Nat → Rwt} (hq : Tq w0 H tb (5 + t.nm.length) R w) (hr : TrR t R) {i : Nat} (hi : i < t.nm.length) : ∃ g c p c', (R 2).v = .slice (some ⟨g, 0, none⟩) t.nm.length c ∧ w.cell? ⟨g, i, none⟩ = some (.slice p (t.lds.getD i []).length c') ∧ ∀ (m b : Nat), (t.lds.getD i [])[m]? = some b → ∃ g', p = some ⟨g', 0, none⟩ ∧ w.cell? ⟨g', m, none⟩ = some (.int .i64 (b : Int)) := by
  obtain ⟨g, c, cur, e1, e2, e3⟩ := own_cell (hq.own (by omega) hr.r2) i hi
  have h5 := hq.own (k := 5 + i) (by omega) (hr.r5 i hi)
  obtain ⟨p, c', e5, _⟩ := own_form h5
  refine ⟨g, c, p, c', e1, ?_, fun m b hm => ?_⟩
  · rw [e3, ← e5]
    simp [List.getD, hi]
  · have hl := (List.getElem?_eq_some_iff.1 hm).1
    obtain ⟨g', c'', cur', f1, f2, f3⟩ := own_cell h5 m hl
    rw [e5] at f1
    injection f1 with f1
    refine ⟨g', f1, ?_⟩
    rw [f3, List.getD, List.getElem?_map, hm]
    rfl
theorem TrR.bd {w0 w : World} {H : Nat → Prop} {tb : Nat} {t : Tr} {R : Nat → Rwt} (hw : t.Wf) (hq : Tq w0 H tb (5 + t.nm.length) R w) (hr : TrR t R) {b : Nat} (hb : b < t.da.length) : ∃ g c g' c', (R 3).v = .slice (some ⟨g, 0, none⟩) t.da.length c ∧ w.cell? ⟨g, b, none⟩ = some (encStr (t.da.getD b [])) ∧ w.frozen? ⟨g, b, none⟩ = false ∧ (R 4).v = .slice (some ⟨g', 0, none⟩) t.da.length c' ∧ w.cell? ⟨g', b, none⟩ = some (.int .i64 ((t.sa.getD b 0 : Nat) : Int)) ∧ w.frozen? ⟨g', b, none⟩ = false := by
  obtain ⟨g, c, cur, e1, e2, e3⟩ := own_cell (hq.own (by omega) hr.r3) b hb
  obtain ⟨g', c', cur', f1, f2, f3⟩ := own_cell (hq.own (by omega) hr.r4) b hb
  have hs : b < t.sa.length := by rw [hw.l3]; exact hb
  refine ⟨g, c, g', c', e1, ?_, frozen_of_row w g b _ _ e2, f1, ?_, frozen_of_row w g' b _ _ f2⟩
  · rw [e3]; simp [List.getD, hb]
  · rw [f3]; simp [List.getD, hs, nvv]
section
attribute [local irreducible] Calls GB
set_option maxHeartbeats 4000000 in
set_option maxRecDepth 1000000 in
theorem has_any {w0 w : World} {H : Nat → Prop} {tb : Nat} {t : Tr} (h : TrAt w0 H tb t w) (x d : Tx) (hs : t.Hs x d) (hn : t.nm.length ≤ 100000000) (hm : ∀ i : Nat, (t.lds.getD i []).length ≤ 100000000) : Calls Try.prog 25 #[.pointer (some ⟨tb, 0, none⟩), encStr x, encStr d] w fun e w' => e = .returned (.bool true) ∧ w' = w := by
  obtain ⟨i, l, M, bM, h1, h2, h3, h4, h5, h6⟩ := hs
  have HP := (show Hid (Calls Try.prog 62 #[.pointer (some ⟨tb, 0, none⟩), encStr x] w fun e w' => e = .returned (.int .i64 (i : Int)) ∧ w' = w) from (place_any h x hn).mono (by
    rintro e w' ⟨i', e1, e2, _, e4⟩
    have hx : x ∈ t.nm := List.mem_of_getElem? h1
    rw [Tr.at_in hx] at e2
    rw [h.wf.uniq e2 h1] at e1
    exact ⟨e1, e4 hx⟩))
  obtain ⟨R, hq, hr⟩ := h.ex
  have hi : i < t.nm.length := (List.getElem?_eq_some_iff.1 h1).1
  have hl : t.lds.getD i [] = l := by rw [List.getD, h2]; rfl
  obtain ⟨g2, c2, p5, c5, e1, e2, e3⟩ := TrR.led hq hr hi
  rw [hl] at e2 e3
  have k2 := hq.cells.2.2.1
  rw [e1] at k2
  have HB := (show Hid ((∀ (m b : Nat), l[m]? = some b → b < t.da.length) ∧ Tq w0 H tb (5 + t.nm.length) R w ∧ TrR t R ∧ t.Wf) from ⟨fun m b e => h.wf.b2 i l h2 b (List.mem_of_getElem? e), hq, hr, h.wf⟩)
  have HE := (show Hid (∀ (m b : Nat), l[m]? = some b → ∃ g', p5 = some ⟨g', 0, none⟩ ∧ w.cell? ⟨g', m, none⟩ = some (.int .i64 (b : Int))) from e3)
  have HM := (show Hid (l[M]? = some bM ∧ t.sa.getD bM 0 ≤ d.length ∧ d.length ≤ (t.da.getD bM []).length ∧ (t.da.getD bM []).take d.length = d) from ⟨h3, h4, h5, h6⟩)
  obtain ⟨nl, hnl⟩ : ∃ nl, nl = l.length := ⟨_, rfl⟩
  obtain ⟨nn, hnn⟩ : ∃ nn, nn = t.nm.length := ⟨_, rfl⟩
  obtain ⟨nd, hnd⟩ : ∃ nd, nd = t.da.length := ⟨_, rfl⟩
  have hML : M < nl := by rw [hnl]; exact (List.getElem?_eq_some_iff.1 h3).1
  have hnl9 : nl ≤ 100000000 := by rw [hnl, ← hl]; exact hm i
  have hii : (i : Int) < (nn : Int) := by omega
  rw [← hnl] at e2
  rw [← hnn] at k2
  have HNL := (show Hid (nl = l.length ∧ nd = t.da.length) from ⟨hnl, hnd⟩)
  clear h h1 h2 h3 h4 h5 h6 hq hr hi hl e1 e3 hnl hnn hnd hm hn
  go_enter Try.func25, Try.ntmps25
  go_wp2_with (go_at_call 62; refine HP.out.mono ?_; rintro e wq ⟨rfl, h9⟩; obtain rfl := h9.symm)
  go_loopw [8, 9] (fun k a1 wr => ∃ m : Nat, m ≤ M ∧ k = .int .i64 (m : Int) ∧ Hid (wr = w)) (fun k _ _ => nl - (intOf k).toNat)
  case atStart => exact ⟨0, Nat.zero_le _, rfl, rfl⟩
  case round =>
    obtain ⟨m, hm, rfl, h9⟩ := hrel
    have h9' := h9.out
    subst h9'
    have hi2 : (m : Int) < (nl : Int) := by omega
    have hml : m < l.length := by have := HNL.out.1; omega
    obtain ⟨b, hb⟩ : ∃ b, l[m]? = some b := ⟨_, List.getElem?_eq_getElem hml⟩
    obtain ⟨g', rfl, e4⟩ := HE.out m b hb
    have hbd := HB.out.1 m b hb
    obtain ⟨g3, c3, g4, c4, f1, f2, _, f4, f5, _⟩ := TrR.bd HB.out.2.2.2 HB.out.2.1 HB.out.2.2.1 hbd
    have k3 := HB.out.2.1.cells.2.2.2.1
    rw [f1, ← HNL.out.2] at k3
    have k4 := HB.out.2.1.cells.2.2.2.2
    rw [f4, ← HNL.out.2] at k4
    have hbi : (b : Int) < (nd : Int) := by have := HNL.out.2; omega
    have HBB := (show Hid (m = M → b = bM) from fun e => by subst e; rw [HM.out.1] at hb; injection hb with hb; exact hb.symm)
    obtain ⟨y, hy⟩ : ∃ y, y = t.da.getD b [] := ⟨_, rfl⟩
    obtain ⟨s, hsb⟩ : ∃ s, s = t.sa.getD b 0 := ⟨_, rfl⟩
    rw [← hy] at f2
    rw [← hsb] at f5
    have HY := (show Hid (y = t.da.getD b [] ∧ s = t.sa.getD b 0) from ⟨hy, hsb⟩)
    clear hy hsb hb f1 f4 hbd hml
    by_cases hA : s ≤ d.length
    · have dA : (s : Int) ≤ (d.length : Int) := by omega
      by_cases hC : d.length ≤ y.length
      · have dC : (d.length : Int) ≤ (y.length : Int) := by omega
        have hc := cut_enc y d.length
        obtain ⟨u, hu⟩ : ∃ u, u = y.take d.length := ⟨_, rfl⟩
        rw [← hu] at hc
        have HUU := (show Hid (u = y.take d.length) from hu)
        clear hu hA hC
        by_cases hud : u = d
        · have e9 : (u == d) = true := by simpa using hud
          clear hud
          go_wp2_with fail
          go_ret
          exact ⟨rfl, rfl⟩
        · have e9 : (u == d) = false := by simpa using hud
          have hne : m ≠ M := fun e => hud (by rw [HUU.out, HY.out.1, HBB.out e]; exact HM.out.2.2.2)
          clear hud
          go_wp2_with fail
          go_roundw
          case rel => exact ⟨m + 1, by omega, by go_num, trivial⟩
          case measure => simp [intOf]; omega
      · have dC : ¬ (d.length : Int) ≤ (y.length : Int) := by omega
        have hne : m ≠ M := fun e => hC (by rw [HY.out.1, HBB.out e]; exact HM.out.2.2.1)
        clear hA hC
        go_wp2_with fail
        go_roundw
        case rel => exact ⟨m + 1, by omega, by go_num, trivial⟩
        case measure => simp [intOf]; omega
    · have dA : ¬ (s : Int) ≤ (d.length : Int) := by omega
      have hne : m ≠ M := fun e => hA (by rw [HY.out.2, HBB.out e]; exact HM.out.2.1)
      clear hA
      go_wp2_with fail
      go_roundw
      case rel => exact ⟨m + 1, by omega, by go_num, trivial⟩
      case measure => simp [intOf]; omega
/-- A body's bytes are written. -/
theorem TrAt.setD {w0 w : World} {H : Nat → Prop} {tb : Nat} {t : Tr} {R : Nat → Rwt} (hq : Tq w0 H tb (5 + t.nm.length) R w) (hr : TrR t R) {b g c : Nat} (hv : (R 3).v = .slice (some ⟨g, 0, none⟩) t.da.length c) (y : Tx) : ∃ R', Tq w0 H tb (5 + t.nm.length) R' (w.setCell ⟨g, b, none⟩ (encStr y)) ∧ TrR { t with da := t.da.set b y } R' := by
  have h1 := hq.set (k := 3) (by omega) (by rw [hr.r3.2.1]; exact hv) b (encStr y)
  have g' : ∀ j, j ≠ 3 → upd R 3 ⟨(R 3).te, (R 3).v, (R 3).n, (R 3).xs.set b (encStr y)⟩ j = R j := fun j hj => upd_other R _ hj
  have hl : (t.da.set b y).length = t.da.length := by simp
  refine ⟨_, h1, by rw [g' 0 (by decide)]; exact hr.r0, by rw [g' 1 (by decide)]; exact hr.r1, ?_, ?_, ?_, fun j hj => by rw [g' _ (by omega)]; exact hr.r5 j hj⟩
  · rw [g' 2 (by decide)]
    have e1 : (List.range t.nm.length).map (fun j => (upd R 3 ⟨(R 3).te, (R 3).v, (R 3).n, (R 3).xs.set b (encStr y)⟩ (5 + j)).v) = (List.range t.nm.length).map (fun j => (R (5 + j)).v) := List.map_congr_left (fun j _ => by rw [g' _ (by omega)])
    show RowIs _ _ t.nm.length ((List.range t.nm.length).map _)
    rw [e1]
    exact hr.r2
  · rw [upd_same]
    refine ⟨hr.r3.1, hr.r3.2.1.trans hl.symm, ?_⟩
    show (R 3).xs.set b (encStr y) = (t.da.set b y).map encStr
    rw [hr.r3.2.2, List.map_set]
  · rw [g' 4 (by decide)]
    show RowIs _ _ (t.da.set b y).length _
    rw [hl]
    exact hr.r4
/-- How many bytes of a body are safe is written. -/
theorem TrAt.setA {w0 w : World} {H : Nat → Prop} {tb : Nat} {t : Tr} {R : Nat → Rwt} (hq : Tq w0 H tb (5 + t.nm.length) R w) (hr : TrR t R) {b g c : Nat} (hv : (R 4).v = .slice (some ⟨g, 0, none⟩) t.da.length c) (s : Nat) : ∃ R', Tq w0 H tb (5 + t.nm.length) R' (w.setCell ⟨g, b, none⟩ (.int .i64 (s : Int))) ∧ TrR (t.setS b s) R' := by
  have h1 := hq.set (k := 4) (by omega) (by rw [hr.r4.2.1]; exact hv) b (.int .i64 (s : Int))
  have g' : ∀ j, j ≠ 4 → upd R 4 ⟨(R 4).te, (R 4).v, (R 4).n, (R 4).xs.set b (.int .i64 (s : Int))⟩ j = R j := fun j hj => upd_other R _ hj
  refine ⟨_, h1, by rw [g' 0 (by decide)]; exact hr.r0, by rw [g' 1 (by decide)]; exact hr.r1, ?_, by rw [g' 3 (by decide)]; exact hr.r3, ?_, fun j hj => by rw [g' _ (by omega)]; exact hr.r5 j hj⟩
  · rw [g' 2 (by decide)]
    have e1 : (List.range t.nm.length).map (fun j => (upd R 4 ⟨(R 4).te, (R 4).v, (R 4).n, (R 4).xs.set b (.int .i64 (s : Int))⟩ (5 + j)).v) = (List.range t.nm.length).map (fun j => (R (5 + j)).v) := List.map_congr_left (fun j _ => by rw [g' _ (by omega)])
    show RowIs _ _ t.nm.length ((List.range t.nm.length).map _)
    rw [e1]
    exact hr.r2
  · rw [upd_same]
    refine ⟨hr.r4.1, hr.r4.2.1, ?_⟩
    show (R 4).xs.set b (.int .i64 (s : Int)) = (t.sa.set b s).map nvv
    rw [hr.r4.2.2, List.map_set]
    rfl
theorem sees_wf {t : Tr} (h : t.Wf) (f : Tx → Tx) (k : Nat) : (t.sees f k).Wf := by
  obtain ⟨e1, e2, e3, e4, e5⟩ := sees_eq t f k
  exact ⟨by rw [e1, e2]; exact h.l1, by rw [e1, e3]; exact h.l2, by rw [e4, e5]; exact h.l3, by rw [e1]; exact h.nd, by rw [e2, e5]; exact h.b1, by rw [e3, e5]; exact h.b2⟩
set_option maxHeartbeats 4000000 in
set_option maxRecDepth 1000000 in
theorem see_any {w0 w : World} {H F : Nat → Prop} {tb db : Nat} {t : Tr} {σ : Ds} (h : TrAt w0 H tb t w) (hD : DrAt w0 db σ F) (hFH : ∀ b, F b → ¬ H b) (hr0 : ∀ i, i < t.nm.length → (t.ld.getD i none = none → (σ.read (t.nm.getD i [])).1 ≠ 0) ∧ ∀ b, t.ld.getD i none = some b → (σ.read (t.nm.getD i [])).1 = 0) (hx : ∀ x ∈ t.nm, x.length ≤ 134217728) (hb : ∀ i, (σ.body i).data.length ≤ 140737488355328) (hn : t.nm.length ≤ 100000000) : Calls Try.prog 27 #[.pointer (some ⟨tb, 0, none⟩), .pointer (some ⟨db, 0, none⟩)] w fun e w' => e = .returned (.bool true) ∧ TrAt w0 H tb (t.sees (fun x => (σ.read x).2) t.nm.length) w' := by
  obtain ⟨n, hnn⟩ : ∃ n, n = t.nm.length := ⟨_, rfl⟩
  have HH := (show Hid (t.Wf ∧ n = t.nm.length ∧ (∀ i, i < t.nm.length → (t.ld.getD i none = none → (σ.read (t.nm.getD i [])).1 ≠ 0) ∧ ∀ b, t.ld.getD i none = some b → (σ.read (t.nm.getD i [])).1 = 0) ∧ (∀ x ∈ t.nm, x.length ≤ 134217728)) from ⟨h.wf, hnn, hr0, hx⟩)
  have T0 := (show Hid (TrAt w0 H tb (t.sees (fun x => (σ.read x).2) 0) w) from h)
  have RD := (show Hid (∀ X t' x, TrAt w0 H tb t' X → x.length ≤ 134217728 → Calls Try.prog 50 #[.pointer (some ⟨db, 0, none⟩), encStr x] X fun e w' => ∃ v, e = .returned (.tuple #[v, .int .i64 (σ.read x).1]) ∧ Ob w' X.heap.size v (σ.read x).2 ∧ Below X.heap.size X w') from fun X t' x hX hx' => by
    obtain ⟨R, hq, _⟩ := hX.ex
    exact read_any (hD.tn hq.tn hFH) x (by omega) (fun i _ => hb i))
  rw [← hnn] at hn ⊢
  clear h hD hFH hr0 hx hb hnn
  go_enter Try.func27, Try.ntmps27
  go_wp2
  go_loopw [5, 6, 7] (fun i a1 a2 wr => ∃ k : Nat, k ≤ n ∧ i = .int .i64 (k : Int) ∧ Hid (TrAt w0 H tb (t.sees (fun x => (σ.read x).2) k) wr)) (fun i _ _ _ => n - (intOf i).toNat)
  case atStart => exact ⟨0, Nat.zero_le _, rfl, T0⟩
  case round =>
    obtain ⟨k, hk, rfl, hB⟩ := hrel
    obtain ⟨u, hu⟩ : ∃ u, u = t.sees (fun x => (σ.read x).2) k := ⟨_, rfl⟩
    have HU := (show Hid (u = t.sees (fun x => (σ.read x).2) k ∧ u.nm = t.nm ∧ u.ld = t.ld ∧ u.Wf) from ⟨hu, by rw [hu]; exact (sees_eq t _ k).1, by rw [hu]; exact (sees_eq t _ k).2.1, by rw [hu]; exact sees_wf HH.out.1 _ k⟩)
    have T1 := (show Hid (TrAt w0 H tb u wr) from by rw [hu]; exact hB.out)
    obtain ⟨R, hq, hr⟩ := T1.out.ex
    have hun : u.nm.length = n := by rw [HU.out.2.1]; exact HH.out.2.1.symm
    have O0 := (show Hid (wr.ownsRow 0 9 1 (R 0).v n (u.nm.map encStr)) from hq.own (by omega) (by rw [← hun]; exact hr.r0))
    obtain ⟨p0, c0, e0, _⟩ := own_form O0.out
    have E0 := (show Hid ((R 0).v = .slice p0 n c0) from e0)
    have k0 := hq.cells.1
    rw [e0] at k0
    clear hu hB hq hr e0
    by_cases hlt : k < n
    · have hi : (k : Int) < (n : Int) := by omega
      have hkt : k < t.nm.length := by have := HH.out.2.1; omega
      obtain ⟨g0, cg, cur, e1, _, e3⟩ := own_cell O0.out k hlt
      rw [E0.out] at e1
      injection e1 with e1 _ e2
      subst e1 e2
      have e3' : wr.cell? ⟨g0, k, none⟩ = some (encStr (t.nm.getD k [])) := by rw [e3, HU.out.2.1]; simp [List.getD, hkt]
      have HX := (show Hid ((t.nm.getD k []).length ≤ 134217728 ∧ (t.ld.getD k none = none → (σ.read (t.nm.getD k [])).1 ≠ 0) ∧ (∀ b, t.ld.getD k none = some b → (σ.read (t.nm.getD k [])).1 = 0) ∧ t.sees (fun x => (σ.read x).2) (k + 1) = { u with da := match t.ld.getD k none with | none => u.da | some b => u.da.set b (σ.read (t.nm.getD k [])).2 }) from ⟨HH.out.2.2.2 _ (by simp [List.getD, hkt]), (HH.out.2.2.1 k hkt).1, (HH.out.2.2.1 k hkt).2, by rw [HU.out.1]; rfl⟩)
      generalize t.nm.getD k [] = x at e3' HX
      obtain ⟨ec, hec⟩ : ∃ ec, ec = (σ.read x).1 := ⟨_, rfl⟩
      obtain ⟨y, hy⟩ : ∃ y, y = (σ.read x).2 := ⟨_, rfl⟩
      have RDx := (show Hid (Calls Try.prog 50 #[.pointer (some ⟨db, 0, none⟩), encStr x] wr fun e w' => ∃ v, e = .returned (.tuple #[v, .int .i64 (ec : Int)]) ∧ Ob w' wr.heap.size v y ∧ Below wr.heap.size wr w') from by rw [hec, hy]; exact RD.out wr u x T1.out HX.out.1)
      rw [← hec, ← hy] at HX
      clear hec hy e3 hkt O0
      go_upto_region 5 with (go_at_call 50; refine RDx.out.mono ?_; rintro e x1 ⟨v, rfl, hO, hBx⟩)
      have OY := (show Hid (Ob x1 wr.heap.size v y) from hO)
      have T2 := (show Hid (TrAt w0 H tb u x1) from T1.out.below hBx)
      obtain ⟨R1, hq1, hr1⟩ := T2.out.ex
      have hku : k < u.nm.length := by omega
      obtain ⟨g1, c1, f1, f3⟩ := TrR.ldat HU.out.2.2.2 hq1 hr1 (i := k) hku
      have k1 := hq1.cells.2.1
      rw [f1, hun] at k1
      rw [HU.out.2.2.1] at f3
      clear k0 e3' hO hBx RDx T1
      cases ho : t.ld.getD k none with
      | none =>
        rw [ho] at f3
        have f3' : x1.cell? ⟨g1, k, none⟩ = some (.int .i64 (-1)) := f3
        have hec : ((ec : Int) == 0) = false := by have := HX.out.2.1 ho; simp; omega
        have HE := (show Hid (t.sees (fun x => (σ.read x).2) (k + 1) = u) from by have h9 := HX.out.2.2.2; rw [ho] at h9; exact h9)
        clear f3 ho hq1 hr1 f1
        go_wp2_with (go_at_call 12; refine (lnum_any _ _).mono ?_; rintro e wq ⟨rfl, h9⟩; obtain rfl := h9.symm)
        go_roundw
        case rel =>
          refine ⟨k + 1, by omega, by go_num, ?_⟩
          show TrAt _ _ _ _ _
          rw [HE.out]
          exact T2.out
        case measure => simp [intOf]; omega
      | some b =>
        rw [ho] at f3
        have f3' : x1.cell? ⟨g1, k, none⟩ = some (.int .i64 (b : Int)) := f3
        have hec : ec = 0 := HX.out.2.2.1 b ho
        have hb0 : ¬ (b : Int) < 0 := by omega
        subst hec
        have HE := (show Hid (t.sees (fun x => (σ.read x).2) (k + 1) = { u with da := u.da.set b y } ∧ b < u.da.length) from ⟨by have h9 := HX.out.2.2.2; rw [ho] at h9; exact h9, HU.out.2.2.2.b1 k b (by
          have hl : k < u.ld.length := by rw [HU.out.2.2.2.l1]; exact hku
          rw [← HU.out.2.2.1, List.getD, List.getElem?_eq_getElem hl] at ho
          rw [List.getElem?_eq_getElem hl]
          exact congrArg some ho)⟩)
        obtain ⟨g3, c3, g4, c4, d1, d2, d3, _⟩ := TrR.bd HU.out.2.2.2 hq1 hr1 HE.out.2
        obtain ⟨nd, hnd⟩ : ∃ nd, nd = u.da.length := ⟨_, rfl⟩
        have hbn : (b : Int) < (nd : Int) := by have := HE.out.2; omega
        have k3 := hq1.cells.2.2.2.1
        rw [d1, ← hnd] at k3
        obtain ⟨pv, cv, rfl⟩ : ∃ p c, v = .slice p y.length c := OY.out.len
        have cv1 := conv_tv OY.out.tv
        have cv2 := conv_tv (OY.out.tv.below (Below.refl _ x1).drew)
        have SD := (show Hid (∃ R', Tq w0 H tb (5 + u.nm.length) R' (x1.setCell ⟨g3, b, none⟩ (encStr y)) ∧ TrR { u with da := u.da.set b y } R') from TrAt.setD hq1 hr1 d1 y)
        have FIN := (show Hid (TrAt w0 H tb (t.sees (fun x => (σ.read x).2) (k + 1)) (x1.setCell ⟨g3, b, none⟩ (encStr y)).drew) from by
          obtain ⟨R', q1, q2⟩ := SD.out
          have hwf := sees_wf HH.out.1 (fun x => (σ.read x).2) (k + 1)
          rw [HE.out.1] at hwf ⊢
          exact TrAt.below ⟨hwf, R', q1, q2⟩ (Below.refl _ _).drew)
        generalize y.length = ny at *
        clear f3 ho hq1 hr1 f1 d1 SD hnd
        go_wp2_with (go_at_call 12; refine (lnum_any _ _).mono ?_; rintro e wq ⟨rfl, h9⟩; obtain rfl := h9.symm)
        go_region
        go_wp2_with fail
        go_roundw
        case rel => exact ⟨k + 1, by omega, by go_num, FIN⟩
        case measure => simp [intOf]; omega
    · obtain rfl : k = n := by omega
      have hi : ¬ (k : Int) < (k : Int) := by omega
      have TE := (show Hid (TrAt w0 H tb (t.sees (fun x => (σ.read x).2) k) wr) from by rw [← HU.out.1]; exact T1.out)
      go_wp2_with fail
      go_ret
      exact ⟨rfl, TE.out⟩
end
end Go.Proofs.Ytaddgmbglhdfdaa
