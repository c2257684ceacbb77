/-
  The document's value.
-/
import Derived.Test.YtjobaeopokfekaaGreatRn15
namespace Go.Proofs.YtjobaeopokfekaaGreat
open Go.RowKit
theorem rd_cells {w : World} {gb go : Nat} {xs : List (BitVec 8)} (h : Rd w (some ⟨gb, go, none⟩) xs) : ∀ i, i < xs.length → w.cell? ⟨gb, go + i, none⟩ = some (.int .u8 (el (fn xs i))) := by
  rcases h with h | ⟨b, o, e, hc⟩
  · subst h; intro i hi; cases hi
  · injection e with e
    injection e with e1 e2
    subst e1 e2
    exact hc
theorem el_bdL (a : BitVec 8) : 0 ≤ el a ∧ el a < 256 := by unfold el; have := a.isLt; omega
/-- Eight bytes as a number, if the two highest are none. -/
def vl8 (xs : List (BitVec 8)) : Int := if fn xs 7 = 0#8 then if fn xs 6 = 0#8 then (lv (xs.take 6) : Int) else -1 else -1
theorem el_zero (a : BitVec 8) : (el a = 0) ↔ a = 0#8 := by
  unfold el
  constructor
  · intro h; exact BitVec.eq_of_toNat_eq (by simpa using h)
  · rintro rfl; rfl
section
attribute [local irreducible] Calls el
set_option maxHeartbeats 4000000 in
set_option maxRecDepth 1000000 in
theorem rvalue1 {w : World} {gb go : Nat} {xs : List (BitVec 8)} (h : Rd w (some ⟨gb, go, none⟩) xs) (c : Nat) (hl : xs.length = 1) : Calls Tryz.prog 27 #[.slice (some ⟨gb, go, none⟩) 1 c] w fun e w' => e = .returned (.int .i64 (el (fn xs 0))) ∧ w' = w := by
  have c0 := rd_cells h 0 (by omega)
  rw [Nat.add_zero] at c0
  have b0 := el_bdL (fn xs 0)
  generalize el (fn xs 0) = x0 at *
  go_enter Tryz.func27, Tryz.ntmps27
  go_wp2
  refine wp_loop_rounds 2 ?_
  rw [rounds_succ]
  go_wp2
  rw [rounds_succ]
  go_wp2
  go_ret
  exact ⟨rfl, rfl⟩
set_option maxHeartbeats 4000000 in
set_option maxRecDepth 1000000 in
theorem rvalue4 {w : World} {gb go : Nat} {xs : List (BitVec 8)} (h : Rd w (some ⟨gb, go, none⟩) xs) (c : Nat) (hl : xs.length = 4) : Calls Tryz.prog 27 #[.slice (some ⟨gb, go, none⟩) 4 c] w fun e w' => e = .returned (.int .i64 (((el (fn xs 3) * 256 + el (fn xs 2)) * 256 + el (fn xs 1)) * 256 + el (fn xs 0))) ∧ w' = w := by
  have c0 := rd_cells h 0 (by omega)
  rw [Nat.add_zero] at c0
  have b0 := el_bdL (fn xs 0)
  have c1 := rd_cells h 1 (by omega)
  have b1 := el_bdL (fn xs 1)
  have c2 := rd_cells h 2 (by omega)
  have b2 := el_bdL (fn xs 2)
  have c3 := rd_cells h 3 (by omega)
  have b3 := el_bdL (fn xs 3)
  generalize el (fn xs 0) = x0 at *
  generalize el (fn xs 1) = x1 at *
  generalize el (fn xs 2) = x2 at *
  generalize el (fn xs 3) = x3 at *
  go_enter Tryz.func27, Tryz.ntmps27
  go_wp2
  refine wp_loop_rounds 5 ?_
  rw [rounds_succ]
  go_wp2
  rw [rounds_succ]
  go_wp2
  rw [rounds_succ]
  go_wp2
  rw [rounds_succ]
  go_wp2
  rw [rounds_succ]
  go_wp2
  go_ret
  exact ⟨rfl, rfl⟩
set_option maxHeartbeats 4000000 in
set_option maxRecDepth 1000000 in
theorem rvalue8 {w : World} {gb go : Nat} {xs : List (BitVec 8)} (h : Rd w (some ⟨gb, go, none⟩) xs) (c : Nat) (hl : xs.length = 8) : Calls Tryz.prog 27 #[.slice (some ⟨gb, go, none⟩) 8 c] w fun e w' => e = .returned (.int .i64 (if el (fn xs 7) = 0 then if el (fn xs 6) = 0 then ((((el (fn xs 5) * 256 + el (fn xs 4)) * 256 + el (fn xs 3)) * 256 + el (fn xs 2)) * 256 + el (fn xs 1)) * 256 + el (fn xs 0) else -1 else -1)) ∧ w' = w := by
  have c0 := rd_cells h 0 (by omega)
  rw [Nat.add_zero] at c0
  have b0 := el_bdL (fn xs 0)
  have c1 := rd_cells h 1 (by omega)
  have b1 := el_bdL (fn xs 1)
  have c2 := rd_cells h 2 (by omega)
  have b2 := el_bdL (fn xs 2)
  have c3 := rd_cells h 3 (by omega)
  have b3 := el_bdL (fn xs 3)
  have c4 := rd_cells h 4 (by omega)
  have b4 := el_bdL (fn xs 4)
  have c5 := rd_cells h 5 (by omega)
  have b5 := el_bdL (fn xs 5)
  have c6 := rd_cells h 6 (by omega)
  have b6 := el_bdL (fn xs 6)
  have c7 := rd_cells h 7 (by omega)
  have b7 := el_bdL (fn xs 7)
  generalize el (fn xs 0) = x0 at *
  generalize el (fn xs 1) = x1 at *
  generalize el (fn xs 2) = x2 at *
  generalize el (fn xs 3) = x3 at *
  generalize el (fn xs 4) = x4 at *
  generalize el (fn xs 5) = x5 at *
  generalize el (fn xs 6) = x6 at *
  generalize el (fn xs 7) = x7 at *
  by_cases h7 : x7 = 0
  · subst h7
    rw [if_pos rfl]
    by_cases h6 : x6 = 0
    · subst h6
      rw [if_pos rfl]
      go_enter Tryz.func27, Tryz.ntmps27
      go_wp2
      refine wp_loop_rounds 9 ?_
      rw [rounds_succ]
      go_wp2
      rw [rounds_succ]
      go_wp2
      rw [rounds_succ]
      go_wp2
      rw [rounds_succ]
      go_wp2
      rw [rounds_succ]
      go_wp2
      rw [rounds_succ]
      go_wp2
      rw [rounds_succ]
      go_wp2
      rw [rounds_succ]
      go_wp2
      rw [rounds_succ]
      go_wp2
      go_ret
      exact ⟨rfl, rfl⟩
    · rw [if_neg h6]
      have z6 : (x6 == 0) = false := by simpa using h6
      go_enter Tryz.func27, Tryz.ntmps27
      go_wp2
      refine wp_loop_rounds 2 ?_
      rw [rounds_succ]
      go_wp2
      rw [rounds_succ]
      go_wp2
      go_ret
      exact ⟨rfl, rfl⟩
  · rw [if_neg h7]
    have z7 : (x7 == 0) = false := by simpa using h7
    go_enter Tryz.func27, Tryz.ntmps27
    go_wp2
    refine wp_loop_rounds 1 ?_
    rw [rounds_succ]
    go_wp2
    go_ret
    exact ⟨rfl, rfl⟩
end
theorem lv_one (xs : List (BitVec 8)) (hl : xs.length = 1) : el (fn xs 0) = (lv xs : Int) := by
  match xs, hl with
  | [a], _ => simp [fn, lv, el]
theorem lv_four (xs : List (BitVec 8)) (hl : xs.length = 4) : ((el (fn xs 3) * 256 + el (fn xs 2)) * 256 + el (fn xs 1)) * 256 + el (fn xs 0) = (lv xs : Int) := by
  match xs, hl with
  | [a, b, c, d], _ =>
    simp [fn, lv, el]
    omega
theorem lv_eight (xs : List (BitVec 8)) (hl : xs.length = 8) : (if el (fn xs 7) = 0 then if el (fn xs 6) = 0 then ((((el (fn xs 5) * 256 + el (fn xs 4)) * 256 + el (fn xs 3)) * 256 + el (fn xs 2)) * 256 + el (fn xs 1)) * 256 + el (fn xs 0) else -1 else -1) = vl8 xs := by
  unfold vl8
  simp only [el_zero]
  match xs, hl with
  | [a, b, c, d, e, f, g, h], _ =>
    split
    · split
      · simp [fn, lv, el]
        omega
      · rfl
    · rfl
theorem rval1 {w : World} {gb go : Nat} {xs : List (BitVec 8)} (h : Rd w (some ⟨gb, go, none⟩) xs) (c : Nat) (hl : xs.length = 1) : Calls Tryz.prog 27 #[.slice (some ⟨gb, go, none⟩) 1 c] w fun e w' => e = .returned (.int .i64 (lv xs : Int)) ∧ w' = w := by
  have := rvalue1 h c hl
  rwa [lv_one xs hl] at this
theorem rval4 {w : World} {gb go : Nat} {xs : List (BitVec 8)} (h : Rd w (some ⟨gb, go, none⟩) xs) (c : Nat) (hl : xs.length = 4) : Calls Tryz.prog 27 #[.slice (some ⟨gb, go, none⟩) 4 c] w fun e w' => e = .returned (.int .i64 (lv xs : Int)) ∧ w' = w := by
  have := rvalue4 h c hl
  rwa [lv_four xs hl] at this
theorem rval8 {w : World} {gb go : Nat} {xs : List (BitVec 8)} (h : Rd w (some ⟨gb, go, none⟩) xs) (c : Nat) (hl : xs.length = 8) : Calls Tryz.prog 27 #[.slice (some ⟨gb, go, none⟩) 8 c] w fun e w' => e = .returned (.int .i64 (vl8 xs)) ∧ w' = w := by
  have := rvalue8 h c hl
  rwa [lv_eight xs hl] at this
end Go.Proofs.YtjobaeopokfekaaGreat
/-
  The document's Parse; the law's twin.
-/
namespace Go.Proofs.YtjobaeopokfekaaGreat
open Go.RowKit
/-- A label whose first bytes are read. -/
def lbJ (b : List (BitVec 8)) (j : Nat) : Lbl := ⟨if 0 < j then fn b 4 else 0#8, if 1 < j then fn b 5 else 0#8, if 2 < j then fn b 6 else 0#8, if 3 < j then fn b 7 else 0#8, if 4 < j then fn b 8 else 0#8, if 5 < j then fn b 9 else 0#8, if 6 < j then fn b 10 else 0#8, if 7 < j then fn b 11 else 0#8, 0, 0, 0, 0, 0⟩
theorem lbJ_zero (b : List (BitVec 8)) : lbJ b 0 = lb0 := rfl
theorem LbAt.cellJ {w : World} {g : Nat} {h : Lbl} (H : LbAt w g h) (j : Nat) (hj : j < 8) : w.cell? ⟨g, j, none⟩ = some (.int .u8 (el (h.st.getD j 0#8))) := by
  rcases H.store with e | ⟨b, o, e, hc⟩
  · cases e
  · injection e with e
    injection e with e1 e2
    subst e1 e2
    have := hc j hj
    rw [Nat.zero_add] at this
    exact this
theorem LbAt.setJ {w : World} {g : Nat} (b : List (BitVec 8)) (j : Nat) (H : LbAt w g (lbJ b j)) (hj : j < 8) : LbAt (w.setCell ⟨g, j, none⟩ (.int .u8 (el (fn b (4 + j))))) g (lbJ b (j + 1)) := by
  unfold LbAt at H ⊢
  rw [heap_setCell_same _ g j _ _ _ H]
  match j, hj with
  | 0, _ => rfl
  | 1, _ => rfl
  | 2, _ => rfl
  | 3, _ => rfl
  | 4, _ => rfl
  | 5, _ => rfl
  | 6, _ => rfl
  | 7, _ => rfl
/-- What the document reads as a label. -/
def rlD (b : List (BitVec 8)) : Lbl := { lbJ b 8 with k := lv (ctL b 12 1), m := lv (ctL b 13 1), b := lv (ctL b 14 4), ix := lv (ctL b 18 1), ep := vl8 (ctL b 19 8) }
theorem rlD_in (b : List (BitVec 8)) (hn : b.length = 31) : (rlD b).In := by
  refine ⟨lv_i64 _ 1 (by omega) (Nat.le_of_eq (ctL_len _ _ _ (by omega))), lv_i64 _ 1 (by omega) (Nat.le_of_eq (ctL_len _ _ _ (by omega))), lv_i64 _ 4 (by omega) (Nat.le_of_eq (ctL_len _ _ _ (by omega))), lv_i64 _ 1 (by omega) (Nat.le_of_eq (ctL_len _ _ _ (by omega))), ?_⟩
  show I64 (vl8 (ctL b 19 8))
  have h1 := lvb 6 ((ctL b 19 8).take 6) (by rw [List.length_take]; omega)
  have p6 : 256 ^ 6 = 281474976710656 := rfl
  unfold I64 vl8
  split
  · split <;> omega
  · omega
theorem vl8_s64 (xs : List (BitVec 8)) (hl : xs.length = 8) (hlt : lv xs ≤ 4294967295) : vl8 xs = s64 (lv xs) := by
  match xs, hl with
  | [a0, a1, a2, a3, a4, a5, a6, a7], _ =>
    have q0 := a0.isLt
    have q1 := a1.isLt
    have q2 := a2.isLt
    have q3 := a3.isLt
    have q4 := a4.isLt
    have q5 := a5.isLt
    have q6 := a6.isLt
    have q7 := a7.isLt
    simp only [lv] at hlt
    have z7 : a7 = 0#8 := BitVec.eq_of_toNat_eq (by simp; omega)
    have z6 : a6 = 0#8 := BitVec.eq_of_toNat_eq (by simp; omega)
    subst z7 z6
    have t1 : vl8 [a0, a1, a2, a3, a4, a5, 0#8, 0#8] = (lv [a0, a1, a2, a3, a4, a5] : Int) := rfl
    have t2 : lv [a0, a1, a2, a3, a4, a5, 0#8, 0#8] = lv [a0, a1, a2, a3, a4, a5] := by simp [lv]
    rw [t1, t2]
    unfold s64
    rw [if_pos (by simp only [lv]; omega)]
theorem rlD_rlb (b : List (BitVec 8)) (h : Lbl) (e : pL b = (0, h)) : rlD b = h := by
  obtain ⟨ok, hb⟩ := pL_inv b h e
  have hl : b.length = 31 := by rw [hb, Lbl.fm_len]
  have hr : rlb b = h := by rw [hb]; exact rlb_fm h ok
  have e1 := ok.e1
  have e2 := ok.e2
  have hep : h.ep = s64 (lv (ctL b 19 8)) := by rw [← hr]; rfl
  have hv : vl8 (ctL b 19 8) = h.ep := by
    have hlt : lv (ctL b 19 8) ≤ 4294967295 := by
      have hl8 := lvb 8 (ctL b 19 8) (Nat.le_of_eq (ctL_len _ _ _ (by omega)))
      have p8 : 256 ^ 8 = 18446744073709551616 := rfl
      unfold s64 at hep
      split at hep <;> omega
    rw [hep]
    exact vl8_s64 _ (ctL_len _ _ _ (by omega)) hlt
  have hs : lbJ b 8 = { rlb b with k := 0, m := 0, b := 0, ix := 0, ep := 0 } := rfl
  unfold rlD
  rw [hs, hv, ← hr]
  rfl
theorem pL_rlD (b : List (BitVec 8)) : pL b = if (rlD b).ck = 0 ∧ (rlD b).fm = b then (0, rlD b) else (150, lb0) := by
  split
  · rename_i h
    have := pL_fm (rlD b) ((ck_ok _).1 h.1)
    rw [h.2] at this
    exact this
  · rename_i h
    rcases pL_or b with ⟨l, hl⟩ | hl
    · exfalso
      have e := rlD_rlb b l hl
      obtain ⟨ok, hb⟩ := pL_inv b l hl
      exact h ⟨by rw [e]; exact (ck_ok l).2 ok, by rw [e]; exact hb.symm⟩
    · exact hl
theorem rvb1 {w : World} {gb go : Nat} {xs : List (BitVec 8)} (h : Rd w (some ⟨gb, go, none⟩) xs) (c : Nat) (hl : xs.length = 1) : Calls Tryz.prog 27 #[.slice (some ⟨gb, go, none⟩) 1 c] w fun e w' => e = .returned (.int .i64 ((lv xs : Int))) ∧ Below w.heap.size w w' := (rval1 h c hl).mono (fun _ _ ⟨h1, h2⟩ => ⟨h1, h2 ▸ Below.refl _ _⟩)
theorem rvb4 {w : World} {gb go : Nat} {xs : List (BitVec 8)} (h : Rd w (some ⟨gb, go, none⟩) xs) (c : Nat) (hl : xs.length = 4) : Calls Tryz.prog 27 #[.slice (some ⟨gb, go, none⟩) 4 c] w fun e w' => e = .returned (.int .i64 ((lv xs : Int))) ∧ Below w.heap.size w w' := (rval4 h c hl).mono (fun _ _ ⟨h1, h2⟩ => ⟨h1, h2 ▸ Below.refl _ _⟩)
theorem rvb8 {w : World} {gb go : Nat} {xs : List (BitVec 8)} (h : Rd w (some ⟨gb, go, none⟩) xs) (c : Nat) (hl : xs.length = 8) : Calls Tryz.prog 27 #[.slice (some ⟨gb, go, none⟩) 8 c] w fun e w' => e = .returned (.int .i64 (vl8 xs)) ∧ Below w.heap.size w w' := (rval8 h c hl).mono (fun _ _ ⟨h1, h2⟩ => ⟨h1, h2 ▸ Below.refl _ _⟩)
section
attribute [local irreducible] Calls el Lbl.cs cmo rg smL
set_option maxHeartbeats 4000000 in
set_option maxRecDepth 1000000 in
theorem twin15_any {w : World} {p : Option Addr} {xs : List (BitVec 8)} (h : Rd w p xs) (n c : Nat) (hn : xs.length = n) (hm : n ≤ 140737488355328) : Calls Tryz.prog 18 #[.slice p n c] w fun e w' => ∃ v, e = .returned v ∧ Ow w' w.heap.size v xs ∧ Below w.heap.size w w' := by
  go_enter Tryz.func18, Tryz.ntmps18
  go_wp2_with (at_builtin; refine wpList_cl rfl _ _ rfl rfl p n c xs rfl h hn hm ?_; intro v1 w1 ho1 hb1)
  go_ret
  exact ⟨_, rfl, ho1, hb1⟩
set_option maxHeartbeats 4000000 in
set_option maxRecDepth 1000000 in
theorem rparse_len {w : World} (p : Option Addr) (n c : Nat) (hn : n ≠ 31) :
    Calls Tryz.prog 11 #[.slice p n c] w fun e w' => e = .returned (.tuple #[.agg lb0.cs, .int .i64 150]) ∧ Below w.heap.size w w' := by
  have hi : ¬ ((n : Int) = 31) := by omega
  have hi' : ((n : Int) == 31) = false := by simpa using hi
  go_enter Tryz.func11, Tryz.ntmps11
  go_wp2_with (first
    | (refine wpList_alLb rfl rfl ?_; intro wA ZA hbA hsA; clear hsA)
    | (refine wpList_bd0 rfl rfl ?_)
    | (refine wpList_storeLb rfl _ _ rfl rfl w.heap.size rfl rfl ZA ?_; intro wC ZC hTC; replace hbA := hTC.2.1 _ _ hbA (Nat.le_refl _)))
  exact bodyPost_ret (res_lb rfl _ _ w.heap.size lb0 (.int .i64 150) rfl rfl ZC) rfl ⟨rfl, hbA⟩
set_option maxHeartbeats 8000000 in
set_option maxRecDepth 1000000 in
theorem rparse_31 {w : World} {gb go : Nat} {bs : List (BitVec 8)} (h : Rd w (some ⟨gb, go, none⟩) bs) (c : Nat) (hl : bs.length = 31) (hc : 31 ≤ c) :
    Calls Tryz.prog 11 #[.slice (some ⟨gb, go, none⟩) 31 c] w fun e w' => e = .returned (.tuple #[.agg (pL bs).2.cs, .int .i64 (pL bs).1]) ∧ Below w.heap.size w w' := by
  rw [pL_rlD bs]
  generalize hq : (if (rlD bs).ck = 0 ∧ (rlD bs).fm = bs then ((0 : Int), rlD bs) else (150, lb0)) = q
  have HQ := (show Hid _ from hq)
  clear hq
  have RE := (show Hid _ from fun w => rencode_any (rlD bs) (rlD_in bs hl) w)
  have CB := (show Hid (∀ W, Below w.heap.size w W → ∀ j, j < 8 → W.cell? ⟨gb, go + (4 + j), none⟩ = some (.int .u8 (el (fn bs (4 + j))))) from fun W hb j hj => rd_cells (h.below hb) (4 + j) (by omega))
  go_enter Tryz.func11, Tryz.ntmps11
  go_wp2_with (first
    | (revert ZA; intro ZA; refine wpList_alLb rfl rfl ?_; intro wB ZB hbB hsB; clear hsB; have hbx := bt hbA hbB; replace ZA := ZA.below hbB)
    | (refine wpList_alLb rfl rfl ?_; intro wA ZA hbA hsA; have hw0 := (show Hid (w.heap.size < wA.heap.size) from by show _ < _; omega); clear hsA))
  go_loopw [5] (fun i wr => ∃ j : Nat, j ≤ 8 ∧ i = .int .i64 (j : Int) ∧ LbAt wr wA.heap.size (lbJ bs j) ∧ LbAt wr w.heap.size lb0 ∧ Below w.heap.size w wr) (fun i _ => 8 - (intOf i).toNat)
  case atStart => exact ⟨0, Nat.zero_le _, rfl, ZB, ZA, hbx⟩
  case round =>
    obtain ⟨j, hj, rfl, YB, YA, hb⟩ := hrel
    by_cases hlt : j < 8
    · have hi : (j : Int) < 8 := by omega
      have hcell := CB.out wr hb j hlt
      have hc2 := YB.cellJ j hlt
      have hf2 := frozen_of_row wr wA.heap.size j _ _ YB
      have ZS := (show Hid _ from YB.setJ bs j hlt)
      have w4 : wrap64 (4 + (j : Int)) = 4 + (j : Int) := by unfold wrap64; omega
      generalize fn bs (4 + j) = z at *
      go_wp2
      go_roundw
      case rel => exact ⟨j + 1, by omega, by go_num, ZS.out, YA.other ⟨wA.heap.size, j, none⟩ _ (Nat.ne_of_lt hw0.out), hb.setCell (show w.heap.size ≤ (⟨wA.heap.size, j, none⟩ : Addr).block from Nat.le_of_lt hw0.out) _⟩
      case measure => simp [intOf]; omega
    · obtain rfl : j = 8 := by omega
      have YW := hb
      have s0 : Hid (0 = 0) := rfl
      have i13 : (13 : Int) ≤ (c : Int) := by omega
      have i14 : (14 : Int) ≤ (c : Int) := by omega
      have i18 : (18 : Int) ≤ (c : Int) := by omega
      have i19 : (19 : Int) ≤ (c : Int) := by omega
      have i27 : (27 : Int) ≤ (c : Int) := by omega
      have n12 : ¬ c = 12 := by omega
      have n13 : ¬ c = 13 := by omega
      have n14 : ¬ c = 14 := by omega
      have n18 : ¬ c = 18 := by omega
      have n19 : ¬ c = 19 := by omega
      clear hb
      by_cases h0 : (rlD bs).ck = 0
      · unfold Lbl.enc at RE
        rw [if_pos h0, h0] at RE
        by_cases h1 : (rlD bs).fm = bs
        · have hq := HQ.out
          rw [if_pos ⟨h0, h1⟩] at hq
          subst hq
          clear HQ
          have SQ : ((bstr (rlD bs).fm).toList == (bstr bs).toList) = true := by rw [h1]; simp
          clear h1
          go_wp2_with (first
        | (revert s0; intro s0; go_at_call 27; refine (rvb1 (h.belowT YW 12 1 hl) _ (ctL_len _ _ _ (by omega))).mono ?_; rintro e w3 ⟨rfl, hb3⟩; replace YB := YB.below hb3; replace YA := YA.below hb3; replace YW := bt YW hb3; clear s0; have s1 : Hid (0 = 0) := rfl; have cc := (LbAt.cells YB).1; have fz := frozen_of_row _ wA.heap.size 8 _ _ YB; replace YB := LbAt.setk YB ((lv (ctL bs 12 1) : Int)); replace YA := YA.other ⟨wA.heap.size, 8, none⟩ (.int .i64 ((lv (ctL bs 12 1) : Int))) (Nat.ne_of_lt hw0.out); replace YW := YW.setCell (show w.heap.size ≤ (⟨wA.heap.size, 8, none⟩ : Addr).block from Nat.le_of_lt hw0.out) (.int .i64 ((lv (ctL bs 12 1) : Int))))
        | (revert s1; intro s1; go_at_call 27; refine (rvb1 (h.belowT YW 13 1 hl) _ (ctL_len _ _ _ (by omega))).mono ?_; rintro e w3 ⟨rfl, hb3⟩; replace YB := YB.below hb3; replace YA := YA.below hb3; replace YW := bt YW hb3; clear s1; have s2 : Hid (0 = 0) := rfl; have cc := (LbAt.cells YB).2.1; have fz := frozen_of_row _ wA.heap.size 9 _ _ YB; replace YB := LbAt.setm YB ((lv (ctL bs 13 1) : Int)); replace YA := YA.other ⟨wA.heap.size, 9, none⟩ (.int .i64 ((lv (ctL bs 13 1) : Int))) (Nat.ne_of_lt hw0.out); replace YW := YW.setCell (show w.heap.size ≤ (⟨wA.heap.size, 9, none⟩ : Addr).block from Nat.le_of_lt hw0.out) (.int .i64 ((lv (ctL bs 13 1) : Int))))
        | (revert s2; intro s2; go_at_call 27; refine (rvb4 (h.belowT YW 14 4 hl) _ (ctL_len _ _ _ (by omega))).mono ?_; rintro e w3 ⟨rfl, hb3⟩; replace YB := YB.below hb3; replace YA := YA.below hb3; replace YW := bt YW hb3; clear s2; have s3 : Hid (0 = 0) := rfl; have cc := (LbAt.cells YB).2.2.1; have fz := frozen_of_row _ wA.heap.size 10 _ _ YB; replace YB := LbAt.setb YB ((lv (ctL bs 14 4) : Int)); replace YA := YA.other ⟨wA.heap.size, 10, none⟩ (.int .i64 ((lv (ctL bs 14 4) : Int))) (Nat.ne_of_lt hw0.out); replace YW := YW.setCell (show w.heap.size ≤ (⟨wA.heap.size, 10, none⟩ : Addr).block from Nat.le_of_lt hw0.out) (.int .i64 ((lv (ctL bs 14 4) : Int))))
        | (revert s3; intro s3; go_at_call 27; refine (rvb1 (h.belowT YW 18 1 hl) _ (ctL_len _ _ _ (by omega))).mono ?_; rintro e w3 ⟨rfl, hb3⟩; replace YB := YB.below hb3; replace YA := YA.below hb3; replace YW := bt YW hb3; clear s3; have s4 : Hid (0 = 0) := rfl; have cc := (LbAt.cells YB).2.2.2.1; have fz := frozen_of_row _ wA.heap.size 11 _ _ YB; replace YB := LbAt.setix YB ((lv (ctL bs 18 1) : Int)); replace YA := YA.other ⟨wA.heap.size, 11, none⟩ (.int .i64 ((lv (ctL bs 18 1) : Int))) (Nat.ne_of_lt hw0.out); replace YW := YW.setCell (show w.heap.size ≤ (⟨wA.heap.size, 11, none⟩ : Addr).block from Nat.le_of_lt hw0.out) (.int .i64 ((lv (ctL bs 18 1) : Int))))
        | (revert s4; intro s4; go_at_call 27; refine (rvb8 (h.belowT YW 19 8 hl) _ (ctL_len _ _ _ (by omega))).mono ?_; rintro e w3 ⟨rfl, hb3⟩; replace YB := YB.below hb3; replace YA := YA.below hb3; replace YW := bt YW hb3; clear s4; have s5 : Hid (0 = 0) := rfl; have cc := (LbAt.cells YB).2.2.2.2; have fz := frozen_of_row _ wA.heap.size 12 _ _ YB; replace YB := LbAt.setep YB (vl8 (ctL bs 19 8)); replace YA := YA.other ⟨wA.heap.size, 12, none⟩ (.int .i64 (vl8 (ctL bs 19 8))) (Nat.ne_of_lt hw0.out); replace YW := YW.setCell (show w.heap.size ≤ (⟨wA.heap.size, 12, none⟩ : Addr).block from Nat.le_of_lt hw0.out) (.int .i64 (vl8 (ctL bs 19 8))); replace YB : LbAt (w3.setCell ⟨wA.heap.size, 12, none⟩ (.int .i64 (vl8 (ctL bs 19 8)))) wA.heap.size (rlD bs) := YB)
        | (revert s5; intro s5; refine wpList_loadLb rfl _ rfl wA.heap.size rfl YB ?_)
        | (go_at_call 15; refine (RE.out _).mono ?_; rintro e w5 ⟨v5, rfl, ho5, hb5⟩; obtain ⟨p5, c5, rfl, hc5, hr5⟩ := ho5.rd; replace YA := YA.below hb5; replace YB := YB.below hb5; replace YW := bt YW hb5; have CV1 := conv_rd hr5 _ c5 rfl; have CV2 := conv_rd (h.below YW) 31 c hl)
        | (revert s5; intro s5; refine wpList_storeLb rfl _ _ rfl rfl w.heap.size rfl rfl YA ?_; intro wF ZF hTF; replace YW := hTF.2.1 _ _ YW (Nat.le_refl _))
        | (revert s5; intro s5; refine wpList_bd0 rfl rfl ?_))
          exact bodyPost_ret (res_lb rfl _ _ w.heap.size (rlD bs) (.int .i64 0) rfl rfl ZF) rfl ⟨rfl, YW⟩
        · have hq := HQ.out
          rw [if_neg (fun hh => h1 hh.2)] at hq
          subst hq
          clear HQ
          have SQ : ((bstr (rlD bs).fm).toList == (bstr bs).toList) = false := by rw [bstr_beq]; exact decide_eq_false h1
          go_wp2_with (first
        | (revert s0; intro s0; go_at_call 27; refine (rvb1 (h.belowT YW 12 1 hl) _ (ctL_len _ _ _ (by omega))).mono ?_; rintro e w3 ⟨rfl, hb3⟩; replace YB := YB.below hb3; replace YA := YA.below hb3; replace YW := bt YW hb3; clear s0; have s1 : Hid (0 = 0) := rfl; have cc := (LbAt.cells YB).1; have fz := frozen_of_row _ wA.heap.size 8 _ _ YB; replace YB := LbAt.setk YB ((lv (ctL bs 12 1) : Int)); replace YA := YA.other ⟨wA.heap.size, 8, none⟩ (.int .i64 ((lv (ctL bs 12 1) : Int))) (Nat.ne_of_lt hw0.out); replace YW := YW.setCell (show w.heap.size ≤ (⟨wA.heap.size, 8, none⟩ : Addr).block from Nat.le_of_lt hw0.out) (.int .i64 ((lv (ctL bs 12 1) : Int))))
        | (revert s1; intro s1; go_at_call 27; refine (rvb1 (h.belowT YW 13 1 hl) _ (ctL_len _ _ _ (by omega))).mono ?_; rintro e w3 ⟨rfl, hb3⟩; replace YB := YB.below hb3; replace YA := YA.below hb3; replace YW := bt YW hb3; clear s1; have s2 : Hid (0 = 0) := rfl; have cc := (LbAt.cells YB).2.1; have fz := frozen_of_row _ wA.heap.size 9 _ _ YB; replace YB := LbAt.setm YB ((lv (ctL bs 13 1) : Int)); replace YA := YA.other ⟨wA.heap.size, 9, none⟩ (.int .i64 ((lv (ctL bs 13 1) : Int))) (Nat.ne_of_lt hw0.out); replace YW := YW.setCell (show w.heap.size ≤ (⟨wA.heap.size, 9, none⟩ : Addr).block from Nat.le_of_lt hw0.out) (.int .i64 ((lv (ctL bs 13 1) : Int))))
        | (revert s2; intro s2; go_at_call 27; refine (rvb4 (h.belowT YW 14 4 hl) _ (ctL_len _ _ _ (by omega))).mono ?_; rintro e w3 ⟨rfl, hb3⟩; replace YB := YB.below hb3; replace YA := YA.below hb3; replace YW := bt YW hb3; clear s2; have s3 : Hid (0 = 0) := rfl; have cc := (LbAt.cells YB).2.2.1; have fz := frozen_of_row _ wA.heap.size 10 _ _ YB; replace YB := LbAt.setb YB ((lv (ctL bs 14 4) : Int)); replace YA := YA.other ⟨wA.heap.size, 10, none⟩ (.int .i64 ((lv (ctL bs 14 4) : Int))) (Nat.ne_of_lt hw0.out); replace YW := YW.setCell (show w.heap.size ≤ (⟨wA.heap.size, 10, none⟩ : Addr).block from Nat.le_of_lt hw0.out) (.int .i64 ((lv (ctL bs 14 4) : Int))))
        | (revert s3; intro s3; go_at_call 27; refine (rvb1 (h.belowT YW 18 1 hl) _ (ctL_len _ _ _ (by omega))).mono ?_; rintro e w3 ⟨rfl, hb3⟩; replace YB := YB.below hb3; replace YA := YA.below hb3; replace YW := bt YW hb3; clear s3; have s4 : Hid (0 = 0) := rfl; have cc := (LbAt.cells YB).2.2.2.1; have fz := frozen_of_row _ wA.heap.size 11 _ _ YB; replace YB := LbAt.setix YB ((lv (ctL bs 18 1) : Int)); replace YA := YA.other ⟨wA.heap.size, 11, none⟩ (.int .i64 ((lv (ctL bs 18 1) : Int))) (Nat.ne_of_lt hw0.out); replace YW := YW.setCell (show w.heap.size ≤ (⟨wA.heap.size, 11, none⟩ : Addr).block from Nat.le_of_lt hw0.out) (.int .i64 ((lv (ctL bs 18 1) : Int))))
        | (revert s4; intro s4; go_at_call 27; refine (rvb8 (h.belowT YW 19 8 hl) _ (ctL_len _ _ _ (by omega))).mono ?_; rintro e w3 ⟨rfl, hb3⟩; replace YB := YB.below hb3; replace YA := YA.below hb3; replace YW := bt YW hb3; clear s4; have s5 : Hid (0 = 0) := rfl; have cc := (LbAt.cells YB).2.2.2.2; have fz := frozen_of_row _ wA.heap.size 12 _ _ YB; replace YB := LbAt.setep YB (vl8 (ctL bs 19 8)); replace YA := YA.other ⟨wA.heap.size, 12, none⟩ (.int .i64 (vl8 (ctL bs 19 8))) (Nat.ne_of_lt hw0.out); replace YW := YW.setCell (show w.heap.size ≤ (⟨wA.heap.size, 12, none⟩ : Addr).block from Nat.le_of_lt hw0.out) (.int .i64 (vl8 (ctL bs 19 8))); replace YB : LbAt (w3.setCell ⟨wA.heap.size, 12, none⟩ (.int .i64 (vl8 (ctL bs 19 8)))) wA.heap.size (rlD bs) := YB)
        | (revert s5; intro s5; refine wpList_loadLb rfl _ rfl wA.heap.size rfl YB ?_)
        | (go_at_call 15; refine (RE.out _).mono ?_; rintro e w5 ⟨v5, rfl, ho5, hb5⟩; obtain ⟨p5, c5, rfl, hc5, hr5⟩ := ho5.rd; replace YA := YA.below hb5; replace YB := YB.below hb5; replace YW := bt YW hb5; have CV1 := conv_rd hr5 _ c5 rfl; have CV2 := conv_rd (h.below YW) 31 c hl)
        | (revert s5; intro s5; refine wpList_storeLb rfl _ _ rfl rfl w.heap.size rfl rfl YA ?_; intro wF ZF hTF; replace YW := hTF.2.1 _ _ YW (Nat.le_refl _))
        | (revert s5; intro s5; refine wpList_bd0 rfl rfl ?_))
          exact bodyPost_ret (res_lb rfl _ _ w.heap.size lb0 (.int .i64 150) rfl rfl ZF) rfl ⟨rfl, YW⟩
      · have hq := HQ.out
        rw [if_neg (fun hh => h0 hh.1)] at hq
        subst hq
        clear HQ
        generalize (rlD bs).ck = z at h0 RE
        have hz : (z != 0) = true := by simpa using h0
        go_wp2_with (first
        | (revert s0; intro s0; go_at_call 27; refine (rvb1 (h.belowT YW 12 1 hl) _ (ctL_len _ _ _ (by omega))).mono ?_; rintro e w3 ⟨rfl, hb3⟩; replace YB := YB.below hb3; replace YA := YA.below hb3; replace YW := bt YW hb3; clear s0; have s1 : Hid (0 = 0) := rfl; have cc := (LbAt.cells YB).1; have fz := frozen_of_row _ wA.heap.size 8 _ _ YB; replace YB := LbAt.setk YB ((lv (ctL bs 12 1) : Int)); replace YA := YA.other ⟨wA.heap.size, 8, none⟩ (.int .i64 ((lv (ctL bs 12 1) : Int))) (Nat.ne_of_lt hw0.out); replace YW := YW.setCell (show w.heap.size ≤ (⟨wA.heap.size, 8, none⟩ : Addr).block from Nat.le_of_lt hw0.out) (.int .i64 ((lv (ctL bs 12 1) : Int))))
        | (revert s1; intro s1; go_at_call 27; refine (rvb1 (h.belowT YW 13 1 hl) _ (ctL_len _ _ _ (by omega))).mono ?_; rintro e w3 ⟨rfl, hb3⟩; replace YB := YB.below hb3; replace YA := YA.below hb3; replace YW := bt YW hb3; clear s1; have s2 : Hid (0 = 0) := rfl; have cc := (LbAt.cells YB).2.1; have fz := frozen_of_row _ wA.heap.size 9 _ _ YB; replace YB := LbAt.setm YB ((lv (ctL bs 13 1) : Int)); replace YA := YA.other ⟨wA.heap.size, 9, none⟩ (.int .i64 ((lv (ctL bs 13 1) : Int))) (Nat.ne_of_lt hw0.out); replace YW := YW.setCell (show w.heap.size ≤ (⟨wA.heap.size, 9, none⟩ : Addr).block from Nat.le_of_lt hw0.out) (.int .i64 ((lv (ctL bs 13 1) : Int))))
        | (revert s2; intro s2; go_at_call 27; refine (rvb4 (h.belowT YW 14 4 hl) _ (ctL_len _ _ _ (by omega))).mono ?_; rintro e w3 ⟨rfl, hb3⟩; replace YB := YB.below hb3; replace YA := YA.below hb3; replace YW := bt YW hb3; clear s2; have s3 : Hid (0 = 0) := rfl; have cc := (LbAt.cells YB).2.2.1; have fz := frozen_of_row _ wA.heap.size 10 _ _ YB; replace YB := LbAt.setb YB ((lv (ctL bs 14 4) : Int)); replace YA := YA.other ⟨wA.heap.size, 10, none⟩ (.int .i64 ((lv (ctL bs 14 4) : Int))) (Nat.ne_of_lt hw0.out); replace YW := YW.setCell (show w.heap.size ≤ (⟨wA.heap.size, 10, none⟩ : Addr).block from Nat.le_of_lt hw0.out) (.int .i64 ((lv (ctL bs 14 4) : Int))))
        | (revert s3; intro s3; go_at_call 27; refine (rvb1 (h.belowT YW 18 1 hl) _ (ctL_len _ _ _ (by omega))).mono ?_; rintro e w3 ⟨rfl, hb3⟩; replace YB := YB.below hb3; replace YA := YA.below hb3; replace YW := bt YW hb3; clear s3; have s4 : Hid (0 = 0) := rfl; have cc := (LbAt.cells YB).2.2.2.1; have fz := frozen_of_row _ wA.heap.size 11 _ _ YB; replace YB := LbAt.setix YB ((lv (ctL bs 18 1) : Int)); replace YA := YA.other ⟨wA.heap.size, 11, none⟩ (.int .i64 ((lv (ctL bs 18 1) : Int))) (Nat.ne_of_lt hw0.out); replace YW := YW.setCell (show w.heap.size ≤ (⟨wA.heap.size, 11, none⟩ : Addr).block from Nat.le_of_lt hw0.out) (.int .i64 ((lv (ctL bs 18 1) : Int))))
        | (revert s4; intro s4; go_at_call 27; refine (rvb8 (h.belowT YW 19 8 hl) _ (ctL_len _ _ _ (by omega))).mono ?_; rintro e w3 ⟨rfl, hb3⟩; replace YB := YB.below hb3; replace YA := YA.below hb3; replace YW := bt YW hb3; clear s4; have s5 : Hid (0 = 0) := rfl; have cc := (LbAt.cells YB).2.2.2.2; have fz := frozen_of_row _ wA.heap.size 12 _ _ YB; replace YB := LbAt.setep YB (vl8 (ctL bs 19 8)); replace YA := YA.other ⟨wA.heap.size, 12, none⟩ (.int .i64 (vl8 (ctL bs 19 8))) (Nat.ne_of_lt hw0.out); replace YW := YW.setCell (show w.heap.size ≤ (⟨wA.heap.size, 12, none⟩ : Addr).block from Nat.le_of_lt hw0.out) (.int .i64 (vl8 (ctL bs 19 8))); replace YB : LbAt (w3.setCell ⟨wA.heap.size, 12, none⟩ (.int .i64 (vl8 (ctL bs 19 8)))) wA.heap.size (rlD bs) := YB)
        | (revert s5; intro s5; refine wpList_loadLb rfl _ rfl wA.heap.size rfl YB ?_)
        | (go_at_call 15; refine (RE.out _).mono ?_; rintro e w5 ⟨v5, rfl, ho5, hb5⟩; obtain ⟨p5, c5, rfl, hc5, hr5⟩ := ho5.rd; replace YA := YA.below hb5; replace YB := YB.below hb5; replace YW := bt YW hb5; have CV1 := conv_rd hr5 _ c5 rfl; have CV2 := conv_rd (h.below YW) 31 c hl)
        | (revert s5; intro s5; refine wpList_storeLb rfl _ _ rfl rfl w.heap.size rfl rfl YA ?_; intro wF ZF hTF; replace YW := hTF.2.1 _ _ YW (Nat.le_refl _))
        | (revert s5; intro s5; refine wpList_bd0 rfl rfl ?_))
        exact bodyPost_ret (res_lb rfl _ _ w.heap.size lb0 (.int .i64 150) rfl rfl ZF) rfl ⟨rfl, YW⟩
theorem rparse_any {w : World} {p : Option Addr} {bs : List (BitVec 8)} (h : Rd w p bs) (n c : Nat) (hl : bs.length = n) (hc : n ≤ c) :
    Calls Tryz.prog 11 #[.slice p n c] w fun e w' => e = .returned (.tuple #[.agg (pL bs).2.cs, .int .i64 (pL bs).1]) ∧ Below w.heap.size w w' := by
  by_cases h31 : n = 31
  · subst h31
    rcases h with e | ⟨gb, go, e, hcc⟩
    · subst e; cases hl
    · subst e
      exact rparse_31 (.inr ⟨gb, go, rfl, hcc⟩) c hl hc
  · have e : pL bs = (150, lb0) := by unfold pL; rw [if_neg (by omega)]
    rw [e]
    exact rparse_len p n c h31
end
end Go.Proofs.YtjobaeopokfekaaGreat
