/-
  The chance that more than some drives fail, as mathematics; withOneMore.
-/
import Derived.Test.YtcfjinpjijcheabNc27
namespace Go.Proofs.Ytcfjinpjijcheab
open Go.RowKit
def fad (x y : Nat) : Nat := (F6.add x y).getD 0
def fmu (x y : Nat) : Nat := (F6.mul x y).getD 0
def fsu (x y : Nat) : Nat := (F6.sub x y).getD 0
attribute [local irreducible] dR dW p2 fR fW fV fval
/-- A number from 0 to 2 to the power k, in its own bits. -/
def Cn (k w : Nat) : Prop := w ≤ (1023 + k) * 4503599627370496
theorem Cn.nn {k w : Nat} (h : Cn k w) (hk : k ≤ 1023) : Nn k w := nn_small h hk
theorem cn_zero (k : Nat) : Cn k 0 := Nat.zero_le _
theorem cn_one (k : Nat) : Cn k 4607182418800017408 := by unfold Cn; omega
theorem Cn.mono {k j w : Nat} (h : Cn k w) (hk : k ≤ j) : Cn j w := Nat.le_trans h (Nat.mul_le_mul_right _ (by omega))
theorem cn_dR {k x : Nat} (h : Nn k (dR x)) (hx : dR x ≤ 9218868437227405312) : Cn k (dR x) := by
  have := h.2
  rwa [frg_small hx] at this
theorem dR_inf (x : Nat) : dR x ≤ 9218868437227405312 := by
  obtain ⟨n, _, h⟩ := nr_fR F6 2148 F6_hF F6_hc x
  unfold dR
  rw [h, F6_I]
  omega
theorem fad_ok {k x y : Nat} (hk : k ≤ 1022) (hx : Cn k x) (hy : Nn k y ∨ Zr y) : F6.add x y = some (fad x y) ∧ Cn (k + 1) (fad x y) ∧ fad x y = dR (dv x + dv y) := by
  obtain ⟨h1, h2⟩ := add_nn hk (hx.nn (by omega)) hy
  have : fad x y = dR (dv x + dv y) := by unfold fad; rw [h1, Option.getD_some]
  rw [this]
  exact ⟨h1, cn_dR h2 (dR_inf _), rfl⟩
theorem fmu_ok {k x y : Nat} (hk : k ≤ 1022) (hx : Cn k x) (hy : Nn 0 y ∨ Zr y) : F6.mul x y = some (fmu x y) ∧ (Nn k (fmu x y) ∨ Zr (fmu x y)) ∧ (Nn 0 y → Cn k (fmu x y)) := by
  obtain ⟨r, h1, h2, h3⟩ := mul_nn hk (hx.nn (by omega)) hy
  have : fmu x y = r := by unfold fmu; rw [h1, Option.getD_some]
  rw [this]
  refine ⟨h1, h2, fun h => ?_⟩
  obtain ⟨e, h4⟩ := h3 h
  rw [e] at h4 ⊢
  exact cn_dR h4 (dR_inf _)
theorem fsu_ok {y : Nat} (hy : Nn 0 y ∨ Zr y) : F6.sub 4607182418800017408 y = some (fsu 4607182418800017408 y) ∧ Nn 0 (fsu 4607182418800017408 y) ∧ fsu 4607182418800017408 y = dR (p2 2148 - dv y) := by
  obtain ⟨h1, h2⟩ := one_sub hy
  have : fsu 4607182418800017408 y = dR (p2 2148 - dv y) := by unfold fsu; rw [h1, Option.getD_some]
  rw [this]
  exact ⟨h1, h2, rfl⟩
/-- One number of the list with one more. -/
def stn (l : List Nat) (f j : Nat) : Nat := if j < l.length then fmu (l.getD j 0) (fsu 4607182418800017408 f) else 0
def fls (l : List Nat) (f j : Nat) : Nat := if 0 < j then fmu (l.getD (j - 1) 0) f else 0
def cel (l : List Nat) (f j : Nat) : Nat := fad (stn l f j) (fls l f j)
def stp (l : List Nat) (f : Nat) : List Nat := (List.range (l.length + 1)).map (cel l f)
theorem stp_len (l : List Nat) (f : Nat) : (stp l f).length = l.length + 1 := by simp [stp]
theorem get_all {k : Nat} {l : List Nat} (h : ∀ x ∈ l, Cn k x) (i : Nat) : Cn k (l.getD i 0) := by
  rcases Nat.lt_or_ge i l.length with h1 | h1
  · rw [show l.getD i 0 = l[i] by simp [List.getD, h1]]; exact h _ (List.getElem_mem _)
  · rw [show l.getD i 0 = 0 by simp [List.getD, h1]]; exact cn_zero k
theorem cel_ok {k : Nat} {l : List Nat} {f : Nat} (h : ∀ x ∈ l, Cn k x) (hk : k ≤ 1021) (hf : Nn 0 f ∨ Zr f) (j : Nat) :
    F6.add (stn l f j) (fls l f j) = some (cel l f j) ∧ Cn (k + 1) (cel l f j) := by
  have hg := (fsu_ok hf).2.1
  have h1 : Cn k (stn l f j) := by
    unfold stn
    split
    · exact (fmu_ok (by omega) (get_all h j) (.inl hg)).2.2 hg
    · exact cn_zero k
  have h2 : Nn k (fls l f j) ∨ Zr (fls l f j) := by
    unfold fls
    split
    · exact (fmu_ok (by omega) (get_all h (j - 1)) hf).2.1
    · exact .inl (nn_small (Nat.zero_le _) (by omega))
  obtain ⟨a, b, _⟩ := fad_ok (by omega) h1 h2
  exact ⟨a, b⟩
theorem stp_all {k : Nat} {l : List Nat} {f : Nat} (h : ∀ x ∈ l, Cn k x) (hk : k ≤ 1021) (hf : Nn 0 f ∨ Zr f) : ∀ x ∈ stp l f, Cn (k + 1) x := by
  intro x hx
  obtain ⟨j, _, rfl⟩ := List.mem_map.1 hx
  exact (cel_ok h hk hf j).2
def chl (fs : List Nat) : List Nat := fs.foldl stp [4607182418800017408]
theorem chl_snoc (fs : List Nat) (f : Nat) : chl (fs ++ [f]) = stp (chl fs) f := by simp [chl]
theorem fold_len (fs : List Nat) : ∀ l, (fs.foldl stp l).length = l.length + fs.length := by
  induction fs with
  | nil => intro l; simp
  | cons f fs ih => intro l; rw [List.foldl_cons, ih, stp_len]; simp; omega
theorem chl_len (fs : List Nat) : (chl fs).length = fs.length + 1 := by
  unfold chl; rw [fold_len]; simp; omega
/-- What is filled up to k. -/
def fil (c : Nat → Nat) (n k : Nat) : List Nat := (List.range n).map fun i => if i < k then c i else 0
theorem fil_len (c : Nat → Nat) (n k : Nat) : (fil c n k).length = n := by simp [fil]
theorem fil_zero (c : Nat → Nat) (n : Nat) : fc (fil c n 0) = List.replicate n (.float .f64 0) := by
  apply List.ext_getElem?
  intro i
  by_cases hi : i < n <;> simp [fc, fil, hi]
theorem fil_full (c : Nat → Nat) (n : Nat) : fil c n n = (List.range n).map c := by
  unfold fil
  apply List.map_congr_left
  intro i hi
  rw [if_pos (List.mem_range.1 hi)]
theorem fil_set (c : Nat → Nat) (n k : Nat) (hk : k < n) : (fc (fil c n k)).set k (.float .f64 (c k)) = fc (fil c n (k + 1)) := by
  apply List.ext_getElem?
  intro i
  rw [List.getElem?_set]
  have hl : k < (fc (fil c n k)).length := by rw [fc_len, fil_len]; exact hk
  by_cases e : k = i
  · subst e
    rw [if_pos rfl, if_pos hl]
    simp [fc, fil, hk]
  · rw [if_neg e]
    by_cases hi : i < n
    · simp only [fc, fil, List.map_map, List.getElem?_map, List.getElem?_range hi, Option.map_some, Function.comp]
      by_cases h2 : i < k
      · rw [if_pos h2, if_pos (by omega)]
      · rw [if_neg h2, if_neg (by omega)]
    · rw [List.getElem?_eq_none (by rw [fc_len, fil_len]; omega), List.getElem?_eq_none (by rw [fc_len, fil_len]; omega)]
theorem fl_run {op : BinOp} {x y r : Nat} (h : floatBits op .f64 x y = some r) : ∀ (t : TypeId) (W : World), (binOp op t (.float .f64 x) (.float .f64 y)).run Try.prog W = .ok (.float .f64 r) W := fun t W => run_float_arith W op t .f64 x y r h
theorem make_F (n : Nat) (hn : n ≤ 1048576) (w : World) : (Instr.makeSlice 28 (.int .i64 (n : Int)) (.int .i64 (n : Int))).run Try.prog w = .ok (.slice (some ⟨w.heap.size, 0, none⟩) n n) (w.alloc (.cells (List.replicate n (Value.float .f64 0)).toArray 22)) :=
  make_G Try.underlying28 infoF rfl n (by omega) (by omega) w
section
attribute [local irreducible] Calls fad fmu fsu stn fls cel
set_option maxRecDepth 1000000 in
set_option maxHeartbeats 2000000 in
theorem oneMore_any {w : World} {a : Option Addr} {l : List Nat} {k f : Nat} (h : Fr w a l) (n c : Nat) (hn : l.length = n) (hm : n ≤ 1000) (hall : ∀ x ∈ l, Cn k x) (hk : k ≤ 1000) (hf : Nn 0 f ∨ Zr f) :
    Calls Try.prog 35 #[.slice a n c, .float .f64 f] w fun e w' => e = .returned (.slice (some ⟨w.heap.size, 0, none⟩) (n + 1) (n + 1)) ∧ Bl w' 22 w.heap.size (fc (stp l f)) ∧ Below w.heap.size w w' := by
  obtain ⟨g, hg⟩ : ∃ g, fsu 4607182418800017408 f = g := ⟨_, rfl⟩
  have s1 := fl_run (op := .sub) (x := 4607182418800017408) (y := f) (fsu_ok hf).1
  rw [hg] at s1
  have mk : ∀ W : World, (Instr.makeSlice 28 (.int .i64 ((n : Int) + 1)) (.int .i64 ((n : Int) + 1))).run Try.prog W = .ok (.slice (some ⟨W.heap.size, 0, none⟩) (n + 1) (n + 1)) (W.alloc (.cells (fc (fil (cel l f) (n + 1) 0)).toArray 22)) := fun W => by
    rw [fil_zero]
    exact make_F (n + 1) (by omega) W
  have M1 : ∀ j, floatBits .mul .f64 (l.getD j 0) g = some (fmu (l.getD j 0) g) := fun j => (fmu_ok (by omega) (get_all hall j) (.inl (hg ▸ (fsu_ok hf).2.1))).1
  have M2 : ∀ j, floatBits .mul .f64 (l.getD j 0) f = some (fmu (l.getD j 0) f) := fun j => (fmu_ok (by omega) (get_all hall j) hf).1
  have M3 : ∀ j, floatBits .add .f64 (stn l f j) (fls l f j) = some (cel l f j) := fun j => (cel_ok hall (by omega) hf j).1
  have HM := (show Hid (_ ∧ _ ∧ _) from ⟨M1, M2, M3⟩)
  have hst := run_store_flt
  have HH := (show Hid (Fr w a l) from h)
  have HG := (show Hid _ from hg)
  clear M1 M2 M3 h hall hf hg
  go_enter Try.func35, Try.ntmps35
  go_wp2
  clear mk s1
  go_loopw [18] (fun i wr => ∃ j : Nat, j ≤ n + 1 ∧ i = .int .i64 (j : Int) ∧ Bl wr 22 w.heap.size (fc (fil (cel l f) (n + 1) j)) ∧ Below w.heap.size w wr) (fun i _ => n + 1 - (intOf i).toNat)
  case atStart => exact ⟨0, Nat.zero_le _, rfl, bl_new _ _ _, balloc _ _⟩
  case round =>
    obtain ⟨j, hj, rfl, hO, hb⟩ := hrel
    by_cases hlt : j < n + 1
    · have hi : (j : Int) < (n : Int) + 1 := by omega
      have fz := hO.frozen j
      obtain ⟨old, g0⟩ : ∃ old, wr.cell? ⟨w.heap.size, j, none⟩ = some (.float .f64 old) := by
        rw [hO.cell]
        exact ⟨_, fc_at _ _ (by rw [fil_len]; exact hlt)⟩
      have st : Bl (wr.setCell ⟨w.heap.size, j, none⟩ (.float .f64 (cel l f j))) 22 w.heap.size (fc (fil (cel l f) (n + 1) (j + 1))) := by
        rw [← fil_set _ _ _ hlt]; exact hO.set j _
      have hbs : Below w.heap.size w (wr.setCell ⟨w.heap.size, j, none⟩ (.float .f64 (cel l f j))) := hb.setCell (Nat.le_refl _) _
      have HS := (show Hid (_ ∧ _) from ⟨st, hbs⟩)
      have a3 := fl_run (HM.out.2.2 j)
      have HA := (show Hid _ from a3)
      clear st hbs hO a3
      by_cases h1 : j < n
      · obtain ⟨b, o, rfl, hd⟩ := Fr.at HH.out (by omega)
        have g1 := cell_below (hd j (by omega)) hb
        have e1 : stn l f j = fmu (l.getD j 0) g := by unfold stn; rw [hn, if_pos h1, HG.out]
        have a1 := fl_run (HM.out.1 j)
        obtain ⟨y, hy⟩ : ∃ y, l.getD j 0 = y := ⟨_, rfl⟩
        rw [hy] at g1 a1 e1
        have HA2 := (show Hid _ from HA.out)
        rw [e1] at HA2
        obtain ⟨s, hs⟩ : ∃ s, fmu y g = s := ⟨_, rfl⟩
        rw [hs] at a1 HA2
        have i1 : (j : Int) < (n : Int) := by omega
        by_cases h2 : 0 < j
        · have g2 := cell_below (hd (j - 1) (by omega)) hb
          have e2 : fls l f j = fmu (l.getD (j - 1) 0) f := by unfold fls; rw [if_pos h2]
          have a2 := fl_run (HM.out.2.1 (j - 1))
          obtain ⟨z, hz⟩ : ∃ z, l.getD (j - 1) 0 = z := ⟨_, rfl⟩
          rw [hz] at g2 a2 e2
          rw [e2] at HA2
          obtain ⟨t, ht⟩ : ∃ t, fmu z f = t := ⟨_, rfl⟩
          rw [ht] at a2 HA2
          obtain ⟨i, rfl⟩ : ∃ i, j = i + 1 := ⟨j - 1, by omega⟩
          rw [Nat.add_sub_cancel] at g2
          have a4 := HA2.out
          have i2 : (0 : Int) < ((i + 1 : Nat) : Int) := by omega
          have i3 : ((i + 1 : Nat) : Int) - 1 = (i : Int) := by omega
          go_wp2
          go_roundw
          case rel => exact ⟨i + 1 + 1, by omega, by go_num, HS.out.1, HS.out.2⟩
          case measure => simp [intOf]; omega
        · obtain rfl : j = 0 := by omega
          have e2 : fls l f 0 = 0 := by unfold fls; rw [if_neg h2]
          rw [e2] at HA2
          rw [Nat.add_zero] at g1
          have a4 := HA2.out
          go_wp2
          go_roundw
          case rel => exact ⟨0 + 1, by omega, by go_num, HS.out.1, HS.out.2⟩
          case measure => simp [intOf]
      · obtain rfl : j = n := by omega
        have e1 : stn l f j = 0 := by unfold stn; rw [hn, if_neg h1]
        have HA2 := (show Hid _ from HA.out)
        rw [e1] at HA2
        by_cases h2 : 0 < j
        · obtain ⟨b, o, rfl, hd⟩ := Fr.at HH.out (by omega)
          have g2 := cell_below (hd (j - 1) (by omega)) hb
          have e2 : fls l f j = fmu (l.getD (j - 1) 0) f := by unfold fls; rw [if_pos h2]
          have a2 := fl_run (HM.out.2.1 (j - 1))
          obtain ⟨z, hz⟩ : ∃ z, l.getD (j - 1) 0 = z := ⟨_, rfl⟩
          rw [hz] at g2 a2 e2
          rw [e2] at HA2
          obtain ⟨t, ht⟩ : ∃ t, fmu z f = t := ⟨_, rfl⟩
          rw [ht] at a2 HA2
          obtain ⟨i, rfl⟩ : ∃ i, j = i + 1 := ⟨j - 1, by omega⟩
          rw [Nat.add_sub_cancel] at g2
          have a4 := HA2.out
          have i2 : (0 : Int) < ((i + 1 : Nat) : Int) := by omega
          have i3 : ((i + 1 : Nat) : Int) - 1 = (i : Int) := by omega
          go_wp2
          go_roundw
          case rel => exact ⟨i + 1 + 1, by omega, by go_num, HS.out.1, HS.out.2⟩
          case measure => simp [intOf]; omega
        · obtain rfl : j = 0 := by omega
          have e2 : fls l f 0 = 0 := by unfold fls; rw [if_neg h2]
          rw [e2] at HA2
          have a4 := HA2.out
          go_wp2
          go_roundw
          case rel => exact ⟨0 + 1, by omega, by go_num, HS.out.1, HS.out.2⟩
          case measure => simp [intOf]
    · obtain rfl : j = n + 1 := by omega
      go_wp2
      go_ret
      refine ⟨rfl, ?_, hb⟩
      rw [fil_full] at hO
      unfold stp
      rw [hn]
      exact hO
end
end Go.Proofs.Ytcfjinpjijcheab
