/-
  The laws' own helpers: 'intsElem', 'alike', 'unit', 'low' of any size.
-/
import Derived.Test.YtchmggehbajebaaKf
namespace Go.Proofs.Ytchmggehbajebaa
open Go.RowKit
theorem nrE_at {w : World} {v : Value} {n : Nat} {f : Nat → BitVec 8} (h : NrE w v n f) : ∃ p c, v = .slice p n c ∧ (0 < n → ∃ b o, p = some ⟨b, o, none⟩ ∧ ∀ i, i < n → w.cell? ⟨b, o + i, none⟩ = some (.int .u8 (el (f i)))) := by
  obtain ⟨p, c, e, h⟩ := h
  refine ⟨p, c, e, fun h0 => ?_⟩
  rcases h with h | h
  · omega
  · exact h
theorem jr_at {w : World} {v : Value} {n : Nat} {f : Nat → Int} (h : Jr w v n f) : ∃ p c, v = .slice p n c ∧ (0 < n → ∃ b o, p = some ⟨b, o, none⟩ ∧ ∀ i, i < n → w.cell? ⟨b, o + i, none⟩ = some (.int .i64 (f i))) := by
  obtain ⟨p, c, e, h⟩ := h
  refine ⟨p, c, e, fun h0 => ?_⟩
  rcases h with h | h
  · omega
  · exact h
theorem own_ir {w : World} {base n : Nat} {v : Value} {f : Nat → Int} (h : w.ownsRow base 3 1 v n (lv (fun j => .int .i64 (f j)) n)) : Ir w v n f := owns_st1 h
section
attribute [local irreducible] Calls lv Ir NrE el nuE
set_option maxHeartbeats 8000000 in
set_option maxRecDepth 1000000 in
theorem intsE_core (p1 : Option Addr) (r c1 : Nat) (l : Nat → Nat) (N : Nat → Nat → BitVec 8) (w : World) (hr : r ≤ 1000) (hl : Hid (∀ i, i < r → l i ≤ 1000)) (N1 : Hid (NmE w (.slice p1 r c1) r l N)) :
    Calls Try.prog 86 #[.slice p1 r c1] w fun e w' => ∃ v, e = .returned v ∧ Im w' v r l (fun i j => nuE (N i j)) ∧ Below w.heap.size w w' := by
  obtain ⟨i0, hi, hz0, hz1, hz2⟩ := info_parts infoIR
  obtain ⟨i1, hi1, hz01, hz11, hz21⟩ := info_parts infoI
  go_enter Try.func86, Try.ntmps86
  go_wp2
  go_loopw [3, 4] (fun v i wr => ∃ (k : Nat) (rows : Nat → Value), k ≤ r ∧ i = .int .i64 k ∧ wr.ownsRow w.heap.size 23 1 v k (lv rows k) ∧ Hid (∀ i, i < k → Ir wr (rows i) (l i) (fun j => nuE (N i j))) ∧ Below w.heap.size w wr) (fun _ i _ => r - (intOf i).toNat)
  case atStart => exact ⟨0, fun _ => .bool false, Nat.zero_le _, rfl, lv_none _ _ _ _ _, fun i hi => by omega, Below.refl _ _⟩
  case round =>
    obtain ⟨k, rows, hk, rfl, hown, hR, hb⟩ := hrel
    by_cases hlt : k < r
    · have j1 : (k : Int) < (r : Int) := by omega
      have M1 : Hid (k + 1 ≤ maxLen) := by show _ ≤ _; unfold maxLen; omega
      obtain ⟨rowsA, hSv, hRA⟩ := N1.out
      obtain ⟨bA, oA, cA, eA, hcA⟩ := hSv.cells (by omega)
      injection eA with eA _ eA2
      subst eA eA2
      obtain ⟨pr, cr, er, hra⟩ := nrE_at (hRA k hlt)
      have g0 := hcA k hlt
      rw [er] at g0
      have hlk := hl.out k hlt
      have HRA := (show Hid _ from hra)
      have HOW := (show Hid _ from hown)
      have HB := (show Hid _ from hb)
      have hR0 := (show Hid _ from hR.out)
      obtain ⟨W0, hW0⟩ : ∃ W0, W0 = wr := ⟨_, rfl⟩
      subst hW0
      clear hSv hRA hcA er hra hown hb hR
      go_wp2
      go_loopw [5, 6] (fun v i wq => ∃ t : Nat, t ≤ l k ∧ i = .int .i64 t ∧ wq.ownsRow W0.heap.size 3 1 v t (lv (fun j => .int .i64 (nuE (N k j))) t) ∧ Below W0.heap.size W0 wq) (fun _ i _ => l k - (intOf i).toNat)
      case atStart => exact ⟨0, Nat.zero_le _, rfl, lv_none _ _ _ _ _, Below.refl _ _⟩
      case round =>
        obtain ⟨t, ht, rfl, ho, hbq⟩ := hrel
        have g1 := cell_below (cell_below g0 HB.out) hbq
        by_cases hltt : t < l k
        · have j2 : (t : Int) < (l k : Int) := by omega
          obtain ⟨pa, oa, ep, hca⟩ := HRA.out (by omega)
          subst ep
          have g2 := cell_below (cell_below (hca t hltt) HB.out) hbq
          have M2 : Hid (t + 1 ≤ maxLen) := by show _ ≤ _; unfold maxLen; omega
          have M3 : Hid (∀ o : Obj, W0.heap.size ≤ (wr.alloc o).heap.size) := fun o => by have := hbq.size; simp; omega
          have eb := el_bd (N k t)
          have en : nuE (N k t) = el (N k t) := by unfold nuE; rfl
          clear hca
          go_wp2_with (at_builtin; refine wpList_append_own _ rfl _ _ 23 rfl W0.heap.size 3 i1 (.int .i64 0) 1 8 Try.underlying23 hi1 hz01 hz11 hz21 rfl (by decide) _ _ _ rfl (ho.alloc _) ⟨wr.heap.size, 0, none⟩ 1 1 [.int .i64 (el (N k t))] rfl rfl (one_new _ _ _) (one_cellv rfl) M2.out (by omega) (M3.out _) ?_; intro v' w1 hown' hgrow _)
          rw [← en, ← lv_succ (fun j => .int .i64 (nuE (N k j))) t] at hown'
          have hb' := below_append (hbq.alloc hbq.size _) (M3.out _) hgrow (ho.alloc _) (Nat.le_refl _)
          clear ho hgrow g1 g2
          go_roundw
          case rel => exact ⟨t + 1, by omega, by go_num, hown', hb'⟩
          case measure => simp [intOf]; omega
        · obtain rfl : t = l k := by omega
          have hI := own_ir ho
          obtain ⟨px, cx, ex⟩ := hI.form
          subst ex
          have HOW2 : Hid (World.ownsRow wr w.heap.size 23 1 _ k (lv rows k)) := owns_below HOW.out hbq
          have hR2 := (show Hid (∀ i, i < k → Ir wr (rows i) (l i) (fun j => nuE (N i j))) from fun i hi => (hR0.out i hi).below hbq)
          have HB2 := (show Hid _ from bt HB.out hbq)
          have SZ : Hid (w.heap.size ≤ wr.heap.size) := HB2.out.size
          clear ho hbq
          go_wp2_with (at_builtin; refine wpList_append_own _ rfl _ _ 22 rfl w.heap.size 23 i0 (.slice none 0 0) 1 24 Try.underlying22 hi hz0 hz1 hz2 rfl (by decide) _ _ _ rfl (HOW2.out.alloc _) ⟨_, 0, none⟩ 1 1 [.slice px (l k) cx] rfl rfl (one_new _ _ _) (one_cellv rfl) M1.out (by omega) (by have := SZ.out; simp at *; omega) ?_; intro v' w4 hown' hgrow _)
          have hb4 := below_append (HB2.out.alloc SZ.out _) (by have := SZ.out; simp at *; omega) hgrow (HOW2.out.alloc _) (Nat.le_refl _)
          rw [push_lv] at hown'
          have hR4 : Hid (∀ i, i < k + 1 → Ir w4 ((fun i => if i = k then .slice px (l k) cx else rows i) i) (l i) (fun j => nuE (N i j))) := push_ir (l := l) (M := fun i j => nuE (N i j)) HOW2.out hgrow hR2.out hI
          clear hgrow
          exact ⟨⟨k + 1, _, by omega, by go_num, hown', hR4, hb4⟩, by simp [intOf]; omega⟩
    · obtain rfl : k = r := by omega
      go_wp2
      go_ret
      exact ⟨_, rfl, ⟨rows, owns_st1 hown, hR.out⟩, hb⟩
set_option maxHeartbeats 8000000 in
set_option maxRecDepth 1000000 in
theorem lawUnit_core (n : Nat) (hn : n ≤ 1000) (w : World) :
    Calls Try.prog 47 #[.int .i64 (n : Int)] w fun e w' => ∃ v, e = .returned v ∧ Im w' v n (fun _ => n) (fun i j => if i = j then 1 else 0) ∧ Below w.heap.size w w' := by
  obtain ⟨i0, hi, hz0, hz1, hz2⟩ := info_parts infoIR
  obtain ⟨i1, hi1, hz01, hz11, hz21⟩ := info_parts infoI
  go_enter Try.func47, Try.ntmps47
  go_wp2
  go_loopw [3, 4] (fun v i wr => ∃ (k : Nat) (rows : Nat → Value), k ≤ n ∧ i = .int .i64 k ∧ wr.ownsRow w.heap.size 23 1 v k (lv rows k) ∧ Hid (∀ i, i < k → Ir wr (rows i) n (fun j => if i = j then 1 else 0)) ∧ Below w.heap.size w wr) (fun _ i _ => n - (intOf i).toNat)
  case atStart => exact ⟨0, fun _ => .bool false, Nat.zero_le _, rfl, lv_none _ _ _ _ _, fun i hi => by omega, Below.refl _ _⟩
  case round =>
    obtain ⟨k, rows, hk, rfl, hown, hR, hb⟩ := hrel
    by_cases hlt : k < n
    · have j1 : (k : Int) < (n : Int) := by omega
      have M1 : Hid (k + 1 ≤ maxLen) := by show _ ≤ _; unfold maxLen; omega
      have HOW := (show Hid _ from hown)
      have HB := (show Hid _ from hb)
      have hR0 := (show Hid _ from hR.out)
      obtain ⟨W0, hW0⟩ : ∃ W0, W0 = wr := ⟨_, rfl⟩
      subst hW0
      clear hown hb hR
      go_wp2
      go_loopw [5, 6] (fun v i wq => ∃ t : Nat, t ≤ n ∧ i = .int .i64 t ∧ wq.ownsRow W0.heap.size 3 1 v t (lv (fun j => .int .i64 (if k = j then 1 else 0)) t) ∧ Below W0.heap.size W0 wq) (fun _ i _ => n - (intOf i).toNat)
      case atStart => exact ⟨0, Nat.zero_le _, rfl, lv_none _ _ _ _ _, Below.refl _ _⟩
      case round =>
        obtain ⟨t, ht, rfl, ho, hbq⟩ := hrel
        by_cases hltt : t < n
        · have j2 : (t : Int) < (n : Int) := by omega
          have M2 : Hid (t + 1 ≤ maxLen) := by show _ ≤ _; unfold maxLen; omega
          have M3 : Hid (∀ o : Obj, W0.heap.size ≤ (wr.alloc o).heap.size) := fun o => by have := hbq.size; simp; omega
          by_cases e : k = t
          · have j3 : ((k : Int) == (t : Int)) = true := by simp; omega
            have HE : Hid (lv (fun j => Value.int .i64 (if k = j then 1 else 0)) t ++ [.int .i64 1] = lv (fun j => .int .i64 (if k = j then 1 else 0)) (t + 1)) := by show _ = _; rw [lv_succ, if_pos e]
            clear e
            go_wp2_with (at_builtin; refine wpList_append_own _ rfl _ _ 23 rfl W0.heap.size 3 i1 (.int .i64 0) 1 8 Try.underlying23 hi1 hz01 hz11 hz21 rfl (by decide) _ _ _ rfl (ho.alloc _) ⟨wr.heap.size, 0, none⟩ 1 1 [.int .i64 1] rfl rfl (one_new _ _ _) (one_cellv rfl) M2.out (by omega) (M3.out _) ?_; intro v' w1 hown' hgrow _)
            rw [HE.out] at hown'
            have hb' := below_append (hbq.alloc hbq.size _) (M3.out _) hgrow (ho.alloc _) (Nat.le_refl _)
            clear ho hgrow
            go_roundw
            case rel => exact ⟨t + 1, by omega, by go_num, hown', hb'⟩
            case measure => simp [intOf]; omega
          · have j3 : ((k : Int) == (t : Int)) = false := by simp; omega
            have HE : Hid (lv (fun j => Value.int .i64 (if k = j then 1 else 0)) t ++ [.int .i64 0] = lv (fun j => .int .i64 (if k = j then 1 else 0)) (t + 1)) := by show _ = _; rw [lv_succ, if_neg e]
            clear e
            go_wp2_with (at_builtin; refine wpList_append_own _ rfl _ _ 23 rfl W0.heap.size 3 i1 (.int .i64 0) 1 8 Try.underlying23 hi1 hz01 hz11 hz21 rfl (by decide) _ _ _ rfl (ho.alloc _) ⟨wr.heap.size, 0, none⟩ 1 1 [.int .i64 0] rfl rfl (one_new _ _ _) (one_cellv rfl) M2.out (by omega) (M3.out _) ?_; intro v' w1 hown' hgrow _)
            rw [HE.out] at hown'
            have hb' := below_append (hbq.alloc hbq.size _) (M3.out _) hgrow (ho.alloc _) (Nat.le_refl _)
            clear ho hgrow
            go_roundw
            case rel => exact ⟨t + 1, by omega, by go_num, hown', hb'⟩
            case measure => simp [intOf]; omega
        · obtain rfl : t = n := by omega
          have hI := own_ir ho
          obtain ⟨px, cx, ex⟩ := hI.form
          subst ex
          have HOW2 : Hid (World.ownsRow wr w.heap.size 23 1 _ k (lv rows k)) := owns_below HOW.out hbq
          have hR2 := (show Hid (∀ i, i < k → Ir wr (rows i) t (fun j => if i = j then 1 else 0)) from fun i hi => (hR0.out i hi).below hbq)
          have HB2 := (show Hid _ from bt HB.out hbq)
          have SZ : Hid (w.heap.size ≤ wr.heap.size) := HB2.out.size
          clear ho hbq
          go_wp2_with (at_builtin; refine wpList_append_own _ rfl _ _ 22 rfl w.heap.size 23 i0 (.slice none 0 0) 1 24 Try.underlying22 hi hz0 hz1 hz2 rfl (by decide) _ _ _ rfl (HOW2.out.alloc _) ⟨_, 0, none⟩ 1 1 [.slice px t cx] rfl rfl (one_new _ _ _) (one_cellv rfl) M1.out (by omega) (by have := SZ.out; simp at *; omega) ?_; intro v' w4 hown' hgrow _)
          have hb4 := below_append (HB2.out.alloc SZ.out _) (by have := SZ.out; simp at *; omega) hgrow (HOW2.out.alloc _) (Nat.le_refl _)
          rw [push_lv] at hown'
          have hR4 : Hid (∀ i, i < k + 1 → Ir w4 ((fun i => if i = k then .slice px t cx else rows i) i) t (fun j => if i = j then 1 else 0)) := push_ir (l := fun _ => t) (M := fun i j => if i = j then 1 else 0) HOW2.out hgrow hR2.out hI
          clear hgrow
          exact ⟨⟨k + 1, _, by omega, by go_num, hown', hR4, hb4⟩, by simp [intOf]; omega⟩
    · obtain rfl : k = n := by omega
      go_wp2
      go_ret
      exact ⟨_, rfl, ⟨rows, owns_st1 hown, hR.out⟩, hb⟩
end
section
attribute [local irreducible] Calls Jr
set_option maxHeartbeats 8000000 in
set_option maxRecDepth 1000000 in
theorem alike_core (p1 p2 : Option Addr) (r c1 c2 : Nat) (l : Nat → Nat) (M : Nat → Nat → Int) (w : World) (hr : r ≤ 1000) (hl : Hid (∀ i, i < r → l i ≤ 1000)) (J1 : Hid (Jm w (.slice p1 r c1) r l M)) (J2 : Hid (Jm w (.slice p2 r c2) r l M)) :
    Calls Try.prog 49 #[.slice p1 r c1, .slice p2 r c2] w fun e w' => e = .returned (.bool true) ∧ Below w.heap.size w w' := by
  go_enter Try.func49, Try.ntmps49
  go_wp2
  go_loopw [5] (fun i wr => ∃ k : Nat, k ≤ r ∧ i = .int .i64 k ∧ Below w.heap.size w wr) (fun i _ => r - (intOf i).toNat)
  case atStart => exact ⟨0, Nat.zero_le _, rfl, Below.refl _ _⟩
  case round =>
    obtain ⟨k, hk, rfl, hb⟩ := hrel
    by_cases hlt : k < r
    · have j1 : (k : Int) < (r : Int) := by omega
      obtain ⟨rowsA, hSv, hRA⟩ := J1.out
      obtain ⟨bA, oA, cA, eA, hcA⟩ := hSv.cells (by omega)
      injection eA with eA _ eA2
      subst eA eA2
      obtain ⟨pr, cr, er, hra⟩ := jr_at (hRA k hlt)
      have a0 := hcA k hlt
      rw [er] at a0
      obtain ⟨rowsB, hSvB, hRB⟩ := J2.out
      obtain ⟨bB, oB, cB, eB, hcB⟩ := hSvB.cells (by omega)
      injection eB with eB _ eB2
      subst eB eB2
      obtain ⟨pq, cq, eq', hrb⟩ := jr_at (hRB k hlt)
      have b0 := hcB k hlt
      rw [eq'] at b0
      have hlk := hl.out k hlt
      have HRA := (show Hid _ from hra)
      have HRB := (show Hid _ from hrb)
      have g1 := cell_below a0 hb
      have g2 := cell_below b0 hb
      have e2 : ((l k : Int) != (l k : Int)) = false := by simp
      clear hSv hRA hcA er hra hSvB hRB hcB eq' hrb
      go_wp2
      go_quiet (fail)
      go_wp2
      clear g1 g2
      have HB : Hid (∀ n, Below w.heap.size w (wr.drewN n)) := fun n => below_drewN hb n
      clear hb
      go_loopw [6] (fun i wq => ∃ t : Nat, t ≤ l k ∧ i = .int .i64 t ∧ Below w.heap.size w wq) (fun i _ => l k - (intOf i).toNat)
      case atStart => exact ⟨0, Nat.zero_le _, rfl, HB.out _⟩
      case round =>
        clear HB
        obtain ⟨t, ht, rfl, hb⟩ := hrel
        have g1 := cell_below a0 hb
        have g2 := cell_below b0 hb
        by_cases hltt : t < l k
        · have j2 : (t : Int) < (l k : Int) := by omega
          obtain ⟨pa, oa, ep, hca⟩ := HRA.out (by omega)
          subst ep
          obtain ⟨pb, ob, eb, hcb⟩ := HRB.out (by omega)
          subst eb
          have g3 := cell_below (hca t hltt) hb
          have g4 := cell_below (hcb t hltt) hb
          have e3 : (M k t != M k t) = false := by simp
          clear hca hcb
          go_wp2
          go_quiet (fail)
          go_wp2
          exact ⟨⟨t + 1, by omega, by go_num, below_drewN hb _⟩, by simp [intOf]; omega⟩
        · go_wp2
          exact ⟨⟨k + 1, by omega, by go_num, hb⟩, by simp [intOf]; omega⟩
    · go_wp2
      go_ret
      exact ⟨rfl, hb⟩
end
theorem intsE_any {w : World} {v : Value} {r : Nat} {l : Nat → Nat} {N : Nat → Nat → BitVec 8} (h : NmE w v r l N) (hr : r ≤ 1000) (hl : ∀ i, i < r → l i ≤ 1000) :
    Calls Try.prog 86 #[v] w fun e w' => ∃ v', e = .returned v' ∧ Im w' v' r l (fun i j => nuE (N i j)) ∧ Below w.heap.size w w' := by
  obtain ⟨p1, c1, e1⟩ := (show ∃ p c, v = .slice p r c from by obtain ⟨rows, h, _⟩ := h; exact h.form)
  subst e1
  exact intsE_core p1 r c1 l N w hr hl h
theorem alike_any {w : World} {v1 v2 : Value} {r : Nat} {l : Nat → Nat} {M : Nat → Nat → Int} (h1 : Jm w v1 r l M) (h2 : Jm w v2 r l M) (hr : r ≤ 1000) (hl : ∀ i, i < r → l i ≤ 1000) :
    Calls Try.prog 49 #[v1, v2] w fun e w' => e = .returned (.bool true) ∧ Below w.heap.size w w' := by
  obtain ⟨p1, c1, e1⟩ := (show ∃ p c, v1 = .slice p r c from by obtain ⟨rows, h, _⟩ := h1; exact h.form)
  subst e1
  obtain ⟨p2, c2, e2⟩ := (show ∃ p c, v2 = .slice p r c from by obtain ⟨rows, h, _⟩ := h2; exact h.form)
  subst e2
  exact alike_core p1 p2 r c1 c2 l M w hr hl h1 h2
end Go.Proofs.Ytchmggehbajebaa
