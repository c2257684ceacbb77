/-
  MatrixGroups: the fields of two and of four; the laws' own helpers there.
-/
import Derived.Test.YtchmggehbajebaaKw
namespace Go.Proofs.Ytchmggehbajebaa
open Go.RowKit
def fdB : Fd Bool where
  pl := plB
  ti := tiB
  oo := false
  ee := true
  iv := fun a => a
  dec := fun a b => inferInstance
  pl_comm := by decide +kernel
  pl_assoc := by decide +kernel
  pl_oo := by decide +kernel
  pl_self := by decide +kernel
  ti_comm := by decide +kernel
  ti_assoc := by decide +kernel
  ti_ee := by decide +kernel
  ti_pl := by decide +kernel
  ti_iv := by decide +kernel
  ee_ne := by decide
def ivF (a : Bool × Bool) : Bool × Bool := (a.1 != a.2, a.2)
theorem all4 {p : Bool × Bool → Prop} (h : p (false, false) ∧ p (false, true) ∧ p (true, false) ∧ p (true, true)) (a : Bool × Bool) : p a := by
  obtain ⟨a1, a2⟩ := a
  cases a1 <;> cases a2
  · exact h.1
  · exact h.2.1
  · exact h.2.2.1
  · exact h.2.2.2
def fdF : Fd (Bool × Bool) where
  pl := plF
  ti := tiF
  oo := (false, false)
  ee := (true, false)
  iv := ivF
  dec := fun a b => inferInstance
  pl_comm := fun a b => by obtain ⟨a1, a2⟩ := a; obtain ⟨b1, b2⟩ := b; cases a1 <;> cases a2 <;> cases b1 <;> cases b2 <;> rfl
  pl_assoc := fun a b c => by obtain ⟨a1, a2⟩ := a; obtain ⟨b1, b2⟩ := b; obtain ⟨c1, c2⟩ := c; cases a1 <;> cases a2 <;> cases b1 <;> cases b2 <;> cases c1 <;> cases c2 <;> rfl
  pl_oo := fun a => by obtain ⟨a1, a2⟩ := a; cases a1 <;> cases a2 <;> rfl
  pl_self := fun a => by obtain ⟨a1, a2⟩ := a; cases a1 <;> cases a2 <;> rfl
  ti_comm := fun a b => by obtain ⟨a1, a2⟩ := a; obtain ⟨b1, b2⟩ := b; cases a1 <;> cases a2 <;> cases b1 <;> cases b2 <;> rfl
  ti_assoc := fun a b c => by obtain ⟨a1, a2⟩ := a; obtain ⟨b1, b2⟩ := b; obtain ⟨c1, c2⟩ := c; cases a1 <;> cases a2 <;> cases b1 <;> cases b2 <;> cases c1 <;> cases c2 <;> rfl
  ti_ee := fun a => by obtain ⟨a1, a2⟩ := a; cases a1 <;> cases a2 <;> rfl
  ti_pl := fun a b c => by obtain ⟨a1, a2⟩ := a; obtain ⟨b1, b2⟩ := b; obtain ⟨c1, c2⟩ := c; cases a1 <;> cases a2 <;> cases b1 <;> cases b2 <;> cases c1 <;> cases c2 <;> rfl
  ti_iv := fun a h => by obtain ⟨a1, a2⟩ := a; cases a1 <;> cases a2 <;> first | exact absurd rfl h | rfl
  ee_ne := by decide
theorem nrB_on {w : World} {v : Value} {n : Nat} {f : Nat → Bool} (h : NrB w v n f) : ∃ p c, v = .slice p n c ∧ (0 < n → ∃ b o, p = some ⟨b, o, none⟩ ∧ ∀ i, i < n → w.cell? ⟨b, o + i, none⟩ = some (.bool (f i))) := by
  obtain ⟨p, c, e, h⟩ := h
  refine ⟨p, c, e, fun h0 => ?_⟩
  rcases h with h | h
  · omega
  · exact h
theorem nrF_on {w : World} {v : Value} {n : Nat} {f : Nat → Bool × Bool} (h : NrF w v n f) : ∃ p c, v = .slice p n c ∧ (0 < n → ∃ b o, p = some ⟨b, o, none⟩ ∧ ∀ i, i < n → w.cell? ⟨b, o + i * 2, none⟩ = some (.bool (f i).1) ∧ w.cell? ⟨b, o + i * 2 + 1, none⟩ = some (.bool (f i).2)) := by
  obtain ⟨p, c, e, h⟩ := h
  refine ⟨p, c, e, fun h0 => ?_⟩
  rcases h with h | ⟨b, o, e2, h⟩
  · omega
  · refine ⟨b, o, e2, fun i hi => ⟨?_, ?_⟩⟩
    · rw [h (i * 2) (by omega)]; unfold clF; rw [if_pos (by omega), show i * 2 / 2 = i by omega]
    · rw [Nat.add_assoc, h (i * 2 + 1) (by omega)]; unfold clF; rw [if_neg (by omega), show (i * 2 + 1) / 2 = i by omega]
section
attribute [local irreducible] Calls lv Ir NrB nuB
set_option maxHeartbeats 8000000 in
set_option maxRecDepth 1000000 in
theorem intsB_core (p1 : Option Addr) (r c1 : Nat) (l : Nat → Nat) (N : Nat → Nat → Bool) (w : World) (hr : r ≤ 1000) (hl : Hid (∀ i, i < r → l i ≤ 1000)) (N1 : Hid (NmB w (.slice p1 r c1) r l N)) :
    Calls Try.prog 87 #[.slice p1 r c1] w fun e w' => ∃ v, e = .returned v ∧ Im w' v r l (fun i j => nuB (N i j)) ∧ Below w.heap.size w w' := by
  obtain ⟨i0, hi, hz0, hz1, hz2⟩ := info_parts infoIR
  obtain ⟨i1, hi1, hz01, hz11, hz21⟩ := info_parts infoI
  go_enter Try.func87, Try.ntmps87
  go_wp2
  go_loopw [3, 4] (fun v i wr => ∃ (k : Nat) (rows : Nat → Value), k ≤ r ∧ i = .int .i64 k ∧ wr.ownsRow w.heap.size 23 1 v k (lv rows k) ∧ Hid (∀ i, i < k → Ir wr (rows i) (l i) (fun j => nuB (N i j))) ∧ Below w.heap.size w wr) (fun _ i _ => r - (intOf i).toNat)
  case atStart => exact ⟨0, fun _ => .bool false, Nat.zero_le _, rfl, lv_none _ _ _ _ _, fun i hi => by omega, Below.refl _ _⟩
  case round =>
    obtain ⟨k, rows, hk, rfl, hown, hR, hb⟩ := hrel
    by_cases hlt : k < r
    · have j1 : (k : Int) < (r : Int) := by omega
      have M1 : Hid (k + 1 ≤ maxLen) := by show _ ≤ _; unfold maxLen; omega
      obtain ⟨rowsA, hSv, hRA⟩ := N1.out
      obtain ⟨bA, oA, cA, eA, hcA⟩ := hSv.cells (by omega)
      injection eA with eA _ eA2
      subst eA eA2
      obtain ⟨pr, cr, er, hra⟩ := nrB_on (hRA k hlt)
      have g0 := hcA k hlt
      rw [er] at g0
      have hlk := hl.out k hlt
      have HRA := (show Hid _ from hra)
      have HOW := (show Hid _ from hown)
      have HB := (show Hid _ from hb)
      have hR0 := (show Hid _ from hR.out)
      obtain ⟨W0, hW0⟩ : ∃ W0, W0 = wr := ⟨_, rfl⟩
      subst hW0
      clear hSv hRA hcA er hra hown hb hR
      go_wp2
      go_loopw [5, 6] (fun v i wq => ∃ t : Nat, t ≤ l k ∧ i = .int .i64 t ∧ wq.ownsRow W0.heap.size 3 1 v t (lv (fun j => .int .i64 (nuB (N k j))) t) ∧ Below W0.heap.size W0 wq) (fun _ i _ => l k - (intOf i).toNat)
      case atStart => exact ⟨0, Nat.zero_le _, rfl, lv_none _ _ _ _ _, Below.refl _ _⟩
      case round =>
        obtain ⟨t, ht, rfl, ho, hbq⟩ := hrel
        have g1 := cell_below (cell_below g0 HB.out) hbq
        by_cases hltt : t < l k
        · have j2 : (t : Int) < (l k : Int) := by omega
          obtain ⟨pa, oa, ep, hca⟩ := HRA.out (by omega)
          subst ep
          have g2 := cell_below (cell_below (hca t hltt) HB.out) hbq
          have M2 : Hid (t + 1 ≤ maxLen) := by show _ ≤ _; unfold maxLen; omega
          have M3 : Hid (∀ o : Obj, W0.heap.size ≤ (wr.alloc o).heap.size) := fun o => by have := hbq.size; simp; omega
          cases hv : N k t
          · have EN : Hid (nuB (N k t) = 0) := by show _ = _; rw [hv]; unfold nuB; rfl
            rw [hv] at g2
            clear hca
            go_wp2_with (at_builtin; refine wpList_append_own _ rfl _ _ 23 rfl W0.heap.size 3 i1 (.int .i64 0) 1 8 Try.underlying23 hi1 hz01 hz11 hz21 rfl (by decide) _ _ _ rfl (ho.alloc _) ⟨wr.heap.size, 0, none⟩ 1 1 [.int .i64 0] rfl rfl (one_new _ _ _) (one_cellv rfl) M2.out (by omega) (M3.out _) ?_; intro v' w1 hown' hgrow _)
            rw [← EN.out, ← lv_succ (fun j => .int .i64 (nuB (N k j))) t] at hown'
            have hb' := below_append (hbq.alloc hbq.size _) (M3.out _) hgrow (ho.alloc _) (Nat.le_refl _)
            clear ho hgrow g1 g2
            go_roundw
            case rel => exact ⟨t + 1, by omega, by go_num, hown', hb'⟩
            case measure => simp [intOf]; omega
          · have EN : Hid (nuB (N k t) = 1) := by show _ = _; rw [hv]; unfold nuB; rfl
            rw [hv] at g2
            clear hca
            go_wp2_with (at_builtin; refine wpList_append_own _ rfl _ _ 23 rfl W0.heap.size 3 i1 (.int .i64 0) 1 8 Try.underlying23 hi1 hz01 hz11 hz21 rfl (by decide) _ _ _ rfl (ho.alloc _) ⟨wr.heap.size, 0, none⟩ 1 1 [.int .i64 1] rfl rfl (one_new _ _ _) (one_cellv rfl) M2.out (by omega) (M3.out _) ?_; intro v' w1 hown' hgrow _)
            rw [← EN.out, ← lv_succ (fun j => .int .i64 (nuB (N k j))) t] at hown'
            have hb' := below_append (hbq.alloc hbq.size _) (M3.out _) hgrow (ho.alloc _) (Nat.le_refl _)
            clear ho hgrow g1 g2
            go_roundw
            case rel => exact ⟨t + 1, by omega, by go_num, hown', hb'⟩
            case measure => simp [intOf]; omega
        · obtain rfl : t = l k := by omega
          have hI := own_ir ho
          obtain ⟨px, cx, ex⟩ := hI.form
          subst ex
          have HOW2 : Hid (World.ownsRow wr w.heap.size 23 1 _ k (lv rows k)) := owns_below HOW.out hbq
          have hR2 := (show Hid (∀ i, i < k → Ir wr (rows i) (l i) (fun j => nuB (N i j))) from fun i hi => (hR0.out i hi).below hbq)
          have HB2 := (show Hid _ from bt HB.out hbq)
          have SZ : Hid (w.heap.size ≤ wr.heap.size) := HB2.out.size
          clear ho hbq
          go_wp2_with (at_builtin; refine wpList_append_own _ rfl _ _ 22 rfl w.heap.size 23 i0 (.slice none 0 0) 1 24 Try.underlying22 hi hz0 hz1 hz2 rfl (by decide) _ _ _ rfl (HOW2.out.alloc _) ⟨_, 0, none⟩ 1 1 [.slice px (l k) cx] rfl rfl (one_new _ _ _) (one_cellv rfl) M1.out (by omega) (by have := SZ.out; simp at *; omega) ?_; intro v' w4 hown' hgrow _)
          have hb4 := below_append (HB2.out.alloc SZ.out _) (by have := SZ.out; simp at *; omega) hgrow (HOW2.out.alloc _) (Nat.le_refl _)
          rw [push_lv] at hown'
          have hR4 : Hid (∀ i, i < k + 1 → Ir w4 ((fun i => if i = k then .slice px (l k) cx else rows i) i) (l i) (fun j => nuB (N i j))) := push_ir (l := l) (M := fun i j => nuB (N i j)) HOW2.out hgrow hR2.out hI
          clear hgrow
          exact ⟨⟨k + 1, _, by omega, by go_num, hown', hR4, hb4⟩, by simp [intOf]; omega⟩
    · obtain rfl : k = r := by omega
      go_wp2
      go_ret
      exact ⟨_, rfl, ⟨rows, owns_st1 hown, hR.out⟩, hb⟩
end
theorem intsB_any {w : World} {v : Value} {r : Nat} {l : Nat → Nat} {N : Nat → Nat → Bool} (h : NmB w v r l N) (hr : r ≤ 1000) (hl : ∀ i, i < r → l i ≤ 1000) :
    Calls Try.prog 87 #[v] w fun e w' => ∃ v', e = .returned v' ∧ Im w' v' r l (fun i j => nuB (N i j)) ∧ Below w.heap.size w w' := by
  obtain ⟨p1, c1, e1⟩ := (show ∃ p c, v = .slice p r c from by obtain ⟨rows, h, _⟩ := h; exact h.form)
  subst e1
  exact intsB_core p1 r c1 l N w hr hl h
section
attribute [local irreducible] Calls lv Ir NrF nuF
set_option maxHeartbeats 8000000 in
set_option maxRecDepth 1000000 in
theorem intsF_core (p1 : Option Addr) (r c1 : Nat) (l : Nat → Nat) (N : Nat → Nat → (Bool × Bool)) (w : World) (hr : r ≤ 1000) (hl : Hid (∀ i, i < r → l i ≤ 1000)) (N1 : Hid (NmF w (.slice p1 r c1) r l N)) :
    Calls Try.prog 88 #[.slice p1 r c1] w fun e w' => ∃ v, e = .returned v ∧ Im w' v r l (fun i j => nuF (N i j)) ∧ Below w.heap.size w w' := by
  obtain ⟨i0, hi, hz0, hz1, hz2⟩ := info_parts infoIR
  obtain ⟨i1, hi1, hz01, hz11, hz21⟩ := info_parts infoI
  go_enter Try.func88, Try.ntmps88
  go_wp2
  go_loopw [3, 4] (fun v i wr => ∃ (k : Nat) (rows : Nat → Value), k ≤ r ∧ i = .int .i64 k ∧ wr.ownsRow w.heap.size 23 1 v k (lv rows k) ∧ Hid (∀ i, i < k → Ir wr (rows i) (l i) (fun j => nuF (N i j))) ∧ Below w.heap.size w wr) (fun _ i _ => r - (intOf i).toNat)
  case atStart => exact ⟨0, fun _ => .bool false, Nat.zero_le _, rfl, lv_none _ _ _ _ _, fun i hi => by omega, Below.refl _ _⟩
  case round =>
    obtain ⟨k, rows, hk, rfl, hown, hR, hb⟩ := hrel
    by_cases hlt : k < r
    · have j1 : (k : Int) < (r : Int) := by omega
      have M1 : Hid (k + 1 ≤ maxLen) := by show _ ≤ _; unfold maxLen; omega
      obtain ⟨rowsA, hSv, hRA⟩ := N1.out
      obtain ⟨bA, oA, cA, eA, hcA⟩ := hSv.cells (by omega)
      injection eA with eA _ eA2
      subst eA eA2
      obtain ⟨pr, cr, er, hra⟩ := nrF_on (hRA k hlt)
      have g0 := hcA k hlt
      rw [er] at g0
      have hlk := hl.out k hlt
      have HRA := (show Hid _ from hra)
      have HOW := (show Hid _ from hown)
      have HB := (show Hid _ from hb)
      have hR0 := (show Hid _ from hR.out)
      obtain ⟨W0, hW0⟩ : ∃ W0, W0 = wr := ⟨_, rfl⟩
      subst hW0
      clear hSv hRA hcA er hra hown hb hR
      go_wp2
      go_loopw [5, 6] (fun v i wq => ∃ t : Nat, t ≤ l k ∧ i = .int .i64 t ∧ wq.ownsRow W0.heap.size 3 1 v t (lv (fun j => .int .i64 (nuF (N k j))) t) ∧ Below W0.heap.size W0 wq) (fun _ i _ => l k - (intOf i).toNat)
      case atStart => exact ⟨0, Nat.zero_le _, rfl, lv_none _ _ _ _ _, Below.refl _ _⟩
      case round =>
        obtain ⟨t, ht, rfl, ho, hbq⟩ := hrel
        have g1 := cell_below (cell_below g0 HB.out) hbq
        by_cases hltt : t < l k
        · have j2 : (t : Int) < (l k : Int) := by omega
          obtain ⟨pa, oa, ep, hca⟩ := HRA.out (by omega)
          subst ep
          have g2 := cell_below (cell_below (hca t hltt).1 HB.out) hbq
          have g3 := cell_below (cell_below (hca t hltt).2 HB.out) hbq
          have M2 : Hid (t + 1 ≤ maxLen) := by show _ ≤ _; unfold maxLen; omega
          have M3 : Hid (∀ o : Obj, W0.heap.size ≤ (wr.alloc o).heap.size) := fun o => by have := hbq.size; simp; omega
          cases hv1 : (N k t).1 <;> cases hv2 : (N k t).2
          · have EN : Hid (nuF (N k t) = 0) := by show _ = _; rw [show N k t = (false, false) from Prod.ext hv1 hv2]; unfold nuF; rfl
            rw [hv1] at g2
            rw [hv2] at g3
            clear hca
            go_wp2_with (at_builtin; refine wpList_append_own _ rfl _ _ 23 rfl W0.heap.size 3 i1 (.int .i64 0) 1 8 Try.underlying23 hi1 hz01 hz11 hz21 rfl (by decide) _ _ _ rfl (ho.alloc _) ⟨wr.heap.size, 0, none⟩ 1 1 [.int .i64 0] rfl rfl (one_new _ _ _) (one_cellv rfl) M2.out (by omega) (M3.out _) ?_; intro v' w1 hown' hgrow _)
            rw [← EN.out, ← lv_succ (fun j => .int .i64 (nuF (N k j))) t] at hown'
            have hb' := below_append (hbq.alloc hbq.size _) (M3.out _) hgrow (ho.alloc _) (Nat.le_refl _)
            clear ho hgrow g1 g2 g3
            go_roundw
            case rel => exact ⟨t + 1, by omega, by go_num, hown', hb'⟩
            case measure => simp [intOf]; omega
          · have EN : Hid (nuF (N k t) = 2) := by show _ = _; rw [show N k t = (false, true) from Prod.ext hv1 hv2]; unfold nuF; rfl
            rw [hv1] at g2
            rw [hv2] at g3
            clear hca
            go_wp2_with (at_builtin; refine wpList_append_own _ rfl _ _ 23 rfl W0.heap.size 3 i1 (.int .i64 0) 1 8 Try.underlying23 hi1 hz01 hz11 hz21 rfl (by decide) _ _ _ rfl (ho.alloc _) ⟨wr.heap.size, 0, none⟩ 1 1 [.int .i64 2] rfl rfl (one_new _ _ _) (one_cellv rfl) M2.out (by omega) (M3.out _) ?_; intro v' w1 hown' hgrow _)
            rw [← EN.out, ← lv_succ (fun j => .int .i64 (nuF (N k j))) t] at hown'
            have hb' := below_append (hbq.alloc hbq.size _) (M3.out _) hgrow (ho.alloc _) (Nat.le_refl _)
            clear ho hgrow g1 g2 g3
            go_roundw
            case rel => exact ⟨t + 1, by omega, by go_num, hown', hb'⟩
            case measure => simp [intOf]; omega
          · have EN : Hid (nuF (N k t) = 1) := by show _ = _; rw [show N k t = (true, false) from Prod.ext hv1 hv2]; unfold nuF; rfl
            rw [hv1] at g2
            rw [hv2] at g3
            clear hca
            go_wp2_with (at_builtin; refine wpList_append_own _ rfl _ _ 23 rfl W0.heap.size 3 i1 (.int .i64 0) 1 8 Try.underlying23 hi1 hz01 hz11 hz21 rfl (by decide) _ _ _ rfl (ho.alloc _) ⟨wr.heap.size, 0, none⟩ 1 1 [.int .i64 1] rfl rfl (one_new _ _ _) (one_cellv rfl) M2.out (by omega) (M3.out _) ?_; intro v' w1 hown' hgrow _)
            rw [← EN.out, ← lv_succ (fun j => .int .i64 (nuF (N k j))) t] at hown'
            have hb' := below_append (hbq.alloc hbq.size _) (M3.out _) hgrow (ho.alloc _) (Nat.le_refl _)
            clear ho hgrow g1 g2 g3
            go_roundw
            case rel => exact ⟨t + 1, by omega, by go_num, hown', hb'⟩
            case measure => simp [intOf]; omega
          · have EN : Hid (nuF (N k t) = 3) := by show _ = _; rw [show N k t = (true, true) from Prod.ext hv1 hv2]; unfold nuF; rfl
            rw [hv1] at g2
            rw [hv2] at g3
            clear hca
            go_wp2_with (at_builtin; refine wpList_append_own _ rfl _ _ 23 rfl W0.heap.size 3 i1 (.int .i64 0) 1 8 Try.underlying23 hi1 hz01 hz11 hz21 rfl (by decide) _ _ _ rfl (ho.alloc _) ⟨wr.heap.size, 0, none⟩ 1 1 [.int .i64 3] rfl rfl (one_new _ _ _) (one_cellv rfl) M2.out (by omega) (M3.out _) ?_; intro v' w1 hown' hgrow _)
            rw [← EN.out, ← lv_succ (fun j => .int .i64 (nuF (N k j))) t] at hown'
            have hb' := below_append (hbq.alloc hbq.size _) (M3.out _) hgrow (ho.alloc _) (Nat.le_refl _)
            clear ho hgrow g1 g2 g3
            go_roundw
            case rel => exact ⟨t + 1, by omega, by go_num, hown', hb'⟩
            case measure => simp [intOf]; omega
        · obtain rfl : t = l k := by omega
          have hI := own_ir ho
          obtain ⟨px, cx, ex⟩ := hI.form
          subst ex
          have HOW2 : Hid (World.ownsRow wr w.heap.size 23 1 _ k (lv rows k)) := owns_below HOW.out hbq
          have hR2 := (show Hid (∀ i, i < k → Ir wr (rows i) (l i) (fun j => nuF (N i j))) from fun i hi => (hR0.out i hi).below hbq)
          have HB2 := (show Hid _ from bt HB.out hbq)
          have SZ : Hid (w.heap.size ≤ wr.heap.size) := HB2.out.size
          clear ho hbq
          go_wp2_with (at_builtin; refine wpList_append_own _ rfl _ _ 22 rfl w.heap.size 23 i0 (.slice none 0 0) 1 24 Try.underlying22 hi hz0 hz1 hz2 rfl (by decide) _ _ _ rfl (HOW2.out.alloc _) ⟨_, 0, none⟩ 1 1 [.slice px (l k) cx] rfl rfl (one_new _ _ _) (one_cellv rfl) M1.out (by omega) (by have := SZ.out; simp at *; omega) ?_; intro v' w4 hown' hgrow _)
          have hb4 := below_append (HB2.out.alloc SZ.out _) (by have := SZ.out; simp at *; omega) hgrow (HOW2.out.alloc _) (Nat.le_refl _)
          rw [push_lv] at hown'
          have hR4 : Hid (∀ i, i < k + 1 → Ir w4 ((fun i => if i = k then .slice px (l k) cx else rows i) i) (l i) (fun j => nuF (N i j))) := push_ir (l := l) (M := fun i j => nuF (N i j)) HOW2.out hgrow hR2.out hI
          clear hgrow
          exact ⟨⟨k + 1, _, by omega, by go_num, hown', hR4, hb4⟩, by simp [intOf]; omega⟩
    · obtain rfl : k = r := by omega
      go_wp2
      go_ret
      exact ⟨_, rfl, ⟨rows, owns_st1 hown, hR.out⟩, hb⟩
end
theorem intsF_any {w : World} {v : Value} {r : Nat} {l : Nat → Nat} {N : Nat → Nat → (Bool × Bool)} (h : NmF w v r l N) (hr : r ≤ 1000) (hl : ∀ i, i < r → l i ≤ 1000) :
    Calls Try.prog 88 #[v] w fun e w' => ∃ v', e = .returned v' ∧ Im w' v' r l (fun i j => nuF (N i j)) ∧ Below w.heap.size w w' := by
  obtain ⟨p1, c1, e1⟩ := (show ∃ p c, v = .slice p r c from by obtain ⟨rows, h, _⟩ := h; exact h.form)
  subst e1
  exact intsF_core p1 r c1 l N w hr hl h
theorem skk_mmE (r : Nat) (P Q : Nat → Nat → BitVec 8) (i j : Nat) : skk plE oE (fun t => tiE (P i t) (Q t j)) r = mm fdE r P Q i j := by
  unfold mm
  induction r with
  | zero => rfl
  | succ n ih => rw [skk_succ, ih]; rfl
theorem nu_dlE (i j : Nat) : nuE (dl fdE i j) = if i = j then 1 else 0 := by
  unfold dl
  by_cases e : i = j
  · rw [if_pos e, if_pos e]; decide +kernel
  · rw [if_neg e, if_neg e]; decide +kernel
section
attribute [local irreducible] Calls el nuE NmE Im Jm TmE tc fc cw skk GxE
set_option maxHeartbeats 4000000 in
set_option maxRecDepth 1000000 in
theorem lawTE {w : World} {v1 v2 : Value} {r1 r2 c : Nat} {l1 l2 : Nat → Nat} {P Q : Nat → Nat → BitVec 8} (h1 : Jm w v1 r1 l1 (fun i j => nuE (P i j))) (h2 : Jm w v2 r2 l2 (fun i j => nuE (Q i j))) (hr1 : r1 ≤ 255) (hr2 : r2 ≤ 255) (hc : c ≤ 255) (hl1 : Hid (∀ i, i < r1 → l1 i ≤ 17592186044416)) (hl2 : Hid (∀ i, i < r2 → l2 i ≤ 17592186044416)) (hq : Hid (tc r1 l1 r2 l2 = 0)) (hcw : Hid (cw r2 l2 = c)) :
    Calls Try.prog 46 #[.int .i64 256, v1, v2] w fun e w' => ∃ v', e = .returned (.tuple #[v', .int .i64 0]) ∧ Im w' v' r1 (fun _ => c) (fun i j => nuE (mm fdE r2 P Q i j)) ∧ Below w.heap.size w w' := by
  have H1 := (show Hid _ from h1)
  have H2 := (show Hid _ from h2)
  have TN := (show Hid _ from fun (w : World) (u1 u2 : Value) (a1 : NmE w u1 r1 l1 P) (a2 : NmE w u2 r2 l2 Q) => timesE_new a1 a2 hq.out)
  rw [hcw.out] at TN
  clear h1 h2
  go_enter Try.func46, Try.ntmps46
  go_wp2_with (first
    | (go_at_call 13; refine (elemss_any H1.out (by omega) hl1.out).mono ?_; rintro e w1 ⟨v1', rfl, hT1, hb1⟩)
    | (go_at_call 13; refine (elemss_any (Jm.below H2.out hb1) (by omega) hl2.out).mono ?_; rintro e w2 ⟨v2', rfl, hT2, hb2⟩)
    | (go_at_call 12; refine (TN.out _ _ _ (TmE.nm (TmE.below hT1 hb2)) (TmE.nm hT2)).mono ?_; rintro e w3 ⟨v3, rfl, hG, hb3⟩)
    | (go_at_call 86; refine (intsE_any (GxE.nm hG) (by omega) (fun i _ => by omega)).mono ?_; rintro e w4 ⟨v4, rfl, hI, hb4⟩))
  go_ret2
  refine ⟨_, rfl, Im.congr hI (fun i _ j _ => by rw [skk_mmE]), bt (bt (bt hb1 hb2) hb3) hb4⟩
end
theorem skk_mmB (r : Nat) (P Q : Nat → Nat → Bool) (i j : Nat) : skk plB oB (fun t => tiB (P i t) (Q t j)) r = mm fdB r P Q i j := by
  unfold mm
  induction r with
  | zero => rfl
  | succ n ih => rw [skk_succ, ih]; rfl
theorem nu_dlB (i j : Nat) : nuB (dl fdB i j) = if i = j then 1 else 0 := by
  unfold dl
  by_cases e : i = j
  · rw [if_pos e, if_pos e]; decide +kernel
  · rw [if_neg e, if_neg e]; decide +kernel
section
attribute [local irreducible] Calls el nuB NmB Im Jm TmB tc fc cw skk GxB
set_option maxHeartbeats 4000000 in
set_option maxRecDepth 1000000 in
theorem lawTB {w : World} {v1 v2 : Value} {r1 r2 c : Nat} {l1 l2 : Nat → Nat} {P Q : Nat → Nat → Bool} (h1 : Jm w v1 r1 l1 (fun i j => nuB (P i j))) (h2 : Jm w v2 r2 l2 (fun i j => nuB (Q i j))) (hr1 : r1 ≤ 255) (hr2 : r2 ≤ 255) (hc : c ≤ 255) (hl1 : Hid (∀ i, i < r1 → l1 i ≤ 17592186044416)) (hl2 : Hid (∀ i, i < r2 → l2 i ≤ 17592186044416)) (hq : Hid (tc r1 l1 r2 l2 = 0)) (hcw : Hid (cw r2 l2 = c)) :
    Calls Try.prog 46 #[.int .i64 2, v1, v2] w fun e w' => ∃ v', e = .returned (.tuple #[v', .int .i64 0]) ∧ Im w' v' r1 (fun _ => c) (fun i j => nuB (mm fdB r2 P Q i j)) ∧ Below w.heap.size w w' := by
  have H1 := (show Hid _ from h1)
  have H2 := (show Hid _ from h2)
  have TN := (show Hid _ from fun (w : World) (u1 u2 : Value) (a1 : NmB w u1 r1 l1 P) (a2 : NmB w u2 r2 l2 Q) => timesB_new a1 a2 hq.out)
  rw [hcw.out] at TN
  clear h1 h2
  go_enter Try.func46, Try.ntmps46
  go_wp2_with (first
    | (go_at_call 16; refine (bitss_any H1.out (by omega) hl1.out).mono ?_; rintro e w1 ⟨v1', rfl, hT1, hb1⟩)
    | (go_at_call 16; refine (bitss_any (Jm.below H2.out hb1) (by omega) hl2.out).mono ?_; rintro e w2 ⟨v2', rfl, hT2, hb2⟩)
    | (go_at_call 15; refine (TN.out _ _ _ (TmB.nm (TmB.below hT1 hb2)) (TmB.nm hT2)).mono ?_; rintro e w3 ⟨v3, rfl, hG, hb3⟩)
    | (go_at_call 87; refine (intsB_any (GxB.nm hG) (by omega) (fun i _ => by omega)).mono ?_; rintro e w4 ⟨v4, rfl, hI, hb4⟩))
  go_ret2
  refine ⟨_, rfl, Im.congr hI (fun i _ j _ => by rw [skk_mmB]), bt (bt (bt hb1 hb2) hb3) hb4⟩
end
theorem skk_mmF (r : Nat) (P Q : Nat → Nat → (Bool × Bool)) (i j : Nat) : skk plF oF (fun t => tiF (P i t) (Q t j)) r = mm fdF r P Q i j := by
  unfold mm
  induction r with
  | zero => rfl
  | succ n ih => rw [skk_succ, ih]; rfl
theorem nu_dlF (i j : Nat) : nuF (dl fdF i j) = if i = j then 1 else 0 := by
  unfold dl
  by_cases e : i = j
  · rw [if_pos e, if_pos e]; decide +kernel
  · rw [if_neg e, if_neg e]; decide +kernel
section
attribute [local irreducible] Calls el nuF NmF Im Jm TmF tc fc cw skk GxF
set_option maxHeartbeats 4000000 in
set_option maxRecDepth 1000000 in
theorem lawTF {w : World} {v1 v2 : Value} {r1 r2 c : Nat} {l1 l2 : Nat → Nat} {P Q : Nat → Nat → (Bool × Bool)} (h1 : Jm w v1 r1 l1 (fun i j => nuF (P i j))) (h2 : Jm w v2 r2 l2 (fun i j => nuF (Q i j))) (hr1 : r1 ≤ 255) (hr2 : r2 ≤ 255) (hc : c ≤ 255) (hl1 : Hid (∀ i, i < r1 → l1 i ≤ 17592186044416)) (hl2 : Hid (∀ i, i < r2 → l2 i ≤ 17592186044416)) (hq : Hid (tc r1 l1 r2 l2 = 0)) (hcw : Hid (cw r2 l2 = c)) :
    Calls Try.prog 46 #[.int .i64 4, v1, v2] w fun e w' => ∃ v', e = .returned (.tuple #[v', .int .i64 0]) ∧ Im w' v' r1 (fun _ => c) (fun i j => nuF (mm fdF r2 P Q i j)) ∧ Below w.heap.size w w' := by
  have H1 := (show Hid _ from h1)
  have H2 := (show Hid _ from h2)
  have TN := (show Hid _ from fun (w : World) (u1 u2 : Value) (a1 : NmF w u1 r1 l1 P) (a2 : NmF w u2 r2 l2 Q) => timesF_new a1 a2 hq.out)
  rw [hcw.out] at TN
  clear h1 h2
  go_enter Try.func46, Try.ntmps46
  go_wp2_with (first
    | (go_at_call 19; refine (fourss_any H1.out (by omega) hl1.out).mono ?_; rintro e w1 ⟨v1', rfl, hT1, hb1⟩)
    | (go_at_call 19; refine (fourss_any (Jm.below H2.out hb1) (by omega) hl2.out).mono ?_; rintro e w2 ⟨v2', rfl, hT2, hb2⟩)
    | (go_at_call 18; refine (TN.out _ _ _ (TmF.nm (TmF.below hT1 hb2)) (TmF.nm hT2)).mono ?_; rintro e w3 ⟨v3, rfl, hG, hb3⟩)
    | (go_at_call 88; refine (intsF_any (GxF.nm hG) (by omega) (fun i _ => by omega)).mono ?_; rintro e w4 ⟨v4, rfl, hI, hb4⟩))
  go_ret2
  refine ⟨_, rfl, Im.congr hI (fun i _ j _ => by rw [skk_mmF]), bt (bt (bt hb1 hb2) hb3) hb4⟩
end
section
attribute [local irreducible] Calls
set_option maxHeartbeats 4000000 in
set_option maxRecDepth 1000000 in
theorem wide_any {w : World} {v : Value} {r : Nat} {l : Nat → Nat} (h : Lm w v r l) (hr : r ≤ 140737488355328) : Calls Try.prog 48 #[v] w fun e w' => e = .returned (.int .i64 (cw r l : Nat)) ∧ w' = w := by
  by_cases h0 : r = 0
  · subst h0
    obtain ⟨p, c, rfl⟩ := h.empty
    go_enter Try.func48, Try.ntmps48
    go_wp2
    go_ret
    exact ⟨rfl, rfl⟩
  · obtain ⟨b, o, c, pp, cc, rfl, hc⟩ := h.cells (by omega)
    unfold cw
    rw [if_neg h0]
    have g : w.cell? ⟨b, o, none⟩ = some (.slice (pp 0) (l 0) (cc 0)) := hc 0 (by omega)
    have i0 : ((r : Int) == 0) = false := by simp; omega
    have i1 : (0 : Int) < (r : Int) := by omega
    go_enter Try.func48, Try.ntmps48
    go_wp2
    go_ret
    exact ⟨rfl, rfl⟩
set_option maxHeartbeats 4000000 in
set_option maxRecDepth 1000000 in
theorem right_core (b o r c : Nat) (l cc : Nat → Nat) (pp : Nat → Option Addr) (w : World) (h0 : 0 < r) (hr : r ≤ 255)
    (H1 : Hid (∀ i, i < r → w.cell? ⟨b, o + i, none⟩ = some (.slice (pp i) (l i) (cc i)))) :
    Calls Try.prog 45 #[.slice (some ⟨b, o, none⟩) r c] w fun e w' => e = .returned (.bool (decide (fc r l = 0))) ∧ Below w.heap.size w w' := by
  have i0 : ¬ 255 < (r : Int) := by omega
  have g0 : w.cell? ⟨b, o, none⟩ = some (.slice (pp 0) (l 0) (cc 0)) := H1.out 0 h0
  have i9 : (0 : Int) < (r : Int) := by omega
  go_enter Try.func45, Try.ntmps45
  go_wp2
  go_loopw [3] (fun i wr => ∃ k : Nat, k ≤ r ∧ i = .int .i64 k ∧ Hid (∀ j, j < k → l j = l 0 ∧ l j ≤ 255) ∧ Below w.heap.size w wr) (fun i _ => r - (intOf i).toNat)
  case atStart => exact ⟨0, Nat.zero_le _, rfl, fun j hj => by omega, Below.refl _ _⟩
  case round =>
    obtain ⟨k, hk, rfl, HK, hb⟩ := hrel
    by_cases hlt : k < r
    · have g1 := cell_below (H1.out k hlt) hb
      have g2 := cell_below g0 hb
      have i1 : (k : Int) < (r : Int) := by omega
      by_cases he : l k = l 0
      · have i2 : ((l k : Int) != (l 0 : Int)) = false := by simp [he]
        by_cases hl : 255 < l k
        · have i3 : 255 < (l k : Int) := by omega
          have HF : Hid (decide (fc r l = 0) = false) := by show _ = _; rw [fc_large (by omega) hlt hl]; rfl
          clear he hl
          go_wp2
          go_quiet (fail)
          go_wp2
          go_ret
          exact ⟨by rw [HF.out]; rfl, below_drewN hb _⟩
        · have i3 : ¬ 255 < (l k : Int) := by omega
          have HK2 : Hid (∀ j, j < k + 1 → l j = l 0 ∧ l j ≤ 255) := fun j hj => by
            by_cases e : j = k
            · rw [e]; exact ⟨he, by omega⟩
            · exact HK.out j (by omega)
          clear he hl
          go_wp2
          go_quiet (fail)
          go_wp2
          go_roundw
          case rel => exact ⟨k + 1, by omega, by go_num, HK2, below_drewN hb _⟩
          case measure => simp [intOf]; omega
      · have i2 : ((l k : Int) != (l 0 : Int)) = true := by simp; omega
        have HF : Hid (decide (fc r l = 0) = false) := by
          show _ = _
          have h : ¬ fc r l = 0 := fun h => he ((fc_zero h).2.2 k hlt)
          simp [h]
        clear he
        go_wp2
        go_quiet (fail)
        go_wp2
        go_ret
        exact ⟨by rw [HF.out]; rfl, below_drewN hb _⟩
    · obtain rfl : k = r := by omega
      have HF : Hid (decide (fc k l = 0) = true) := by
        show _ = _
        rw [fc_ok (by omega) (fun j hj => by have := (HK.out j hj).2; omega) (fun j hj => (HK.out j hj).1)]; rfl
      go_wp2
      go_ret
      exact ⟨by rw [HF.out]; rfl, hb⟩
set_option maxRecDepth 1000000 in
theorem right_any {w : World} {v : Value} {r : Nat} {l : Nat → Nat} (h : Lm w v r l) : Calls Try.prog 45 #[v] w fun e w' => e = .returned (.bool (decide (fc r l = 0))) ∧ Below w.heap.size w w' := by
  by_cases h0 : r = 0
  · subst h0
    obtain ⟨p, c, rfl⟩ := h.empty
    have hf : decide (fc 0 l = 0) = true := by rw [fc_ok (by omega) (fun k hk => by omega) (fun k hk => by omega)]; rfl
    rw [hf]
    go_enter Try.func45, Try.ntmps45
    go_wp2
    refine wp_loop_rounds 1 ?_
    rw [rounds_succ]
    go_wp2
    go_ret
    exact ⟨rfl, Below.refl _ _⟩
  · obtain ⟨b, o, c, pp, cc, rfl, hc⟩ := h.cells (by omega)
    by_cases h1 : 255 < r
    · have hf : decide (fc r l = 0) = false := by rw [fc_big l h1]; rfl
      rw [hf]
      have i1 : 255 < (r : Int) := by omega
      clear hf
      go_enter Try.func45, Try.ntmps45
      go_wp2
      go_ret
      exact ⟨rfl, Below.refl _ _⟩
    · exact right_core b o r c l cc pp w (by omega) (by omega) hc
end
end Go.Proofs.Ytchmggehbajebaa
