/-
  The laws' own helpers: 'elems', 'bits', 'fours', and of matrices.
-/
import Derived.Test.YtchmggehbajebaaLr
namespace Go.Proofs.Ytchmggehbajebaa
open Go.RowKit
/-- A row of numbers of its own type that reads so. -/
def TrE (w : World) (v : Value) (n : Nat) (f : Nat → BitVec 8) : Prop := St w 34 v n (clE f) n
theorem TrE.below {w w' : World} {v : Value} {n : Nat} {f : Nat → BitVec 8} (h : TrE w v n f) (hb : Below w.heap.size w w') : TrE w' v n f := St.below h hb
theorem TrE.nr {w : World} {v : Value} {n : Nat} {f : Nat → BitVec 8} (h : TrE w v n f) : NrE w v n f := St.sv h
theorem TrE.form {w : World} {v : Value} {n : Nat} {f : Nat → BitVec 8} (h : TrE w v n f) : ∃ p c, v = .slice p n c := (St.sv h).form
/-- A matrix of numbers of its own type that reads so. -/
def TmE (w : World) (v : Value) (r : Nat) (l : Nat → Nat) (N : Nat → Nat → BitVec 8) : Prop := ∃ rows : Nat → Value, St w 67 v r rows r ∧ ∀ i, i < r → TrE w (rows i) (l i) (N i)
theorem TmE.below {w w' : World} {v : Value} {r : Nat} {l : Nat → Nat} {N : Nat → Nat → BitVec 8} (h : TmE w v r l N) (hb : Below w.heap.size w w') : TmE w' v r l N := by
  obtain ⟨rows, h1, h2⟩ := h
  exact ⟨rows, h1.below hb, fun i hi => (h2 i hi).below hb⟩
theorem TmE.nm {w : World} {v : Value} {r : Nat} {l : Nat → Nat} {N : Nat → Nat → BitVec 8} (h : TmE w v r l N) : NmE w v r l N := by
  obtain ⟨rows, h1, h2⟩ := h
  exact ⟨rows, h1.sv, fun i hi => (h2 i hi).nr⟩
theorem push_trE {W W3 : World} {base k : Nat} {v x : Value} {us : List Value} {rows : Nat → Value} {o : Obj} {l : Nat → Nat} {N : Nat → Nat → BitVec 8} (hown : W.ownsRow base 67 1 v k us) (hgrow : (W.alloc o).grownBy W3 v.ownBlock) (hR : ∀ i, i < k → TrE W (rows i) (l i) (N i)) (hx : TrE W x (l k) (N k)) : ∀ i, i < k + 1 → TrE W3 ((fun i => if i = k then x else rows i) i) (l i) (N i) := by
  intro i hi
  have h := push_all (c := fun i => l i) (by decide) hown hgrow hR hx i hi
  exact h
theorem cl_succE (f : Nat → BitVec 8) (k : Nat) : lv (clE f) k ++ [.int .u8 (el (f k))] = lv (clE f) (k + 1) := (lv_succ (clE f) k).symm
section
attribute [local irreducible] Calls lv el nuE
set_option maxHeartbeats 2000000 in
set_option maxRecDepth 1000000 in
theorem elems_core (b o n c : Nat) (f : Nat → BitVec 8) (w : World) (hn : n ≤ 17592186044416)
    (H1 : Hid (∀ i, i < n → w.cell? ⟨b, o + i, none⟩ = some (.int .i64 (nuE (f i))))) :
    Calls Try.prog 36 #[.slice (some ⟨b, o, none⟩) n c] w fun e w' => ∃ v, e = .returned v ∧ w'.ownsRow w.heap.size 34 1 v n (lv (clE f) n) ∧ Below w.heap.size w w' := by
  obtain ⟨i0, hi, hz0, hz1, hz2⟩ := info_parts infoE
  go_enter Try.func36, Try.ntmps36
  go_wp2
  go_loopw [3, 4] (fun v i wr => ∃ k : Nat, k ≤ n ∧ i = .int .i64 k ∧ wr.ownsRow w.heap.size 34 1 v k (lv (clE f) k) ∧ Below w.heap.size w wr) (fun _ i _ => n - (intOf i).toNat)
  case atStart => exact ⟨0, Nat.zero_le _, rfl, lv_none _ _ _ _ _, Below.refl _ _⟩
  case round =>
    obtain ⟨k, hk, rfl, hown, hb⟩ := hrel
    by_cases hlt : k < n
    · have g1 := cell_below (H1.out k hlt) hb
      have j1 : (k : Int) < (n : Int) := by omega
      have M1 : Hid (k + 1 ≤ maxLen) := by show _ ≤ _; unfold maxLen; omega
      have M2 : Hid (∀ o : Obj, w.heap.size ≤ (wr.alloc o).heap.size) := fun o => by have := hb.size; simp; omega
      go_wp2_with (first
        | (go_at_call 81; refine (elem_any (f k) _).mono ?_; rintro e w' ⟨rfl, h⟩; obtain rfl := h.symm)
        | (at_builtin; refine wpList_append_own _ rfl _ _ 67 rfl w.heap.size 34 i0 (.int .u8 0) 1 1 Try.underlying67 hi hz0 hz1 hz2 rfl (by decide) _ _ _ rfl (hown.alloc _) ⟨wr.heap.size, 0, none⟩ 1 1 [.int .u8 (el (f k))] rfl rfl (one_new _ _ _) (one_cellv rfl) M1.out (by omega) (M2.out _) ?_; intro v' w1 hown' hgrow _)
        )
      rw [cl_succE f k] at hown'
      have hb' := below_append (hb.alloc hb.size _) (M2.out _) hgrow (hown.alloc _) (Nat.le_refl _)
      clear hown hgrow g1
      go_roundw
      case rel => exact ⟨k + 1, by omega, by go_num, hown', hb'⟩
      case measure => simp [intOf]; omega
    · obtain rfl : k = n := by omega
      go_wp2
      go_ret
      exact ⟨_, rfl, hown, hb⟩
set_option maxRecDepth 1000000 in
theorem elems_nil (a : Option Addr) (c : Nat) (w : World) :
    Calls Try.prog 36 #[.slice a 0 c] w fun e w' => e = .returned (.slice none 0 0) ∧ w' = w := by
  go_enter Try.func36, Try.ntmps36
  go_wp2
  refine wp_loop_rounds 1 ?_
  rw [rounds_succ]
  go_wp2
  go_ret
  exact ⟨rfl, rfl⟩
end
theorem elems_any {w : World} {v : Value} {n : Nat} {f : Nat → BitVec 8} (h : Jr w v n (fun j => nuE (f j))) (hn : n ≤ 17592186044416) :
    Calls Try.prog 36 #[v] w fun e w' => ∃ v', e = .returned v' ∧ TrE w' v' n f ∧ Below w.heap.size w w' := by
  by_cases h0 : n = 0
  · subst h0
    obtain ⟨p, c, rfl, _⟩ := h
    exact (elems_nil p c w).mono fun e w' ⟨he, hw⟩ => ⟨_, he, ⟨none, 0, rfl, .inl rfl⟩, by rw [hw]; exact Below.refl _ _⟩
  · obtain ⟨b, o, c, rfl, hc⟩ := h.cells (by omega)
    exact (elems_core b o n c f w hn hc).mono fun e w' ⟨v', he, ho, hb⟩ => ⟨v', he, owns_st1 ho, hb⟩
section
attribute [local irreducible] Calls lv Ir Jr TrE nuE
set_option maxHeartbeats 4000000 in
set_option maxRecDepth 1000000 in
theorem elemss_core (b o n c : Nat) (rows : Nat → Value) (l : Nat → Nat) (N : Nat → Nat → BitVec 8) (w : World) (hn : n ≤ 5864062014805)
    (H1 : Hid (∀ i, i < n → w.cell? ⟨b, o + i, none⟩ = some (rows i))) (R1 : Hid (∀ i, i < n → Jr w (rows i) (l i) (fun j => nuE (N i j)))) (HL : Hid (∀ i, i < n → l i ≤ 17592186044416)) :
    Calls Try.prog 13 #[.slice (some ⟨b, o, none⟩) n c] w fun e w' => ∃ v rows', e = .returned v ∧ w'.ownsRow w.heap.size 67 1 v n (lv rows' n) ∧ (∀ i, i < n → TrE w' (rows' i) (l i) (N i)) ∧ Below w.heap.size w w' := by
  obtain ⟨i0, hi, hz0, hz1, hz2⟩ := info_parts infoER
  go_enter Try.func13, Try.ntmps13
  go_wp2
  go_loopw [3, 4] (fun v i wr => ∃ (k : Nat) (rows' : Nat → Value), k ≤ n ∧ i = .int .i64 k ∧ wr.ownsRow w.heap.size 67 1 v k (lv rows' k) ∧ Hid (∀ i, i < k → TrE wr (rows' i) (l i) (N i)) ∧ Below w.heap.size w wr) (fun _ i _ => n - (intOf i).toNat)
  case atStart => exact ⟨0, fun _ => .bool false, Nat.zero_le _, rfl, lv_none _ _ _ _ _, fun i hi => by omega, Below.refl _ _⟩
  case round =>
    obtain ⟨k, rows', hk, rfl, hown, hR, hb⟩ := hrel
    by_cases hlt : k < n
    · have g1 := cell_below (H1.out k hlt) hb
      have j1 : (k : Int) < (n : Int) := by omega
      have M1 : Hid (k + 1 ≤ maxLen) := by show _ ≤ _; unfold maxLen; omega
      have r1 := (show Hid _ from (R1.out k hlt).below hb)
      go_wp2_with (first
        | (go_at_call 36; refine (elems_any r1.out (HL.out k hlt)).mono ?_; rintro e w1 ⟨v1, rfl, hI1, hb1⟩; obtain ⟨px, cx, ex⟩ := hI1.form; subst ex; have hown1 := owns_below hown hb1)
        | (at_builtin; refine wpList_append_own _ rfl _ _ 31 rfl w.heap.size 67 i0 (.slice none 0 0) 1 24 Try.underlying31 hi hz0 hz1 hz2 rfl (by decide) _ _ _ rfl (hown1.alloc _) ⟨_, 0, none⟩ 1 1 [.slice px (l k) cx] rfl rfl (one_new _ _ _) (one_cellv rfl) M1.out (by omega) (by have := hb.size; have := hb1.size; simp at *; omega) ?_; intro v' w3 hown' hgrow _))
      have hb3 := below_append ((bt hb hb1).alloc (by have := hb.size; have := hb1.size; omega) _) (by have := hb.size; have := hb1.size; simp at *; omega) hgrow (hown1.alloc _) (Nat.le_refl _)
      rw [push_lv] at hown'
      have hR3 : Hid (∀ i, i < k + 1 → TrE w3 ((fun i => if i = k then .slice px (l k) cx else rows' i) i) (l i) (N i)) := push_trE hown1 hgrow (fun i hi => (hR.out i hi).below hb1) hI1
      clear hown hgrow hR hown1 g1 hI1
      go_roundw
      case rel => exact ⟨k + 1, _, by omega, by go_num, hown', hR3, hb3⟩
      case measure => simp [intOf]; omega
    · obtain rfl : k = n := by omega
      go_wp2
      go_ret
      exact ⟨_, rows', rfl, hown, hR.out, hb⟩
set_option maxRecDepth 1000000 in
theorem elemss_nil (a : Option Addr) (c : Nat) (w : World) :
    Calls Try.prog 13 #[.slice a 0 c] w fun e w' => e = .returned (.slice none 0 0) ∧ w' = w := by
  go_enter Try.func13, Try.ntmps13
  go_wp2
  refine wp_loop_rounds 1 ?_
  rw [rounds_succ]
  go_wp2
  go_ret
  exact ⟨rfl, rfl⟩
end
theorem elemss_any {w : World} {v : Value} {n : Nat} {l : Nat → Nat} {N : Nat → Nat → BitVec 8} (h : Jm w v n l (fun i j => nuE (N i j))) (hn : n ≤ 5864062014805) (hl : ∀ i, i < n → l i ≤ 17592186044416) :
    Calls Try.prog 13 #[v] w fun e w' => ∃ v', e = .returned v' ∧ TmE w' v' n l N ∧ Below w.heap.size w w' := by
  obtain ⟨rows, h, hr⟩ := h
  by_cases h0 : n = 0
  · subst h0
    obtain ⟨p, c, rfl, _⟩ := h
    exact (elemss_nil p c w).mono fun e w' ⟨he, hw⟩ => ⟨_, he, ⟨fun _ => .bool false, ⟨none, 0, rfl, .inl rfl⟩, fun i hi => by omega⟩, by rw [hw]; exact Below.refl _ _⟩
  · obtain ⟨b, o, c, rfl, hc⟩ := h.cells (by omega)
    exact (elemss_core b o n c rows l N w hn hc hr hl).mono fun e w' ⟨v', rows', he, ho, hi, hb⟩ => ⟨v', he, ⟨rows', owns_st1 ho, hi⟩, hb⟩
/-- A row of numbers of its own type that reads so. -/
def TrB (w : World) (v : Value) (n : Nat) (f : Nat → Bool) : Prop := St w 40 v n (clB f) n
theorem TrB.below {w w' : World} {v : Value} {n : Nat} {f : Nat → Bool} (h : TrB w v n f) (hb : Below w.heap.size w w') : TrB w' v n f := St.below h hb
theorem TrB.nr {w : World} {v : Value} {n : Nat} {f : Nat → Bool} (h : TrB w v n f) : NrB w v n f := St.sv h
theorem TrB.form {w : World} {v : Value} {n : Nat} {f : Nat → Bool} (h : TrB w v n f) : ∃ p c, v = .slice p n c := (St.sv h).form
/-- A matrix of numbers of its own type that reads so. -/
def TmB (w : World) (v : Value) (r : Nat) (l : Nat → Nat) (N : Nat → Nat → Bool) : Prop := ∃ rows : Nat → Value, St w 72 v r rows r ∧ ∀ i, i < r → TrB w (rows i) (l i) (N i)
theorem TmB.below {w w' : World} {v : Value} {r : Nat} {l : Nat → Nat} {N : Nat → Nat → Bool} (h : TmB w v r l N) (hb : Below w.heap.size w w') : TmB w' v r l N := by
  obtain ⟨rows, h1, h2⟩ := h
  exact ⟨rows, h1.below hb, fun i hi => (h2 i hi).below hb⟩
theorem TmB.nm {w : World} {v : Value} {r : Nat} {l : Nat → Nat} {N : Nat → Nat → Bool} (h : TmB w v r l N) : NmB w v r l N := by
  obtain ⟨rows, h1, h2⟩ := h
  exact ⟨rows, h1.sv, fun i hi => (h2 i hi).nr⟩
theorem push_trB {W W3 : World} {base k : Nat} {v x : Value} {us : List Value} {rows : Nat → Value} {o : Obj} {l : Nat → Nat} {N : Nat → Nat → Bool} (hown : W.ownsRow base 72 1 v k us) (hgrow : (W.alloc o).grownBy W3 v.ownBlock) (hR : ∀ i, i < k → TrB W (rows i) (l i) (N i)) (hx : TrB W x (l k) (N k)) : ∀ i, i < k + 1 → TrB W3 ((fun i => if i = k then x else rows i) i) (l i) (N i) := by
  intro i hi
  have h := push_all (c := fun i => l i) (by decide) hown hgrow hR hx i hi
  exact h
theorem cl_succB (f : Nat → Bool) (k : Nat) : lv (clB f) k ++ [.bool (f k)] = lv (clB f) (k + 1) := (lv_succ (clB f) k).symm
section
attribute [local irreducible] Calls lv el nuB
set_option maxHeartbeats 2000000 in
set_option maxRecDepth 1000000 in
theorem bits_core (b o n c : Nat) (f : Nat → Bool) (w : World) (hn : n ≤ 17592186044416)
    (H1 : Hid (∀ i, i < n → w.cell? ⟨b, o + i, none⟩ = some (.int .i64 (nuB (f i))))) :
    Calls Try.prog 39 #[.slice (some ⟨b, o, none⟩) n c] w fun e w' => ∃ v, e = .returned v ∧ w'.ownsRow w.heap.size 40 1 v n (lv (clB f) n) ∧ Below w.heap.size w w' := by
  obtain ⟨i0, hi, hz0, hz1, hz2⟩ := info_parts infoB
  go_enter Try.func39, Try.ntmps39
  go_wp2
  go_loopw [3, 4] (fun v i wr => ∃ k : Nat, k ≤ n ∧ i = .int .i64 k ∧ wr.ownsRow w.heap.size 40 1 v k (lv (clB f) k) ∧ Below w.heap.size w wr) (fun _ i _ => n - (intOf i).toNat)
  case atStart => exact ⟨0, Nat.zero_le _, rfl, lv_none _ _ _ _ _, Below.refl _ _⟩
  case round =>
    obtain ⟨k, hk, rfl, hown, hb⟩ := hrel
    by_cases hlt : k < n
    · have g1 := cell_below (H1.out k hlt) hb
      have j1 : (k : Int) < (n : Int) := by omega
      have M1 : Hid (k + 1 ≤ maxLen) := by show _ ≤ _; unfold maxLen; omega
      have M2 : Hid (∀ o : Obj, w.heap.size ≤ (wr.alloc o).heap.size) := fun o => by have := hb.size; simp; omega
      go_wp2_with (first
        | (go_at_call 82; refine (bit_any (f k) _).mono ?_; rintro e w' ⟨rfl, h⟩; obtain rfl := h.symm)
        | (at_builtin; refine wpList_append_own _ rfl _ _ 72 rfl w.heap.size 40 i0 (.bool false) 1 1 Try.underlying72 hi hz0 hz1 hz2 rfl (by decide) _ _ _ rfl (hown.alloc _) ⟨wr.heap.size, 0, none⟩ 1 1 [.bool (f k)] rfl rfl (one_new _ _ _) (one_cellv rfl) M1.out (by omega) (M2.out _) ?_; intro v' w1 hown' hgrow _)
        )
      rw [cl_succB f k] at hown'
      have hb' := below_append (hb.alloc hb.size _) (M2.out _) hgrow (hown.alloc _) (Nat.le_refl _)
      clear hown hgrow g1
      go_roundw
      case rel => exact ⟨k + 1, by omega, by go_num, hown', hb'⟩
      case measure => simp [intOf]; omega
    · obtain rfl : k = n := by omega
      go_wp2
      go_ret
      exact ⟨_, rfl, hown, hb⟩
set_option maxRecDepth 1000000 in
theorem bits_nil (a : Option Addr) (c : Nat) (w : World) :
    Calls Try.prog 39 #[.slice a 0 c] w fun e w' => e = .returned (.slice none 0 0) ∧ w' = w := by
  go_enter Try.func39, Try.ntmps39
  go_wp2
  refine wp_loop_rounds 1 ?_
  rw [rounds_succ]
  go_wp2
  go_ret
  exact ⟨rfl, rfl⟩
end
theorem bits_any {w : World} {v : Value} {n : Nat} {f : Nat → Bool} (h : Jr w v n (fun j => nuB (f j))) (hn : n ≤ 17592186044416) :
    Calls Try.prog 39 #[v] w fun e w' => ∃ v', e = .returned v' ∧ TrB w' v' n f ∧ Below w.heap.size w w' := by
  by_cases h0 : n = 0
  · subst h0
    obtain ⟨p, c, rfl, _⟩ := h
    exact (bits_nil p c w).mono fun e w' ⟨he, hw⟩ => ⟨_, he, ⟨none, 0, rfl, .inl rfl⟩, by rw [hw]; exact Below.refl _ _⟩
  · obtain ⟨b, o, c, rfl, hc⟩ := h.cells (by omega)
    exact (bits_core b o n c f w hn hc).mono fun e w' ⟨v', he, ho, hb⟩ => ⟨v', he, owns_st1 ho, hb⟩
section
attribute [local irreducible] Calls lv Ir Jr TrB nuB
set_option maxHeartbeats 4000000 in
set_option maxRecDepth 1000000 in
theorem bitss_core (b o n c : Nat) (rows : Nat → Value) (l : Nat → Nat) (N : Nat → Nat → Bool) (w : World) (hn : n ≤ 5864062014805)
    (H1 : Hid (∀ i, i < n → w.cell? ⟨b, o + i, none⟩ = some (rows i))) (R1 : Hid (∀ i, i < n → Jr w (rows i) (l i) (fun j => nuB (N i j)))) (HL : Hid (∀ i, i < n → l i ≤ 17592186044416)) :
    Calls Try.prog 16 #[.slice (some ⟨b, o, none⟩) n c] w fun e w' => ∃ v rows', e = .returned v ∧ w'.ownsRow w.heap.size 72 1 v n (lv rows' n) ∧ (∀ i, i < n → TrB w' (rows' i) (l i) (N i)) ∧ Below w.heap.size w w' := by
  obtain ⟨i0, hi, hz0, hz1, hz2⟩ := info_parts infoBR
  go_enter Try.func16, Try.ntmps16
  go_wp2
  go_loopw [3, 4] (fun v i wr => ∃ (k : Nat) (rows' : Nat → Value), k ≤ n ∧ i = .int .i64 k ∧ wr.ownsRow w.heap.size 72 1 v k (lv rows' k) ∧ Hid (∀ i, i < k → TrB wr (rows' i) (l i) (N i)) ∧ Below w.heap.size w wr) (fun _ i _ => n - (intOf i).toNat)
  case atStart => exact ⟨0, fun _ => .bool false, Nat.zero_le _, rfl, lv_none _ _ _ _ _, fun i hi => by omega, Below.refl _ _⟩
  case round =>
    obtain ⟨k, rows', hk, rfl, hown, hR, hb⟩ := hrel
    by_cases hlt : k < n
    · have g1 := cell_below (H1.out k hlt) hb
      have j1 : (k : Int) < (n : Int) := by omega
      have M1 : Hid (k + 1 ≤ maxLen) := by show _ ≤ _; unfold maxLen; omega
      have r1 := (show Hid _ from (R1.out k hlt).below hb)
      go_wp2_with (first
        | (go_at_call 39; refine (bits_any r1.out (HL.out k hlt)).mono ?_; rintro e w1 ⟨v1, rfl, hI1, hb1⟩; obtain ⟨px, cx, ex⟩ := hI1.form; subst ex; have hown1 := owns_below hown hb1)
        | (at_builtin; refine wpList_append_own _ rfl _ _ 37 rfl w.heap.size 72 i0 (.slice none 0 0) 1 24 Try.underlying37 hi hz0 hz1 hz2 rfl (by decide) _ _ _ rfl (hown1.alloc _) ⟨_, 0, none⟩ 1 1 [.slice px (l k) cx] rfl rfl (one_new _ _ _) (one_cellv rfl) M1.out (by omega) (by have := hb.size; have := hb1.size; simp at *; omega) ?_; intro v' w3 hown' hgrow _))
      have hb3 := below_append ((bt hb hb1).alloc (by have := hb.size; have := hb1.size; omega) _) (by have := hb.size; have := hb1.size; simp at *; omega) hgrow (hown1.alloc _) (Nat.le_refl _)
      rw [push_lv] at hown'
      have hR3 : Hid (∀ i, i < k + 1 → TrB w3 ((fun i => if i = k then .slice px (l k) cx else rows' i) i) (l i) (N i)) := push_trB hown1 hgrow (fun i hi => (hR.out i hi).below hb1) hI1
      clear hown hgrow hR hown1 g1 hI1
      go_roundw
      case rel => exact ⟨k + 1, _, by omega, by go_num, hown', hR3, hb3⟩
      case measure => simp [intOf]; omega
    · obtain rfl : k = n := by omega
      go_wp2
      go_ret
      exact ⟨_, rows', rfl, hown, hR.out, hb⟩
set_option maxRecDepth 1000000 in
theorem bitss_nil (a : Option Addr) (c : Nat) (w : World) :
    Calls Try.prog 16 #[.slice a 0 c] w fun e w' => e = .returned (.slice none 0 0) ∧ w' = w := by
  go_enter Try.func16, Try.ntmps16
  go_wp2
  refine wp_loop_rounds 1 ?_
  rw [rounds_succ]
  go_wp2
  go_ret
  exact ⟨rfl, rfl⟩
end
theorem bitss_any {w : World} {v : Value} {n : Nat} {l : Nat → Nat} {N : Nat → Nat → Bool} (h : Jm w v n l (fun i j => nuB (N i j))) (hn : n ≤ 5864062014805) (hl : ∀ i, i < n → l i ≤ 17592186044416) :
    Calls Try.prog 16 #[v] w fun e w' => ∃ v', e = .returned v' ∧ TmB w' v' n l N ∧ Below w.heap.size w w' := by
  obtain ⟨rows, h, hr⟩ := h
  by_cases h0 : n = 0
  · subst h0
    obtain ⟨p, c, rfl, _⟩ := h
    exact (bitss_nil p c w).mono fun e w' ⟨he, hw⟩ => ⟨_, he, ⟨fun _ => .bool false, ⟨none, 0, rfl, .inl rfl⟩, fun i hi => by omega⟩, by rw [hw]; exact Below.refl _ _⟩
  · obtain ⟨b, o, c, rfl, hc⟩ := h.cells (by omega)
    exact (bitss_core b o n c rows l N w hn hc hr hl).mono fun e w' ⟨v', rows', he, ho, hi, hb⟩ => ⟨v', he, ⟨rows', owns_st1 ho, hi⟩, hb⟩
/-- A row of numbers of its own type that reads so. -/
def TrF (w : World) (v : Value) (n : Nat) (f : Nat → (Bool × Bool)) : Prop := St w 47 v n (clF f) (n * 2)
theorem TrF.below {w w' : World} {v : Value} {n : Nat} {f : Nat → (Bool × Bool)} (h : TrF w v n f) (hb : Below w.heap.size w w') : TrF w' v n f := St.below h hb
theorem TrF.nr {w : World} {v : Value} {n : Nat} {f : Nat → (Bool × Bool)} (h : TrF w v n f) : NrF w v n f := St.sv h
theorem TrF.form {w : World} {v : Value} {n : Nat} {f : Nat → (Bool × Bool)} (h : TrF w v n f) : ∃ p c, v = .slice p n c := (St.sv h).form
/-- A matrix of numbers of its own type that reads so. -/
def TmF (w : World) (v : Value) (r : Nat) (l : Nat → Nat) (N : Nat → Nat → (Bool × Bool)) : Prop := ∃ rows : Nat → Value, St w 77 v r rows r ∧ ∀ i, i < r → TrF w (rows i) (l i) (N i)
theorem TmF.below {w w' : World} {v : Value} {r : Nat} {l : Nat → Nat} {N : Nat → Nat → (Bool × Bool)} (h : TmF w v r l N) (hb : Below w.heap.size w w') : TmF w' v r l N := by
  obtain ⟨rows, h1, h2⟩ := h
  exact ⟨rows, h1.below hb, fun i hi => (h2 i hi).below hb⟩
theorem TmF.nm {w : World} {v : Value} {r : Nat} {l : Nat → Nat} {N : Nat → Nat → (Bool × Bool)} (h : TmF w v r l N) : NmF w v r l N := by
  obtain ⟨rows, h1, h2⟩ := h
  exact ⟨rows, h1.sv, fun i hi => (h2 i hi).nr⟩
theorem push_trF {W W3 : World} {base k : Nat} {v x : Value} {us : List Value} {rows : Nat → Value} {o : Obj} {l : Nat → Nat} {N : Nat → Nat → (Bool × Bool)} (hown : W.ownsRow base 77 1 v k us) (hgrow : (W.alloc o).grownBy W3 v.ownBlock) (hR : ∀ i, i < k → TrF W (rows i) (l i) (N i)) (hx : TrF W x (l k) (N k)) : ∀ i, i < k + 1 → TrF W3 ((fun i => if i = k then x else rows i) i) (l i) (N i) := by
  intro i hi
  have h := push_all (c := fun i => (l i * 2)) (by decide) hown hgrow hR hx i hi
  exact h
theorem cl_succF (f : Nat → (Bool × Bool)) (k : Nat) : lv (clF f) (k * 2) ++ [.bool (f k).1, .bool (f k).2] = lv (clF f) ((k + 1) * 2) := by
  rw [show (k + 1) * 2 = k * 2 + 1 + 1 by omega, lv_succ, lv_succ, List.append_assoc]
  unfold clF
  rw [if_pos (by omega), if_neg (by omega), show k * 2 / 2 = k by omega, show (k * 2 + 1) / 2 = k by omega]; rfl
theorem two_new (w : World) (a b : Value) (t : TypeId) : ∀ j u, ([a, b] : List Value)[j]? = some u → (w.alloc (.cells #[a, b] t)).cell? ((⟨w.heap.size, 0, none⟩ : Addr).add j) = some u := by
  intro j u hj
  rw [add_pl, cell_of_row _ _ _ _ _ (0, 0) (heap_alloc_new w _), Nat.zero_add]
  simpa using hj
theorem two_cell (a b : Bool) : ∀ u ∈ ([.bool a, .bool b] : List Value), u.oneCell' = true := by
  intro u hu; simp at hu; rcases hu with rfl | rfl <;> rfl
section
attribute [local irreducible] Calls lv el nuF
set_option maxHeartbeats 2000000 in
set_option maxRecDepth 1000000 in
theorem fours_core (b o n c : Nat) (f : Nat → (Bool × Bool)) (w : World) (hn : n ≤ 17592186044416)
    (H1 : Hid (∀ i, i < n → w.cell? ⟨b, o + i, none⟩ = some (.int .i64 (nuF (f i))))) :
    Calls Try.prog 42 #[.slice (some ⟨b, o, none⟩) n c] w fun e w' => ∃ v, e = .returned v ∧ w'.ownsRow w.heap.size 47 2 v n (lv (clF f) (n * 2)) ∧ Below w.heap.size w w' := by
  obtain ⟨i0, hi, hz0, hz1, hz2⟩ := info_parts infoF
  go_enter Try.func42, Try.ntmps42
  go_wp2
  go_loopw [3, 4] (fun v i wr => ∃ k : Nat, k ≤ n ∧ i = .int .i64 k ∧ wr.ownsRow w.heap.size 47 2 v k (lv (clF f) (k * 2)) ∧ Below w.heap.size w wr) (fun _ i _ => n - (intOf i).toNat)
  case atStart => exact ⟨0, Nat.zero_le _, rfl, lv_none _ _ _ _ _, Below.refl _ _⟩
  case round =>
    obtain ⟨k, hk, rfl, hown, hb⟩ := hrel
    by_cases hlt : k < n
    · have g1 := cell_below (H1.out k hlt) hb
      have j1 : (k : Int) < (n : Int) := by omega
      have M1 : Hid (k + 1 ≤ maxLen) := by show _ ≤ _; unfold maxLen; omega
      have M2 : Hid (∀ o : Obj, w.heap.size ≤ (wr.alloc o).heap.size) := fun o => by have := hb.size; simp; omega
      go_wp2_with (first
        | (go_at_call 83; refine (four_any (f k) _).mono ?_; rintro e w2 ⟨rfl, hb2⟩; have hown2 := owns_below hown hb2)
        | (at_builtin; refine wpList_append_own _ rfl _ _ 77 rfl w.heap.size 47 i0 (.agg #[.bool false, .bool false]) 2 2 Try.underlying77 hi hz0 hz1 hz2 rfl (by decide) _ _ _ rfl (hown2.alloc _) ⟨_, 0, none⟩ 1 1 [.bool (f k).1, .bool (f k).2] rfl rfl (two_new _ _ _ _) (two_cell _ _) M1.out (by omega) (by have := hb.size; have := hb2.size; simp at *; omega) ?_; intro v' w1 hown' hgrow _)
        )
      rw [cl_succF f k] at hown'
      have hb' := below_append ((bt hb hb2).alloc (by have := hb.size; have := hb2.size; omega) _) (by have := hb.size; have := hb2.size; simp at *; omega) hgrow (hown2.alloc _) (Nat.le_refl _)
      clear hown hgrow g1
      go_roundw
      case rel => exact ⟨k + 1, by omega, by go_num, hown', hb'⟩
      case measure => simp [intOf]; omega
    · obtain rfl : k = n := by omega
      go_wp2
      go_ret
      exact ⟨_, rfl, hown, hb⟩
set_option maxRecDepth 1000000 in
theorem fours_nil (a : Option Addr) (c : Nat) (w : World) :
    Calls Try.prog 42 #[.slice a 0 c] w fun e w' => e = .returned (.slice none 0 0) ∧ w' = w := by
  go_enter Try.func42, Try.ntmps42
  go_wp2
  refine wp_loop_rounds 1 ?_
  rw [rounds_succ]
  go_wp2
  go_ret
  exact ⟨rfl, rfl⟩
end
theorem fours_any {w : World} {v : Value} {n : Nat} {f : Nat → (Bool × Bool)} (h : Jr w v n (fun j => nuF (f j))) (hn : n ≤ 17592186044416) :
    Calls Try.prog 42 #[v] w fun e w' => ∃ v', e = .returned v' ∧ TrF w' v' n f ∧ Below w.heap.size w w' := by
  by_cases h0 : n = 0
  · subst h0
    obtain ⟨p, c, rfl, _⟩ := h
    exact (fours_nil p c w).mono fun e w' ⟨he, hw⟩ => ⟨_, he, ⟨none, 0, rfl, .inl rfl⟩, by rw [hw]; exact Below.refl _ _⟩
  · obtain ⟨b, o, c, rfl, hc⟩ := h.cells (by omega)
    exact (fours_core b o n c f w hn hc).mono fun e w' ⟨v', he, ho, hb⟩ => ⟨v', he, owns_st ho, hb⟩
section
attribute [local irreducible] Calls lv Ir Jr TrF nuF
set_option maxHeartbeats 4000000 in
set_option maxRecDepth 1000000 in
theorem fourss_core (b o n c : Nat) (rows : Nat → Value) (l : Nat → Nat) (N : Nat → Nat → (Bool × Bool)) (w : World) (hn : n ≤ 5864062014805)
    (H1 : Hid (∀ i, i < n → w.cell? ⟨b, o + i, none⟩ = some (rows i))) (R1 : Hid (∀ i, i < n → Jr w (rows i) (l i) (fun j => nuF (N i j)))) (HL : Hid (∀ i, i < n → l i ≤ 17592186044416)) :
    Calls Try.prog 19 #[.slice (some ⟨b, o, none⟩) n c] w fun e w' => ∃ v rows', e = .returned v ∧ w'.ownsRow w.heap.size 77 1 v n (lv rows' n) ∧ (∀ i, i < n → TrF w' (rows' i) (l i) (N i)) ∧ Below w.heap.size w w' := by
  obtain ⟨i0, hi, hz0, hz1, hz2⟩ := info_parts infoFR
  go_enter Try.func19, Try.ntmps19
  go_wp2
  go_loopw [3, 4] (fun v i wr => ∃ (k : Nat) (rows' : Nat → Value), k ≤ n ∧ i = .int .i64 k ∧ wr.ownsRow w.heap.size 77 1 v k (lv rows' k) ∧ Hid (∀ i, i < k → TrF wr (rows' i) (l i) (N i)) ∧ Below w.heap.size w wr) (fun _ i _ => n - (intOf i).toNat)
  case atStart => exact ⟨0, fun _ => .bool false, Nat.zero_le _, rfl, lv_none _ _ _ _ _, fun i hi => by omega, Below.refl _ _⟩
  case round =>
    obtain ⟨k, rows', hk, rfl, hown, hR, hb⟩ := hrel
    by_cases hlt : k < n
    · have g1 := cell_below (H1.out k hlt) hb
      have j1 : (k : Int) < (n : Int) := by omega
      have M1 : Hid (k + 1 ≤ maxLen) := by show _ ≤ _; unfold maxLen; omega
      have r1 := (show Hid _ from (R1.out k hlt).below hb)
      go_wp2_with (first
        | (go_at_call 42; refine (fours_any r1.out (HL.out k hlt)).mono ?_; rintro e w1 ⟨v1, rfl, hI1, hb1⟩; obtain ⟨px, cx, ex⟩ := hI1.form; subst ex; have hown1 := owns_below hown hb1)
        | (at_builtin; refine wpList_append_own _ rfl _ _ 43 rfl w.heap.size 77 i0 (.slice none 0 0) 1 24 Try.underlying43 hi hz0 hz1 hz2 rfl (by decide) _ _ _ rfl (hown1.alloc _) ⟨_, 0, none⟩ 1 1 [.slice px (l k) cx] rfl rfl (one_new _ _ _) (one_cellv rfl) M1.out (by omega) (by have := hb.size; have := hb1.size; simp at *; omega) ?_; intro v' w3 hown' hgrow _))
      have hb3 := below_append ((bt hb hb1).alloc (by have := hb.size; have := hb1.size; omega) _) (by have := hb.size; have := hb1.size; simp at *; omega) hgrow (hown1.alloc _) (Nat.le_refl _)
      rw [push_lv] at hown'
      have hR3 : Hid (∀ i, i < k + 1 → TrF w3 ((fun i => if i = k then .slice px (l k) cx else rows' i) i) (l i) (N i)) := push_trF hown1 hgrow (fun i hi => (hR.out i hi).below hb1) hI1
      clear hown hgrow hR hown1 g1 hI1
      go_roundw
      case rel => exact ⟨k + 1, _, by omega, by go_num, hown', hR3, hb3⟩
      case measure => simp [intOf]; omega
    · obtain rfl : k = n := by omega
      go_wp2
      go_ret
      exact ⟨_, rows', rfl, hown, hR.out, hb⟩
set_option maxRecDepth 1000000 in
theorem fourss_nil (a : Option Addr) (c : Nat) (w : World) :
    Calls Try.prog 19 #[.slice a 0 c] w fun e w' => e = .returned (.slice none 0 0) ∧ w' = w := by
  go_enter Try.func19, Try.ntmps19
  go_wp2
  refine wp_loop_rounds 1 ?_
  rw [rounds_succ]
  go_wp2
  go_ret
  exact ⟨rfl, rfl⟩
end
theorem fourss_any {w : World} {v : Value} {n : Nat} {l : Nat → Nat} {N : Nat → Nat → (Bool × Bool)} (h : Jm w v n l (fun i j => nuF (N i j))) (hn : n ≤ 5864062014805) (hl : ∀ i, i < n → l i ≤ 17592186044416) :
    Calls Try.prog 19 #[v] w fun e w' => ∃ v', e = .returned v' ∧ TmF w' v' n l N ∧ Below w.heap.size w w' := by
  obtain ⟨rows, h, hr⟩ := h
  by_cases h0 : n = 0
  · subst h0
    obtain ⟨p, c, rfl, _⟩ := h
    exact (fourss_nil p c w).mono fun e w' ⟨he, hw⟩ => ⟨_, he, ⟨fun _ => .bool false, ⟨none, 0, rfl, .inl rfl⟩, fun i hi => by omega⟩, by rw [hw]; exact Below.refl _ _⟩
  · obtain ⟨b, o, c, rfl, hc⟩ := h.cells (by omega)
    exact (fourss_core b o n c rows l N w hn hc hr hl).mono fun e w' ⟨v', rows', he, ho, hi, hb⟩ => ⟨v', he, ⟨rows', owns_st1 ho, hi⟩, hb⟩
end Go.Proofs.Ytchmggehbajebaa
