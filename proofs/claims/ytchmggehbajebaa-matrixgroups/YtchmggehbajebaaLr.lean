/-
  The laws' own helpers: 'list', 'rows', 'elems', 'bits', 'fours', and of matrices.
-/
import Derived.Test.YtchmggehbajebaaIdW
namespace Go.Proofs.Ytchmggehbajebaa
open Go.RowKit
/-- A row of ints that came in. -/
def Jr (w : World) (v : Value) (n : Nat) (f : Nat → Int) : Prop := Sv w v n (fun j => .int .i64 (f j)) n
theorem Jr.below {w w' : World} {v : Value} {n : Nat} {f : Nat → Int} (h : Jr w v n f) (hb : Below w.heap.size w w') : Jr w' v n f := Sv.below h hb
theorem Ir.jr {w : World} {v : Value} {n : Nat} {f : Nat → Int} (h : Ir w v n f) : Jr w v n f := St.sv h
/-- A matrix of ints that came in. -/
def Jm (w : World) (v : Value) (r : Nat) (l : Nat → Nat) (M : Nat → Nat → Int) : Prop := ∃ rows : Nat → Value, Sv w v r rows r ∧ ∀ i, i < r → Jr w (rows i) (l i) (M i)
theorem Jm.below {w w' : World} {v : Value} {r : Nat} {l : Nat → Nat} {M : Nat → Nat → Int} (h : Jm w v r l M) (hb : Below w.heap.size w w') : Jm w' v r l M := by
  obtain ⟨rows, h1, h2⟩ := h
  exact ⟨rows, h1.below hb, fun i hi => (h2 i hi).below hb⟩
theorem Im.jm {w : World} {v : Value} {r : Nat} {l : Nat → Nat} {M : Nat → Nat → Int} (h : Im w v r l M) : Jm w v r l M := by
  obtain ⟨rows, h1, h2⟩ := h
  exact ⟨rows, h1.sv, fun i hi => (h2 i hi).jr⟩
theorem Sv.form {w : World} {v : Value} {l : Nat} {f : Nat → Value} {n : Nat} (h : Sv w v l f n) : ∃ p c, v = .slice p l c := by
  obtain ⟨p, c, e, _⟩ := h; exact ⟨p, c, e⟩
theorem Ir.form {w : World} {v : Value} {n : Nat} {f : Nat → Int} (h : Ir w v n f) : ∃ p c, v = .slice p n c := h.jr.form
section
attribute [local irreducible] Calls lv
set_option maxHeartbeats 2000000 in
set_option maxRecDepth 1000000 in
theorem list_core (s : Int) (hs : s = 256 ∨ s = 2 ∨ s = 4) (b o n c : Nat) (f : Nat → Int) (w : World) (hn : n ≤ 17592186044416)
    (H1 : Hid (∀ i, i < n → w.cell? ⟨b, o + i, none⟩ = some (.int .i64 (f i)))) :
    Calls Try.prog 33 #[.int .i64 s, .slice (some ⟨b, o, none⟩) n c] w fun e w' => ∃ v, e = .returned v ∧ w'.ownsRow w.heap.size 3 1 v n (lv (fun j => .int .i64 (f j % s)) n) ∧ Below w.heap.size w w' := by
  obtain ⟨i0, hi, hz0, hz1, hz2⟩ := info_parts infoI
  have HS : Hid (s = 256 ∨ s = 2 ∨ s = 4) := hs
  clear hs
  go_enter Try.func33, Try.ntmps33
  go_wp2
  go_loopw [5, 6] (fun v i wr => ∃ k : Nat, k ≤ n ∧ i = .int .i64 k ∧ wr.ownsRow w.heap.size 3 1 v k (lv (fun j => .int .i64 (f j % s)) k) ∧ Below w.heap.size w wr) (fun _ i _ => n - (intOf i).toNat)
  case atStart => exact ⟨0, Nat.zero_le _, rfl, lv_none _ _ _ _ _, Below.refl _ _⟩
  case round =>
    obtain ⟨k, hk, rfl, hown, hb⟩ := hrel
    by_cases hlt : k < n
    · have g1 := cell_below (H1.out k hlt) hb
      have j1 : (k : Int) < (n : Int) := by omega
      have M1 : Hid (k + 1 ≤ maxLen) := by show _ ≤ _; unfold maxLen; omega
      have M2 : Hid (∀ o : Obj, w.heap.size ≤ (wr.alloc o).heap.size) := fun o => by have := hb.size; simp; omega
      go_wp2_with (first
        | (go_at_call 80; refine (low_any s (f k) HS.out _).mono ?_; rintro e w' ⟨rfl, h⟩; obtain rfl := h.symm)
        | (at_builtin; refine wpList_append_own _ rfl _ _ 23 rfl w.heap.size 3 i0 (.int .i64 0) 1 8 Try.underlying23 hi hz0 hz1 hz2 rfl (by decide) _ _ _ rfl (hown.alloc _) ⟨wr.heap.size, 0, none⟩ 1 1 [.int .i64 (f k % s)] rfl rfl (one_new _ _ _) (one_cellv rfl) M1.out (by omega) (M2.out _) ?_; intro v' w1 hown' hgrow _))
      rw [← lv_succ (fun j => .int .i64 (f j % s)) k] at hown'
      have hb' := below_append (hb.alloc hb.size _) (M2.out _) hgrow (hown.alloc _) (Nat.le_refl _)
      clear hown hgrow g1
      go_roundw
      case rel => exact ⟨k + 1, by omega, by go_num, hown', hb'⟩
      case measure => simp [intOf]; omega
    · obtain rfl : k = n := by omega
      go_wp2
      go_ret
      exact ⟨_, rfl, hown, hb⟩
set_option maxRecDepth 1000000 in
theorem list_nil (s : Int) (a : Option Addr) (c : Nat) (w : World) :
    Calls Try.prog 33 #[.int .i64 s, .slice a 0 c] w fun e w' => e = .returned (.slice none 0 0) ∧ w' = w := by
  go_enter Try.func33, Try.ntmps33
  go_wp2
  refine wp_loop_rounds 1 ?_
  rw [rounds_succ]
  go_wp2
  go_ret
  exact ⟨rfl, rfl⟩
end
theorem list_any {w : World} {v : Value} {n : Nat} {f : Nat → Int} (h : Jr w v n f) (s : Int) (hs : s = 256 ∨ s = 2 ∨ s = 4) (hn : n ≤ 17592186044416) :
    Calls Try.prog 33 #[.int .i64 s, v] w fun e w' => ∃ v', e = .returned v' ∧ Ir w' v' n (fun j => f j % s) ∧ Below w.heap.size w w' := by
  by_cases h0 : n = 0
  · subst h0
    obtain ⟨p, c, rfl, _⟩ := h
    exact (list_nil s p c w).mono fun e w' ⟨he, hw⟩ => ⟨_, he, ⟨none, 0, rfl, .inl rfl⟩, by rw [hw]; exact Below.refl _ _⟩
  · obtain ⟨b, o, c, rfl, hc⟩ := h.cells (by omega)
    exact (list_core s hs b o n c f w hn hc).mono fun e w' ⟨v', he, ho, hb⟩ => ⟨v', he, owns_st1 ho, hb⟩
theorem push_ir {W W3 : World} {base k : Nat} {v x : Value} {us : List Value} {rows : Nat → Value} {o : Obj} {l : Nat → Nat} {M : Nat → Nat → Int} (hown : W.ownsRow base 23 1 v k us) (hgrow : (W.alloc o).grownBy W3 v.ownBlock) (hR : ∀ i, i < k → Ir W (rows i) (l i) (M i)) (hx : Ir W x (l k) (M k)) : ∀ i, i < k + 1 → Ir W3 ((fun i => if i = k then x else rows i) i) (l i) (M i) :=
  push_all (by decide) hown hgrow hR hx
section
attribute [local irreducible] Calls lv Ir Jr
set_option maxHeartbeats 4000000 in
set_option maxRecDepth 1000000 in
theorem rows_core (s : Int) (hs : s = 256 ∨ s = 2 ∨ s = 4) (b o n c : Nat) (rows : Nat → Value) (l : Nat → Nat) (M : Nat → Nat → Int) (w : World) (hn : n ≤ 5864062014805)
    (H1 : Hid (∀ i, i < n → w.cell? ⟨b, o + i, none⟩ = some (rows i))) (R1 : Hid (∀ i, i < n → Jr w (rows i) (l i) (M i))) (HL : Hid (∀ i, i < n → l i ≤ 17592186044416)) :
    Calls Try.prog 10 #[.int .i64 s, .slice (some ⟨b, o, none⟩) n c] w fun e w' => ∃ v rows', e = .returned v ∧ w'.ownsRow w.heap.size 23 1 v n (lv rows' n) ∧ (∀ i, i < n → Ir w' (rows' i) (l i) (fun j => M i j % s)) ∧ Below w.heap.size w w' := by
  obtain ⟨i0, hi, hz0, hz1, hz2⟩ := info_parts infoIR
  have HS : Hid (s = 256 ∨ s = 2 ∨ s = 4) := hs
  clear hs
  go_enter Try.func10, Try.ntmps10
  go_wp2
  go_loopw [5, 6] (fun v i wr => ∃ (k : Nat) (rows' : Nat → Value), k ≤ n ∧ i = .int .i64 k ∧ wr.ownsRow w.heap.size 23 1 v k (lv rows' k) ∧ Hid (∀ i, i < k → Ir wr (rows' i) (l i) (fun j => M i j % s)) ∧ Below w.heap.size w wr) (fun _ i _ => n - (intOf i).toNat)
  case atStart => exact ⟨0, fun _ => .bool false, Nat.zero_le _, rfl, lv_none _ _ _ _ _, fun i hi => by omega, Below.refl _ _⟩
  case round =>
    obtain ⟨k, rows', hk, rfl, hown, hR, hb⟩ := hrel
    by_cases hlt : k < n
    · have g1 := cell_below (H1.out k hlt) hb
      have j1 : (k : Int) < (n : Int) := by omega
      have M1 : Hid (k + 1 ≤ maxLen) := by show _ ≤ _; unfold maxLen; omega
      have r1 := (show Hid _ from (R1.out k hlt).below hb)
      go_wp2_with (first
        | (go_at_call 33; refine (list_any r1.out s HS.out (HL.out k hlt)).mono ?_; rintro e w1 ⟨v1, rfl, hI1, hb1⟩; obtain ⟨px, cx, ex⟩ := hI1.form; subst ex; have hown1 := owns_below hown hb1)
        | (at_builtin; refine wpList_append_own _ rfl _ _ 22 rfl w.heap.size 23 i0 (.slice none 0 0) 1 24 Try.underlying22 hi hz0 hz1 hz2 rfl (by decide) _ _ _ rfl (hown1.alloc _) ⟨_, 0, none⟩ 1 1 [.slice px (l k) cx] rfl rfl (one_new _ _ _) (one_cellv rfl) M1.out (by omega) (by have := hb.size; have := hb1.size; simp at *; omega) ?_; intro v' w3 hown' hgrow _))
      have hb3 := below_append ((bt hb hb1).alloc (by have := hb.size; have := hb1.size; omega) _) (by have := hb.size; have := hb1.size; simp at *; omega) hgrow (hown1.alloc _) (Nat.le_refl _)
      rw [push_lv] at hown'
      have hR3 : Hid (∀ i, i < k + 1 → Ir w3 ((fun i => if i = k then .slice px (l k) cx else rows' i) i) (l i) (fun j => M i j % s)) := push_ir hown1 hgrow (fun i hi => (hR.out i hi).below hb1) hI1
      clear hown hgrow hR hown1 g1 hI1
      go_roundw
      case rel => exact ⟨k + 1, _, by omega, by go_num, hown', hR3, hb3⟩
      case measure => simp [intOf]; omega
    · obtain rfl : k = n := by omega
      go_wp2
      go_ret
      exact ⟨_, rows', rfl, hown, hR.out, hb⟩
set_option maxRecDepth 1000000 in
theorem rows_nil (s : Int) (a : Option Addr) (c : Nat) (w : World) :
    Calls Try.prog 10 #[.int .i64 s, .slice a 0 c] w fun e w' => e = .returned (.slice none 0 0) ∧ w' = w := by
  go_enter Try.func10, Try.ntmps10
  go_wp2
  refine wp_loop_rounds 1 ?_
  rw [rounds_succ]
  go_wp2
  go_ret
  exact ⟨rfl, rfl⟩
end
theorem rows_any {w : World} {v : Value} {n : Nat} {l : Nat → Nat} {M : Nat → Nat → Int} (h : Jm w v n l M) (s : Int) (hs : s = 256 ∨ s = 2 ∨ s = 4) (hn : n ≤ 5864062014805) (hl : ∀ i, i < n → l i ≤ 17592186044416) :
    Calls Try.prog 10 #[.int .i64 s, v] w fun e w' => ∃ v', e = .returned v' ∧ Im w' v' n l (fun i j => M i j % s) ∧ Below w.heap.size w w' := by
  obtain ⟨rows, h, hr⟩ := h
  by_cases h0 : n = 0
  · subst h0
    obtain ⟨p, c, rfl, _⟩ := h
    exact (rows_nil s p c w).mono fun e w' ⟨he, hw⟩ => ⟨_, he, Im.nil _ _ _, by rw [hw]; exact Below.refl _ _⟩
  · obtain ⟨b, o, c, rfl, hc⟩ := h.cells (by omega)
    exact (rows_core s hs b o n c rows l M w hn hc hr hl).mono fun e w' ⟨v', rows', he, ho, hi, hb⟩ => ⟨v', he, ⟨rows', owns_st1 ho, hi⟩, hb⟩
end Go.Proofs.Ytchmggehbajebaa
