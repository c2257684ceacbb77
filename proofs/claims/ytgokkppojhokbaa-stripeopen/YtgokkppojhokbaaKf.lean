/-
  The laws' own helpers: 'list', 'rows', 'elems', 'bits', 'fours', and of matrices.
-/
import Derived.Test.YtgokkppojhokbaaIdW
namespace Go.Proofs.Ytgokkppojhokbaa
open Go.RowKit
/-- A row of ints that came in. -/
def Jr (w : World) (v : Value) (n : Nat) (f : Nat → Int) : Prop := Sv w v n (fun j => .int .i64 (f j)) n
theorem Jr.below {w w' : World} {v : Value} {n : Nat} {f : Nat → Int} (h : Jr w v n f) (hb : Below w.heap.size w w') : Jr w' v n f := Sv.below h hb
theorem Ir.jr {w : World} {v : Value} {n : Nat} {f : Nat → Int} (h : Ir w v n f) : Jr w v n f := St.sv h
/-- A matrix of ints that came in. -/
def Jm (w : World) (v : Value) (r : Nat) (l : Nat → Nat) (M : Nat → Nat → Int) : Prop := ∃ rows : Nat → Value, Sv w v r rows r ∧ ∀ i, i < r → Jr w (rows i) (l i) (M i)
theorem Jm.below {w w' : World} {v : Value} {r : Nat} {l : Nat → Nat} {M : Nat → Nat → Int} (h : Jm w v r l M) (hb : Below w.heap.size w w') : Jm w' v r l M := by
  obtain ⟨rows, h1, h2⟩ := h
  exact ⟨rows, h1.below hb, fun i hi => (h2 i hi).below hb⟩
theorem Im.jm {w : World} {v : Value} {r : Nat} {l : Nat → Nat} {M : Nat → Nat → Int} (h : Im w v r l M) : Jm w v r l M := by
  obtain ⟨rows, h1, h2⟩ := h
  exact ⟨rows, h1.sv, fun i hi => (h2 i hi).jr⟩
theorem Sv.form {w : World} {v : Value} {l : Nat} {f : Nat → Value} {n : Nat} (h : Sv w v l f n) : ∃ p c, v = .slice p l c := by
  obtain ⟨p, c, e, _⟩ := h; exact ⟨p, c, e⟩
theorem Ir.form {w : World} {v : Value} {n : Nat} {f : Nat → Int} (h : Ir w v n f) : ∃ p c, v = .slice p n c := h.jr.form
section
attribute [local irreducible] Calls lv
end
theorem push_ir {W W3 : World} {base k : Nat} {v x : Value} {us : List Value} {rows : Nat → Value} {o : Obj} {l : Nat → Nat} {M : Nat → Nat → Int} (hown : W.ownsRow base 24 1 v k us) (hgrow : (W.alloc o).grownBy W3 v.ownBlock) (hR : ∀ i, i < k → Ir W (rows i) (l i) (M i)) (hx : Ir W x (l k) (M k)) : ∀ i, i < k + 1 → Ir W3 ((fun i => if i = k then x else rows i) i) (l i) (M i) :=
  push_all (by decide) hown hgrow hR hx
section
attribute [local irreducible] Calls lv Ir Jr
end
end Go.Proofs.Ytgokkppojhokbaa
/-
  The laws' own helpers: 'elems', 'bits', 'fours', and of matrices.
-/
namespace Go.Proofs.Ytgokkppojhokbaa
open Go.RowKit
/-- A row of numbers of its own type that reads so. -/
def TrE (w : World) (v : Value) (n : Nat) (f : Nat → BitVec 8) : Prop := St w 83 v n (clE f) n
theorem TrE.below {w w' : World} {v : Value} {n : Nat} {f : Nat → BitVec 8} (h : TrE w v n f) (hb : Below w.heap.size w w') : TrE w' v n f := St.below h hb
theorem TrE.nr {w : World} {v : Value} {n : Nat} {f : Nat → BitVec 8} (h : TrE w v n f) : NrE w v n f := St.sv h
theorem TrE.form {w : World} {v : Value} {n : Nat} {f : Nat → BitVec 8} (h : TrE w v n f) : ∃ p c, v = .slice p n c := (St.sv h).form
/-- A matrix of numbers of its own type that reads so. -/
def TmE (w : World) (v : Value) (r : Nat) (l : Nat → Nat) (N : Nat → Nat → BitVec 8) : Prop := ∃ rows : Nat → Value, St w 84 v r rows r ∧ ∀ i, i < r → TrE w (rows i) (l i) (N i)
theorem TmE.below {w w' : World} {v : Value} {r : Nat} {l : Nat → Nat} {N : Nat → Nat → BitVec 8} (h : TmE w v r l N) (hb : Below w.heap.size w w') : TmE w' v r l N := by
  obtain ⟨rows, h1, h2⟩ := h
  exact ⟨rows, h1.below hb, fun i hi => (h2 i hi).below hb⟩
theorem TmE.nm {w : World} {v : Value} {r : Nat} {l : Nat → Nat} {N : Nat → Nat → BitVec 8} (h : TmE w v r l N) : NmE w v r l N := by
  obtain ⟨rows, h1, h2⟩ := h
  exact ⟨rows, h1.sv, fun i hi => (h2 i hi).nr⟩
theorem push_trE {W W3 : World} {base k : Nat} {v x : Value} {us : List Value} {rows : Nat → Value} {o : Obj} {l : Nat → Nat} {N : Nat → Nat → BitVec 8} (hown : W.ownsRow base 84 1 v k us) (hgrow : (W.alloc o).grownBy W3 v.ownBlock) (hR : ∀ i, i < k → TrE W (rows i) (l i) (N i)) (hx : TrE W x (l k) (N k)) : ∀ i, i < k + 1 → TrE W3 ((fun i => if i = k then x else rows i) i) (l i) (N i) := by
  intro i hi
  have h := push_all (c := fun i => l i) (by decide) hown hgrow hR hx i hi
  exact h
theorem cl_succE (f : Nat → BitVec 8) (k : Nat) : lv (clE f) k ++ [.int .u8 (el (f k))] = lv (clE f) (k + 1) := (lv_succ (clE f) k).symm
section
attribute [local irreducible] Calls lv el nuE
end
section
attribute [local irreducible] Calls lv Ir Jr TrE nuE
end
theorem cl_succB (f : Nat → Bool) (k : Nat) : lv (clB f) k ++ [.bool (f k)] = lv (clB f) (k + 1) := (lv_succ (clB f) k).symm
section
attribute [local irreducible] Calls lv el nuB
end
section
attribute [local irreducible] Calls lv Ir Jr nuB
end
theorem cl_succF (f : Nat → (Bool × Bool)) (k : Nat) : lv (clF f) (k * 2) ++ [.bool (f k).1, .bool (f k).2] = lv (clF f) ((k + 1) * 2) := by
  rw [show (k + 1) * 2 = k * 2 + 1 + 1 by omega, lv_succ, lv_succ, List.append_assoc]
  unfold clF
  rw [if_pos (by omega), if_neg (by omega), show k * 2 / 2 = k by omega, show (k * 2 + 1) / 2 = k by omega]; rfl
theorem two_new (w : World) (a b : Value) (t : TypeId) : ∀ j u, ([a, b] : List Value)[j]? = some u → (w.alloc (.cells #[a, b] t)).cell? ((⟨w.heap.size, 0, none⟩ : Addr).add j) = some u := by
  intro j u hj
  rw [add_pl, cell_of_row _ _ _ _ _ (0, 0) (heap_alloc_new w _), Nat.zero_add]
  simpa using hj
theorem two_cell (a b : Bool) : ∀ u ∈ ([.bool a, .bool b] : List Value), u.oneCell' = true := by
  intro u hu; simp at hu; rcases hu with rfl | rfl <;> rfl
section
attribute [local irreducible] Calls lv el nuF
end
section
attribute [local irreducible] Calls lv Ir Jr nuF
end
end Go.Proofs.Ytgokkppojhokbaa
/-
  'fault', 'columns': the program's, and the document's.
-/
namespace Go.Proofs.Ytgokkppojhokbaa
open Go.RowKit
def anyb (P : Nat → Bool) (r : Nat) : Bool := (List.range r).any P
theorem anyb_true {P : Nat → Bool} {r k : Nat} (hk : k < r) (h : P k = true) : anyb P r = true := List.any_eq_true.2 ⟨k, List.mem_range.2 hk, h⟩
theorem anyb_false {P : Nat → Bool} {r : Nat} (h : ∀ k, k < r → P k = false) : anyb P r = false := List.any_eq_false.2 (fun k hk => by rw [h k (List.mem_range.1 hk)]; simp)
/-- The fault of a matrix of r rows, the row i of l i numbers. -/
def fc (r : Nat) (l : Nat → Nat) : Int := if 255 < r then 3 else if anyb (fun i => decide (255 < l i)) r then 3 else if anyb (fun i => decide (l i ≠ l 0)) r then 30 else 0
/-- Its columns. -/
def cw (r : Nat) (l : Nat → Nat) : Nat := if r = 0 then 0 else l 0
theorem fc_big {r : Nat} (l : Nat → Nat) (h : 255 < r) : fc r l = 3 := by unfold fc; rw [if_pos h]
theorem fc_large {r : Nat} {l : Nat → Nat} (h : ¬ 255 < r) {k : Nat} (hk : k < r) (h2 : 255 < l k) : fc r l = 3 := by
  unfold fc; rw [if_neg h, if_pos (anyb_true hk (by simpa using h2))]
theorem fc_ragged {r : Nat} {l : Nat → Nat} (h : ¬ 255 < r) (h1 : ∀ k, k < r → ¬ 255 < l k) {k : Nat} (hk : k < r) (h2 : ¬ l k = l 0) : fc r l = 30 := by
  unfold fc; rw [if_neg h, anyb_false (fun k hk => by simpa using h1 k hk), if_neg (by simp), if_pos (anyb_true hk (by simpa using h2))]
theorem fc_ok {r : Nat} {l : Nat → Nat} (h : ¬ 255 < r) (h1 : ∀ k, k < r → ¬ 255 < l k) (h2 : ∀ k, k < r → l k = l 0) : fc r l = 0 := by
  unfold fc; rw [if_neg h, anyb_false (fun k hk => by simpa using h1 k hk), if_neg (by simp), anyb_false (fun k hk => by simpa using h2 k hk), if_neg (by simp)]
theorem fc_zero {r : Nat} {l : Nat → Nat} (h : fc r l = 0) : r ≤ 255 ∧ (∀ k, k < r → l k ≤ 255) ∧ ∀ k, k < r → l k = l 0 := by
  unfold fc at h
  by_cases h1 : 255 < r
  · rw [if_pos h1] at h; cases h
  · rw [if_neg h1] at h
    by_cases h2 : anyb (fun i => decide (255 < l i)) r = true
    · rw [if_pos h2] at h; cases h
    · rw [if_neg h2] at h
      by_cases h3 : anyb (fun i => decide (l i ≠ l 0)) r = true
      · rw [if_pos h3] at h; cases h
      · refine ⟨by omega, fun k hk => ?_, fun k hk => ?_⟩
        · rcases Nat.lt_or_ge 255 (l k) with h4 | h4
          · exact absurd (anyb_true hk (by simpa using h4)) h2
          · exact h4
        · by_cases h4 : l k = l 0
          · exact h4
          · exact absurd (anyb_true hk (by simpa using h4)) h3
/-- A matrix of any things: its rows' lengths. -/
def Lm (w : World) (v : Value) (r : Nat) (l : Nat → Nat) : Prop := ∃ rows : Nat → Value, Sv w v r rows r ∧ ∀ i, i < r → ∃ p c, rows i = .slice p (l i) c
theorem Lm.below {w w' : World} {v : Value} {r : Nat} {l : Nat → Nat} (h : Lm w v r l) (hb : Below w.heap.size w w') : Lm w' v r l := by
  obtain ⟨rows, h1, h2⟩ := h
  exact ⟨rows, h1.below hb, h2⟩
theorem Jm.lm {w : World} {v : Value} {r : Nat} {l : Nat → Nat} {M : Nat → Nat → Int} (h : Jm w v r l M) : Lm w v r l := by
  obtain ⟨rows, h1, h2⟩ := h
  exact ⟨rows, h1, fun i hi => (h2 i hi).form⟩
theorem Lm.cells {w : World} {v : Value} {r : Nat} {l : Nat → Nat} (h : Lm w v r l) (h0 : 0 < r) : ∃ (b o c : Nat) (pp : Nat → Option Addr) (cc : Nat → Nat), v = .slice (some ⟨b, o, none⟩) r c ∧ ∀ i, i < r → w.cell? ⟨b, o + i, none⟩ = some (.slice (pp i) (l i) (cc i)) := by
  obtain ⟨rows, h1, h2⟩ := h
  obtain ⟨b, o, c, rfl, hc⟩ := h1.cells h0
  have h3 : ∀ i, ∃ y : Option Addr × Nat, i < r → rows i = .slice y.1 (l i) y.2 := fun i => by
    by_cases hi : i < r
    · obtain ⟨p, c, e⟩ := h2 i hi
      exact ⟨(p, c), fun _ => e⟩
    · exact ⟨(none, 0), fun h => absurd h hi⟩
  exact ⟨b, o, c, fun i => (h3 i).choose.1, fun i => (h3 i).choose.2, rfl, fun i hi => by rw [hc i hi, (h3 i).choose_spec hi]⟩
theorem Lm.empty {w : World} {v : Value} {l : Nat → Nat} (h : Lm w v 0 l) : ∃ p c, v = .slice p 0 c := by
  obtain ⟨rows, h1, _⟩ := h; exact h1.form
theorem NmE.lm {w : World} {v : Value} {r : Nat} {l : Nat → Nat} {N : Nat → Nat → BitVec 8} (h : NmE w v r l N) : Lm w v r l := by
  obtain ⟨rows, h1, h2⟩ := h
  exact ⟨rows, h1, fun i hi => (h2 i hi).form⟩
theorem columnsE_nil (p : Option Addr) (c : Nat) (w : World) : Calls Try.prog 56 #[.slice p 0 c] w fun e w' => e = .returned (.int .i64 0) ∧ w' = w := by
  go_enter Try.func56, Try.ntmps56
  go_wp2
  go_ret
  exact ⟨rfl, rfl⟩
set_option maxRecDepth 1000000 in
theorem columnsE_core (b o r c n c2 : Nat) (p : Option Addr) (w : World) (h0 : 0 < r) (hr : r ≤ 140737488355328) (g : w.cell? ⟨b, o, none⟩ = some (.slice p n c2)) : Calls Try.prog 56 #[.slice (some ⟨b, o, none⟩) r c] w fun e w' => e = .returned (.int .i64 (n : Int)) ∧ w' = w := by
  have i0 : ((r : Int) == 0) = false := by simp; omega
  have i1 : (0 : Int) < (r : Int) := by omega
  go_enter Try.func56, Try.ntmps56
  go_wp2
  go_ret
  exact ⟨rfl, rfl⟩
theorem columnsE_any {w : World} {v : Value} {r : Nat} {l : Nat → Nat} (h : Lm w v r l) (hr : r ≤ 140737488355328) : Calls Try.prog 56 #[v] w fun e w' => e = .returned (.int .i64 (cw r l : Nat)) ∧ w' = w := by
  by_cases h0 : r = 0
  · subst h0
    obtain ⟨p, c, rfl⟩ := h.empty
    exact columnsE_nil p c w
  · obtain ⟨b, o, c, pp, cc, rfl, hc⟩ := h.cells (by omega)
    unfold cw
    rw [if_neg h0]
    exact columnsE_core b o r c (l 0) (cc 0) (pp 0) w (by omega) hr (hc 0 (by omega))
section
attribute [local irreducible] Calls fc
set_option maxRecDepth 1000000 in
theorem faultE_big (p : Option Addr) (r c : Nat) (l : Nat → Nat) (h : 255 < r) (w : World) : Calls Try.prog 55 #[.slice p r c] w fun e w' => e = .returned (.int .i64 (fc r l)) ∧ w' = w := by
  rw [fc_big l h]
  have i1 : 255 < (r : Int) := by omega
  go_enter Try.func55, Try.ntmps55
  go_wp2
  go_ret
  exact ⟨rfl, rfl⟩
set_option maxRecDepth 1000000 in
theorem faultE_nil (p : Option Addr) (c : Nat) (l : Nat → Nat) (w : World) : Calls Try.prog 55 #[.slice p 0 c] w fun e w' => e = .returned (.int .i64 (fc 0 l)) ∧ w' = w := by
  rw [fc_ok (by omega) (fun k hk => by omega) (fun k hk => by omega)]
  go_enter Try.func55, Try.ntmps55
  go_wp2
  refine wp_loop_rounds 1 ?_
  rw [rounds_succ]
  go_wp2
  refine wp_loop_rounds 1 ?_
  rw [rounds_succ]
  go_wp2
  go_ret
  exact ⟨rfl, rfl⟩
set_option maxHeartbeats 2000000 in
set_option maxRecDepth 1000000 in
theorem faultE_core (b o r c : Nat) (l cc : Nat → Nat) (pp : Nat → Option Addr) (w : World) (h0 : 0 < r) (hr : r ≤ 255)
    (H1 : Hid (∀ i, i < r → w.cell? ⟨b, o + i, none⟩ = some (.slice (pp i) (l i) (cc i)))) :
    Calls Try.prog 55 #[.slice (some ⟨b, o, none⟩) r c] w fun e w' => e = .returned (.int .i64 (fc r l)) ∧ w' = w := by
  have i0 : ¬ 255 < (r : Int) := by omega
  have HC := (show Hid _ from columnsE_core b o r c (l 0) (cc 0) (pp 0) w h0 (by omega) (H1.out 0 h0))
  go_enter Try.func55, Try.ntmps55
  go_wp2
  go_loop [12] (fun i => ∃ k : Nat, k ≤ r ∧ i = .int .i64 k ∧ Hid (∀ j, j < k → ¬ 255 < l j)) (fun i => r - (intOf i).toNat)
  case atStart => exact ⟨0, Nat.zero_le _, rfl, fun j hj => by omega⟩
  case round =>
    obtain ⟨k, hk, rfl, HK⟩ := hrel
    by_cases hlt : k < r
    · have g1 := H1.out k hlt
      have i1 : (k : Int) < (r : Int) := by omega
      by_cases hb : 255 < l k
      · have i2 : 255 < (l k : Int) := by omega
        have HF : Hid (fc r l = 3) := fc_large (by omega) hlt hb
        go_wp2
        go_ret
        exact ⟨by rw [HF.out]; rfl, rfl⟩
      · have i2 : ¬ 255 < (l k : Int) := by omega
        have HK2 : Hid (∀ j, j < k + 1 → ¬ 255 < l j) := fun j hj => by
          by_cases e : j = k
          · rw [e]; exact hb
          · exact HK.out j (by omega)
        go_wp2
        go_round
        case rel => exact ⟨k + 1, by omega, by go_num, HK2⟩
        case measure => simp [intOf]; omega
    · obtain rfl : k = r := by omega
      go_wp2
      go_loop [22] (fun i => ∃ j : Nat, j ≤ k ∧ i = .int .i64 j ∧ Hid (∀ t, t < j → l t = l 0)) (fun i => k - (intOf i).toNat)
      case atStart => exact ⟨0, Nat.zero_le _, rfl, fun t ht => by omega⟩
      case round =>
        obtain ⟨j, hj, rfl, HJ⟩ := hrel
        by_cases hlt2 : j < k
        · have g1 := H1.out j hlt2
          have i1 : (j : Int) < (k : Int) := by omega
          by_cases he : l j = l 0
          · have i2 : ((l j : Int) != (l 0 : Int)) = false := by simp [he]
            have HJ2 : Hid (∀ t, t < j + 1 → l t = l 0) := fun t ht => by
              by_cases e : t = j
              · rw [e]; exact he
              · exact HJ.out t (by omega)
            go_wp2_with (go_at_call 56; refine HC.out.mono ?_; rintro e w' ⟨rfl, h⟩; obtain rfl := h.symm)
            go_round
            case rel => exact ⟨j + 1, by omega, by go_num, HJ2⟩
            case measure => simp [intOf]; omega
          · have i2 : ((l j : Int) != (l 0 : Int)) = true := by simp; omega
            have HF : Hid (fc k l = 30) := fc_ragged (by omega) HK.out hlt2 he
            go_wp2_with (go_at_call 56; refine HC.out.mono ?_; rintro e w' ⟨rfl, h⟩; obtain rfl := h.symm)
            go_ret
            exact ⟨by rw [HF.out]; rfl, rfl⟩
        · have HF : Hid (fc k l = 0) := fc_ok (by omega) HK.out (fun t ht => HJ.out t (by omega))
          go_wp2
          go_ret
          exact ⟨by rw [HF.out]; rfl, rfl⟩
end
theorem faultE_any {w : World} {v : Value} {r : Nat} {l : Nat → Nat} (h : Lm w v r l) : Calls Try.prog 55 #[v] w fun e w' => e = .returned (.int .i64 (fc r l)) ∧ w' = w := by
  by_cases h0 : r = 0
  · subst h0
    obtain ⟨p, c, rfl⟩ := h.empty
    exact faultE_nil p c l w
  · obtain ⟨b, o, c, pp, cc, rfl, hc⟩ := h.cells (by omega)
    by_cases h1 : 255 < r
    · exact faultE_big _ r c l h1 w
    · exact faultE_core b o r c l cc pp w (by omega) (by omega) hc
theorem NmB.lm {w : World} {v : Value} {r : Nat} {l : Nat → Nat} {N : Nat → Nat → Bool} (h : NmB w v r l N) : Lm w v r l := by
  obtain ⟨rows, h1, h2⟩ := h
  exact ⟨rows, h1, fun i hi => (h2 i hi).form⟩
section
attribute [local irreducible] Calls fc
end
theorem NmF.lm {w : World} {v : Value} {r : Nat} {l : Nat → Nat} {N : Nat → Nat → (Bool × Bool)} (h : NmF w v r l N) : Lm w v r l := by
  obtain ⟨rows, h1, h2⟩ := h
  exact ⟨rows, h1, fun i hi => (h2 i hi).form⟩
section
attribute [local irreducible] Calls fc
end
section
attribute [local irreducible] Calls fc
end
end Go.Proofs.Ytgokkppojhokbaa
