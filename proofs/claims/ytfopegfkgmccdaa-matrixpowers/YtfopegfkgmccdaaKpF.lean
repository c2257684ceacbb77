/-
  'Powers' over the field of four.
-/
import Derived.Test.YtfopegfkgmccdaaKp
namespace Go.Proofs.Ytfopegfkgmccdaa
open Go.RowKit
theorem bdr (w : World) : Below w.heap.size w w.drew := (Below.refl _ _).drew
/-- The block A is a variable that holds this number. -/
def Two (w : World) (A : Nat) (x : Bool × Bool) : Prop := w.heap[A]? = some (.cells #[.bool x.1, .bool x.2] 47 (0, 0))
theorem Two.lt {w : World} {A : Nat} {x : Bool × Bool} (h : Two w A x) : A < w.heap.size := lt_of_block h
theorem Two.below {w w' : World} {A : Nat} {x : Bool × Bool} (h : Two w A x) (hb : Below w.heap.size w w') : Two w' A x := by
  unfold Two; rw [hb.block A h.lt]; exact h
theorem Two.cells {w : World} {A : Nat} {x : Bool × Bool} (h : Two w A x) : w.cell? ⟨A, 0, none⟩ = some (.bool x.1) ∧ w.cell? ⟨A, 1, none⟩ = some (.bool x.2) := by
  refine ⟨?_, ?_⟩
  · rw [cell_of_row w A 0 _ _ _ h]; rfl
  · rw [cell_of_row w A 1 _ _ _ h]; rfl
theorem Two.frozen {w : World} {A : Nat} {x : Bool × Bool} (h : Two w A x) (i : Nat) : w.frozen? ⟨A, i, none⟩ = false := frozen_of_row w A i _ _ h
theorem two_var (w : World) (x : Bool × Bool) : Two (w.alloc (.cells #[.bool x.1, .bool x.2] 47)) w.heap.size x := heap_alloc_new w _
theorem Two.put {w : World} {A : Nat} {x : Bool × Bool} (h : Two w A x) (y : Bool × Bool) : Two ((w.setCell ⟨A, 0, none⟩ (.bool y.1)).setCell ⟨A, 1, none⟩ (.bool y.2)) A y := by
  have h1 : (w.setCell ⟨A, 0, none⟩ (.bool y.1)).heap[A]? = some (.cells #[.bool y.1, .bool x.2] 47 (0, 0)) := by rw [heap_setCell_same w A 0 _ _ _ h]; rfl
  unfold Two
  rw [heap_setCell_same _ A 1 _ _ _ h1]; rfl
theorem Two.away {w : World} {A : Nat} {x : Bool × Bool} (h : Two w A x) {p q : Addr} (hp : A ≠ p.block) (hq : A ≠ q.block) (u v : Value) : Two ((w.setCell p u).setCell q v) A x := by
  unfold Two
  rw [heap_setCell_other _ _ _ _ hq, heap_setCell_other _ _ _ _ hp]; exact h
theorem GmF.away {w : World} {B r l : Nat} {ρ : Nat → Nat} {N : Nat → Nat → Bool × Bool} (h : GmF w B r l ρ N) {L : Nat} (hB : B ≠ L) (hr : ∀ i, i < r → ρ i ≠ L) (u v : Value) : GmF ((w.setCell ⟨L, 0, none⟩ u).setCell ⟨L, 1, none⟩ v) B r l ρ N := by
  refine ⟨?_, fun i hi => ?_, h.ne, h.inj⟩
  · unfold Ov; rw [heap_setCell_other _ _ _ _ hB, heap_setCell_other _ _ _ _ hB]; exact Gr.out h
  · unfold Ov; rw [heap_setCell_other _ _ _ _ (hr i hi), heap_setCell_other _ _ _ _ (hr i hi)]; exact Gr.row h i hi
theorem GmF.lt {w : World} {B r l : Nat} {ρ : Nat → Nat} {N : Nat → Nat → Bool × Bool} (h : GmF w B r l ρ N) : B < w.heap.size ∧ ∀ i, i < r → ρ i < w.heap.size := ⟨(Gr.out h).lt, fun i hi => (Gr.row h i hi).lt⟩
section
attribute [local irreducible] Calls el Ov GmF pwk Two
set_option maxHeartbeats 8000000 in
set_option maxRecDepth 1000000 in
theorem powersF_core (b o n c m : Nat) (f : Nat → Bool × Bool) (x1 x2 : Bool) (w : World) (hn : n ≤ 255) (hm : m ≤ 255) (H1 : Hid (∀ i, i < n * 2 → w.cell? ⟨b, o + i, none⟩ = some (clF f i))) :
    Calls Try.prog 27 #[.slice (some ⟨b, o, none⟩) n c, .int .i64 (m : Int), .agg #[.bool x1, .bool x2]] w fun e w' => ∃ v, e = .returned (.tuple #[v, .int .i64 0]) ∧ GxF w.heap.size w' v n m (fun i j => pwk tiF (f i) (x1, x2) j) ∧ Below w.heap.size w w' := by
  obtain ⟨W, hW⟩ : ∃ W, W = w.alloc (.cells #[.bool x1, .bool x2] 47) := ⟨_, rfl⟩
  have hb0 : Below w.heap.size w W := by rw [hW]; exact (Below.refl _ _).alloc (Nat.le_refl _) _
  have tq : Two W w.heap.size (x1, x2) := by rw [hW]; exact two_var w (x1, x2)
  have HW := (show Hid _ from hW)
  go_enter Try.func27, Try.ntmps27
  clear hW
  go_wp2_with (first
    | (go_at_call 50; refine (sizeFault_ok m hm _).mono ?_; rintro e w' ⟨rfl, h⟩; obtain rfl := h.symm)
    | (go_at_call 50; refine (sizeFault_ok n hn _).mono ?_; rintro e w' ⟨rfl, h⟩; obtain rfl := h.symm)
    | (go_at_call 55; refine (blankxF n m (by omega) (by omega) _).mono ?_; rintro e w1 ⟨B, rfl, hG, hB, hb⟩))
  rw [← HW.out] at hB hb
  have hG0 : GmF w1 B n m (fun i => B + 1 + i) (fun i j => if i < 0 then pwk tiF (f i) (x1, x2) j else oF) := hG.congr (fun i _ j _ => by rw [if_neg (by omega)])
  clear hG
  go_loopw [32] (fun i wr => ∃ k : Nat, k ≤ n ∧ i = .int .i64 k ∧ GmF wr B n m (fun i => B + 1 + i) (fun i j => if i < k then pwk tiF (f i) (x1, x2) j else oF) ∧ Below W.heap.size W wr) (fun i _ => n - (intOf i).toNat)
  case atStart => exact ⟨0, Nat.zero_le _, rfl, hG0, hb⟩
  case round =>
    clear hG0 hb
    obtain ⟨k, hk, rfl, hG, hb⟩ := hrel
    by_cases hlt : k < n
    · have hi : (k : Int) < (n : Int) := by omega
      have g0 : wr.cell? ⟨b, o + k * 2, none⟩ = some (.bool (f k).1) := by
        rw [cell_below (H1.out (k * 2) (by omega)) (bt hb0 hb)]; unfold clF; rw [if_pos (by omega), show k * 2 / 2 = k by omega]
      have g9 : wr.cell? ⟨b, o + k * 2 + 1, none⟩ = some (.bool (f k).2) := by
        rw [Nat.add_assoc, cell_below (H1.out (k * 2 + 1) (by omega)) (bt hb0 hb)]; unfold clF; rw [if_neg (by omega), show (k * 2 + 1) / 2 = k by omega]
      obtain ⟨q1, q2⟩ := (tq.below hb).cells
      obtain ⟨W1, hW1⟩ : ∃ W1, W1 = wr.alloc (.cells #[.bool (f k).1, .bool (f k).2] 47) := ⟨_, rfl⟩
      obtain ⟨W2, hW2⟩ : ∃ W2, W2 = W1.alloc (.cells #[.bool x1, .bool x2] 47) := ⟨_, rfl⟩
      have bb1 : Below wr.heap.size wr W1 := by rw [hW1]; exact (Below.refl _ _).alloc (Nat.le_refl _) _
      have bb2 : Below W1.heap.size W1 W2 := by rw [hW2]; exact (Below.refl _ _).alloc (Nat.le_refl _) _
      have s1 : W1.heap.size = wr.heap.size + 1 := by rw [hW1]; simp
      have tp : Two W2 wr.heap.size (f k) := by
        have : Two W1 wr.heap.size (f k) := by rw [hW1]; exact two_var wr (f k)
        exact this.below bb2
      have tl : Two W2 (wr.heap.size + 1) (x1, x2) := by rw [hW2, ← s1]; exact two_var W1 (x1, x2)
      obtain ⟨q1a, q2a⟩ := ((tq.below hb).below bb1).cells
      have g1 := (hG.below bb1).below bb2 |>.out hlt
      have hG1 : GmF W2 B n m (fun i => B + 1 + i) (fun i j => if i < k then pwk tiF (f i) (x1, x2) j else if i = k ∧ j < 0 then pwk tiF (f i) (x1, x2) j else oF) := ((hG.below bb1).below bb2).congr (fun i _ j _ => by rw [if_neg (show ¬ (i = k ∧ j < 0) by omega)])
      have HE : Hid (W2 = (wr.alloc (.cells #[.bool (f k).1, .bool (f k).2] 47)).alloc (.cells #[.bool x1, .bool x2] 47)) := by show _ = _; rw [hW2, hW1]
      rw [hW1] at q1a q2a
      rw [HE.out] at g1
      have lts := hG.lt
      go_wp2
      rw [← HE.out]
      have hbW2 := bt hb (bt bb1 bb2)
      obtain ⟨A, hA⟩ : ∃ A, wr.heap.size = A := ⟨_, rfl⟩
      rw [hA] at tp tl lts ⊢
      have HLT : Hid (B < A ∧ ∀ i, i < n → B + 1 + i < A) := lts
      have HNA : Hid (w.heap.size ≤ A ∧ W.heap.size ≤ A) := ⟨by have := hb0.size; have := hb.size; omega, by have := hb.size; omega⟩
      have HG1 := (show Hid _ from hG1)
      have HTP := (show Hid _ from tp)
      have HTL := (show Hid _ from tl)
      have HBB := (show Hid _ from hbW2)
      have neA : ¬ B + 1 + k = A := by have := lts.2 k hlt; omega
      have neL : ¬ B + 1 + k = A + 1 := by have := lts.2 k hlt; omega
      have neA2 : ¬ A = B + 1 + k := by have := lts.2 k hlt; omega
      have neL2 : ¬ A + 1 = B + 1 + k := by have := lts.2 k hlt; omega
      clear g0 g9 q1 q2 q1a q2a g1 hG hG1 tp tl hb hbW2 bb1 bb2 s1 lts hA hW1 hW2 HE
      go_loopw [43] (fun j wq => ∃ t : Nat, t ≤ m ∧ j = .int .i64 t ∧ Two wq A (f k) ∧ Two wq (A + 1) (pwk tiF (f k) (x1, x2) t) ∧ GmF wq B n m (fun i => B + 1 + i) (fun i j => if i < k then pwk tiF (f i) (x1, x2) j else if i = k ∧ j < t then pwk tiF (f i) (x1, x2) j else oF) ∧ Below W.heap.size W wq) (fun j _ => m - (intOf j).toNat)
      case atStart => exact ⟨0, Nat.zero_le _, rfl, HTP.out, by unfold pwk; exact HTL.out, HG1.out, HBB.out⟩
      case round =>
        clear HG1 HTP HTL HBB
        obtain ⟨t, ht, rfl, tp, tl, hG, hb⟩ := hrel
        by_cases hltm : t < m
        · have i1 : (t : Int) < (m : Int) := by omega
          have g1 := hG.out hlt
          obtain ⟨g2, g4⟩ := hG.cell hlt hltm
          have g3 := hG.frozen hlt (t * 2)
          have g5 := hG.frozen hlt (t * 2 + 1)
          obtain ⟨a1, a2⟩ := tp.cells
          obtain ⟨l1, l2⟩ := tl.cells
          have hP := hG.put hlt hltm (pwk tiF (f k) (x1, x2) t) (W := ((wr.setCell ⟨B + 1 + k, t * 2, none⟩ (.bool (pwk tiF (f k) (x1, x2) t).1)).setCell ⟨B + 1 + k, t * 2 + 1, none⟩ (.bool (pwk tiF (f k) (x1, x2) t).2))) rfl
          have hP2 := hP.congr (N' := fun i j => if i < k then pwk tiF (f i) (x1, x2) j else if i = k ∧ j < t + 1 then pwk tiF (f i) (x1, x2) j else oF) (fun i _ j _ => fill_if (fun i j => pwk tiF (f i) (x1, x2) j) oF k t i j)
          have tp5 : Two ((wr.setCell ⟨B + 1 + k, t * 2, none⟩ (.bool (pwk tiF (f k) (x1, x2) t).1)).setCell ⟨B + 1 + k, t * 2 + 1, none⟩ (.bool (pwk tiF (f k) (x1, x2) t).2)) A (f k) := tp.away neA2 neA2 _ _
          have tl5 : Two ((wr.setCell ⟨B + 1 + k, t * 2, none⟩ (.bool (pwk tiF (f k) (x1, x2) t).1)).setCell ⟨B + 1 + k, t * 2 + 1, none⟩ (.bool (pwk tiF (f k) (x1, x2) t).2)) (A + 1) (pwk tiF (f k) (x1, x2) t) := tl.away neL2 neL2 _ _
          have hb5 : Below W.heap.size W ((wr.setCell ⟨B + 1 + k, t * 2, none⟩ (.bool (pwk tiF (f k) (x1, x2) t).1)).setCell ⟨B + 1 + k, t * 2 + 1, none⟩ (.bool (pwk tiF (f k) (x1, x2) t).2)) := (hb.setCell (by show _ ≤ B + 1 + k; omega) _).setCell (by show _ ≤ B + 1 + k; omega) _
          have d5 := bdr ((wr.setCell ⟨B + 1 + k, t * 2, none⟩ (.bool (pwk tiF (f k) (x1, x2) t).1)).setCell ⟨B + 1 + k, t * 2 + 1, none⟩ (.bool (pwk tiF (f k) (x1, x2) t).2))
          have T5 := (show Hid _ from tp5.below d5)
          have U5 := (show Hid _ from tl5.below d5)
          have P5 := (show Hid _ from hP2.below d5)
          have B5 := (show Hid _ from bt hb5 d5)
          obtain ⟨a15, a25⟩ := tp5.cells
          obtain ⟨l15, l25⟩ := tl5.cells
          clear hP hP2 tp tl tp5 tl5 hG hb hb5 d5
          go_wp2
          go_region_with (fail)
          all_goals
            go_wp2_with (refine (timesF (pwk tiF (f k) (x1, x2) t) (f k) _).mono ?_; rintro e w6 ⟨rfl, hb6⟩; have T6 : Hid (Two w6 A (f k)) := Two.below T5.out hb6; have U6 : Hid (Two w6 (A + 1) (pwk tiF (f k) (x1, x2) t)) := Two.below U5.out hb6; obtain ⟨m1, m2⟩ := Two.cells U6.out; have m3 := Two.frozen U6.out 0; have m4 := Two.frozen U6.out 1)
            have P6 := GmF.below P5.out hb6
            have B6 := bt B5.out hb6
            have lt2 := HLT.out.2
            have P7 := P6.away (L := A + 1) (by have := HLT.out.1; omega) (fun i hi => by have := lt2 i hi; omega) (.bool (tiF (pwk tiF (f k) (x1, x2) t) (f k)).1) (.bool (tiF (pwk tiF (f k) (x1, x2) t) (f k)).2)
            have U7 := Two.put U6.out (tiF (pwk tiF (f k) (x1, x2) t) (f k))
            have T7 := Two.away T6.out (p := ⟨A + 1, 0, none⟩) (q := ⟨A + 1, 1, none⟩) (by show A ≠ A + 1; omega) (by show A ≠ A + 1; omega) (.bool (tiF (pwk tiF (f k) (x1, x2) t) (f k)).1) (.bool (tiF (pwk tiF (f k) (x1, x2) t) (f k)).2)
            have hNA := HNA.out.2
            have B7 : Below W.heap.size W ((w6.setCell ⟨A + 1, 0, none⟩ (.bool (tiF (pwk tiF (f k) (x1, x2) t) (f k)).1)).setCell ⟨A + 1, 1, none⟩ (.bool (tiF (pwk tiF (f k) (x1, x2) t) (f k)).2)) := (B6.setCell (by show _ ≤ A + 1; omega) _).setCell (by show _ ≤ A + 1; omega) _
            have U8 : Two ((w6.setCell ⟨A + 1, 0, none⟩ (.bool (tiF (pwk tiF (f k) (x1, x2) t) (f k)).1)).setCell ⟨A + 1, 1, none⟩ (.bool (tiF (pwk tiF (f k) (x1, x2) t) (f k)).2)) (A + 1) (pwk tiF (f k) (x1, x2) (t + 1)) := by rw [pwk_succ]; exact U7
            go_roundw
            case rel => exact ⟨t + 1, by omega, by go_num, T7, U8, P7, B7⟩
            case measure => simp [intOf]; omega
        · obtain rfl : t = m := by omega
          have hG2 : GmF wr B n t (fun i => B + 1 + i) (fun i j => if i < k + 1 then pwk tiF (f i) (x1, x2) j else oF) := hG.congr (fun i _ j hj => by
            by_cases e : i < k
            · rw [if_pos e, if_pos (by omega)]
            · rw [if_neg e]
              by_cases e2 : i = k
              · rw [if_pos ⟨e2, hj⟩, if_pos (by omega)]
              · rw [if_neg (fun h => e2 h.1), if_neg (by omega)])
          go_wp2
          exact ⟨⟨k + 1, by omega, by go_num, hG2, hb⟩, by simp [intOf]; omega⟩
    · obtain rfl : k = n := by omega
      go_wp2
      go_ret2
      have hG2 : GmF wr B k m (fun i => B + 1 + i) (fun i j => pwk tiF (f i) (x1, x2) j) := hG.congr (fun i hi j hj => by rw [if_pos hi])
      have := hb0.size
      exact ⟨_, rfl, ⟨B, _, rfl, hG2, by omega, fun i hi => by omega⟩, bt hb0 hb⟩
end
end Go.Proofs.Ytfopegfkgmccdaa
