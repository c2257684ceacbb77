/-
  Votes: the order of the groups: cmp.Or, the function that compares two of them.
-/
import Derived.Test.YtefomnlgpldgnaaVa17
import Derived.Test.YtefomnlgpldgnaaSo17
import Derived.Test.YtefomnlgpldgnaaRows
import Derived.StillTailTactics
namespace Go.Proofs.Ytefomnlgpldgnaa
open Go.RowKit Go.Lib Go.Sort Go.Shelf
/-- A group's cells. -/
def grE (x : Wg × (Nat × Nat × Nat)) : List Value := [.int .i64 x.1.1, .int .i64 x.1.2.1, .int .i64 x.1.2.2, .slice (some ⟨x.2.1, 0, none⟩) x.2.2.1 x.2.2.2]
def cmpG (a b : Wg) : Int := if compareInt b.1 a.1 ≠ 0 then compareInt b.1 a.1 else if compareInt b.2.1 a.2.1 ≠ 0 then compareInt b.2.1 a.2.1 else compareInt b.2.2 a.2.2
theorem ltG (x y : Wg × (Nat × Nat × Nat)) : ltOf (fun x y : Wg × (Nat × Nat × Nat) => cmpG x.1 y.1) x y = older y.1 x.1 := by
  rw [Bool.eq_iff_iff, older_iff]
  unfold ltOf cmpG compareInt
  simp only [decide_eq_true_eq]
  repeat' split
  all_goals omega
theorem swoG : SWO (ltOf fun x y : Wg × (Nat × Nat × Nat) => cmpG x.1 y.1) where
  irrefl x := by rw [ltG]; exact older_irrefl _
  trans x y z h1 h2 := by rw [ltG] at *; exact older_trans h2 h1
  ntrans x y z h1 h2 := by rw [ltG] at *; exact older_ntrans h2 h1
def or3 (a b c : Int) : Int := if a ≠ 0 then a else if b ≠ 0 then b else c
section
attribute [local irreducible] Calls
set_option maxRecDepth 1000000 in
theorem cmpOr_any (g : Nat) (a b c : Int) (w : World) (h0 : w.cell? ⟨g, 0, none⟩ = some (.int .i64 a)) (h1 : w.cell? ⟨g, 1, none⟩ = some (.int .i64 b)) (h2 : w.cell? ⟨g, 2, none⟩ = some (.int .i64 c)) :
    Calls Try.prog 24 #[.slice (some ⟨g, 0, none⟩) 3 3] w fun e w' => e = .returned (.int .i64 (or3 a b c)) ∧ w' = w := by
  by_cases ha : a = 0
  · subst ha
    by_cases hb : b = 0
    · subst hb
      by_cases hc : c = 0
      · subst hc
        go_enter Try.func24, Try.ntmps24
        go_wp2
        refine wp_loop_rounds 4 ?_
        rw [rounds_succ]
        go_wp2
        rw [rounds_succ]
        go_wp2
        rw [rounds_succ]
        go_wp2
        rw [rounds_succ]
        go_wp2
        go_ret
        exact ⟨rfl, rfl⟩
      · have d : (c != 0) = true := by simp [hc]
        go_enter Try.func24, Try.ntmps24
        go_wp2
        refine wp_loop_rounds 3 ?_
        rw [rounds_succ]
        go_wp2
        rw [rounds_succ]
        go_wp2
        rw [rounds_succ]
        go_wp2
        go_ret
        exact ⟨by simp [or3], rfl⟩
    · have d : (b != 0) = true := by simp [hb]
      go_enter Try.func24, Try.ntmps24
      go_wp2
      refine wp_loop_rounds 2 ?_
      rw [rounds_succ]
      go_wp2
      rw [rounds_succ]
      go_wp2
      go_ret
      exact ⟨by simp [or3, hb], rfl⟩
  · have d : (a != 0) = true := by simp [ha]
    go_enter Try.func24, Try.ntmps24
    go_wp2
    refine wp_loop_rounds 1 ?_
    rw [rounds_succ]
    go_wp2
    go_ret
    exact ⟨by simp [or3, ha], rfl⟩
set_option maxHeartbeats 4000000 in
set_option maxRecDepth 1000000 in
theorem closG (x y : Wg × (Nat × Nat × Nat)) (W : World) :
    Calls Try.prog 23 #[.agg (grE x).toArray, .agg (grE y).toArray] W fun e w' => e = .returned (.int .i64 (cmpG x.1 y.1)) ∧ ∃ q os', w' = grow (W.drewN q) os' := by
  have C : Hid (∀ a b (W : World), Calls Try.prog 25 #[.int .i64 a, .int .i64 b] W fun e w' => e = .returned (.int .i64 (compareInt a b)) ∧ w' = W) := fun a b W => AnyG.cmp_Compare_int Try.cmpInt a b W
  unfold grE
  go_enter Try.func23, Try.ntmps23
  go_wp2_with (fail)
  obtain ⟨x1, x2⟩ := x
  obtain ⟨y1, y2⟩ := y
  have GX : Hid (∃ X, X = ({ ((W.alloc (.cells #[.int .i64 x1.1, .int .i64 x1.2.1, .int .i64 x1.2.2, .slice (some ⟨x2.1, 0, none⟩) x2.2.1 x2.2.2] 49)).alloc (.cells #[.int .i64 y1.1, .int .i64 y1.2.1, .int .i64 y1.2.2, .slice (some ⟨y2.1, 0, none⟩) y2.2.1 y2.2.2] 49)) with drawn := ((W.alloc (.cells #[.int .i64 x1.1, .int .i64 x1.2.1, .int .i64 x1.2.2, .slice (some ⟨x2.1, 0, none⟩) x2.2.1 x2.2.2] 49)).alloc (.cells #[.int .i64 y1.1, .int .i64 y1.2.1, .int .i64 y1.2.2, .slice (some ⟨y2.1, 0, none⟩) y2.2.1 y2.2.2] 49)).drawn + 1 } : World)) := ⟨_, rfl⟩
  obtain ⟨X, hX⟩ := GX
  have hH : ∀ j : Nat, X.cell? ⟨W.heap.size, j, none⟩ = (#[.int .i64 x1.1, .int .i64 x1.2.1, .int .i64 x1.2.2, .slice (some ⟨x2.1, 0, none⟩) x2.2.1 x2.2.2] : Array Value)[j]? := fun j => by
    rw [hX]
    exact cell_of_row _ _ _ _ _ (0, 0) ((heap_alloc_old (W.alloc _) _ (by simp)).trans (heap_alloc_new W _))
  have hK : ∀ j : Nat, X.cell? ⟨W.heap.size + 1, j, none⟩ = (#[.int .i64 y1.1, .int .i64 y1.2.1, .int .i64 y1.2.2, .slice (some ⟨y2.1, 0, none⟩) y2.2.1 y2.2.2] : Array Value)[j]? := fun j => by
    rw [hX]
    exact cell_of_row _ _ _ _ _ (0, 0) (by have := heap_alloc_new (W.alloc (.cells #[.int .i64 x1.1, .int .i64 x1.2.1, .int .i64 x1.2.2, .slice (some ⟨x2.1, 0, none⟩) x2.2.1 x2.2.2] 49)) (.cells #[.int .i64 y1.1, .int .i64 y1.2.1, .int .i64 y1.2.2, .slice (some ⟨y2.1, 0, none⟩) y2.2.1 y2.2.2] 49); simpa using this)
  have p0 := hH 0
  have p1 := hH 1
  have p2 := hH 2
  have q0 := hK 0
  have q1 := hK 1
  have q2 := hK 2
  simp only [List.getElem?_toArray, List.getElem?_cons_zero, List.getElem?_cons_succ] at p0 p1 p2 q0 q1 q2
  have z1 := (show Hid _ from C.out y1.1 x1.1 X)
  have z2 := (show Hid _ from C.out y1.2.1 x1.2.1 X)
  have z3 := (show Hid _ from C.out y1.2.2 x1.2.2 X)
  have HXs := (show Hid (X.heap.size = W.heap.size + 2) from by show _ = _; rw [hX]; simp)
  have HXg := (show Hid (∃ q os', X = grow (W.drewN q) os') from ⟨1, _, by rw [hX, alloc_eq_grow, alloc_eq_grow, grow_grow]; rfl⟩)
  clear hH hK
  refine wp_region_still_tail 19 (by kernel_rfl) (by kernel_rfl) ?_
  simp only [List.take_succ_cons, List.take_zero, List.drop_succ_cons, List.drop_zero]
  rw [← hX]
  clear hX
  repeat still_step
  still_call z1.out
  repeat still_step
  still_call z2.out
  repeat still_step
  still_call z3.out
  repeat still_step
  refine wpStill_nil ?_
  have CO := (show Hid _ from cmpOr_any X.heap.size (compareInt y1.1 x1.1) (compareInt y1.2.1 x1.2.1) (compareInt y1.2.2 x1.2.2) (X.alloc (.cells #[.int .i64 (compareInt y1.1 x1.1), .int .i64 (compareInt y1.2.1 x1.2.1), .int .i64 (compareInt y1.2.2 x1.2.2)] 3)) (cell_of_row _ _ 0 _ _ (0, 0) (heap_alloc_new X _)) (cell_of_row _ _ 1 _ _ (0, 0) (heap_alloc_new X _)) (cell_of_row _ _ 2 _ _ (0, 0) (heap_alloc_new X _)))
  have EQ := (show Hid (or3 (compareInt y1.1 x1.1) (compareInt y1.2.1 x1.2.1) (compareInt y1.2.2 x1.2.2) = cmpG x1 y1) from rfl)
  go_wp2_with (first | (go_at_call 24; refine CO.out.mono ?_; rintro e w2 ⟨rfl, rfl⟩))
  go_ret
  obtain ⟨q, os, e⟩ := HXg.out
  have FF : X.alloc (.cells #[.int .i64 (compareInt y1.1 x1.1), .int .i64 (compareInt y1.2.1 x1.2.1), .int .i64 (compareInt y1.2.2 x1.2.2)] 3) = grow (W.drewN q) (os ++ #[.cells #[.int .i64 (compareInt y1.1 x1.1), .int .i64 (compareInt y1.2.1 x1.2.1), .int .i64 (compareInt y1.2.2 x1.2.2)] 3]) := by rw [e, alloc_eq_grow, grow_grow]
  exact ⟨congrArg (fun z => Ending.returned (Value.int .i64 z)) EQ.out, q, _, FF⟩
theorem cmpLaysG (blk off size : Nat) (w : World) : CmpLays Try.prog 23 #[] grE 4 (fun x y => cmpG x.1 y.1) blk off size w := fun _ _ _ _ x y => closG x y _
end
theorem aggG (w : World) : (isAgg 49).run Try.prog w = .ok true w := by kernel_rfl
theorem sizG (w : World) : (Go.sizeOf 49).run Try.prog w = .ok 4 w := by kernel_rfl
theorem entG : ∀ args w, (callFunc 23 args).run Try.prog w = .ok (.enter 23 args) w := enters_of Try.func23 (by kernel_rfl) rfl
theorem sortG_any (blk cap : Nat) (d : Array (Wg × (Nat × Nat × Nat))) (w : World) (hH : HoldsK grE 4 w blk 0 d) (hblk : blk < w.heap.size) (hsz : d.size < 4611686018427387904) :
    Calls Try.prog 22 #[.slice (some ⟨blk, 0, none⟩) d.size cap, .func (.func 23) #[] #[]] w fun e w' => e = .returned (.tuple #[]) ∧ ∃ d' n os, PermIn 0 d.size d d' ∧ SortedIn (ltOf fun x y : Wg × (Nat × Nat × Nat) => cmpG x.1 y.1) 0 d.size d' ∧ w' = sortWorldK grE 4 w blk 0 n d' os :=
  AnyQ.slices_SortFunc Try.sortG 4 aggG sizG grE (fun _ => rfl) (fun x v hv => by simp [grE] at hv; rcases hv with rfl | rfl | rfl | rfl <;> rfl) (fun x y => cmpG x.1 y.1) swoG 23 #[] blk 0 cap d w entG (cmpLaysG blk 0 d.size w) hH hblk hsz
end Go.Proofs.Ytefomnlgpldgnaa
