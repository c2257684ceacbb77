/-
  Arm.
-/
import Derived.Test.YtjjncajfljbegaaWe
namespace Go.Proofs.Ytjjncajfljbegaa
open Go.RowKit Go.Shelf Go.Maps
attribute [local go_sem] Oper.semAt_some
/-- What a round keeps: all that lay ahead of the loop but the plan. -/
structure Bt (N q : Nat) (A B : World) : Prop where
  block : ∀ k, k < N → k ≠ q → B.heap[k]? = A.heap[k]?
theorem Bt.trans {N q : Nat} {A B C : World} (h : Bt N q A B) (k : Bt N q B C) : Bt N q A C := ⟨fun i h1 h2 => (k.block i h1 h2).trans (h.block i h1 h2)⟩
theorem Bt.cell {N q : Nat} {A B : World} (h : Bt N q A B) {p : Addr} (h1 : p.block < N) (h2 : p.block ≠ q) : B.cell? p = A.cell? p := World.cell?_of_block (w := A) (h.block p.block h1 h2)
theorem WAt.set3 {w : World} {wb : Nat} {dp : Option Addr} {pl : Option Nat} {g : Gt} (h : WAt w wb dp pl g) (u : Option Nat) : WAt (w.setCell ⟨wb, 3, none⟩ (.map u)) wb dp u g := by
  unfold WAt at h ⊢
  rw [heap_setCell_same w wb 3 _ _ _ h]; rfl
theorem arm_pre {w : World} {wb : Nat} {dp : Option Addr} {pl : Option Nat} {g : Gt} (h : WAt w wb dp pl g) (b len cap : Nat) (fs : List Ft) (hI : FtAt w b fs) (hbw : b < w.heap.size) (hbb : b ≠ wb) (W0 : World)
    (hW : W0 = (((w.setCell ⟨wb, 3, none⟩ (.map (some (w.heap.size + 1)))).alloc (.cells #[.pointer (some ⟨wb, 0, none⟩)] 26)).alloc (.map #[] 0)).alloc (.cells #[.slice (some ⟨b, 0, none⟩) len cap] 30)) :
    WAt W0 wb dp (some (w.heap.size + 1)) g ∧ W0.heap.size = w.heap.size + 3 ∧ W0.cell? ⟨w.heap.size, 0, none⟩ = some (.pointer (some ⟨wb, 0, none⟩)) ∧ W0.ownsMap Try.prog 3 (plainElem (H := Unit) Try.prog 3) (w.heap.size + 1) 0 (.map []) ∧ W0.cell? ⟨w.heap.size + 1 + 1, 0, none⟩ = some (.slice (some ⟨b, 0, none⟩) len cap) ∧ FtAt W0 b fs ∧ Tn (· = wb) w W0 := by
  have h3 := h.set3 (some (w.heap.size + 1))
  have hs : (w.setCell ⟨wb, 3, none⟩ (.map (some (w.heap.size + 1)))).heap.size = w.heap.size := by simp [World.setCell]
  have hlt := blt h
  generalize hX : w.setCell ⟨wb, 3, none⟩ (.map (some (w.heap.size + 1))) = X at *
  have t1 : Tn (· = wb) w X := by rw [← hX]; exact Tn.setCell (F := (· = wb)) w ⟨wb, 3, none⟩ rfl _
  have a1 := (Below.refl _ X).alloc (Nat.le_refl _) (.cells #[.pointer (some ⟨wb, 0, none⟩)] 26)
  have a2 := a1.alloc a1.size (.map #[] 0)
  have a3 := a2.alloc a2.size (.cells #[.slice (some ⟨b, 0, none⟩) len cap] 30)
  rw [← hW] at a3
  have e1 : (X.alloc (.cells #[.pointer (some ⟨wb, 0, none⟩)] 26)).heap.size = w.heap.size + 1 := by simp [hs]
  have e2 : ((X.alloc (.cells #[.pointer (some ⟨wb, 0, none⟩)] 26)).alloc (.map #[] 0)).heap.size = w.heap.size + 1 + 1 := by simp [hs]
  refine ⟨h3.below a3, by rw [hW]; simp [hs], ?_, ?_, ?_, ?_, t1.trans (Tn.of_below a3)⟩
  · have k1 := cell_of_row (X.alloc (.cells #[.pointer (some ⟨wb, 0, none⟩)] 26)) X.heap.size 0 _ _ (0, 0) (heap_alloc_new X _)
    rw [hs] at k1
    have bb : Below (X.alloc (.cells #[.pointer (some ⟨wb, 0, none⟩)] 26)).heap.size (X.alloc (.cells #[.pointer (some ⟨wb, 0, none⟩)] 26)) W0 := by
      rw [hW]
      exact bt ((Below.refl _ _).alloc (Nat.le_refl _) _) ((Below.refl _ _).alloc (Nat.le_refl _) _)
    exact cell_below k1 bb
  · have m1 := World.ownsMap_made (X.alloc (.cells #[.pointer (some ⟨wb, 0, none⟩)] 26)) Try.prog 3 (plainElem (H := Unit) Try.prog 3)
    rw [e1] at m1
    rw [hW]
    exact m1.alloc _
  · have k1 := cell_of_row W0 ((X.alloc (.cells #[.pointer (some ⟨wb, 0, none⟩)] 26)).alloc (.map #[] 0)).heap.size 0 _ _ (0, 0) (by rw [hW]; exact heap_alloc_new _ _)
    rw [e2] at k1
    exact k1
  · intro j hj
    have hk : W0.heap[b]? = w.heap[b]? := (t1.trans (Tn.of_below a3)).block b hbw hbb
    obtain ⟨c1, c2⟩ := hI j hj
    exact ⟨(World.cell?_of_block (w := w) (a := ⟨b, j * 2, none⟩) hk).trans c1, (World.cell?_of_block (w := w) (a := ⟨b, j * 2 + 1, none⟩) hk).trans c2⟩
section
attribute [local irreducible] Calls
set_option maxRecDepth 1000000 in
set_option maxHeartbeats 4000000 in
theorem arm_in (n : Nat) (hn : 3 ≤ n) {w : World} {wb : Nat} {dp : Option Addr} {pl : Option Nat} {g : Gt} (h : WAt w wb dp pl g) (b cap : Nat) (fs : List Ft) (hreach : fs.length ≤ 1000000000000) (hI : FtAt w b fs) (hbw : b < w.heap.size) (hbb : b ≠ wb) :
    CallsIn Fence.wide n Try.prog 34 #[.pointer (some ⟨wb, 0, none⟩), .slice (some ⟨b, 0, none⟩) fs.length cap] w fun e W' => (∃ v, e = .returned v) ∧ (∃ pb, w.heap.size ≤ pb ∧ WAt W' wb dp (some pb) { g with calls := 0 } ∧ PlAt W' (some pb) (plD (dnto fs fs.length))) ∧ Tn (· = wb) w W' := by
  have h1 : 1 ≤ n := by omega
  have hmm := @run_makeMap Try.prog
  obtain ⟨len, hL⟩ : ∃ len, fs.length = len := ⟨_, rfl⟩
  have HL := (show Hid (fs.length = len) from hL)
  rw [hL] at hreach ⊢
  obtain ⟨W0, hW0⟩ : ∃ W0, W0 = (((w.setCell ⟨wb, 3, none⟩ (.map (some (w.heap.size + 1)))).alloc (.cells #[.pointer (some ⟨wb, 0, none⟩)] 26)).alloc (.map #[] 0)).alloc (.cells #[.slice (some ⟨b, 0, none⟩) len cap] 30) := ⟨_, rfl⟩
  have PRE := (show Hid _ from arm_pre h b len cap fs hI hbw hbb W0 hW0)
  have HW0 := (show Hid _ from hW0)
  have x3 := h.cell.2.2.2.1
  have z3 := h.frozen 3
  have hwl := blt h
  clear h hL hW0 hI
  refine callsIn_of_wp_marks Try.func34 rfl trivial ?_ rfl
  simp only [Try.ntmps34, List.size_toArray, List.length_cons, List.length_nil, Nat.reduceAdd, Nat.reduceSub, Array.replicate_succ, Array.replicate_zero, List.push_toArray, List.append_toArray, List.nil_append, List.cons_append]
  gi_wp2_with (refine ⟨trivial, ?_⟩; gi_at_call 64; refine (backward_in (n - 1) _ _ _ _).mono ?_; rintro e w' ⟨rfl, rfl⟩)
  rw [← HW0.out]
  obtain ⟨hWA, hsz, hB0, hm0, hB2, hF0, hT0⟩ := PRE.out
  clear PRE HW0 x3 z3
  have bN0 : w.heap.size < W0.heap.size := by omega
  refine wpIn_rangeFunc_ownH (α := Nat × Ft) rfl h1 (gf := 74) (lb := #[.pointer (some ⟨w.heap.size + 1 + 1, 0, none⟩)]) rfl trivial (enters_of Try.func74 (by kernel_rfl) rfl)
    (back_stops (n - 1) (by omega) (w.heap.size + 1 + 1) b cap fs (by rw [HL.out]; exact hreach) W0 (Bt W0.heap.size (w.heap.size + 1)) (fun _ => ⟨fun _ _ _ => rfl⟩) Bt.trans (fun A B hk => hk.cell (p := ⟨w.heap.size + 1 + 1, 0, none⟩) (show w.heap.size + 1 + 1 < W0.heap.size by omega) (show w.heap.size + 1 + 1 ≠ w.heap.size + 1 by omega)) (fun A B o hk => hk.cell (p := ⟨b, o, none⟩) (show b < W0.heap.size by omega) (show b ≠ w.heap.size + 1 by omega)) (by omega) (by omega) (by rw [HL.out]; exact hB2) hF0)
    Bt.trans ?hKb (Below.refl _ _) (fun _ => rfl)
    (fun pre W => W.ownsMap Try.prog 3 (plainElem (H := Unit) Try.prog 3) (w.heap.size + 1) pre.length (plD pre) ∧ Tn (fun k => k = w.heap.size + 1 ∨ W0.heap.size ≤ k) W0 W)
    (fun _ _ _ => False)
    ?hI (fun _ _ _ _ _ hs _ _ => hs) ⟨hm0, Tn.refl _ _⟩
    (fun x a' W => ∃ Bx, W0.heap.size ≤ Bx ∧ W.heap[Bx]? = some (.cells #[.int .i64 x.2.1.1, .int .i64 x.2.1.2] 79 (0, 0)) ∧ a' = { tmps := #[.pointer (some ⟨wb, 0, none⟩), .slice (some ⟨b, 0, none⟩) len cap, .pointer (some ⟨w.heap.size, 0, none⟩), undef, undef, .pointer (some ⟨Bx, 0, none⟩), .pointer (some ⟨wb, 0, none⟩), .bool false, .pointer (some ⟨wb, 0, none⟩), .map (some (w.heap.size + 1)), .pointer (some ⟨wb, 0, none⟩), .pointer (some ⟨wb, 3, none⟩), .slice (some ⟨b, 0, none⟩) len cap, .func (.func 74) #[] #[.pointer (some ⟨w.heap.size + 1 + 1, 0, none⟩)], .int .i64 (x.1 : Int), .agg #[.int .i64 x.2.1.1, .int .i64 x.2.1.2], undef, undef, undef, undef, undef, undef, undef, undef, undef, undef, undef], defers := [] })
    ?hAx ?assign ?body ?done ?stop
  case hKb =>
    intro W l o o' hl ho _ _
    exact ⟨fun k hk hne => (grownBy_putObj' W l o').block k (by have := blt ho; omega) (fun e => by injection e with e; omega)⟩
  case hI =>
    rintro pre W W' row ⟨i1, i2⟩ hg hr
    refine ⟨i1.kept hg (fun e => by have := (hr _ e.symm).1; omega), i2.trans (Tn.grown hg (fun r e => .inr (hr r e).1))⟩
  case hAx =>
    rintro x a' _ X Y row ⟨Bx, k1, k2, k3⟩ hg hr
    refine ⟨Bx, k1, (hg.block Bx (blt k2) (fun e => ?_)).trans k2, k3⟩
    obtain ⟨_, o, ho, hc⟩ := hr Bx e.symm
    rw [k2] at ho
    injection ho with ho
    subst ho
    cases hc
  case assign =>
    rintro l pre x W K ⟨i1, i2⟩ hK
    gi_wp2
    exact hK _ _ ((KeepsOthers.alloc _ _).from _) ⟨fun k hk _ => Below.heap_alloc _ _ _ (Nat.lt_of_lt_of_le hk i2.size)⟩ ⟨i1.alloc _, i2.trans (Tn.of_below ((Below.refl _ W).alloc (Nat.le_refl _) _))⟩ ⟨W.heap.size, i2.size, heap_alloc_new W _, rfl⟩
  case body =>
    rintro l pre x a' W hl ⟨r, hr⟩ ⟨i1, i2⟩ ⟨Bx, k1, k2, rfl⟩ hlt
    have keep : ∀ k, k < W0.heap.size → k ≠ w.heap.size + 1 → W.heap[k]? = W0.heap[k]? := fun k h1 h2 => i2.block k h1 (by rintro (h3 | h3) <;> omega)
    have cB0 : W.cell? ⟨w.heap.size, 0, none⟩ = some (.pointer (some ⟨wb, 0, none⟩)) := (World.cell?_of_block (w := W0) (a := ⟨w.heap.size, 0, none⟩) (keep w.heap.size (by omega) (by omega))).trans hB0
    have cP : W.cell? ⟨wb, 3, none⟩ = some (.map (some (w.heap.size + 1))) := (World.cell?_of_block (w := W0) (a := ⟨wb, 3, none⟩) (keep wb (by omega) (by omega))).trans hWA.cell.2.2.2.1
    have cx0 : W.cell? ⟨Bx, 0, none⟩ = some (.int .i64 x.2.1.1) := (cell_of_row W Bx 0 _ _ (0, 0) k2).trans rfl
    have cx1 : W.cell? ⟨Bx, 1, none⟩ = some (.int .i64 x.2.1.2) := (cell_of_row W Bx 1 _ _ (0, 0) k2).trans rfl
    have hpl : pre.length < maxLen := by rw [HL.out] at hlt; unfold maxLen; omega
    obtain ⟨w1, hrun, hown1, hg1⟩ := i1.drew.update lawI Try.underlying56 hpl (keyOf_int_mk Try.underlying3 x.2.2.1) (plainElem_int Try.underlying3 x.2.2.2)
    have HX := (show Hid (_ ∧ _ ∧ _ ∧ _) from ⟨i1, i2, hown1, hg1⟩)
    have hsW := i2.size
    clear i1 i2 keep hown1 hg1 k2 hB0 hm0 hB2 hF0 hT0 hlt hpl
    obtain ⟨X, hX⟩ : ∃ X, X = W.drew := ⟨_, rfl⟩
    have dB0 : X.cell? ⟨w.heap.size, 0, none⟩ = some (.pointer (some ⟨wb, 0, none⟩)) := by rw [hX]; exact cB0
    have dP : X.cell? ⟨wb, 3, none⟩ = some (.map (some (w.heap.size + 1))) := by rw [hX]; exact cP
    have dx0 : X.cell? ⟨Bx, 0, none⟩ = some (.int .i64 x.2.1.1) := by rw [hX]; exact cx0
    have dx1 : X.cell? ⟨Bx, 1, none⟩ = some (.int .i64 x.2.1.2) := by rw [hX]; exact cx1
    rw [← hX] at hrun
    clear cB0 cP cx0 cx1
    gi_wp2
    refine wpIn_still_tail 8 (by kernel_rfl) (by kernel_rfl) (fun i o ho => by
      rcases i with _ | _ | _ | _ | _ | _ | _ | _ | _ | i
      all_goals first
        | (injection ho with ho; subst ho; exact trivial)
        | (simp at ho)) (fun h => by obtain ⟨a, w, h⟩ := h; exact h) ?_
    have eX : ({ heap := W.heap, tape := W.tape, drawn := W.drawn + 1, os := W.os, output := W.output } : World) = X := hX.symm
    rw [eX]
    have HX2 := (show Hid (X = W.drew) from hX)
    clear eX hX
    simp only [List.take_succ_cons, List.take_zero, List.drop_succ_cons, List.drop_zero]
    repeat still_step
    refine wpStill_nil ?_
    go_wp2
    obtain ⟨i1, i2, hown1, hg1⟩ := HX.out
    have hg2 : W.grownBy w1 (some (w.heap.size + 1)) := ⟨hg1.os, hg1.tape, hg1.output, hg1.size, hg1.block⟩
    refine ⟨KeepsFrom.of_grownBy hg2 (fun j e => by cases e; omega), ⟨fun k hk hne => hg2.block k (Nat.lt_of_lt_of_le hk hsW) (fun e => by injection e with e; exact hne e)⟩, ?_, i2.trans (Tn.grown hg2 (fun r e => by cases e; exact .inl rfl))⟩
    rw [plD_snoc, List.length_append]
    exact hown1
  case done =>
    rintro D ys W hD rfl ⟨i1, i2⟩ hK
    have keep : ∀ k, k < W0.heap.size → k ≠ w.heap.size + 1 → W.heap[k]? = W0.heap[k]? := fun k h1 h2 => i2.block k h1 (by rintro (h3 | h3) <;> omega)
    have cB0 : W.cell? ⟨w.heap.size, 0, none⟩ = some (.pointer (some ⟨wb, 0, none⟩)) := (World.cell?_of_block (w := W0) (a := ⟨w.heap.size, 0, none⟩) (keep w.heap.size (by omega) (by omega))).trans hB0
    have hWW : WAt W wb dp (some (w.heap.size + 1)) g := (keep wb (by omega) (by omega)).trans hWA
    have c4 := hWW.cell.2.2.2.2.1
    have f4 := hWW.frozen 4
    have HX := (show Hid (_ ∧ _ ∧ _ ∧ _) from ⟨i1, i2, hWW, hK⟩)
    clear i1 i2 keep hB0 hm0 hB2 hF0 hWW hK
    gi_wp2
    obtain ⟨i1, i2, hWW, hK⟩ := HX.out
    have hK2 : (W.setCell ⟨wb, 4, none⟩ (.int .i64 0)).heap[D]? = some (.deferred (some [])) := (KeepsOthers.setCell _ _ _).same D _ hK rfl
    refine ⟨by simp, .inl ⟨_, _, rfl, run_takeDeferred hK2, ?_⟩⟩
    have hgD := grownBy_putObj' (W.setCell ⟨wb, 4, none⟩ (.int .i64 0)) D (.deferred none)
    have hS := hWW.set4 0
    have hDw : wb ≠ D := by omega
    have hlt4 := blt hS
    refine ⟨_, results_none rfl _ _ _, ⟨_, rfl⟩, ⟨w.heap.size + 1, by omega, (hgD.block wb hlt4 (fun e => by injection e with e; exact hDw e)).trans hS, ?_⟩, ?_⟩
    · refine .inr ⟨_, (dnto fs len).length, rfl, ?_⟩
      have m4 : (W.setCell ⟨wb, 4, none⟩ (.int .i64 0)).ownsMap Try.prog 3 (plainElem (H := Unit) Try.prog 3) (w.heap.size + 1) _ _ := i1.setCell (a := ⟨wb, 4, none⟩) (show w.heap.size + 1 ≠ wb by omega) _
      have m5 := m4.kept hgD (fun e => by injection e with e; omega)
      rw [HL.out] at m5
      exact m5
    · have t1 : Tn (fun k => k = wb ∨ w.heap.size ≤ k) W0 W := i2.more (fun k hk => by rcases hk with hk | hk <;> (right; omega))
      have t2 : Tn (fun k => k = wb ∨ w.heap.size ≤ k) W (W.setCell ⟨wb, 4, none⟩ (.int .i64 0)) := Tn.setCell (F := fun k => k = wb ∨ w.heap.size ≤ k) W ⟨wb, 4, none⟩ (.inl rfl) _
      have t3 : Tn (fun k => k = wb ∨ w.heap.size ≤ k) (W.setCell ⟨wb, 4, none⟩ (.int .i64 0)) _ := Tn.grown hgD (fun r e => by cases e; right; omega)
      have T := (t1.trans t2).trans t3
      have ng : ∀ k, k < w.heap.size → ¬ k = wb → ¬ (k = wb ∨ w.heap.size ≤ k) := fun k hk hne h9 => h9.elim hne (fun h8 => absurd h8 (Nat.not_le.2 hk))
      exact ⟨T.os.trans hT0.os, T.tape.trans hT0.tape, T.output.trans hT0.output, Nat.le_trans hT0.size T.size, fun k hk hne => (T.block k (Nat.lt_of_lt_of_le hk hT0.size) (ng k hk hne)).trans (hT0.block k hk hne)⟩
  case stop =>
    rintro D c pre W _ _ hx _
    exact hx.elim
theorem arm_any {w : World} {wb : Nat} {dp : Option Addr} {pl : Option Nat} {g : Gt} (h : WAt w wb dp pl g) (b cap : Nat) (fs : List Ft) (hreach : fs.length ≤ 1000000000000) (hI : FtAt w b fs) (hbw : b < w.heap.size) (hbb : b ≠ wb) :
    Calls Try.prog 34 #[.pointer (some ⟨wb, 0, none⟩), .slice (some ⟨b, 0, none⟩) fs.length cap] w fun e W' => (∃ v, e = .returned v) ∧ (∃ pb, w.heap.size ≤ pb ∧ WAt W' wb dp (some pb) { g with calls := 0 } ∧ PlAt W' (some pb) (plD (dnto fs fs.length))) ∧ Tn (· = wb) w W' :=
  callsIn_wide.1 (arm_in 3 (Nat.le_refl _) h b cap fs hreach hI hbw hbb)
end
end Go.Proofs.Ytjjncajfljbegaa
