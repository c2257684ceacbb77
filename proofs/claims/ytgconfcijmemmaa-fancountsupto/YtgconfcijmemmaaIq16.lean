/-
  Most of ints.
-/
import Derived.Test.YtgconfcijmemmaaIe16
import Derived.Test.YtgconfcijmemmaaFq16
import Derived.Laws.IdiomCopy
namespace Go.Proofs.Ytgconfcijmemmaa
open Go.RowKit Go.Shelf
attribute [local go_sem] Oper.semAt_some
section
attribute [local irreducible] Calls
set_option maxRecDepth 1000000 in
set_option maxHeartbeats 4000000 in
theorem imost_in (n : Nat) (hn : 3 ≤ n) {w : World} (a : Option Addr) (cap : Nat) (xs : List Int) (hreach : xs.length ≤ 140737488355328) (hI : IrAt w a xs) :
    CallsIn Fence.wide n Try.prog 12 #[.slice a xs.length cap] w fun e W' => e = .returned (.tuple #[ivl (mst ieq 0 xs).1, .int .i64 ((mst ieq 0 xs).2 : Int)]) ∧ Below w.heap.size w W' := by
  have h1 : 1 ≤ n := by omega
  have hmm := @run_makeMap Try.prog
  obtain ⟨len, hL⟩ : ∃ len, xs.length = len := ⟨_, rfl⟩
  have HL := (show Hid (xs.length = len) from hL)
  rw [hL] at hreach ⊢
  obtain ⟨s, hs⟩ : ∃ s, w.heap.size = s := ⟨_, rfl⟩
  obtain ⟨W0, hW0⟩ : ∃ W0, W0 = ((((w.alloc (.cells #[Value.int .i64 0] 3)).alloc (.cells #[Value.int .i64 0] 3)).alloc (.map #[] 0)).alloc (.cells #[Value.map (some (s + 1 + 1))] 50)).alloc (.cells #[Value.slice a len cap] 22) := ⟨_, rfl⟩
  have PRE : Hid (W0.heap.size = s + 5 ∧ Below s w W0 ∧ W0.heap[s]? = some (.cells #[ivl 0] 3 (0, 0)) ∧ W0.heap[s + 1]? = some (.cells #[.int .i64 0] 3 (0, 0)) ∧ W0.heap[s + 2]? = some (.map #[] 0) ∧ W0.heap[s + 3]? = some (.cells #[.map (some (s + 2))] 50 (0, 0)) ∧ W0.heap[s + 4]? = some (.cells #[.slice a len cap] 22 (0, 0))) := by
    subst hW0
    subst hs
    have al : ∀ (W : World) (o : Obj) k v, W.heap[k]? = some v → (W.alloc o).heap[k]? = some v := fun W o k v h => (Below.heap_alloc _ _ _ (Array.getElem?_eq_some_iff.1 h).1).trans h
    refine ⟨by simp, ?_, ?_, ?_, ?_, ?_, ?_⟩
    · exact (((((Below.refl _ w).alloc (Nat.le_refl _) _).alloc (by simp) _).alloc (by simp; omega) _).alloc (by simp; omega) _).alloc (by simp; omega) _
    · exact al _ _ _ _ (al _ _ _ _ (al _ _ _ _ (al _ _ _ _ (heap_alloc_new w _))))
    · have h := heap_alloc_new (w.alloc (.cells #[Value.int .i64 0] 3)) (.cells #[Value.int .i64 0] 3)
      rw [World.size_alloc] at h
      exact al _ _ _ _ (al _ _ _ _ (al _ _ _ _ h))
    · have h := heap_alloc_new ((w.alloc (.cells #[Value.int .i64 0] 3)).alloc (.cells #[Value.int .i64 0] 3)) (.map #[] 0)
      rw [World.size_alloc, World.size_alloc] at h
      exact al _ _ _ _ (al _ _ _ _ h)
    · have h := heap_alloc_new (((w.alloc (.cells #[Value.int .i64 0] 3)).alloc (.cells #[Value.int .i64 0] 3)).alloc (.map #[] 0)) (.cells #[Value.map (some (w.heap.size + 1 + 1))] 50)
      rw [World.size_alloc, World.size_alloc, World.size_alloc] at h
      exact al _ _ _ _ h
    · have h := heap_alloc_new ((((w.alloc (.cells #[Value.int .i64 0] 3)).alloc (.cells #[Value.int .i64 0] 3)).alloc (.map #[] 0)).alloc (.cells #[Value.map (some (w.heap.size + 1 + 1))] 50)) (.cells #[Value.slice a len cap] 22)
      rw [World.size_alloc, World.size_alloc, World.size_alloc, World.size_alloc] at h
      exact h
  have HW0 := (show Hid _ from hW0)
  clear hL hW0
  refine callsIn_of_wp_marks Try.func12 rfl trivial ?_ rfl
  simp only [Try.ntmps12, List.size_toArray, List.length_cons, List.length_nil, Nat.reduceAdd, Nat.reduceSub, Array.replicate_succ, Array.replicate_zero, List.push_toArray, List.append_toArray, List.nil_append, List.cons_append]
  gi_wp2_with (refine ⟨trivial, ?_⟩; gi_at_call 20; refine (ibackward_in (n - 1) _ _ _ _).mono ?_; rintro e w' ⟨rfl, rfl⟩)
  rw [← HW0.out]
  simp only [Nat.add_assoc, Nat.reduceAdd]
  obtain ⟨hsz, hbw, b0, b1, b2, b3, b4⟩ := PRE.out
  clear PRE HW0
  have hFr : IrAt W0 a xs := hI.below (by rw [hs]; exact hbw)
  have hal : ∀ p, a = some p → 0 < xs.length → p.block < s := by
    intro p hp h0
    rcases hI with rfl | ⟨b, o, hp2, hc⟩
    · simp at h0
    · rw [hp2] at hp
      injection hp with hp
      subst hp
      have := block_lt_of_cell (hc 0 h0)
      rw [hs] at this
      exact this
  refine wpIn_rangeFunc_ownH (α := Nat × Int) rfl h1 (gf := 28) (lb := #[.pointer (some ⟨s + 4, 0, none⟩)]) rfl trivial (enters_of Try.func28 (by kernel_rfl) rfl)
    (iback_stops (n - 1) (by omega) (s + 4) cap s a xs (by rw [HL.out]; exact hreach) W0 (Bt3 W0.heap.size s) (fun _ => ⟨fun _ _ _ => rfl⟩) Bt3.trans (fun A B hk => hk.cell (p := ⟨s + 4, 0, none⟩) (show s + 4 < W0.heap.size by omega) (show ¬ (s ≤ s + 4 ∧ s + 4 < s + 3) by omega)) (fun A B b o hb hk => hk.cell (p := ⟨b, o, none⟩) (show b < W0.heap.size by omega) (show ¬ (s ≤ b ∧ b < s + 3) by omega)) (by omega) hal (by rw [HL.out]; exact cell_of_row W0 (s + 4) 0 _ _ (0, 0) b4) hFr)
    Bt3.trans ?hKb (Below.refl _ _) (fun _ => rfl)
    (fun pre W => W.heap[s]? = some (.cells #[ivl (mst ieq 0 (pre.reverse.map (·.2))).1] 3 (0, 0)) ∧ W.heap[s + 1]? = some (.cells #[.int .i64 ((mst ieq 0 (pre.reverse.map (·.2))).2 : Int)] 3 (0, 0)) ∧ CmAt ivl ieq W (s + 2) (pre.reverse.map (·.2)) ∧ TnF (fun k => (s ≤ k ∧ k < s + 3) ∨ W0.heap.size ≤ k) W0 W)
    (fun _ _ _ => False)
    ?hI (fun _ _ _ _ _ hs _ _ => hs) ⟨b0, b1, CmAt.new b2, TnF.refl _ _⟩
    (fun x a' _ => a' = { tmps := #[.slice a len cap, undef, Value.int .i64 0, .int .i64 0, .pointer (some ⟨s, 0, none⟩), .pointer (some ⟨s + 1, 0, none⟩), .pointer (some ⟨s + 3, 0, none⟩), undef, ivl x.2, undef, .map (some (s + 2)), .slice a len cap, .func (.func 28) #[] #[.pointer (some ⟨s + 4, 0, none⟩)], .int .i64 (x.1 : Int), ivl x.2, undef, undef, undef, undef, undef, undef, undef, undef, undef, undef], defers := [] })
    ?hAx ?assign ?body ?done ?stop
  case hKb =>
    intro W l o o' hl ho _ _
    exact ⟨fun k hk hne => (grownBy_putObj' W l o').block k (by have := (Array.getElem?_eq_some_iff.1 ho).1; omega) (fun e => by injection e with e; omega)⟩
  case hI =>
    rintro pre W W' row ⟨i1, i2, i3, i4⟩ hg hr
    have ne : ∀ k, k < W0.heap.size → k < W.heap.size → W'.heap[k]? = W.heap[k]? := fun k hk hk2 => hg.block k hk2 (fun e => by have := (hr _ e.symm).1; omega)
    have hz := i4.size
    exact ⟨(ne s (by omega) (by omega)).trans i1, (ne (s + 1) (by omega) (by omega)).trans i2, i3.at (ne (s + 2) (by omega) (by omega)), i4.trans (TnF.grown hg (fun r e => .inr (hr r e).1))⟩
  case hAx =>
    rintro x a' _ X Y row h hg hr
    exact h
  case assign =>
    rintro l pre x W K hI2 hK
    gi_wp2
    exact hK _ _ (KeepsFrom.refl _ _) ⟨fun _ _ _ => rfl⟩ hI2 rfl
  case body =>
    rintro l pre x a' W hl ⟨r, hr⟩ ⟨i1, i2, i3, i4⟩ rfl hlt
    obtain ⟨L, hLL⟩ : ∃ L, pre.reverse.map (·.2) = L := ⟨_, rfl⟩
    have hsn : (pre ++ [x]).reverse.map (·.2) = x.2 :: L := by simp [← hLL]
    have hlen : L.length ≤ 140737488355328 := by rw [← hLL]; simp; rw [HL.out] at hlt; omega
    rw [hLL] at i1 i2 i3
    have hz := i4.size
    have c3 : W.cell? ⟨s + 3, 0, none⟩ = some (.map (some (s + 2))) := (World.cell?_of_block (w := W0) (a := ⟨s + 3, 0, none⟩) (i4.block (s + 3) (by omega) (by omega))).trans (cell_of_row W0 (s + 3) 0 _ _ (0, 0) b3)
    have C := (show Hid _ from ione_any x.2 i3 hlen)
    obtain ⟨E, hE⟩ : ∃ E, (mst ieq 0 L).1 = E := ⟨_, rfl⟩
    obtain ⟨M, hM⟩ : ∃ M, (mst ieq 0 L).2 = M := ⟨_, rfl⟩
    obtain ⟨c, hc⟩ : ∃ c, (x.2 :: L).countP (ieq x.2) = c := ⟨_, rfl⟩
    have hst : mst ieq 0 (x.2 :: L) = if M ≤ c then (x.2, c) else mst ieq 0 L := by rw [mst, hM, hc]
    rw [hE] at i1
    rw [hM] at i2
    rw [hc] at C
    have HX := (show Hid (W.heap[s]? = some (.cells #[ivl E] 3 (0, 0)) ∧ W.heap[s + 1]? = some (.cells #[.int .i64 (M : Int)] 3 (0, 0)) ∧ TnF (fun k => (s ≤ k ∧ k < s + 3) ∨ W0.heap.size ≤ k) W0 W) from ⟨i1, i2, i4⟩)
    have after : Hid (∀ w1, W.grownBy w1 (some (s + 2)) → w1.heap[s]? = some (.cells #[ivl E] 3 (0, 0)) ∧ w1.heap[s + 1]? = some (.cells #[.int .i64 (M : Int)] 3 (0, 0))) := by
      intro w1 hg
      exact ⟨(hg.block s (by omega) (by intro e; injection e; omega)).trans i1, (hg.block (s + 1) (by omega) (by intro e; injection e; omega)).trans i2⟩
    have hN := (show Hid _ from hsn)
    have hS := (show Hid (_ ∧ _ ∧ _) from ⟨hst, hE, hM⟩)
    clear i1 i2 i3 i4 b0 b1 b2 b3 b4 hFr hal hI hbw hLL hsn hst hE hM hc hlt hlen hreach HL
    gi_wp2
    refine ⟨trivial, fun h => (by cases h), CallsIn.mono (CallsIn.inRound l (callsIn_wide.2 C.out)) ?_⟩
    rintro e w1 ⟨rfl, hCm, hg⟩
    obtain ⟨j1, j2⟩ := after.out w1 hg
    have k0 := cell_of_row w1 s 0 _ _ (0, 0) j1
    have k1 := cell_of_row w1 (s + 1) 0 _ _ (0, 0) j2
    have f0 := frozen_of_row w1 s 0 _ _ j1
    have f1 := frozen_of_row w1 (s + 1) 0 _ _ j2
    have hstr : (storeCells ⟨s, 0, none⟩ [ivl x.2]).run Try.prog w1 = .ok () (w1.setCell ⟨s, 0, none⟩ (ivl x.2)) := str_one (by rw [k0]; rfl) f0 rfl
    have HJ := (show Hid (_ ∧ _ ∧ _ ∧ _) from ⟨j1, j2, hCm, hg⟩)
    clear j1 j2 hCm hg
    by_cases hge : M ≤ c
    · have hge' : (M : Int) ≤ (c : Int) := by omega
      gi_wp2
      rw [hstr]
      gi_wp2
      obtain ⟨j1, j2, hCm, hg⟩ := HJ.out
      obtain ⟨i1, i2, i4⟩ := HX.out
      obtain ⟨hst, hE, hM⟩ := hS.out
      rw [if_pos hge] at hst
      have g1 : w1.grownBy (w1.setCell ⟨s, 0, none⟩ (ivl x.2)) (some s) := ⟨rfl, rfl, rfl, by simp [World.setCell], fun k _ hF => Below.heap_setCell _ _ _ _ (fun e => hF (congrArg some e))⟩
      obtain ⟨w2, hw2⟩ : ∃ w2, w1.setCell ⟨s, 0, none⟩ (ivl x.2) = w2 := ⟨_, rfl⟩
      have r0 : w2.heap[s]? = some (.cells #[ivl x.2] 3 (0, 0)) := by rw [← hw2]; exact set_row j1 _
      rw [hw2] at g1 ⊢
      have z1 := hg.size
      have z2 := g1.size
      have z4 := i4.size
      have r1 : w2.heap[s + 1]? = some (.cells #[.int .i64 (M : Int)] 3 (0, 0)) := (g1.block (s + 1) (by omega) (by intro e; injection e; omega)).trans j2
      have g2 : w2.grownBy (w2.setCell ⟨s + 1, 0, none⟩ (.int .i64 (c : Int))) (some (s + 1)) := ⟨rfl, rfl, rfl, by simp [World.setCell], fun k _ hF => Below.heap_setCell _ _ _ _ (fun e => hF (congrArg some e))⟩
      obtain ⟨w3, hw3⟩ : ∃ w3, w2.setCell ⟨s + 1, 0, none⟩ (.int .i64 (c : Int)) = w3 := ⟨_, rfl⟩
      have q1 : w3.heap[s + 1]? = some (.cells #[.int .i64 (c : Int)] 3 (0, 0)) := by rw [← hw3]; exact set_row r1 _
      rw [hw3] at g2 ⊢
      have z3 := g2.size
      have q0 : w3.heap[s]? = some (.cells #[ivl x.2] 3 (0, 0)) := (g2.block s (by omega) (by intro e; injection e; omega)).trans r0
      have q2 : w3.heap[s + 2]? = w1.heap[s + 2]? := (g2.block (s + 2) (by omega) (by intro e; injection e; omega)).trans (g1.block (s + 2) (by omega) (by intro e; injection e; omega))
      have T : TnF (fun k => (s ≤ k ∧ k < s + 3) ∨ W0.heap.size ≤ k) W w3 := ((TnF.grown hg (fun r e => by cases e; left; omega)).trans (TnF.grown g1 (fun r e => by cases e; left; omega))).trans (TnF.grown g2 (fun r e => by cases e; left; omega))
      have hsn := hN.out
      refine ⟨(KeepsFrom.of_grownBy hg (fun j e => by cases e; omega)).trans ((KeepsFrom.of_grownBy g1 (fun j e => by cases e; omega)).trans (KeepsFrom.of_grownBy g2 (fun j e => by cases e; omega))), ⟨fun k hk hne => T.block k (by omega) (fun h => h.elim hne (fun h => by omega))⟩, ?_⟩
      dsimp only
      rw [hsn, hst]
      exact ⟨q0, q1, hCm.at q2, i4.trans T⟩
    · have hge' : ¬ (M : Int) ≤ (c : Int) := by omega
      gi_wp2
      obtain ⟨j1, j2, hCm, hg⟩ := HJ.out
      obtain ⟨i1, i2, i4⟩ := HX.out
      obtain ⟨hst, hE, hM⟩ := hS.out
      rw [if_neg hge] at hst
      have z4 := i4.size
      have T : TnF (fun k => (s ≤ k ∧ k < s + 3) ∨ W0.heap.size ≤ k) W w1 := TnF.grown hg (fun r e => by cases e; left; omega)
      have hsn := hN.out
      refine ⟨KeepsFrom.of_grownBy hg (fun j e => by cases e; omega), ⟨fun k hk hne => T.block k (by omega) (fun h => h.elim hne (fun h => by omega))⟩, ?_⟩
      dsimp only
      rw [hsn, hst, hE, hM]
      exact ⟨j1, j2, hCm, i4.trans T⟩
  case done =>
    rintro D ys W hD rfl ⟨i1, i2, i3, i4⟩ hK
    have c0 := cell_of_row W s 0 _ _ (0, 0) i1
    have c1 := cell_of_row W (s + 1) 0 _ _ (0, 0) i2
    have HX := (show Hid (_ ∧ _) from ⟨i4, hK⟩)
    clear i1 i2 i3 i4 hK
    gi_wp2
    gi_region
    all_goals (try gi_wp2)
    obtain ⟨i4, hK⟩ := HX.out
    have hy : ((dnt xs xs.length).map (fun x => x.2)).reverse = xs := by rw [← List.map_reverse, dnt_rev (Nat.le_refl _), Nat.sub_self]; rfl
    rw [hy]
    have hK2 : W.drew.heap[D]? = some (.deferred (some [])) := hK
    refine ⟨by simp, .inl ⟨_, _, rfl, run_takeDeferred hK2, ?_⟩⟩
    have hgD := grownBy_putObj' W.drew D (.deferred none)
    refine ⟨_, results_tmp2 rfl _ _ _, rfl, ?_⟩
    have hz := i4.size
    have hz2 := hgD.size
    exact ⟨(hgD.os.trans i4.os).trans hbw.os, (hgD.tape.trans i4.tape).trans hbw.tape, (hgD.output.trans i4.output).trans hbw.output, Nat.le_trans hbw.size (Nat.le_trans hz hz2), fun k hk => ((hgD.block k (show k < W.heap.size by omega) (fun e => by injection e; omega)).trans (i4.block k (by omega) (by omega))).trans (hbw.block k (by omega))⟩
  case stop =>
    rintro D c pre W _ _ hx _
    exact hx.elim
theorem imost_any {w : World} {a : Option Addr} {xs : List Int} (h : IrAt w a xs) (n cap : Nat) (hn : xs.length = n) (hm : n ≤ 140737488355328) :
    Calls Try.prog 12 #[.slice a n cap] w fun e w' => e = .returned (.tuple #[ivl (mst ieq 0 xs).1, .int .i64 ((mst ieq 0 xs).2 : Int)]) ∧ Below w.heap.size w w' := by
  subst hn
  exact callsIn_wide.1 (imost_in 3 (Nat.le_refl _) a cap xs hm h)
end
end Go.Proofs.Ytgconfcijmemmaa
