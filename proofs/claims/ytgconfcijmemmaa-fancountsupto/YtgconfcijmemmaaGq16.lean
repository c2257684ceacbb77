/-
  Most of words.
-/
import Derived.Test.YtgconfcijmemmaaGe16
import Derived.Test.YtgconfcijmemmaaWe16
import Derived.Test.YtgconfcijmemmaaFq16
import Derived.Laws.IdiomCopy
namespace Go.Proofs.Ytgconfcijmemmaa
open Go.RowKit Go.Shelf
attribute [local go_sem] Oper.semAt_some
theorem set_row2 {w : World} {b : Nat} {u v : Value} {t : TypeId} (h : w.heap[b]? = some (.cells #[u, v] t (0, 0))) (u' v' : Value) : ((w.setCell ⟨b, 0, none⟩ u').setCell ⟨b, 1, none⟩ v').heap[b]? = some (.cells #[u', v'] t (0, 0)) := by
  have h1 := heap_setCell_same w b 0 _ _ u' h
  rw [heap_setCell_same _ b 1 _ _ _ h1]; rfl
theorem grown_set (w : World) (b i : Nat) (u : Value) : w.grownBy (w.setCell ⟨b, i, none⟩ u) (some b) := ⟨rfl, rfl, rfl, by simp [World.setCell], fun k _ hF => Below.heap_setCell _ _ _ _ (fun e => hF (congrArg some e))⟩
theorem res_B2 {fn : Func} {p q : Tmp} {t : TypeId} {cs : Array Value} (h : fn.results = #[.cell p t, .tmp q]) (tmps : Array Value) (w : World) (g : Nat) (hp : tmps.getD p undef = .pointer (some ⟨g, 0, none⟩)) (H : w.heap[g]? = some (.cells cs t (0, 0))) {fs : Array Field} (hu : Try.prog.underlying t = some (.struct fs)) (hs : (Try.prog.info? t).map (·.size) = some cs.size) :
    (results fn tmps).run Try.prog w = .ok (.tuple #[.agg cs, tmps.getD q undef]) w := by
  have hl := run_loadVar_at (P := Try.prog) w g 0 t cs _ (fun j v hv => by rw [Nat.zero_add, cell_of_row w g j _ _ (0, 0) H]; simpa using hv) hu rfl hs
  have hp' : tmps[p]?.getD undef = .pointer (some ⟨g, 0, none⟩) := by simpa using hp
  simp [results, h, hp', asAddr, hl]
section
attribute [local irreducible] Calls
set_option maxRecDepth 1000000 in
set_option maxHeartbeats 4000000 in
theorem wmost_in (n : Nat) (hn : 3 ≤ n) {w : World} (a : Option Addr) (cap : Nat) (xs : List (Option Int)) (hreach : xs.length ≤ 140737488355328) (hI : WrAt w a xs) :
    CallsIn Fence.wide n Try.prog 7 #[.slice a xs.length cap] w fun e W' => e = .returned (.tuple #[.agg (wcs (mst weq none xs).1), .int .i64 ((mst weq none xs).2 : Int)]) ∧ Below w.heap.size w W' := by
  have h1 : 1 ≤ n := by omega
  have hmm := @run_makeMap Try.prog
  obtain ⟨len, hL⟩ : ∃ len, xs.length = len := ⟨_, rfl⟩
  have HL := (show Hid (xs.length = len) from hL)
  rw [hL] at hreach ⊢
  obtain ⟨s, hs⟩ : ∃ s, w.heap.size + 1 = s := ⟨_, rfl⟩
  obtain ⟨W0, hW0⟩ : ∃ W0, W0 = (((((w.alloc (.cells #[Value.int .i64 0, .string ⟨#[]⟩] 27)).alloc (.cells #[Value.int .i64 0, .string ⟨#[]⟩] 27)).alloc (.cells #[Value.int .i64 0] 3)).alloc (.map #[] 0)).alloc (.cells #[Value.map (some (s + 1 + 1))] 38)).alloc (.cells #[Value.slice a len cap] 24) := ⟨_, rfl⟩
  have PRE : Hid (W0.heap.size = s + 5 ∧ Below w.heap.size w W0 ∧ W0.heap[s]? = some (.cells #[Value.int .i64 (wnu none), .string (wtx none)] 27 (0, 0)) ∧ W0.heap[s + 1]? = some (.cells #[.int .i64 0] 3 (0, 0)) ∧ W0.heap[s + 2]? = some (.map #[] 0) ∧ W0.heap[s + 3]? = some (.cells #[.map (some (s + 2))] 38 (0, 0)) ∧ W0.heap[s + 4]? = some (.cells #[.slice a len cap] 24 (0, 0)) ∧ W0.heap[w.heap.size]? = some (.cells #[Value.int .i64 0, .string ⟨#[]⟩] 27 (0, 0))) := by
    subst hW0
    subst hs
    have al : ∀ (W : World) (o : Obj) k v, W.heap[k]? = some v → (W.alloc o).heap[k]? = some v := fun W o k v h => (Below.heap_alloc _ _ _ (Array.getElem?_eq_some_iff.1 h).1).trans h
    refine ⟨by simp, ?_, ?_, ?_, ?_, ?_, ?_, ?_⟩
    · exact ((((((Below.refl _ w).alloc (Nat.le_refl _) _).alloc (by simp) _).alloc (by simp; omega) _).alloc (by simp; omega) _).alloc (by simp; omega) _).alloc (by simp; omega) _
    · have h := heap_alloc_new (w.alloc (.cells #[Value.int .i64 0, .string ⟨#[]⟩] 27)) (.cells #[Value.int .i64 0, .string ⟨#[]⟩] 27)
      rw [World.size_alloc] at h
      exact al _ _ _ _ (al _ _ _ _ (al _ _ _ _ (al _ _ _ _ h)))
    · have h := heap_alloc_new ((w.alloc (.cells #[Value.int .i64 0, .string ⟨#[]⟩] 27)).alloc (.cells #[Value.int .i64 0, .string ⟨#[]⟩] 27)) (.cells #[Value.int .i64 0] 3)
      rw [World.size_alloc, World.size_alloc] at h
      exact al _ _ _ _ (al _ _ _ _ (al _ _ _ _ h))
    · have h := heap_alloc_new (((w.alloc (.cells #[Value.int .i64 0, .string ⟨#[]⟩] 27)).alloc (.cells #[Value.int .i64 0, .string ⟨#[]⟩] 27)).alloc (.cells #[Value.int .i64 0] 3)) (.map #[] 0)
      rw [World.size_alloc, World.size_alloc, World.size_alloc] at h
      exact al _ _ _ _ (al _ _ _ _ h)
    · have h := heap_alloc_new ((((w.alloc (.cells #[Value.int .i64 0, .string ⟨#[]⟩] 27)).alloc (.cells #[Value.int .i64 0, .string ⟨#[]⟩] 27)).alloc (.cells #[Value.int .i64 0] 3)).alloc (.map #[] 0)) (.cells #[Value.map (some (w.heap.size + 1 + 1 + 1))] 38)
      rw [World.size_alloc, World.size_alloc, World.size_alloc, World.size_alloc] at h
      exact al _ _ _ _ h
    · have h := heap_alloc_new (((((w.alloc (.cells #[Value.int .i64 0, .string ⟨#[]⟩] 27)).alloc (.cells #[Value.int .i64 0, .string ⟨#[]⟩] 27)).alloc (.cells #[Value.int .i64 0] 3)).alloc (.map #[] 0)).alloc (.cells #[Value.map (some (w.heap.size + 1 + 1 + 1))] 38)) (.cells #[Value.slice a len cap] 24)
      rw [World.size_alloc, World.size_alloc, World.size_alloc, World.size_alloc, World.size_alloc] at h
      exact h
    · exact al _ _ _ _ (al _ _ _ _ (al _ _ _ _ (al _ _ _ _ (al _ _ _ _ (heap_alloc_new w _)))))
  have HW0 := (show Hid _ from hW0)
  clear hL hW0
  refine callsIn_of_wp_marks Try.func7 rfl trivial ?_ rfl
  simp only [Try.ntmps7, List.size_toArray, List.length_cons, List.length_nil, Nat.reduceAdd, Nat.reduceSub, Array.replicate_succ, Array.replicate_zero, List.push_toArray, List.append_toArray, List.nil_append, List.cons_append]
  gi_wp2_with (refine ⟨trivial, ?_⟩; gi_at_call 14; refine (wbackward_in (n - 1) _ _ _ _).mono ?_; rintro e w' ⟨rfl, rfl⟩)
  rw [← HW0.out]
  simp only [Nat.add_assoc, Nat.reduceAdd]
  obtain ⟨hsz, hbw, b0, b1, b2, b3, b4, b5⟩ := PRE.out
  clear PRE HW0
  have hFr : WrAt W0 a xs := hI.below hbw
  have hal : ∀ p, a = some p → 0 < xs.length → p.block < s := by
    intro p hp h0
    rcases hI with rfl | ⟨b, o, hp2, hc⟩
    · simp at h0
    · rw [hp2] at hp
      injection hp with hp
      subst hp
      have : b < w.heap.size := block_lt_of_cell (hc 0 h0).1
      show b < s
      omega
  refine wpIn_rangeFunc_ownH (α := Nat × Option Int) rfl h1 (gf := 22) (lb := #[.pointer (some ⟨s + 4, 0, none⟩)]) rfl trivial (enters_of Try.func22 (by kernel_rfl) rfl)
    (wback_stops (n - 1) (by omega) (s + 4) cap s a xs (by rw [HL.out]; exact hreach) W0 (Bt3 W0.heap.size s) (fun _ => ⟨fun _ _ _ => rfl⟩) Bt3.trans (fun A B hk => hk.cell (p := ⟨s + 4, 0, none⟩) (show s + 4 < W0.heap.size by omega) (show ¬ (s ≤ s + 4 ∧ s + 4 < s + 3) by omega)) (fun A B b o hb hk => hk.cell (p := ⟨b, o, none⟩) (show b < W0.heap.size by omega) (show ¬ (s ≤ b ∧ b < s + 3) by omega)) (by omega) hal (by rw [HL.out]; exact cell_of_row W0 (s + 4) 0 _ _ (0, 0) b4) hFr)
    Bt3.trans ?hKb (Below.refl _ _) (fun _ => rfl)
    (fun pre W => W.heap[s]? = some (.cells #[Value.int .i64 (wnu (mst weq none (pre.reverse.map (·.2))).1), .string (wtx (mst weq none (pre.reverse.map (·.2))).1)] 27 (0, 0)) ∧ W.heap[s + 1]? = some (.cells #[.int .i64 ((mst weq none (pre.reverse.map (·.2))).2 : Int)] 3 (0, 0)) ∧ (∃ o, MpO wvl weq (pre.reverse.map (·.2)) pre.length o ∧ W.heap[s + 2]? = some o) ∧ TnF (fun k => (s ≤ k ∧ k < s + 3) ∨ W0.heap.size ≤ k) W0 W)
    (fun _ _ _ => False)
    ?hI (fun _ _ _ _ _ hs _ _ => hs) ⟨b0, b1, ⟨_, MpO.new _ _ _, b2⟩, TnF.refl _ _⟩
    (fun x a' W => ∃ B, a' = { tmps := #[.slice a len cap, undef, .pointer (some ⟨w.heap.size, 0, none⟩), .int .i64 0, .pointer (some ⟨s, 0, none⟩), .pointer (some ⟨s + 1, 0, none⟩), .pointer (some ⟨s + 3, 0, none⟩), undef, .pointer (some ⟨B, 0, none⟩), undef, .map (some (s + 2)), .slice a len cap, .func (.func 22) #[] #[.pointer (some ⟨s + 4, 0, none⟩)], .int .i64 (x.1 : Int), wvl x.2, undef, undef, undef, undef, undef, undef, undef, undef, undef, undef], defers := [] } ∧ W.heap[B]? = some (.cells #[Value.int .i64 (wnu x.2), .string (wtx x.2)] 27 (0, 0)) ∧ W0.heap.size ≤ B)
    ?hAx ?assign ?body ?done ?stop
  case hKb =>
    intro W l o o' hl ho _ _
    exact ⟨fun k hk hne => (grownBy_putObj' W l o').block k (by have := (Array.getElem?_eq_some_iff.1 ho).1; omega) (fun e => by injection e with e; omega)⟩
  case hI =>
    rintro pre W W' row ⟨i1, i2, i3, i4⟩ hg hr
    have ne : ∀ k, k < W0.heap.size → k < W.heap.size → W'.heap[k]? = W.heap[k]? := fun k hk hk2 => hg.block k hk2 (fun e => by have := (hr _ e.symm).1; omega)
    have hz := i4.size
    exact ⟨(ne s (by omega) (by omega)).trans i1, (ne (s + 1) (by omega) (by omega)).trans i2, (by obtain ⟨o, m1, m2⟩ := i3; exact ⟨o, m1, (ne (s + 2) (by omega) (by omega)).trans m2⟩), i4.trans (TnF.grown hg (fun r e => .inr (hr r e).1))⟩
  case hAx =>
    rintro x a' _ X Y row ⟨B, h1, h2, h3⟩ hg hr
    refine ⟨B, h1, ?_, h3⟩
    rw [hg.block B (Array.getElem?_eq_some_iff.1 h2).1 (fun e => ?_)]
    · exact h2
    · obtain ⟨_, o, ho, hc⟩ := hr B e.symm
      rw [h2] at ho
      injection ho with ho
      rw [← ho] at hc
      cases hc
  case assign =>
    rintro l pre x W K ⟨i1, i2, i3, i4⟩ hK
    have HI := (show Hid _ from And.intro i1 (And.intro i2 (And.intro i3 i4)))
    clear i1 i2 i3 i4
    have wc := wcs_eq x.2
    gi_wp2
    obtain ⟨i1, i2, i3, i4⟩ := HI.out
    have hz := i4.size
    have al : ∀ (o : Obj) k, k < W.heap.size → (W.alloc o).heap[k]? = W.heap[k]? := fun o k hk => Below.heap_alloc _ _ _ hk
    have hg := World.grownBy_alloc W (.cells #[Value.int .i64 (wnu x.2), .string (wtx x.2)] 27) none
    refine hK _ _ (KeepsFrom.of_grownBy hg (fun j e => by cases e)) ⟨fun k hk _ => al _ k (by omega)⟩ ⟨(al _ s (by omega)).trans i1, (al _ (s + 1) (by omega)).trans i2, ?_, i4.trans (TnF.grown hg (fun g e => by cases e))⟩ ⟨W.heap.size, rfl, heap_alloc_new W _, hz⟩
    obtain ⟨o, m1, m2⟩ := i3
    exact ⟨o, m1, (al _ (s + 2) (by omega)).trans m2⟩
  case body =>
    rintro l pre x a' W hl ⟨r, hr⟩ ⟨i1, i2, ⟨ob, m1, m2⟩, i4⟩ ⟨B, rfl, hB, hBs⟩ hlt
    obtain ⟨L, hLL⟩ : ∃ L, pre.reverse.map (·.2) = L := ⟨_, rfl⟩
    have hsn : (pre ++ [x]).reverse.map (·.2) = x.2 :: L := by simp [← hLL]
    have hlen : L.length ≤ 140737488355328 := by rw [← hLL]; simp; rw [HL.out] at hlt; omega
    rw [hLL] at i1 i2 m1
    have hz := i4.size
    have hBl := (Array.getElem?_eq_some_iff.1 hB).1
    have c3 : W.cell? ⟨s + 3, 0, none⟩ = some (.map (some (s + 2))) := (World.cell?_of_block (w := W0) (a := ⟨s + 3, 0, none⟩) (i4.block (s + 3) (by omega) (by omega))).trans (cell_of_row W0 (s + 3) 0 _ _ (0, 0) b3)
    have e0 := cell_of_row W B 0 _ _ (0, 0) hB
    have e1 := cell_of_row W B 1 _ _ (0, 0) hB
    have C := (show Hid _ from wone_any x.2 m1 m2 hlen)
    obtain ⟨E, hE⟩ : ∃ E, (mst weq none L).1 = E := ⟨_, rfl⟩
    obtain ⟨M, hM⟩ : ∃ M, (mst weq none L).2 = M := ⟨_, rfl⟩
    obtain ⟨c, hc⟩ : ∃ c, (x.2 :: L).countP (weq x.2) = c := ⟨_, rfl⟩
    have hst : mst weq none (x.2 :: L) = if M ≤ c then (x.2, c) else mst weq none L := by rw [mst, hM, hc]
    rw [hE] at i1
    rw [hM] at i2
    rw [hc] at C
    have HX := (show Hid (TnF (fun k => (s ≤ k ∧ k < s + 3) ∨ W0.heap.size ≤ k) W0 W ∧ hBl = hBl) from ⟨i4, rfl⟩)
    have after : Hid (∀ w1, W.grownBy w1 (some (s + 2)) → w1.heap[s]? = some (.cells #[Value.int .i64 (wnu E), .string (wtx E)] 27 (0, 0)) ∧ w1.heap[s + 1]? = some (.cells #[.int .i64 (M : Int)] 3 (0, 0)) ∧ w1.heap[B]? = some (.cells #[Value.int .i64 (wnu x.2), .string (wtx x.2)] 27 (0, 0))) := by
      intro w1 hg
      exact ⟨(hg.block s (by omega) (by intro e; injection e; omega)).trans i1, (hg.block (s + 1) (by omega) (by intro e; injection e; omega)).trans i2, (hg.block B hBl (by intro e; injection e; omega)).trans hB⟩
    have hN := (show Hid _ from hsn)
    have hS := (show Hid (_ ∧ _ ∧ _) from ⟨hst, hE, hM⟩)
    have hP := (show Hid ((pre ++ [x]).length = pre.length + 1) from by show _ = _; simp)
    clear i1 i2 m1 m2 i4 b0 b1 b2 b3 b4 b5 hFr hal hI hbw hLL hsn hst hE hM hc hlt hlen hreach HL hB
    gi_wp2
    refine ⟨trivial, fun h => (by cases h), CallsIn.mono (CallsIn.inRound l (callsIn_wide.2 C.out)) ?_⟩
    rintro e w1 ⟨rfl, hCm, hg⟩
    obtain ⟨j1, j2, j3⟩ := after.out w1 hg
    have k0 := cell_of_row w1 s 0 _ _ (0, 0) j1
    have k00 := cell_of_row w1 s 1 _ _ (0, 0) j1
    have k1 := cell_of_row w1 (s + 1) 0 _ _ (0, 0) j2
    have k3 := cell_of_row w1 B 0 _ _ (0, 0) j3
    have k4 := cell_of_row w1 B 1 _ _ (0, 0) j3
    have f0 := frozen_of_row w1 s 0 _ _ j1
    have f00 := frozen_of_row w1 s 1 _ _ j1
    have f1 := frozen_of_row w1 (s + 1) 0 _ _ j2
    have HJ := (show Hid (_ ∧ _ ∧ _ ∧ _) from ⟨j1, j2, hCm, hg⟩)
    clear j1 j2 j3 hCm hg
    by_cases hge : M ≤ c
    · have hge' : (M : Int) ≤ (c : Int) := by omega
      gi_wp2
      obtain ⟨j1, j2, ⟨o', m1, m2⟩, hg⟩ := HJ.out
      obtain ⟨i4, _⟩ := HX.out
      obtain ⟨hst, hE, hM⟩ := hS.out
      rw [if_pos hge] at hst
      have g0 := grown_set w1 s 0 (.int .i64 (wnu x.2))
      have g00 := grown_set (w1.setCell ⟨s, 0, none⟩ (.int .i64 (wnu x.2))) s 1 (.string (wtx x.2))
      have r0 := set_row2 j1 (.int .i64 (wnu x.2)) (.string (wtx x.2))
      have g1 := g0.trans g00
      obtain ⟨w2, hw2⟩ : ∃ w2, (w1.setCell ⟨s, 0, none⟩ (.int .i64 (wnu x.2))).setCell ⟨s, 1, none⟩ (.string (wtx x.2)) = w2 := ⟨_, rfl⟩
      rw [hw2] at g1 r0 ⊢
      clear g0 g00 hw2
      have z1 := hg.size
      have z2 := g1.size
      have z4 := i4.size
      have r1 : w2.heap[s + 1]? = some (.cells #[.int .i64 (M : Int)] 3 (0, 0)) := (g1.block (s + 1) (by omega) (by intro e; injection e; omega)).trans j2
      have g2 := grown_set w2 (s + 1) 0 (.int .i64 (c : Int))
      obtain ⟨w3, hw3⟩ : ∃ w3, w2.setCell ⟨s + 1, 0, none⟩ (.int .i64 (c : Int)) = w3 := ⟨_, rfl⟩
      have q1 : w3.heap[s + 1]? = some (.cells #[.int .i64 (c : Int)] 3 (0, 0)) := by rw [← hw3]; exact set_row r1 _
      rw [hw3] at g2 ⊢
      have z3 := g2.size
      have q0 := (g2.block s (by omega) (by intro e; injection e; omega)).trans r0
      have q2 : w3.heap[s + 2]? = w1.heap[s + 2]? := (g2.block (s + 2) (by omega) (by intro e; injection e; omega)).trans (g1.block (s + 2) (by omega) (by intro e; injection e; omega))
      have T : TnF (fun k => (s ≤ k ∧ k < s + 3) ∨ W0.heap.size ≤ k) W w3 := ((TnF.grown hg (fun r e => by cases e; left; omega)).trans (TnF.grown g1 (fun r e => by cases e; left; omega))).trans (TnF.grown g2 (fun r e => by cases e; left; omega))
      have hsn := hN.out
      refine ⟨(KeepsFrom.of_grownBy hg (fun j e => by cases e; omega)).trans ((KeepsFrom.of_grownBy g1 (fun j e => by cases e; omega)).trans (KeepsFrom.of_grownBy g2 (fun j e => by cases e; omega))), ⟨fun k hk hne => T.block k (by omega) (fun h => h.elim hne (fun h => by omega))⟩, ?_⟩
      dsimp only
      rw [hsn, hst, hP.out]
      exact ⟨q0, q1, ⟨o', m1, q2.trans m2⟩, i4.trans T⟩
    · have hge' : ¬ (M : Int) ≤ (c : Int) := by omega
      gi_wp2
      obtain ⟨j1, j2, hCm, hg⟩ := HJ.out
      obtain ⟨i4, _⟩ := HX.out
      obtain ⟨hst, hE, hM⟩ := hS.out
      rw [if_neg hge] at hst
      have z4 := i4.size
      have T : TnF (fun k => (s ≤ k ∧ k < s + 3) ∨ W0.heap.size ≤ k) W w1 := TnF.grown hg (fun r e => by cases e; left; omega)
      have hsn := hN.out
      refine ⟨KeepsFrom.of_grownBy hg (fun j e => by cases e; omega), ⟨fun k hk hne => T.block k (by omega) (fun h => h.elim hne (fun h => by omega))⟩, ?_⟩
      dsimp only
      rw [hsn, hst, hE, hM, hP.out]
      exact ⟨j1, j2, hCm, i4.trans T⟩
  case done =>
    rintro D ys W hD rfl ⟨i1, i2, i3, i4⟩ hK
    have hy : ((dnt xs xs.length).reverse.map (fun x => x.2)) = xs := by rw [dnt_rev (Nat.le_refl _), Nat.sub_self]; rfl
    rw [hy] at i1 i2
    obtain ⟨E, hE⟩ : ∃ E, (mst weq none xs).1 = E := ⟨_, rfl⟩
    obtain ⟨M, hM⟩ : ∃ M, (mst weq none xs).2 = M := ⟨_, rfl⟩
    rw [hE] at i1
    rw [hM] at i2
    have i5 : W.heap[w.heap.size]? = some (.cells #[Value.int .i64 0, .string ⟨#[]⟩] 27 (0, 0)) := (i4.block w.heap.size (by omega) (by omega)).trans b5
    have c0 := cell_of_row W s 0 _ _ (0, 0) i1
    have c00 := cell_of_row W s 1 _ _ (0, 0) i1
    have c1 := cell_of_row W (s + 1) 0 _ _ (0, 0) i2
    have c2 := cell_of_row W w.heap.size 0 _ _ (0, 0) i5
    have c20 := cell_of_row W w.heap.size 1 _ _ (0, 0) i5
    have f2 := frozen_of_row W w.heap.size 0 _ _ i5
    have f20 := frozen_of_row W w.heap.size 1 _ _ i5
    have HX := (show Hid (_ ∧ _ ∧ _) from ⟨i4, hK, i5⟩)
    have HV := (show Hid (_ ∧ _) from ⟨hE, hM⟩)
    clear i1 i2 i3 i4 i5 hK hE hM hy
    gi_wp2
    gi_region
    all_goals (try gi_wp2)
    obtain ⟨i4, hK, i5⟩ := HX.out
    rw [HV.out.1, HV.out.2]
    have g0 := grown_set W w.heap.size 0 (.int .i64 (wnu E))
    have g00 := grown_set (W.setCell ⟨w.heap.size, 0, none⟩ (.int .i64 (wnu E))) w.heap.size 1 (.string (wtx E))
    have r0 := set_row2 i5 (.int .i64 (wnu E)) (.string (wtx E))
    have g1 := g0.trans g00
    obtain ⟨w2, hw2⟩ : ∃ w2, (W.setCell ⟨w.heap.size, 0, none⟩ (.int .i64 (wnu E))).setCell ⟨w.heap.size, 1, none⟩ (.string (wtx E)) = w2 := ⟨_, rfl⟩
    rw [hw2] at g1 r0 ⊢
    clear g0 g00 hw2
    have hz := i4.size
    have hK2 : w2.drew.heap[D]? = some (.deferred (some [])) := (g1.block D (Array.getElem?_eq_some_iff.1 hK).1 (by intro e; injection e; omega)).trans hK
    refine ⟨by simp, .inl ⟨_, _, rfl, run_takeDeferred hK2, ?_⟩⟩
    have hgD := grownBy_putObj' w2.drew D (.deferred none)
    have hz1 := g1.size
    have hz2 : w2.heap.size ≤ _ := hgD.size
    have hrow := (hgD.block w.heap.size (show w.heap.size < w2.heap.size by omega) (fun e => by injection e; omega)).trans r0
    refine ⟨_, res_B2 rfl _ _ w.heap.size rfl hrow Try.underlying27 size_W, rfl, ?_⟩
    exact ⟨((hgD.os.trans g1.os).trans i4.os).trans hbw.os, ((hgD.tape.trans g1.tape).trans i4.tape).trans hbw.tape, ((hgD.output.trans g1.output).trans i4.output).trans hbw.output, Nat.le_trans hbw.size (Nat.le_trans hz (Nat.le_trans hz1 hz2)), fun k hk => (((hgD.block k (show k < w2.heap.size by omega) (fun e => by injection e; omega)).trans (g1.block k (by omega) (by intro e; injection e; omega))).trans (i4.block k (by omega) (by omega))).trans (hbw.block k (by omega))⟩
  case stop =>
    rintro D c pre W _ _ hx _
    exact hx.elim
theorem wmost_any {w : World} {a : Option Addr} {xs : List (Option Int)} (h : WrAt w a xs) (n cap : Nat) (hn : xs.length = n) (hm : n ≤ 140737488355328) :
    Calls Try.prog 7 #[.slice a n cap] w fun e w' => e = .returned (.tuple #[.agg (wcs (mst weq none xs).1), .int .i64 ((mst weq none xs).2 : Int)]) ∧ Below w.heap.size w w' := by
  subst hn
  exact callsIn_wide.1 (wmost_in 3 (Nat.le_refl _) a cap xs hm h)
end
end Go.Proofs.Ytgconfcijmemmaa
