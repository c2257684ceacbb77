/-
  Caches of string,string: clear, anew, New, find, Weight, Clear, Keys.
-/
import Derived.Test.YtjefciioaebbeaaCeS28
namespace Go.Proofs.Ytjefciioaebbeaa.SS
open Go.RowKit Go.Proofs.Ytjefciioaebbeaa
/-- What clear leaves. -/
def clrW (w : World) (hb : Nat) : World := ((((w.setCell ⟨hb, 1, none⟩ (.int .i64 0)).setCell ⟨hb, 2, none⟩ (.map (some w.heap.size))).setCell ⟨hb, 6, none⟩ (.pointer (some ⟨hb, 3, none⟩))).setCell ⟨hb, 7, none⟩ (.pointer (some ⟨hb, 3, none⟩))).alloc (.map #[] 0)
theorem fill_hs {w : World} {hb : Nat} {r : Int} {s0 : Int} {m0 : Option Nat} {p0 q0 : Option Addr} (H : w.heap[hb]? = some (.cells #[.int .i64 r, .int .i64 s0, .map m0, (.string ⟨#[]⟩), (.string ⟨#[]⟩), .int .i64 0, .pointer p0, .pointer q0] 81 (0, 0))) :
    Hs (clrW w hb) hb r [] w.heap.size (.map #[] 0) (fun _ => ea hb) (fun _ => ea hb) 0 [] ∧ Tn (· = hb) w (clrW w hb) ∧ (clrW w hb).heap.size = w.heap.size + 1 := by
  have hlt := blt H
  unfold clrW
  refine ⟨⟨?_, ?_, MpO.new _, (fun e he => by cases he), ⟨rfl, rfl⟩, List.nodup_nil, (fun e he => by cases he)⟩, ?_, by simp⟩
  · unfold headO
    rw [heap_alloc_old _ _ (by simpa using hlt), heap_setCell_same _ hb 7 _ _ _ (heap_setCell_same _ hb 6 _ _ _ (heap_setCell_same _ hb 2 _ _ _ (heap_setCell_same _ hb 1 _ _ _ H)))]; rfl
  · have := heap_alloc_new ((((w.setCell ⟨hb, 1, none⟩ (.int .i64 0)).setCell ⟨hb, 2, none⟩ (.map (some w.heap.size))).setCell ⟨hb, 6, none⟩ (.pointer (some ⟨hb, 3, none⟩))).setCell ⟨hb, 7, none⟩ (.pointer (some ⟨hb, 3, none⟩))) (.map #[] 0)
    simpa using this
  · exact (((((Tn.setCell (F := (· = hb)) w ⟨hb, 1, none⟩ rfl _).trans (Tn.setCell (F := (· = hb)) _ ⟨hb, 2, none⟩ rfl _)).trans (Tn.setCell (F := (· = hb)) _ ⟨hb, 6, none⟩ rfl _)).trans (Tn.setCell (F := (· = hb)) _ ⟨hb, 7, none⟩ rfl _))).trans (Tn.of_below ((Below.refl _ _).alloc (Nat.le_refl _) _))
section
attribute [local irreducible] Calls
set_option maxRecDepth 1000000 in
theorem clear_at {w : World} {hb : Nat} {r : Int} {s0 : Int} {m0 : Option Nat} {p0 q0 : Option Addr} (H : w.heap[hb]? = some (.cells #[.int .i64 r, .int .i64 s0, .map m0, (.string ⟨#[]⟩), (.string ⟨#[]⟩), .int .i64 0, .pointer p0, .pointer q0] 81 (0, 0))) :
    Calls Try.prog 55 #[.pointer (some ⟨hb, 0, none⟩)] w fun e1 w' => e1 = .returned (.tuple #[]) ∧ Hs w' hb r [] w.heap.size (.map #[] 0) (fun _ => ea hb) (fun _ => ea hb) 0 [] ∧ Tn (· = hb) w w' ∧ w'.heap.size = w.heap.size + 1 := by
  have hmm := @run_makeMap Try.prog
  have c1 : w.cell? ⟨hb, 1, none⟩ = some (.int .i64 s0) := by rw [cell_of_row w hb 1 _ _ _ H]; rfl
  have z : ∀ i, w.frozen? ⟨hb, i, none⟩ = false := fun i => frozen_of_row w hb _ _ _ H
  have z1 := z 1
  have hlt := blt H
  have z2 := z 2
  have c2 : w.cell? ⟨hb, 2, none⟩ = some (.map m0) := by rw [cell_of_row w hb 2 _ _ _ H]; rfl
  have c6 : w.cell? ⟨hb, 6, none⟩ = some (.pointer p0) := by rw [cell_of_row w hb 6 _ _ _ H]; rfl
  have c7 : w.cell? ⟨hb, 7, none⟩ = some (.pointer q0) := by rw [cell_of_row w hb 7 _ _ _ H]; rfl
  have z6 := z 6
  have z7 := z 7
  have HH := (show Hid _ from H)
  clear z H
  go_enter Try.func55, Try.ntmps55
  go_wp2
  go_region
  refine bodyPost_end (results_none rfl _ _ _) rfl ?_
  have hf := fill_hs HH.out
  exact ⟨rfl, hf.1.heap rfl, hf.2.1.drewN 1, hf.2.2⟩
set_option maxRecDepth 1000000 in
theorem anew_at (r : Int) (w : World) : Calls Try.prog 34 #[.int .i64 r] w fun e1 w' => e1 = .returned (.pointer (some ⟨w.heap.size, 0, none⟩)) ∧ Hs w' w.heap.size r [] (w.heap.size + 1) (.map #[] 0) (fun _ => ea w.heap.size) (fun _ => ea w.heap.size) 0 [] ∧ Below w.heap.size w w' ∧ w'.heap.size = w.heap.size + 2 := by
  have HC := (show Hid _ from clear_at (heap_alloc_new w (.cells #[.int .i64 r, .int .i64 0, .map none, (.string ⟨#[]⟩), (.string ⟨#[]⟩), .int .i64 0, .pointer none, .pointer none] 81)))
  go_enter Try.func34, Try.ntmps34
  go_wp2_with (go_at_call 55; refine HC.out.mono ?_; rintro e1 w1 ⟨rfl, H1, T1, S1⟩; have HF := (show Hid (Hs _ _ _ _ _ _ _ _ _ _ ∧ Tn _ _ _ ∧ _ = _) from ⟨H1, T1, S1⟩); clear H1 T1 S1)
  go_ret
  obtain ⟨H1, T1, S1⟩ := HF.out
  have hz : (w.alloc (.cells #[.int .i64 r, .int .i64 0, .map none, (.string ⟨#[]⟩), (.string ⟨#[]⟩), .int .i64 0, .pointer none, .pointer none] 81)).heap.size = w.heap.size + 1 := by simp
  rw [hz] at H1 S1
  refine ⟨rfl, H1, ?_, S1⟩
  have hb := (Below.refl _ w).alloc (Nat.le_refl _) (.cells #[.int .i64 r, .int .i64 0, .map none, (.string ⟨#[]⟩), (.string ⟨#[]⟩), .int .i64 0, .pointer none, .pointer none] 81)
  exact ⟨T1.os.trans hb.os, T1.tape.trans hb.tape, T1.output.trans hb.output, by omega, fun k hk => (T1.block k (by rw [hz]; omega) (by show ¬ k = _; omega)).trans (hb.block k hk)⟩
/-- A cache in memory; all its blocks are among F. -/
structure CcAt (w : World) (cb : Nat) (r : Int) (L : List Ent) (F : Nat → Prop) (hb mb : Nat) (o : Obj) (g h : Addr → Addr) : Prop where
  blk : w.heap[cb]? = some (.cells #[.pointer (some ⟨hb, 0, none⟩)] 72 (0, 0))
  hs : Hs w hb r L mb o g h (wsum L) (L.map fun e => (e.key, e.nd))
  fc : F cb
  fh : F hb
  fm : F mb
  fn : ∀ e ∈ L, F e.nd
  lt : ∀ b, F b → b < w.heap.size
  ok : Okc txq r L
  r0 : 0 ≤ r
  r1 : r ≤ 1073741824
theorem CcAt.c0 {w : World} {cb : Nat} {r : Int} {L : List Ent} {F : Nat → Prop} {hb mb : Nat} {o : Obj} {g h : Addr → Addr} (C : CcAt w cb r L F hb mb o g h) : w.cell? ⟨cb, 0, none⟩ = some (.pointer (some ⟨hb, 0, none⟩)) := by rw [cell_of_row w cb 0 _ _ _ C.blk]; rfl
theorem CcAt.keep {w w' : World} {cb : Nat} {r : Int} {L : List Ent} {F : Nat → Prop} {hb mb : Nat} {o : Obj} {g h : Addr → Addr} (C : CcAt w cb r L F hb mb o g h) (hz : w.heap.size ≤ w'.heap.size) (hk : ∀ b, F b → w'.heap[b]? = w.heap[b]?) : CcAt w' cb r L F hb mb o g h :=
  ⟨by rw [hk _ C.fc]; exact C.blk, C.hs.keep (fun b hb1 => hk b (by
    rcases hb1 with rfl | rfl | ⟨e, he, rfl⟩
    · exact C.fh
    · exact C.fm
    · exact C.fn e he)), C.fc, C.fh, C.fm, C.fn, fun b hb => Nat.lt_of_lt_of_le (C.lt b hb) hz, C.ok, C.r0, C.r1⟩
set_option maxRecDepth 1000000 in
theorem new_bad (r : Int) (hr : r < 0 ∨ 1073741824 < r) (w : World) : Calls Try.prog 9 #[.int .i64 r] w fun e1 w' => e1 = .returned (.tuple #[.pointer none, .int .i64 2]) ∧ w' = w := by
  rcases hr with h1 | h1
  · go_enter Try.func9, Try.ntmps9
    go_wp2
    go_ret2
    exact ⟨rfl, rfl⟩
  · have h2 : ¬ r < 0 := by omega
    go_enter Try.func9, Try.ntmps9
    go_wp2
    go_ret2
    exact ⟨rfl, rfl⟩
set_option maxRecDepth 1000000 in
theorem new_ok (r : Int) (h0 : 0 ≤ r) (h1 : r ≤ 1073741824) (w : World) : Calls Try.prog 9 #[.int .i64 r] w fun e1 w' => ∃ cb hb mb o g h, e1 = .returned (.tuple #[.pointer (some ⟨cb, 0, none⟩), .int .i64 0]) ∧ CcAt w' cb r [] (fun b => w.heap.size ≤ b ∧ b < w'.heap.size) hb mb o g h ∧ Below w.heap.size w w' := by
  have h2 : ¬ r < 0 := by omega
  have h3 : ¬ 1073741824 < r := by omega
  have HA := (show Hid _ from anew_at r w)
  have HR := (show Hid (0 ≤ r ∧ r ≤ 1073741824) from ⟨h0, h1⟩)
  clear h0 h1
  go_enter Try.func9, Try.ntmps9
  go_wp2_with (go_at_call 34; refine HA.out.mono ?_; rintro e1 w1 ⟨rfl, H1, T1, S1⟩; have HF := (show Hid (Hs _ _ _ _ _ _ _ _ _ _ ∧ Below _ _ _ ∧ _ = _) from ⟨H1, T1, S1⟩); clear H1 T1 S1)
  go_ret2
  obtain ⟨H1, T1, S1⟩ := HF.out
  refine ⟨_, w.heap.size, w.heap.size + 1, _, _, _, rfl, ⟨heap_alloc_new _ _, H1.below ((Below.refl _ _).alloc (Nat.le_refl _) _), ⟨?_, ?_⟩, ⟨?_, ?_⟩, ⟨?_, ?_⟩, (fun e he => by cases he), fun b hb => hb.2, Okc.nil _ HR.out.1, HR.out.1, HR.out.2⟩, T1.alloc T1.size _⟩
  all_goals (try simp)
  all_goals omega
end
end Go.Proofs.Ytjefciioaebbeaa.SS
