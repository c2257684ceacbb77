/-
  FrameSwaps: the walk.
-/
import Derived.Test.YtkafbeicgaoebaaSz8
import Derived.Deep.AppendLies
import Derived.BigRegion
namespace Go.Proofs.Ytkafbeicgaoebaa
open Go.RowKit
theorem bd8 {B : Nat} {a w : World} (h : Below B a w) (n : Nat) : Below B a (w.drewN n) := ⟨h.os, h.tape, h.output, h.size, h.block⟩
section
attribute [local irreducible] Calls el Hd.cs Hd.sh chk Wr swl fn
end
end Go.Proofs.Ytkafbeicgaoebaa
/-
  FrameSwaps: the main way.
-/
namespace Go.Proofs.Ytkafbeicgaoebaa
open Go.RowKit
/-- The numbers of an own list, read. -/
theorem oi_cells {w : World} {base : Nat} {v : Value} {L : List Nat} (h : Oi w base v L) (h0 : 0 < L.length) : ∃ g cap, v = .slice (some ⟨g, 0, none⟩) L.length cap ∧ g < w.heap.size ∧ ∀ i, i < L.length → w.cell? ⟨g, i, none⟩ = some (.int .i64 ((L.getD i 0 : Nat) : Int)) := by
  rcases h.2 with ⟨hv, h1⟩ | ⟨g, cap, c, hv, hg, hh, hc, hm, hs, ht⟩
  · omega
  · refine ⟨g, cap, hv, Hm.lt hh, fun i hi => ?_⟩
    have := h.cells (g := g) (by rw [hv]; rfl) i _ (ic_at L i hi)
    rwa [add_pl, Nat.zero_add] at this
theorem ow_wr {w : World} {base : Nat} {v : Value} {xs : List (BitVec 8)} (h : Ow w base v xs) (h0 : 0 < xs.length) : ∃ g cap, v = .slice (some ⟨g, 0, none⟩) xs.length cap ∧ xs.length ≤ cap ∧ base ≤ g ∧ Wr w g xs := by
  obtain ⟨g, cap, e, hb, hw⟩ := h.wr h0
  obtain ⟨p, c, e2, hc, _⟩ := h.rd
  rw [e2] at e
  injection e with e3 e4 e5
  exact ⟨g, cap, by rw [e2, e3, e5], by omega, hb, hw⟩
theorem rd_some {w : World} {p : Option Addr} {xs : List (BitVec 8)} (h : Rd w p xs) (h0 : 0 < xs.length) : ∃ g o, p = some ⟨g, o, none⟩ ∧ ∀ i, i < xs.length → w.cell? ⟨g, o + i, none⟩ = some (.int .u8 (el (xs.getD i 0#8))) := by
  rcases h with h | ⟨g, o, e, hc⟩
  · rw [h] at h0; exact absurd h0 (by simp)
  · exact ⟨g, o, e, hc⟩
theorem rd_cells {w : World} {b o : Nat} {xs : List (BitVec 8)} (h : Rd w (some ⟨b, o, none⟩) xs) : ∀ i, i < xs.length → w.cell? ⟨b, o + i, none⟩ = some (.int .u8 (el (xs.getD i 0#8))) := by
  rcases h with h | ⟨g, o', e, hc⟩
  · subst h; intro i hi; simp at hi
  · injection e with e; injection e with e1 e2; subst e1 e2; exact hc
theorem rd_blk {w : World} {b o : Nat} {xs : List (BitVec 8)} (h : Rd w (some ⟨b, o, none⟩) xs) (h0 : 0 < xs.length) : b < w.heap.size := block_lt_of_cell (rd_cells h 0 h0)
theorem gset8 {w W : World} {g : Nat} (h : w.grownBy W (some g)) (z k : Nat) (v : Value) : w.grownBy ((W.drewN z).setCell ⟨g, k, none⟩ v) (some g) := by
  refine ⟨h.os, ?_, h.output, ?_, fun i hi hne => ?_⟩
  · rw [← h.tape]; rfl
  · have := h.size; simp [World.setCell]; exact this
  · rw [Below.heap_setCell _ _ _ _ (fun e => hne (by rw [e]))]
    exact h.block i hi hne
theorem far8 {w w' : World} {g b o : Nat} {v : Value} (h : w.cell? ⟨b, o, none⟩ = some v) (hg : w.grownBy w' (some g)) (hne : b ≠ g) : w'.cell? ⟨b, o, none⟩ = some v := by
  rw [hg.cell_far ⟨b, o, none⟩ (block_lt_of_cell h) (by intro e; injection e with e; exact hne e)]; exact h
theorem sw_w1 {x y z : Nat} (h : x + y = z) (hb : z ≤ 140737488355328) : wrap64 ((x : Int) + (y : Int)) = (z : Int) := by unfold wrap64; omega
theorem sw_w2 {x y z : Nat} (h : x = y + z) (hb : x ≤ 140737488355328) : wrap64 ((x : Int) - (y : Int)) = (z : Int) := by unfold wrap64; omega
theorem sw_w4 {x z n : Nat} (h : x + 1 = z) (hk : x < n) (hb : n ≤ 1000000000) : wrap64 ((x : Int) + 1) = (z : Int) := by unfold wrap64; omega
theorem sw_w3 {x z : Nat} (h : x + 1 = z) (hb : z ≤ 140737488355328) : wrap64 ((x : Int) + 1) = (z : Int) := by unfold wrap64; omega
theorem sw_t {al0 be t m len X : Nat} (ht : t < m) (hl : ([] : List (BitVec 8)).length + len ≤ 140737488355328) (h : len ≤ X ∧ al0 + m ≤ be ∧ be + m ≤ len) : t + 1 ≤ m ∧ t + 1 ≤ 140737488355328 := by
  have hl' : len ≤ 140737488355328 := by simpa using hl
  omega
theorem sw_meas {t m : Nat} (h : wrap64 ((t : Int) + 1) = ((t + 1 : Nat) : Int)) (hm : t + 1 ≤ m) : m - (intOf (.int .i64 (wrap64 ((t : Int) + 1)))).toNat < m - (intOf (.int .i64 (t : Int))).toNat := by
  rw [h]; simp only [intOf, Int.toNat_natCast]; omega
theorem two_vr (w : World) (j k : Nat) : Vr (w.alloc (.cells #[.int .i64 (j : Int), .int .i64 (k : Int)] 3)) (some ⟨w.heap.size, 0, none⟩) (ic [j, k]) := by
  refine .inr ⟨w.heap.size, 0, rfl, fun i u hu => ?_⟩
  match i, hu with
  | 0, hu =>
    rw [cell_of_row _ _ _ _ _ (0, 0) (heap_alloc_new w _), ← hu]; rfl
  | 1, hu =>
    rw [cell_of_row _ _ _ _ _ (0, 0) (heap_alloc_new w _), ← hu]; rfl
theorem sw_facts {al0 be t m len X : Nat} {f : List (BitVec 8)} (hl : ([] : List (BitVec 8)).length + len ≤ 140737488355328) (h : len ≤ X ∧ al0 + m ≤ be ∧ be + m ≤ len) (ht : t < m) (hf : f.length = len) : ∃ A1 B1 : Nat, Hid (al0 + t = A1 ∧ be + t = B1) ∧ wrap64 ((al0 : Int) + (t : Int)) = (A1 : Int) ∧ wrap64 ((be : Int) + (t : Int)) = (B1 : Int) ∧ (A1 : Int) < (len : Int) ∧ (B1 : Int) < (len : Int) ∧ Hid (A1 < f.length ∧ B1 < f.length ∧ A1 < be ∧ A1 ≠ B1) := by
  have hl' : len ≤ 140737488355328 := by simpa using hl
  refine ⟨al0 + t, be + t, ⟨rfl, rfl⟩, sw_w1 rfl (by omega), sw_w1 rfl (by omega), by omega, by omega, (by show _ ∧ _ ∧ _ ∧ _; omega)⟩
section
attribute [local irreducible] Calls el Hd.cs Hd.sh chk Wr swl fn bgs
end
end Go.Proofs.Ytkafbeicgaoebaa
/-
  FrameSwaps: all ways.
-/
namespace Go.Proofs.Ytkafbeicgaoebaa
open Go.RowKit
end Go.Proofs.Ytkafbeicgaoebaa
