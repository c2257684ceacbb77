/-
  FrameSwaps: the walk.
-/
import Derived.Test.YtfgofphabihjbaaSz8
import Derived.Deep.AppendLies
import Derived.BigRegion
namespace Go.Proofs.Ytfgofphabihjbaa
open Go.RowKit
theorem bd8 {B : Nat} {a w : World} (h : Below B a w) (n : Nat) : Below B a (w.drewN n) := ⟨h.os, h.tape, h.output, h.size, h.block⟩
section
attribute [local irreducible] Calls el Hd.cs Hd.sh chk Wr swl fn
set_option maxHeartbeats 8000000 in
set_option maxRecDepth 1000000 in
theorem frameSwaps_no (h : Hd) (hin : h.In) (hy : h.key.length ≤ 9223372036854775807) (a : Option Addr) (n c : Nat) (j k : Int) (w : World) (hc : chk h ≠ 0) :
    Calls Try.prog 3 #[.agg (h.sh (.slice a n c)), .int .i64 j, .int .i64 k] w fun e w' => e = .returned (.bool true) ∧ Below w.heap.size w w' := by
  have al : ∀ (W : World) (o : Obj), Below W.heap.size W (W.alloc o) := fun W o => (Below.refl _ _).alloc (Nat.le_refl _) o
  have AW := (show Hid _ from awake_any)
  have S0 := (show Hid (SdAt (w.alloc (.cells (h.sh (.slice a n c)) 31)) w.heap.size h (.slice a n c)) from heap_alloc_new w _)
  have B0 := (show Hid (Below w.heap.size w (w.alloc (.cells (h.sh (.slice a n c)) 31))) from al _ _)
  have FN := (show Hid _ from fun W => fit8_no h hin hy a n c W hc)
  clear hc
  go_enter Try.func3, Try.ntmps3
  go_wp2_with (first
    | (go_at_call 5; refine (AW.out _).mono ?_; rintro e w1 ⟨rfl, hb1⟩; have S1 := (show Hid (SdAt w1 w.heap.size h (.slice a n c)) from SdAt.below S0.out hb1); have Bw1 := (show Hid (Below w.heap.size w w1) from bt B0.out hb1); clear S0 B0)
    | (refine wpList_ldS rfl _ rfl w.heap.size rfl S1.out ?_)
    | (go_at_call 6; refine (FN.out _).mono ?_; rintro e w2 ⟨rfl, hb2⟩)
    | (refine wpList_stS h (.slice a n c) rfl rfl _ _ rfl rfl w2.heap.size rfl rfl (sz0 (heap_alloc_new w2 _)) ?_; intro w3 H3 hT3; have B13 := (show Hid (Below w1.heap.size w1 w3) from bt hb2 (hT3.2.1 _ _ (al w2 _) (Nat.le_refl _)))))
  go_ret
  exact ⟨rfl, bt Bw1.out B13.out⟩
set_option maxHeartbeats 16000000 in
set_option maxRecDepth 1000000 in
theorem frameSwaps_e1 (h : Hd) (hin : h.In) (a : Option Addr) (n c : Nat) (bl : List (List (BitVec 8))) (hb : bl.length = n) (j k : Int) (f1 : j < 0) (w : World) (hR : Rws w a bl) (ok : h.Ok) :
    Calls Try.prog 3 #[.agg (h.sh (.slice a n c)), .int .i64 j, .int .i64 k] w fun e w' => e = .returned (.bool true) ∧ Below w.heap.size w w' := by
  have al : ∀ (W : World) (o : Obj), Below W.heap.size W (W.alloc o) := fun W o => (Below.refl _ _).alloc (Nat.le_refl _) o
  have AW := (show Hid _ from awake_any)
  have S0 := (show Hid (SdAt (w.alloc (.cells (h.sh (.slice a n c)) 31)) w.heap.size h (.slice a n c)) from heap_alloc_new w _)
  have Q0 := (show Hid (Rws (w.alloc (.cells (h.sh (.slice a n c)) 31)) a bl) from Rws.below hR (al _ _))
  have B0 := (show Hid (Below w.heap.size w (w.alloc (.cells (h.sh (.slice a n c)) 31))) from al _ _)
  have FO := (show Hid (∀ W : World, Rws W a bl → _) from fun W hW => fit8_ok h hin ok (w := W) (p := a) hW n c hb)
  have hm := fit_may h ok bl
  generalize hB : fitB h.ls bl = B at *
  clear hB
  have g1 : decide (j < 0) = true := by simp [f1]
  clear hR
  go_enter Try.func3, Try.ntmps3
  go_wp2_with (first
    | (go_at_call 5; refine (AW.out _).mono ?_; rintro e w1 ⟨rfl, hb1⟩; have S1 := (show Hid (SdAt w1 w.heap.size h (.slice a n c)) from SdAt.below S0.out hb1); have Q1 := (show Hid (Rws w1 a bl) from Rws.below Q0.out hb1); have Bw1 := (show Hid (Below w.heap.size w w1) from bt B0.out hb1); clear S0 Q0 B0)
    | (refine wpList_ldS rfl _ rfl w.heap.size rfl S1.out ?_)
    | (go_at_call 6; refine (FO.out _ Q1.out).mono ?_; rintro e w2 ⟨v2, rfl, hB2, hb2⟩; obtain ⟨q2, d2, rfl, hd2, hR2⟩ := hB2.rws; have R2 := (show Hid (Rws w2 q2 B) from hR2); clear hB2 hR2)
    | (refine wpList_stS h (.slice q2 B.length d2) rfl rfl _ _ rfl rfl w2.heap.size rfl rfl (sz0 (heap_alloc_new w2 _)) ?_; intro w3 H3 hT3; have B23 := hT3.2.1 _ _ (al w2 _) (Nat.le_refl _); have S3 := (show Hid (SdAt w3 w2.heap.size h (.slice q2 B.length d2)) from H3); have R3 := (show Hid (Rws w3 q2 B) from Rws.below R2.out B23); have Bw3 := (show Hid (Below w.heap.size w w3) from bt (bt Bw1.out hb2) B23); have s16 := S3.out.last; clear S1 Q1 hT3 H3 R2 Bw1 B23))
  go_quiet (fail)
  go_wp2
  go_ret
  exact ⟨rfl, bd8 Bw3.out _⟩
set_option maxHeartbeats 16000000 in
set_option maxRecDepth 1000000 in
theorem frameSwaps_e2 (h : Hd) (hin : h.In) (a : Option Addr) (n c : Nat) (bl : List (List (BitVec 8))) (hb : bl.length = n) (j k : Int) (f1 : ¬ j < 0) (f2 : k ≤ j) (w : World) (hR : Rws w a bl) (ok : h.Ok) :
    Calls Try.prog 3 #[.agg (h.sh (.slice a n c)), .int .i64 j, .int .i64 k] w fun e w' => e = .returned (.bool true) ∧ Below w.heap.size w w' := by
  have al : ∀ (W : World) (o : Obj), Below W.heap.size W (W.alloc o) := fun W o => (Below.refl _ _).alloc (Nat.le_refl _) o
  have AW := (show Hid _ from awake_any)
  have S0 := (show Hid (SdAt (w.alloc (.cells (h.sh (.slice a n c)) 31)) w.heap.size h (.slice a n c)) from heap_alloc_new w _)
  have Q0 := (show Hid (Rws (w.alloc (.cells (h.sh (.slice a n c)) 31)) a bl) from Rws.below hR (al _ _))
  have B0 := (show Hid (Below w.heap.size w (w.alloc (.cells (h.sh (.slice a n c)) 31))) from al _ _)
  have FO := (show Hid (∀ W : World, Rws W a bl → _) from fun W hW => fit8_ok h hin ok (w := W) (p := a) hW n c hb)
  have hm := fit_may h ok bl
  generalize hB : fitB h.ls bl = B at *
  clear hB
  have g1 : decide (j < 0) = false := by simp [f1]
  have g2 : decide (k ≤ j) = true := by simp [f2]
  clear hR
  go_enter Try.func3, Try.ntmps3
  go_wp2_with (first
    | (go_at_call 5; refine (AW.out _).mono ?_; rintro e w1 ⟨rfl, hb1⟩; have S1 := (show Hid (SdAt w1 w.heap.size h (.slice a n c)) from SdAt.below S0.out hb1); have Q1 := (show Hid (Rws w1 a bl) from Rws.below Q0.out hb1); have Bw1 := (show Hid (Below w.heap.size w w1) from bt B0.out hb1); clear S0 Q0 B0)
    | (refine wpList_ldS rfl _ rfl w.heap.size rfl S1.out ?_)
    | (go_at_call 6; refine (FO.out _ Q1.out).mono ?_; rintro e w2 ⟨v2, rfl, hB2, hb2⟩; obtain ⟨q2, d2, rfl, hd2, hR2⟩ := hB2.rws; have R2 := (show Hid (Rws w2 q2 B) from hR2); clear hB2 hR2)
    | (refine wpList_stS h (.slice q2 B.length d2) rfl rfl _ _ rfl rfl w2.heap.size rfl rfl (sz0 (heap_alloc_new w2 _)) ?_; intro w3 H3 hT3; have B23 := hT3.2.1 _ _ (al w2 _) (Nat.le_refl _); have S3 := (show Hid (SdAt w3 w2.heap.size h (.slice q2 B.length d2)) from H3); have R3 := (show Hid (Rws w3 q2 B) from Rws.below R2.out B23); have Bw3 := (show Hid (Below w.heap.size w w3) from bt (bt Bw1.out hb2) B23); have s16 := S3.out.last; clear S1 Q1 hT3 H3 R2 Bw1 B23))
  go_quiet (fail)
  go_wp2
  go_ret
  exact ⟨rfl, bd8 Bw3.out _⟩
set_option maxHeartbeats 16000000 in
set_option maxRecDepth 1000000 in
theorem frameSwaps_e3 (h : Hd) (hin : h.In) (a : Option Addr) (n c : Nat) (bl : List (List (BitVec 8))) (hb : bl.length = n) (j k : Int) (f1 : ¬ j < 0) (f2 : ¬ k ≤ j) (f3 : ((fitB h.ls bl).length : Int) ≤ k) (w : World) (hR : Rws w a bl) (ok : h.Ok) :
    Calls Try.prog 3 #[.agg (h.sh (.slice a n c)), .int .i64 j, .int .i64 k] w fun e w' => e = .returned (.bool true) ∧ Below w.heap.size w w' := by
  have al : ∀ (W : World) (o : Obj), Below W.heap.size W (W.alloc o) := fun W o => (Below.refl _ _).alloc (Nat.le_refl _) o
  have AW := (show Hid _ from awake_any)
  have S0 := (show Hid (SdAt (w.alloc (.cells (h.sh (.slice a n c)) 31)) w.heap.size h (.slice a n c)) from heap_alloc_new w _)
  have Q0 := (show Hid (Rws (w.alloc (.cells (h.sh (.slice a n c)) 31)) a bl) from Rws.below hR (al _ _))
  have B0 := (show Hid (Below w.heap.size w (w.alloc (.cells (h.sh (.slice a n c)) 31))) from al _ _)
  have FO := (show Hid (∀ W : World, Rws W a bl → _) from fun W hW => fit8_ok h hin ok (w := W) (p := a) hW n c hb)
  have hm := fit_may h ok bl
  generalize hB : fitB h.ls bl = B at *
  clear hB
  have g1 : decide (j < 0) = false := by simp [f1]
  have g2 : decide (k ≤ j) = false := by simp [f2]
  have g3 : decide ((B.length : Int) ≤ k) = true := by simp [f3]
  clear hR
  go_enter Try.func3, Try.ntmps3
  go_wp2_with (first
    | (go_at_call 5; refine (AW.out _).mono ?_; rintro e w1 ⟨rfl, hb1⟩; have S1 := (show Hid (SdAt w1 w.heap.size h (.slice a n c)) from SdAt.below S0.out hb1); have Q1 := (show Hid (Rws w1 a bl) from Rws.below Q0.out hb1); have Bw1 := (show Hid (Below w.heap.size w w1) from bt B0.out hb1); clear S0 Q0 B0)
    | (refine wpList_ldS rfl _ rfl w.heap.size rfl S1.out ?_)
    | (go_at_call 6; refine (FO.out _ Q1.out).mono ?_; rintro e w2 ⟨v2, rfl, hB2, hb2⟩; obtain ⟨q2, d2, rfl, hd2, hR2⟩ := hB2.rws; have R2 := (show Hid (Rws w2 q2 B) from hR2); clear hB2 hR2)
    | (refine wpList_stS h (.slice q2 B.length d2) rfl rfl _ _ rfl rfl w2.heap.size rfl rfl (sz0 (heap_alloc_new w2 _)) ?_; intro w3 H3 hT3; have B23 := hT3.2.1 _ _ (al w2 _) (Nat.le_refl _); have S3 := (show Hid (SdAt w3 w2.heap.size h (.slice q2 B.length d2)) from H3); have R3 := (show Hid (Rws w3 q2 B) from Rws.below R2.out B23); have Bw3 := (show Hid (Below w.heap.size w w3) from bt (bt Bw1.out hb2) B23); have s16 := S3.out.last; clear S1 Q1 hT3 H3 R2 Bw1 B23))
  go_quiet (fail)
  go_wp2
  go_ret
  exact ⟨rfl, bd8 Bw3.out _⟩
set_option maxHeartbeats 16000000 in
set_option maxRecDepth 1000000 in
theorem frameSwaps_e4 (h : Hd) (hin : h.In) (a : Option Addr) (n c : Nat) (bl : List (List (BitVec 8))) (hb : bl.length = n) (j k : Nat) (hjk : j < k) (hkn : k < (fitB h.ls bl).length) (hne : ¬ ((fitB h.ls bl).getD j []).length = ((fitB h.ls bl).getD k []).length) (w : World) (hR : Rws w a bl) (ok : h.Ok) :
    Calls Try.prog 3 #[.agg (h.sh (.slice a n c)), .int .i64 (j : Int), .int .i64 (k : Int)] w fun e w' => e = .returned (.bool true) ∧ Below w.heap.size w w' := by
  have al : ∀ (W : World) (o : Obj), Below W.heap.size W (W.alloc o) := fun W o => (Below.refl _ _).alloc (Nat.le_refl _) o
  have AW := (show Hid _ from awake_any)
  have S0 := (show Hid (SdAt (w.alloc (.cells (h.sh (.slice a n c)) 31)) w.heap.size h (.slice a n c)) from heap_alloc_new w _)
  have Q0 := (show Hid (Rws (w.alloc (.cells (h.sh (.slice a n c)) 31)) a bl) from Rws.below hR (al _ _))
  have B0 := (show Hid (Below w.heap.size w (w.alloc (.cells (h.sh (.slice a n c)) 31))) from al _ _)
  have FO := (show Hid (∀ W : World, Rws W a bl → _) from fun W hW => fit8_ok h hin ok (w := W) (p := a) hW n c hb)
  have hm := fit_may h ok bl
  generalize hB : fitB h.ls bl = B at *
  clear hB
  have f1 : ¬ (j : Int) < 0 := by omega
  have f2 : ¬ (k : Int) ≤ (j : Int) := by omega
  have f3 : ¬ (B.length : Int) ≤ (k : Int) := by omega
  have g1 : decide ((j : Int) < 0) = false := by simp
  have g2 : decide (k ≤ j) = false := by simp; omega
  have g3 : decide (B.length ≤ k) = false := by simp; omega
  have i1 : (j : Int) < (B.length : Int) := by omega
  have i2 : (k : Int) < (B.length : Int) := by omega
  obtain ⟨x, hx⟩ : ∃ x, x = (B.getD j []).length := ⟨_, rfl⟩
  obtain ⟨y, hyy⟩ : ∃ y, y = (B.getD k []).length := ⟨_, rfl⟩
  have n4 : ¬ x = y := by omega
  have n5 : ¬ (x : Int) = (y : Int) := by omega
  have g4 : decide (x = y) = false := by simp [n4]
  have g5 : decide ((x : Int) = (y : Int)) = false := by simpa using n5
  have g6 : (x == y) = false := by simp [n4]
  have g8 : ((x : Int) != (y : Int)) = true := by simpa using n5
  have g7 : ((x : Int) == (y : Int)) = false := by simpa using n5
  clear hR
  go_enter Try.func3, Try.ntmps3
  go_wp2_with (first
    | (go_at_call 5; refine (AW.out _).mono ?_; rintro e w1 ⟨rfl, hb1⟩; have S1 := (show Hid (SdAt w1 w.heap.size h (.slice a n c)) from SdAt.below S0.out hb1); have Q1 := (show Hid (Rws w1 a bl) from Rws.below Q0.out hb1); have Bw1 := (show Hid (Below w.heap.size w w1) from bt B0.out hb1); clear S0 Q0 B0)
    | (refine wpList_ldS rfl _ rfl w.heap.size rfl S1.out ?_)
    | (go_at_call 6; refine (FO.out _ Q1.out).mono ?_; rintro e w2 ⟨v2, rfl, hB2, hb2⟩; obtain ⟨q2, d2, rfl, hd2, hR2⟩ := hB2.rws; have R2 := (show Hid (Rws w2 q2 B) from hR2); clear hB2 hR2)
    | (refine wpList_stS h (.slice q2 B.length d2) rfl rfl _ _ rfl rfl w2.heap.size rfl rfl (sz0 (heap_alloc_new w2 _)) ?_; intro w3 H3 hT3; have B23 := hT3.2.1 _ _ (al w2 _) (Nat.le_refl _); have S3 := (show Hid (SdAt w3 w2.heap.size h (.slice q2 B.length d2)) from H3); have R3 := (show Hid (Rws w3 q2 B) from Rws.below R2.out B23); have Bw3 := (show Hid (Below w.heap.size w w3) from bt (bt Bw1.out hb2) B23); have s16 := S3.out.last; clear S1 Q1 hT3 H3 R2 Bw1 B23))
  obtain ⟨b1, o1, q1, c1, ep1, hcj, -, -⟩ := Rws.row R3.out j (by omega)
  subst ep1
  obtain ⟨b2, o2, q4, c4', ep2, hck, -, -⟩ := Rws.row R3.out k (by omega)
  injection ep2 with ep2
  injection ep2 with ep2 ep3
  subst ep2 ep3
  rw [← hx] at hcj
  rw [← hyy] at hck
  clear hx hyy hne n4 n5 g4 g5 g6 g7
  go_quiet (fail)
  go_wp2
  go_ret
  exact ⟨rfl, bd8 Bw3.out _⟩
end
end Go.Proofs.Ytfgofphabihjbaa
/-
  FrameSwaps: the main way.
-/
namespace Go.Proofs.Ytfgofphabihjbaa
open Go.RowKit
/-- The numbers of an own list, read. -/
theorem oi_cells {w : World} {base : Nat} {v : Value} {L : List Nat} (h : Oi w base v L) (h0 : 0 < L.length) : ∃ g cap, v = .slice (some ⟨g, 0, none⟩) L.length cap ∧ g < w.heap.size ∧ ∀ i, i < L.length → w.cell? ⟨g, i, none⟩ = some (.int .i64 ((L.getD i 0 : Nat) : Int)) := by
  rcases h.2 with ⟨hv, h1⟩ | ⟨g, cap, c, hv, hg, hh, hc, hm, hs, ht⟩
  · omega
  · refine ⟨g, cap, hv, Hm.lt hh, fun i hi => ?_⟩
    have := h.cells (g := g) (by rw [hv]; rfl) i _ (ic_at L i hi)
    rwa [add_pl, Nat.zero_add] at this
theorem ow_wr {w : World} {base : Nat} {v : Value} {xs : List (BitVec 8)} (h : Ow w base v xs) (h0 : 0 < xs.length) : ∃ g cap, v = .slice (some ⟨g, 0, none⟩) xs.length cap ∧ xs.length ≤ cap ∧ base ≤ g ∧ Wr w g xs := by
  obtain ⟨g, cap, e, hb, hw⟩ := h.wr h0
  obtain ⟨p, c, e2, hc, _⟩ := h.rd
  rw [e2] at e
  injection e with e3 e4 e5
  exact ⟨g, cap, by rw [e2, e3, e5], by omega, hb, hw⟩
theorem rd_some {w : World} {p : Option Addr} {xs : List (BitVec 8)} (h : Rd w p xs) (h0 : 0 < xs.length) : ∃ g o, p = some ⟨g, o, none⟩ ∧ ∀ i, i < xs.length → w.cell? ⟨g, o + i, none⟩ = some (.int .u8 (el (xs.getD i 0#8))) := by
  rcases h with h | ⟨g, o, e, hc⟩
  · rw [h] at h0; exact absurd h0 (by simp)
  · exact ⟨g, o, e, hc⟩
theorem rd_cells {w : World} {b o : Nat} {xs : List (BitVec 8)} (h : Rd w (some ⟨b, o, none⟩) xs) : ∀ i, i < xs.length → w.cell? ⟨b, o + i, none⟩ = some (.int .u8 (el (xs.getD i 0#8))) := by
  rcases h with h | ⟨g, o', e, hc⟩
  · subst h; intro i hi; simp at hi
  · injection e with e; injection e with e1 e2; subst e1 e2; exact hc
theorem rd_blk {w : World} {b o : Nat} {xs : List (BitVec 8)} (h : Rd w (some ⟨b, o, none⟩) xs) (h0 : 0 < xs.length) : b < w.heap.size := block_lt_of_cell (rd_cells h 0 h0)
theorem gset8 {w W : World} {g : Nat} (h : w.grownBy W (some g)) (z k : Nat) (v : Value) : w.grownBy ((W.drewN z).setCell ⟨g, k, none⟩ v) (some g) := by
  refine ⟨h.os, ?_, h.output, ?_, fun i hi hne => ?_⟩
  · rw [← h.tape]; rfl
  · have := h.size; simp [World.setCell]; exact this
  · rw [Below.heap_setCell _ _ _ _ (fun e => hne (by rw [e]))]
    exact h.block i hi hne
theorem far8 {w w' : World} {g b o : Nat} {v : Value} (h : w.cell? ⟨b, o, none⟩ = some v) (hg : w.grownBy w' (some g)) (hne : b ≠ g) : w'.cell? ⟨b, o, none⟩ = some v := by
  rw [hg.cell_far ⟨b, o, none⟩ (block_lt_of_cell h) (by intro e; injection e with e; exact hne e)]; exact h
theorem sw_w1 {x y z : Nat} (h : x + y = z) (hb : z ≤ 140737488355328) : wrap64 ((x : Int) + (y : Int)) = (z : Int) := by unfold wrap64; omega
theorem sw_w2 {x y z : Nat} (h : x = y + z) (hb : x ≤ 140737488355328) : wrap64 ((x : Int) - (y : Int)) = (z : Int) := by unfold wrap64; omega
theorem sw_w4 {x z n : Nat} (h : x + 1 = z) (hk : x < n) (hb : n ≤ 1000000000) : wrap64 ((x : Int) + 1) = (z : Int) := by unfold wrap64; omega
theorem sw_w3 {x z : Nat} (h : x + 1 = z) (hb : z ≤ 140737488355328) : wrap64 ((x : Int) + 1) = (z : Int) := by unfold wrap64; omega
theorem sw_t {al0 be t m len X : Nat} (ht : t < m) (hl : ([] : List (BitVec 8)).length + len ≤ 140737488355328) (h : len ≤ X ∧ al0 + m ≤ be ∧ be + m ≤ len) : t + 1 ≤ m ∧ t + 1 ≤ 140737488355328 := by
  have hl' : len ≤ 140737488355328 := by simpa using hl
  omega
theorem sw_meas {t m : Nat} (h : wrap64 ((t : Int) + 1) = ((t + 1 : Nat) : Int)) (hm : t + 1 ≤ m) : m - (intOf (.int .i64 (wrap64 ((t : Int) + 1)))).toNat < m - (intOf (.int .i64 (t : Int))).toNat := by
  rw [h]; simp only [intOf, Int.toNat_natCast]; omega
theorem two_vr (w : World) (j k : Nat) : Vr (w.alloc (.cells #[.int .i64 (j : Int), .int .i64 (k : Int)] 3)) (some ⟨w.heap.size, 0, none⟩) (ic [j, k]) := by
  refine .inr ⟨w.heap.size, 0, rfl, fun i u hu => ?_⟩
  match i, hu with
  | 0, hu =>
    rw [cell_of_row _ _ _ _ _ (0, 0) (heap_alloc_new w _), ← hu]; rfl
  | 1, hu =>
    rw [cell_of_row _ _ _ _ _ (0, 0) (heap_alloc_new w _), ← hu]; rfl
theorem sw_facts {al0 be t m len X : Nat} {f : List (BitVec 8)} (hl : ([] : List (BitVec 8)).length + len ≤ 140737488355328) (h : len ≤ X ∧ al0 + m ≤ be ∧ be + m ≤ len) (ht : t < m) (hf : f.length = len) : ∃ A1 B1 : Nat, Hid (al0 + t = A1 ∧ be + t = B1) ∧ wrap64 ((al0 : Int) + (t : Int)) = (A1 : Int) ∧ wrap64 ((be : Int) + (t : Int)) = (B1 : Int) ∧ (A1 : Int) < (len : Int) ∧ (B1 : Int) < (len : Int) ∧ Hid (A1 < f.length ∧ B1 < f.length ∧ A1 < be ∧ A1 ≠ B1) := by
  have hl' : len ≤ 140737488355328 := by simpa using hl
  refine ⟨al0 + t, be + t, ⟨rfl, rfl⟩, sw_w1 rfl (by omega), sw_w1 rfl (by omega), by omega, by omega, (by show _ ∧ _ ∧ _ ∧ _; omega)⟩
section
attribute [local irreducible] Calls el Hd.cs Hd.sh chk Wr swl fn bgs
set_option maxHeartbeats 16000000 in
set_option maxRecDepth 1000000 in
theorem frameSwaps_main (h : Hd) (hin : h.In) (hy : h.key.length ≤ 9223372036854775807) (a : Option Addr) (n c : Nat) (bl : List (List (BitVec 8))) (hb : bl.length = n) (j k : Nat) (hjk : j < k) (hkn : k < (fitB h.ls bl).length) (heq : ((fitB h.ls bl).getD j []).length = ((fitB h.ls bl).getD k []).length) (w : World) (hR : Rws w a bl) (ok : h.Ok) :
    Calls Try.prog 3 #[.agg (h.sh (.slice a n c)), .int .i64 (j : Int), .int .i64 (k : Int)] w fun e w' => e = .returned (.bool true) ∧ Below w.heap.size w w' := by
  have al : ∀ (W : World) (o : Obj), Below W.heap.size W (W.alloc o) := fun W o => (Below.refl _ _).alloc (Nat.le_refl _) o
  have AW := (show Hid _ from awake_any)
  have S0 := (show Hid (SdAt (w.alloc (.cells (h.sh (.slice a n c)) 31)) w.heap.size h (.slice a n c)) from heap_alloc_new w _)
  have Q0 := (show Hid (Rws (w.alloc (.cells (h.sh (.slice a n c)) 31)) a bl) from Rws.below hR (al _ _))
  have B0 := (show Hid (Below w.heap.size w (w.alloc (.cells (h.sh (.slice a n c)) 31))) from al _ _)
  have FO := (show Hid (∀ W : World, Rws W a bl → _) from fun W hW => fit8_ok h hin ok (w := W) (p := a) hW n c hb)
  have hm := fit_may h ok bl
  have hlb : (fitB h.ls bl).length ≤ 1000000000 := by rw [fitB_len]; exact Nat.le_trans (h.ls_bd ok) (by decide)
  have hfl := fm_is hm
  have hld := h.len_bd ok
  have hky : h.key.length ≤ 255 := by obtain ⟨⟩ := ok; omega
  have hlen : 40 + h.key.length + tot ((fitB h.ls bl).map List.length) = h.len := by rw [hm.2]; rfl
  obtain ⟨al0, be, m, em, b1, b2, b3, b4, b5, b6, b7, b8⟩ := swaps_all h (fitB h.ls bl) hm j k hjk hkn heq (by omega)
  have EN := (show Hid (∀ (W : World) (p : Option Addr) (d : Nat), Rws W p (fitB h.ls bl) → _) from fun W p d hW => encode_any h hin hy (w := W) (p := p) hW (fitB h.ls bl).length d rfl)
  rw [(en_may hm).1, (en_may hm).2] at EN
  have BG := (show Hid (∀ (W : World) (p : Option Addr) (d : Nat), Rws W p (fitB h.ls bl) → _) from fun W p d hW => begins_any h (w := W) (p := p) hW (fitB h.ls bl).length d rfl hlb hky (by omega))
  have NU := (show Hid _ from fun z W => num_any z W)
  have PA := (show Hid (∀ (W : World) (p : Option Addr) (d : Nat), Rd W p (swl (h.fm (fitB h.ls bl)) al0 be m) → h.len ≤ d → Calls Try.prog 10 #[.slice p h.len d] W fun e w' => ∃ v, e = .returned (.tuple #[.agg (hd0.sh v), .int .i64 82]) ∧ Bl w' W.heap.size v [] ∧ Below W.heap.size W w') from fun W p d h1 h2 => by
    have h9 := parse_any (w := W) (p := p) h1 h.len d (by rw [swl_len]; exact hfl) h2 (by omega)
    rw [b8] at h9
    exact h9)
  have SP := (show Hid (∀ (W : World) (p : Option Addr) (d : Nat), Rd W p (swl (h.fm (fitB h.ls bl)) al0 be m) → h.len ≤ d → Calls Try.prog 11 #[.slice p h.len d] W fun e w' => ∃ v, e = .returned (.tuple #[v, .int .i64 0]) ∧ Oi w' W.heap.size v [j, k] ∧ Below W.heap.size W w') from fun W p d h1 h2 => by
    have h9 := spoilt_any rhd_ok (w := W) (p := p) h1 h.len d (by rw [swl_len]; exact hfl) h2 (by omega)
    rw [b7] at h9
    exact h9)
  have hgl := bgs_len (40 + h.key.length) ((fitB h.ls bl).map List.length)
  rw [List.length_map] at hgl
  generalize bgs (40 + h.key.length) ((fitB h.ls bl).map List.length) = G at *
  generalize hf : h.fm (fitB h.ls bl) = f at *
  generalize hB : fitB h.ls bl = B at *
  generalize hL : h.len = len at *
  clear hB hf hL hlen hm
  have f1 : ¬ (j : Int) < 0 := by omega
  have f2 : ¬ (k : Int) ≤ (j : Int) := by omega
  have f3 : ¬ (B.length : Int) ≤ (k : Int) := by omega
  have g1 : decide ((j : Int) < 0) = false := by simp
  have g2 : decide (k ≤ j) = false := by simp; omega
  have g3 : decide (B.length ≤ k) = false := by simp; omega
  have i1 : (j : Int) < (B.length : Int) := by omega
  have i2 : (k : Int) < (B.length : Int) := by omega
  obtain ⟨x, hx⟩ : ∃ x, x = (B.getD j []).length := ⟨_, rfl⟩
  have g8 : ((x : Int) != (x : Int)) = false := by simp
  clear hR
  have HD := (show Hid (len ≤ _ ∧ al0 + m ≤ be ∧ be + m ≤ len) from ⟨hld, b5, b6⟩)
  have HM := (show Hid (sP (swl f al0 be m) = (0, [j, k]) ∧ pS (swl f al0 be m) = (82, hd0, [])) from ⟨b7, b8⟩)
  have HG := (show Hid (G.getD j 0 = al0 ∧ G.getD k 0 = be ∧ G.getD (j + 1) 0 = al0 + m ∧ G.getD B.length 0 = len) from ⟨b1, b2, b3, b4⟩)
  have HLn := (show Hid (([] : List (BitVec 8)).length + len ≤ 140737488355328) from by show _ ≤ _; rw [List.length_nil]; omega)
  have HLb := (show Hid (B.length ≤ 1000000000) from hlb)
  have h40 : 0 < len := by have := b6; omega
  clear b1 b2 b3 b4 b5 b6 b7 b8 em hld hlb hky
  obtain ⟨nG, enG⟩ : ∃ nG, nG = G.length := ⟨_, rfl⟩
  have i3 : (B.length : Int) < (nG : Int) := by omega
  have nn : ((len : Int) != (len : Int)) = false := by simp
  obtain ⟨J1, hJ1⟩ : ∃ J1, j + 1 = J1 := ⟨_, rfl⟩
  obtain ⟨AM, hAM⟩ : ∃ AM, AM = al0 + m := ⟨_, rfl⟩
  have WJ := (show Hid _ from sw_w4 hJ1 (Nat.lt_trans hjk hkn) HLb.out)
  have WM := (show Hid _ from sw_w2 hAM (by have := HD.out; omega))
  have iJ : (j : Int) < (nG : Int) := by omega
  have iK : (k : Int) < (nG : Int) := by omega
  have iJ1 : (J1 : Int) < (nG : Int) := by omega
  have hGj := (show Hid (j < G.length) from by show j < G.length; omega)
  have hGk := (show Hid (k < G.length) from by show k < G.length; omega)
  have hGJ := (show Hid (J1 < G.length) from by show J1 < G.length; omega)
  have HJ := (show Hid (j + 1 = J1 ∧ AM = al0 + m) from ⟨hJ1, hAM⟩)
  clear hJ1 hAM
  have HEG := (show Hid (nG = G.length ∧ G.length = B.length + 1) from ⟨enG, hgl⟩)
  clear enG hgl
  go_enter Try.func3, Try.ntmps3
  go_wp2_with (first
    | (go_at_call 5; refine (AW.out _).mono ?_; rintro e w1 ⟨rfl, hb1⟩; have S1 := (show Hid (SdAt w1 w.heap.size h (.slice a n c)) from SdAt.below S0.out hb1); have Q1 := (show Hid (Rws w1 a bl) from Rws.below Q0.out hb1); have Bw1 := (show Hid (Below w.heap.size w w1) from bt B0.out hb1); clear S0 Q0 B0)
    | (refine wpList_ldS rfl _ rfl w.heap.size rfl S1.out ?_)
    | (go_at_call 6; refine (FO.out _ Q1.out).mono ?_; rintro e w2 ⟨v2, rfl, hB2, hb2⟩; obtain ⟨q2, d2, rfl, hd2, hR2⟩ := hB2.rws; have R2 := (show Hid (Rws w2 q2 B) from hR2); clear hB2 hR2)
    | (refine wpList_stS h (.slice q2 B.length d2) rfl rfl _ _ rfl rfl w2.heap.size rfl rfl (sz0 (heap_alloc_new w2 _)) ?_; intro w3 H3 hT3; have B23 := hT3.2.1 _ _ (al w2 _) (Nat.le_refl _); have S3 := (show Hid (SdAt w3 w2.heap.size h (.slice q2 B.length d2)) from H3); have R3 := (show Hid (Rws w3 q2 B) from Rws.below R2.out B23); have Bw3 := (show Hid (Below w.heap.size w w3) from bt (bt Bw1.out hb2) B23); have s16 := S3.out.last; clear S1 Q1 hT3 H3 R2 Bw1 B23))
  obtain ⟨b1, o1, q1, c1, ep1, hcj, -, -⟩ := Rws.row R3.out j (by omega)
  subst ep1
  obtain ⟨b2, o2, q4, c4', ep2, hck, -, -⟩ := Rws.row R3.out k (by omega)
  injection ep2 with ep2
  injection ep2 with ep2 ep3
  subst ep2 ep3
  rw [← hx] at hcj
  rw [← heq, ← hx] at hck
  clear hx heq
  go_quiet (fail)
  have S4 := (show Hid (∀ z, SdAt (w3.drewN z) w2.heap.size h (.slice (some ⟨b1, o1, none⟩) B.length d2)) from fun z => SdAt.below S3.out (bd8 (Below.refl _ _) z))
  have R4 := (show Hid (∀ z, Rws (w3.drewN z) (some ⟨b1, o1, none⟩) B) from fun z => Rws.below R3.out (bd8 (Below.refl _ _) z))
  have Bw4 := (show Hid (∀ z, Below w.heap.size w (w3.drewN z)) from fun z => bd8 Bw3.out z)
  clear S3 R3 Bw3 s16 hcj hck
  go_wp2_with (first
    | (refine wpList_ldS rfl _ rfl w2.heap.size rfl (S4.out _) ?_)
    | (go_at_call 7; refine (EN.out _ _ _ (R4.out _)).mono ?_; rintro e w5 ⟨v5, rfl, hO5, hb5⟩; obtain ⟨p5, c5, e9, hc5, hr5⟩ := hO5.rd; rw [hfl] at e9 hc5; subst e9; obtain ⟨b5, o5, e5, hq5⟩ := rd_some hr5 (by omega); subst e5; clear hq5; have F5 := (show Hid (Rd w5 (some ⟨b5, o5, none⟩) f) from hr5); have S5 := (show Hid (SdAt w5 w2.heap.size h (.slice (some ⟨b1, o1, none⟩) B.length d2)) from SdAt.below (S4.out _) hb5); have R5 := (show Hid (Rws w5 (some ⟨b1, o1, none⟩) B) from Rws.below (R4.out _) hb5); have Bw5 := (show Hid (Below w.heap.size w w5) from bt (Bw4.out _) hb5); clear hO5 hr5 S4 R4 Bw4 hb5)
    | (go_at_call 8; refine (NU.out _ _).mono ?_; rintro e w99 ⟨rfl, h9⟩; obtain rfl := h9.symm)
    | (refine wpList_ldS rfl _ rfl w2.heap.size rfl S5.out ?_)
    | (go_at_call 9; refine (BG.out _ _ _ R5.out).mono ?_; rintro e w6 ⟨v6, rfl, hO6, hb6⟩; obtain ⟨g6, cap6, e6, hg6, hC6⟩ := oi_cells hO6 (by have := HEG.out.2; omega); rw [← HEG.out.1] at e6; subst e6; have C6 := (show Hid _ from hC6); have F6 := (show Hid (Rd w6 (some ⟨b5, o5, none⟩) f) from Rd.below F5.out hb6); have Bw6 := (show Hid (Below w.heap.size w w6) from bt Bw5.out hb6); have cn := hC6 B.length (by have := HEG.out.2; omega); rw [HG.out.2.2.2] at cn; have O6 := (show Hid (Ow (w6.alloc (.cells #[] 5)) w6.heap.size (.slice (some ⟨w6.heap.size, 0, none⟩) 0 0) []) from Ow.empty w6); have F6a := (show Hid (Rd (w6.alloc (.cells #[] 5)) (some ⟨b5, o5, none⟩) f) from Rd.below F6.out (al _ _)); clear hO6 hC6 hb6 F5 S5 R5 Bw5)
    | (at_builtin; refine wpList_apa rfl (.tmp 77) (.tmp 78) rfl w6.heap.size _ [] rfl O6.out (some ⟨b5, o5, none⟩) len c5 f rfl F6a.out hfl (HLn.out) (al _ _).size ?_; intro v7 w7 hO7 hg7 _; rw [List.nil_append] at hO7; have b67 := O6.out.below_append (al w6 _) (al w6 _).size hg7 (Nat.le_refl _); obtain ⟨g7, cap7, e7, hc7, hg76, hW7⟩ := ow_wr hO7 (by omega); rw [hfl] at e7 hc7; subst e7; have W7 := (show Hid (Wr w7 g7 f) from hW7); have Q5 := (show Hid (∀ i, i < f.length → w7.cell? ⟨b5, o5 + i, none⟩ = some (.int .u8 (el (f.getD i 0#8)))) from rd_cells (Rd.below F6.out b67)); have ne5 := (show Hid (b5 ≠ g7) from by show b5 ≠ g7; have := rd_blk F6.out (by omega); omega); have Bw7 := (show Hid (Below w.heap.size w w7) from bt Bw6.out b67); have C7 := (show Hid (∀ i, i < G.length → w7.cell? ⟨g6, i, none⟩ = some (.int .i64 ((G.getD i 0 : Nat) : Int))) from fun i hi => cell_below (C6.out i hi) b67); have gw7 := (show Hid (w.heap.size ≤ g7) from Nat.le_trans Bw6.out.size hg76); have ne6 := (show Hid (g6 ≠ g7) from by show g6 ≠ g7; omega); clear O6 F6a hO7 hg7 hW7 F6 Bw6 C6 cn))
  have cj := C7.out j hGj.out
  have ck := C7.out k hGk.out
  have cj1 := C7.out J1 hGJ.out
  rw [HG.out.1] at cj
  rw [HG.out.2.1] at ck
  rw [← HJ.out.1, HG.out.2.2.1, ← HJ.out.2, HJ.out.1] at cj1
  have CC := (show Hid _ from And.intro cj (And.intro ck cj1))
  clear cj ck cj1
  go_loopw [15] (fun i wr => ∃ t : Nat, t ≤ m ∧ i = .int .i64 (t : Int) ∧ Hid (Wr wr g7 (swl f al0 be t)) ∧ Hid (w7.grownBy wr (some g7))) (fun i _ => m - (intOf i).toNat)
  case atStart => exact ⟨0, Nat.zero_le _, rfl, (by show Wr _ _ _; rw [swl_zero]; exact W7.out), ⟨rfl, rfl, rfl, Nat.le_refl _, fun _ _ _ => rfl⟩⟩
  case round =>
    obtain ⟨t, ht, rfl, hW, hG⟩ := hrel
    have cj := far8 CC.out.1 hG.out ne6.out
    have ck := far8 CC.out.2.1 hG.out ne6.out
    have cj1 := far8 CC.out.2.2 hG.out ne6.out
    by_cases hlt : t < m
    · have hi : (t : Int) < (m : Int) := by omega
      have wj := WJ.out
      have wm := WM.out
      go_wp2
      go_quiet (fail)
      clear wj wm cj1
      obtain ⟨A1, B1, HE, wA, wB, iA, iB, HL⟩ := sw_facts (f := f) HLn.out HD.out hlt hfl
      have tA := hW.out.cell (i := A1) (by rw [swl_len]; exact HL.out.1)
      have zA := hW.out.frozen A1
      have sB : wr.cell? ⟨b5, o5 + B1, none⟩ = _ := far8 (Q5.out B1 HL.out.2.1) hG.out ne5.out
      obtain ⟨v1, hv1⟩ : ∃ v1, v1 = f.getD B1 0#8 := ⟨_, rfl⟩
      rw [← hv1] at sB
      generalize (.int .u8 (el (fn (swl f al0 be t) A1)) : Value) = old at tA
      have HV := (show Hid (v1 = f.getD B1 0#8) from hv1)
      have HT := (show Hid (t + 1 ≤ m ∧ t + 1 ≤ 140737488355328) from sw_t hlt HLn.out HD.out)
      clear hv1 hlt ht hi
      go_wp2
      go_region
      obtain ⟨X, hX⟩ : ∃ X, X = (wr.drewN (nq + 1)).setCell ⟨g7, A1, none⟩ (.int .u8 (el v1)) := ⟨_, rfl⟩
      rw [← hX]
      have hW1 := (show Hid (Wr X g7 ((swl f al0 be t).set A1 v1)) from Wr.set hW.out (by rw [swl_len]; exact HL.out.1) (by rw [hX]; rfl))
      have hG1 := (show Hid (w7.grownBy X (some g7)) from by show w7.grownBy X _; rw [hX]; exact gset8 hG.out _ _ _)
      clear hX hW hG tA zA sB cj ck
      have cj := far8 CC.out.1 hG1.out ne6.out
      have ck := far8 CC.out.2.1 hG1.out ne6.out
      have tB := hW1.out.cell (i := B1) (by rw [List.length_set, swl_len]; exact HL.out.2.1)
      have zB := hW1.out.frozen B1
      have sA : X.cell? ⟨b5, o5 + A1, none⟩ = _ := far8 (Q5.out A1 HL.out.1) hG1.out ne5.out
      obtain ⟨v2, hv2⟩ : ∃ v2, v2 = f.getD A1 0#8 := ⟨_, rfl⟩
      rw [← hv2] at sA
      generalize (.int .u8 (el (fn ((swl f al0 be t).set A1 v1) B1)) : Value) = old2 at tB
      have HV2 := (show Hid (v2 = f.getD A1 0#8) from hv2)
      clear hv2
      go_wp2
      go_region
      obtain ⟨Y, hY⟩ : ∃ Y, Y = (X.drewN 1).setCell ⟨g7, B1, none⟩ (.int .u8 (el v2)) := ⟨_, rfl⟩
      have hYd : (X.setCell ⟨g7, B1, none⟩ (.int .u8 (el v2))).drew = Y := hY.symm
      rw [hYd]
      clear hYd
      have hW2 := (show Hid (Wr Y g7 (swl f al0 be (t + 1))) from by
        show Wr Y g7 _
        rw [← swl_succ f al0 be t (by rw [HE.out.1]; exact HL.out.2.2.1) (by rw [HE.out.2]; exact HL.out.2.1), HE.out.1, HE.out.2, ← HV.out, ← HV2.out]
        exact Wr.set hW1.out (by rw [List.length_set, swl_len]; exact HL.out.2.1) (by rw [hY]; rfl))
      have hG2 := (show Hid (w7.grownBy Y (some g7)) from by show w7.grownBy Y _; rw [hY]; exact gset8 hG1.out _ _ _)
      clear hY hW1 hG1 tB zB sA cj ck wA wB
      have wt := sw_w3 (x := t) rfl HT.out.2
      go_wp2
      go_roundw
      case rel => exact ⟨t + 1, HT.out.1, by rw [wt], hW2, hG2⟩
      case measure => exact sw_meas wt HT.out.1
    · obtain rfl : t = m := by omega
      have hi : ¬ (t : Int) < (t : Int) := by omega
      have wj := WJ.out
      have wm := WM.out
      go_wp2
      go_quiet (fail)
      clear wj wm cj ck cj1 hi ht
      have Bx := (show Hid (∀ z, Below w.heap.size w (wr.drewN z)) from fun z => bd8 (Bw7.out.grown hG.out Bw7.out.size (fun g hg => by cases hg; exact gw7.out)) z)
      have Rx := (show Hid (∀ z, Rd (wr.drewN z) (some ⟨g7, 0, none⟩) (swl f al0 be t)) from fun z => Rd.below hW.out.rd (bd8 (Below.refl _ _) z))
      clear hG hW
      go_wp2_with (first
        | (go_at_call 10; refine (PA.out _ _ _ (Rx.out _) hc7).mono ?_; rintro e w10 ⟨v10, rfl, hB10, hb10⟩; obtain ⟨q10, d10, hv10, _, _⟩ := hB10.rws; subst hv10; have R10 := (show Hid (Rd w10 (some ⟨g7, 0, none⟩) (swl f al0 be t)) from Rd.below (Rx.out _) hb10); have B10 := (show Hid (Below w.heap.size w w10) from bt (Bx.out _) hb10); clear Rx Bx hb10 hB10)
        | (refine wpList_stS hd0 (.slice q10 ([] : List (List (BitVec 8))).length d10) rfl rfl _ _ rfl rfl w10.heap.size rfl rfl (sz0 (heap_alloc_new w10 _)) ?_; intro w11 H11 hT11; have hb11 := hT11.2.1 _ _ (al w10 _) (Nat.le_refl _); have R11 := (show Hid (Rd w11 (some ⟨g7, 0, none⟩) (swl f al0 be t)) from Rd.below R10.out hb11); have B11 := (show Hid (Below w.heap.size w w11) from bt B10.out hb11); clear R10 B10 hb11 H11 hT11)
        | (go_at_call 11; refine (SP.out _ _ _ R11.out hc7).mono ?_; rintro e w12 ⟨v12, rfl, hO12, hb12⟩; obtain ⟨p12, c12, rfl, hc12, hV12⟩ := hO12.rd; have V12 := (show Hid _ from hV12); have B12 := (show Hid (Below w.heap.size w w12) from bt B11.out hb12); clear hV12 hO12 hb12 B11 R11)
        | (go_at_call 8; refine (NU.out _ _).mono ?_; rintro e w99 ⟨rfl, h9⟩; obtain rfl := h9.symm))
      refine (sameInts_any (xs := [j, k]) (ys := [j, k]) (Vr.below V12.out (al _ _)) (two_vr w12 j k) 2 2 c12 2 rfl rfl (by decide)).mono ?_
      rintro e w13 ⟨rfl, hb13⟩
      rw [decide_eq_true rfl]
      have B13 := (show Hid (Below w.heap.size w w13) from bt (bt B12.out (al w12 (.cells #[.int .i64 (j : Int), .int .i64 (k : Int)] 3))) hb13)
      go_wp2
      go_ret
      exact ⟨rfl, B13.out⟩
end
end Go.Proofs.Ytfgofphabihjbaa
/-
  FrameSwaps: all ways.
-/
namespace Go.Proofs.Ytfgofphabihjbaa
open Go.RowKit
theorem frameSwaps_walk (h : Hd) (hin : h.In) (hy : h.key.length ≤ 9223372036854775807) (a : Option Addr) (n c : Nat) (bl : List (List (BitVec 8))) (hb : bl.length = n) (j k : Int) (w : World) (hR : Rws w a bl) :
    Calls Try.prog 3 #[.agg (h.sh (.slice a n c)), .int .i64 j, .int .i64 k] w fun e w' => e = .returned (.bool true) ∧ Below w.heap.size w w' := by
  by_cases e0 : chk h = 0
  · have ok : h.Ok := (chk_ok h).1 e0
    by_cases f1 : j < 0
    · exact frameSwaps_e1 h hin a n c bl hb j k f1 w hR ok
    · by_cases f2 : k ≤ j
      · exact frameSwaps_e2 h hin a n c bl hb j k f1 f2 w hR ok
      · by_cases f3 : ((fitB h.ls bl).length : Int) ≤ k
        · exact frameSwaps_e3 h hin a n c bl hb j k f1 f2 f3 w hR ok
        · obtain ⟨j', rfl⟩ : ∃ j' : Nat, j = (j' : Int) := ⟨j.toNat, by omega⟩
          obtain ⟨k', rfl⟩ : ∃ k' : Nat, k = (k' : Int) := ⟨k.toNat, by omega⟩
          by_cases f4 : ((fitB h.ls bl).getD j' []).length = ((fitB h.ls bl).getD k' []).length
          · exact frameSwaps_main h hin hy a n c bl hb j' k' (by omega) (by omega) f4 w hR ok
          · exact frameSwaps_e4 h hin a n c bl hb j' k' (by omega) (by omega) f4 w hR ok
  · exact frameSwaps_no h hin hy a n c j k w e0
end Go.Proofs.Ytfgofphabihjbaa
