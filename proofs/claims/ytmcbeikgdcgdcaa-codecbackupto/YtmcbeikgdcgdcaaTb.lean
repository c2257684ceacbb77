/-
  The laws' 'back', its calls 0 to 7.
-/
import Derived.Test.YtmcbeikgdcgdcaaTg
import Derived.Deep.RegionLaw
namespace Go.Proofs.Ytmcbeikgdcgdcaa
open Go.RowKit
/-- What 'back' comes to. -/
def Backs {α : Type} [DecidableEq α] (w : World) (r : Nat) (x : α × List (BitVec 8) × Int) (y : α) (e : Ending) (w' : World) : Prop :=
  w.grownBy w' (some r) ∧ Rdr w' r x.2.1 x.2.2 ∧ e = .returned (.bool (decide (x.1 = y)))
theorem Rdr.heap {w w' : World} {r : Nat} {bs : List (BitVec 8)} {f : Int} (h : Rdr w r bs f) (e : w'.heap = w.heap) : Rdr w' r bs f := by
  obtain ⟨v, hg, hs, hv⟩ := h
  refine ⟨v, by rw [e]; exact hg, ?_, hv⟩
  rcases hs with h1 | ⟨b, o, c, h2, h3, h4⟩
  · exact .inl h1
  · exact .inr ⟨b, o, c, h2, h3, fun i hi => by rw [← h4 i hi]; exact World.cell?_of_block (a := ⟨b, o + i, none⟩) (by rw [e])⟩
section
attribute [local irreducible] Calls el sb lb
set_option maxHeartbeats 4000000 in
set_option maxRecDepth 1000000 in
theorem back0 {w : World} {r : Nat} {l : List (BitVec 8)} {f : Int} (h : Rdr w r l f) (hl : l.length ≤ 1099511627000) (kk : Int) (hk : kk % 9 = 0) (U : Nat) (S : Int) (B : List (BitVec 8)) (T : List (List (BitVec 8))) (pB pT : Option Addr) (cB cT : Nat)   :
    Calls Try.prog 39 #[.pointer (some ⟨r, 0, none⟩), .agg #[.int .i64 kk, .int .u64 (U : Int), .int .i64 S, .slice pB B.length cB, .slice pT T.length cT]] w fun e' w' => Backs w r (res (0) f l (fx 1 l)) (U % 256) e' w' := by
  have al : ∀ (W : World) (o : Obj), Below W.heap.size W (W.alloc o) := fun W o => (Below.refl _ _).alloc (Nat.le_refl _) o
  have PK := (show Hid _ from pick_any kk 9 (by omega) (by omega))
  rw [hk] at PK
  have hlt := h.lt
  obtain ⟨W, hWd⟩ : ∃ W, W = w.alloc (.cells #[.int .i64 kk, .int .u64 (U : Int), .int .i64 S, .slice pB B.length cB, .slice pT T.length cT] 80) := ⟨_, rfl⟩
  have hWb : Below w.heap.size w W := by rw [hWd]; exact al _ _
  have hWn : W.heap[w.heap.size]? = some (.cells #[.int .i64 kk, .int .u64 (U : Int), .int .i64 S, .slice pB B.length cB, .slice pT T.length cT] 80 (0, 0)) := by rw [hWd]; exact heap_alloc_new w _
  have hWs : W.heap.size = w.heap.size + 1 := by rw [hWd, alloc_size]
  have hR := h.below hWb
  have hRnb := hR.nb
  have gq : ∀ X w1 : World, X.grownBy w1 (some r) → X.heap = W.heap → X.os = W.os → X.tape = W.tape → X.output = W.output → W.grownBy w1 (some r) := fun X w1 hg e1 e2 e3 e4 => ⟨hg.os.trans e2, hg.tape.trans e3, hg.output.trans e4, by have := hg.size; rwa [e1] at this, fun i hi hne => by have := hg.block i (by rw [e1]; exact hi) hne; rwa [e1] at this⟩
  obtain ⟨⟨u, l2, f2⟩, hx⟩ : ∃ x, res (0) f l (fx 1 l) = x := ⟨_, rfl⟩
  rw [hx]
  have M := (show Hid (∀ X : World, X.heap = W.heap → Calls Try.prog 69 #[.pointer (some ⟨r, 0, none⟩)] X fun e' w' => Says X r (fun (n : Nat) _ v => v = .int .u8 (n : Int)) (u, l2, f2) e' w') from fun X e => hx ▸ mtk8_any (hR.heap e) hl)
  clear hx
  go_enter Try.func39, Try.ntmps39
  go_wp2_with (first | (go_at_call 31; refine (PK.out _).mono ?_; rintro e2 w2 ⟨rfl, h9⟩; obtain rfl := h9.symm))
  rw [← hWd]
  clear hWd
  have k1 : W.cell? ⟨w.heap.size, 1, none⟩ = some (.int .u64 (U : Int)) := cell_of_row W w.heap.size 1 _ _ (0, 0) hWn
  have c2 : IntKind.u8.wrap (U : Int) = (U : Int) % 256 := by simp [IntKind.wrap, IntKind.bits, IntKind.signed]
  have bq : Hid (((u : Int) == (U : Int) % 256) = decide (u = U % 256)) := (show ((u : Int) == (U : Int) % 256) = decide (u = U % 256) from by by_cases e : u = U % 256; (rw [decide_eq_true e, e]; simp); (rw [decide_eq_false e]; simp; omega))
  go_region_with (go_at_call 69; refine Calls.mono (M.out _ ?_) ?_; exact rfl; rintro e2 w1 ⟨hG1, hR1, v1, rfl, rfl⟩; have hG2 := gq _ _ hG1 rfl rfl rfl rfl; have k2 := hG2.cell k1 (fun e3 => by injection e3 with e3; have e4 : w.heap.size = r := e3; omega))
  all_goals
    go_wp2
    go_ret
    exact ⟨gtrans (grown_below (grefl w _) hWb) hG2, hR1, by first | (rw [← bq.out]; rfl) | (simp only [← bq.out]; rfl)⟩
set_option maxHeartbeats 4000000 in
set_option maxRecDepth 1000000 in
theorem back1 {w : World} {r : Nat} {l : List (BitVec 8)} {f : Int} (h : Rdr w r l f) (hl : l.length ≤ 1099511627000) (kk : Int) (hk : kk % 9 = 1) (U : Nat) (S : Int) (B : List (BitVec 8)) (T : List (List (BitVec 8))) (pB pT : Option Addr) (cB cT : Nat)   :
    Calls Try.prog 39 #[.pointer (some ⟨r, 0, none⟩), .agg #[.int .i64 kk, .int .u64 (U : Int), .int .i64 S, .slice pB B.length cB, .slice pT T.length cT]] w fun e' w' => Backs w r (res (0) f l (fx 2 l)) (U % 65536) e' w' := by
  have al : ∀ (W : World) (o : Obj), Below W.heap.size W (W.alloc o) := fun W o => (Below.refl _ _).alloc (Nat.le_refl _) o
  have PK := (show Hid _ from pick_any kk 9 (by omega) (by omega))
  rw [hk] at PK
  have hlt := h.lt
  obtain ⟨W, hWd⟩ : ∃ W, W = w.alloc (.cells #[.int .i64 kk, .int .u64 (U : Int), .int .i64 S, .slice pB B.length cB, .slice pT T.length cT] 80) := ⟨_, rfl⟩
  have hWb : Below w.heap.size w W := by rw [hWd]; exact al _ _
  have hWn : W.heap[w.heap.size]? = some (.cells #[.int .i64 kk, .int .u64 (U : Int), .int .i64 S, .slice pB B.length cB, .slice pT T.length cT] 80 (0, 0)) := by rw [hWd]; exact heap_alloc_new w _
  have hWs : W.heap.size = w.heap.size + 1 := by rw [hWd, alloc_size]
  have hR := h.below hWb
  have hRnb := hR.nb
  have gq : ∀ X w1 : World, X.grownBy w1 (some r) → X.heap = W.heap → X.os = W.os → X.tape = W.tape → X.output = W.output → W.grownBy w1 (some r) := fun X w1 hg e1 e2 e3 e4 => ⟨hg.os.trans e2, hg.tape.trans e3, hg.output.trans e4, by have := hg.size; rwa [e1] at this, fun i hi hne => by have := hg.block i (by rw [e1]; exact hi) hne; rwa [e1] at this⟩
  obtain ⟨⟨u, l2, f2⟩, hx⟩ : ∃ x, res (0) f l (fx 2 l) = x := ⟨_, rfl⟩
  rw [hx]
  have M := (show Hid (∀ X : World, X.heap = W.heap → Calls Try.prog 70 #[.pointer (some ⟨r, 0, none⟩)] X fun e' w' => Says X r (fun (n : Nat) _ v => v = .int .u16 (n : Int)) (u, l2, f2) e' w') from fun X e => hx ▸ mtk16_any (hR.heap e) hl)
  clear hx
  go_enter Try.func39, Try.ntmps39
  go_wp2_with (first | (go_at_call 31; refine (PK.out _).mono ?_; rintro e2 w2 ⟨rfl, h9⟩; obtain rfl := h9.symm))
  rw [← hWd]
  clear hWd
  have k1 : W.cell? ⟨w.heap.size, 1, none⟩ = some (.int .u64 (U : Int)) := cell_of_row W w.heap.size 1 _ _ (0, 0) hWn
  have c2 : IntKind.u16.wrap (U : Int) = (U : Int) % 65536 := by simp [IntKind.wrap, IntKind.bits, IntKind.signed]
  have bq : Hid (((u : Int) == (U : Int) % 65536) = decide (u = U % 65536)) := (show ((u : Int) == (U : Int) % 65536) = decide (u = U % 65536) from by by_cases e : u = U % 65536; (rw [decide_eq_true e, e]; simp); (rw [decide_eq_false e]; simp; omega))
  go_region_with (go_at_call 70; refine Calls.mono (M.out _ ?_) ?_; exact rfl; rintro e2 w1 ⟨hG1, hR1, v1, rfl, rfl⟩; have hG2 := gq _ _ hG1 rfl rfl rfl rfl; have k2 := hG2.cell k1 (fun e3 => by injection e3 with e3; have e4 : w.heap.size = r := e3; omega))
  all_goals
    go_wp2
    go_ret
    exact ⟨gtrans (grown_below (grefl w _) hWb) hG2, hR1, by first | (rw [← bq.out]; rfl) | (simp only [← bq.out]; rfl)⟩
set_option maxHeartbeats 4000000 in
set_option maxRecDepth 1000000 in
theorem back2 {w : World} {r : Nat} {l : List (BitVec 8)} {f : Int} (h : Rdr w r l f) (hl : l.length ≤ 1099511627000) (kk : Int) (hk : kk % 9 = 2) (U : Nat) (S : Int) (B : List (BitVec 8)) (T : List (List (BitVec 8))) (pB pT : Option Addr) (cB cT : Nat)   :
    Calls Try.prog 39 #[.pointer (some ⟨r, 0, none⟩), .agg #[.int .i64 kk, .int .u64 (U : Int), .int .i64 S, .slice pB B.length cB, .slice pT T.length cT]] w fun e' w' => Backs w r (res (0) f l (fx 4 l)) (U % 4294967296) e' w' := by
  have al : ∀ (W : World) (o : Obj), Below W.heap.size W (W.alloc o) := fun W o => (Below.refl _ _).alloc (Nat.le_refl _) o
  have PK := (show Hid _ from pick_any kk 9 (by omega) (by omega))
  rw [hk] at PK
  have hlt := h.lt
  obtain ⟨W, hWd⟩ : ∃ W, W = w.alloc (.cells #[.int .i64 kk, .int .u64 (U : Int), .int .i64 S, .slice pB B.length cB, .slice pT T.length cT] 80) := ⟨_, rfl⟩
  have hWb : Below w.heap.size w W := by rw [hWd]; exact al _ _
  have hWn : W.heap[w.heap.size]? = some (.cells #[.int .i64 kk, .int .u64 (U : Int), .int .i64 S, .slice pB B.length cB, .slice pT T.length cT] 80 (0, 0)) := by rw [hWd]; exact heap_alloc_new w _
  have hWs : W.heap.size = w.heap.size + 1 := by rw [hWd, alloc_size]
  have hR := h.below hWb
  have hRnb := hR.nb
  have gq : ∀ X w1 : World, X.grownBy w1 (some r) → X.heap = W.heap → X.os = W.os → X.tape = W.tape → X.output = W.output → W.grownBy w1 (some r) := fun X w1 hg e1 e2 e3 e4 => ⟨hg.os.trans e2, hg.tape.trans e3, hg.output.trans e4, by have := hg.size; rwa [e1] at this, fun i hi hne => by have := hg.block i (by rw [e1]; exact hi) hne; rwa [e1] at this⟩
  obtain ⟨⟨u, l2, f2⟩, hx⟩ : ∃ x, res (0) f l (fx 4 l) = x := ⟨_, rfl⟩
  rw [hx]
  have M := (show Hid (∀ X : World, X.heap = W.heap → Calls Try.prog 71 #[.pointer (some ⟨r, 0, none⟩)] X fun e' w' => Says X r (fun (n : Nat) _ v => v = .int .u32 (n : Int)) (u, l2, f2) e' w') from fun X e => hx ▸ mtk32_any (hR.heap e) hl)
  clear hx
  go_enter Try.func39, Try.ntmps39
  go_wp2_with (first | (go_at_call 31; refine (PK.out _).mono ?_; rintro e2 w2 ⟨rfl, h9⟩; obtain rfl := h9.symm))
  rw [← hWd]
  clear hWd
  have k1 : W.cell? ⟨w.heap.size, 1, none⟩ = some (.int .u64 (U : Int)) := cell_of_row W w.heap.size 1 _ _ (0, 0) hWn
  have c2 : IntKind.u32.wrap (U : Int) = (U : Int) % 4294967296 := by simp [IntKind.wrap, IntKind.bits, IntKind.signed]
  have bq : Hid (((u : Int) == (U : Int) % 4294967296) = decide (u = U % 4294967296)) := (show ((u : Int) == (U : Int) % 4294967296) = decide (u = U % 4294967296) from by by_cases e : u = U % 4294967296; (rw [decide_eq_true e, e]; simp); (rw [decide_eq_false e]; simp; omega))
  go_region_with (go_at_call 71; refine Calls.mono (M.out _ ?_) ?_; exact rfl; rintro e2 w1 ⟨hG1, hR1, v1, rfl, rfl⟩; have hG2 := gq _ _ hG1 rfl rfl rfl rfl; have k2 := hG2.cell k1 (fun e3 => by injection e3 with e3; have e4 : w.heap.size = r := e3; omega))
  all_goals
    go_wp2
    go_ret
    exact ⟨gtrans (grown_below (grefl w _) hWb) hG2, hR1, by first | (rw [← bq.out]; rfl) | (simp only [← bq.out]; rfl)⟩
set_option maxHeartbeats 4000000 in
set_option maxRecDepth 1000000 in
theorem back3 {w : World} {r : Nat} {l : List (BitVec 8)} {f : Int} (h : Rdr w r l f) (hl : l.length ≤ 1099511627000) (kk : Int) (hk : kk % 9 = 3) (U : Nat) (S : Int) (B : List (BitVec 8)) (T : List (List (BitVec 8))) (pB pT : Option Addr) (cB cT : Nat)   :
    Calls Try.prog 39 #[.pointer (some ⟨r, 0, none⟩), .agg #[.int .i64 kk, .int .u64 (U : Int), .int .i64 S, .slice pB B.length cB, .slice pT T.length cT]] w fun e' w' => Backs w r (res (0) f l (fx 8 l)) (U) e' w' := by
  have al : ∀ (W : World) (o : Obj), Below W.heap.size W (W.alloc o) := fun W o => (Below.refl _ _).alloc (Nat.le_refl _) o
  have PK := (show Hid _ from pick_any kk 9 (by omega) (by omega))
  rw [hk] at PK
  have hlt := h.lt
  obtain ⟨W, hWd⟩ : ∃ W, W = w.alloc (.cells #[.int .i64 kk, .int .u64 (U : Int), .int .i64 S, .slice pB B.length cB, .slice pT T.length cT] 80) := ⟨_, rfl⟩
  have hWb : Below w.heap.size w W := by rw [hWd]; exact al _ _
  have hWn : W.heap[w.heap.size]? = some (.cells #[.int .i64 kk, .int .u64 (U : Int), .int .i64 S, .slice pB B.length cB, .slice pT T.length cT] 80 (0, 0)) := by rw [hWd]; exact heap_alloc_new w _
  have hWs : W.heap.size = w.heap.size + 1 := by rw [hWd, alloc_size]
  have hR := h.below hWb
  have hRnb := hR.nb
  have gq : ∀ X w1 : World, X.grownBy w1 (some r) → X.heap = W.heap → X.os = W.os → X.tape = W.tape → X.output = W.output → W.grownBy w1 (some r) := fun X w1 hg e1 e2 e3 e4 => ⟨hg.os.trans e2, hg.tape.trans e3, hg.output.trans e4, by have := hg.size; rwa [e1] at this, fun i hi hne => by have := hg.block i (by rw [e1]; exact hi) hne; rwa [e1] at this⟩
  obtain ⟨⟨u, l2, f2⟩, hx⟩ : ∃ x, res (0) f l (fx 8 l) = x := ⟨_, rfl⟩
  rw [hx]
  have M := (show Hid (∀ X : World, X.heap = W.heap → Calls Try.prog 72 #[.pointer (some ⟨r, 0, none⟩)] X fun e' w' => Says X r (fun (n : Nat) _ v => v = .int .u64 (n : Int)) (u, l2, f2) e' w') from fun X e => hx ▸ mtk64_any (hR.heap e) hl)
  clear hx
  go_enter Try.func39, Try.ntmps39
  go_wp2_with (first | (go_at_call 31; refine (PK.out _).mono ?_; rintro e2 w2 ⟨rfl, h9⟩; obtain rfl := h9.symm))
  rw [← hWd]
  clear hWd
  have k1 : W.cell? ⟨w.heap.size, 1, none⟩ = some (.int .u64 (U : Int)) := cell_of_row W w.heap.size 1 _ _ (0, 0) hWn
  have bq : Hid (((u : Int) == (U : Int)) = decide (u = U)) := (show ((u : Int) == (U : Int)) = decide (u = U) from by by_cases e : u = U; (rw [decide_eq_true e, e]; simp); (rw [decide_eq_false e]; simp; omega))
  go_region_with (go_at_call 72; refine Calls.mono (M.out _ ?_) ?_; exact rfl; rintro e2 w1 ⟨hG1, hR1, v1, rfl, rfl⟩; have hG2 := gq _ _ hG1 rfl rfl rfl rfl; have k2 := hG2.cell k1 (fun e3 => by injection e3 with e3; have e4 : w.heap.size = r := e3; omega))
  all_goals
    go_wp2
    go_ret
    exact ⟨gtrans (grown_below (grefl w _) hWb) hG2, hR1, by first | (rw [← bq.out]; rfl) | (simp only [← bq.out]; rfl)⟩
set_option maxHeartbeats 4000000 in
set_option maxRecDepth 1000000 in
theorem back4 {w : World} {r : Nat} {l : List (BitVec 8)} {f : Int} (h : Rdr w r l f) (hl : l.length ≤ 1099511627000) (kk : Int) (hk : kk % 9 = 4) (U : Nat) (S : Int) (B : List (BitVec 8)) (T : List (List (BitVec 8))) (pB pT : Option Addr) (cB cT : Nat)   :
    Calls Try.prog 39 #[.pointer (some ⟨r, 0, none⟩), .agg #[.int .i64 kk, .int .u64 (U : Int), .int .i64 S, .slice pB B.length cB, .slice pT T.length cT]] w fun e' w' => Backs w r (res (0) f l (fx 2 l)) (U % 65536) e' w' := by
  have al : ∀ (W : World) (o : Obj), Below W.heap.size W (W.alloc o) := fun W o => (Below.refl _ _).alloc (Nat.le_refl _) o
  have PK := (show Hid _ from pick_any kk 9 (by omega) (by omega))
  rw [hk] at PK
  have hlt := h.lt
  obtain ⟨W, hWd⟩ : ∃ W, W = w.alloc (.cells #[.int .i64 kk, .int .u64 (U : Int), .int .i64 S, .slice pB B.length cB, .slice pT T.length cT] 80) := ⟨_, rfl⟩
  have hWb : Below w.heap.size w W := by rw [hWd]; exact al _ _
  have hWn : W.heap[w.heap.size]? = some (.cells #[.int .i64 kk, .int .u64 (U : Int), .int .i64 S, .slice pB B.length cB, .slice pT T.length cT] 80 (0, 0)) := by rw [hWd]; exact heap_alloc_new w _
  have hWs : W.heap.size = w.heap.size + 1 := by rw [hWd, alloc_size]
  have hR := h.below hWb
  have hRnb := hR.nb
  have gq : ∀ X w1 : World, X.grownBy w1 (some r) → X.heap = W.heap → X.os = W.os → X.tape = W.tape → X.output = W.output → W.grownBy w1 (some r) := fun X w1 hg e1 e2 e3 e4 => ⟨hg.os.trans e2, hg.tape.trans e3, hg.output.trans e4, by have := hg.size; rwa [e1] at this, fun i hi hne => by have := hg.block i (by rw [e1]; exact hi) hne; rwa [e1] at this⟩
  obtain ⟨⟨u, l2, f2⟩, hx⟩ : ∃ x, res (0) f l (fx 2 l) = x := ⟨_, rfl⟩
  rw [hx]
  have M := (show Hid (∀ X : World, X.heap = W.heap → Calls Try.prog 73 #[.pointer (some ⟨r, 0, none⟩)] X fun e' w' => Says X r (fun (n : Nat) _ v => v = .int .u16 (n : Int)) (u, l2, f2) e' w') from fun X e => hx ▸ mtkt_any (hR.heap e) hl)
  clear hx
  go_enter Try.func39, Try.ntmps39
  go_wp2_with (first | (go_at_call 31; refine (PK.out _).mono ?_; rintro e2 w2 ⟨rfl, h9⟩; obtain rfl := h9.symm))
  rw [← hWd]
  clear hWd
  have k1 : W.cell? ⟨w.heap.size, 1, none⟩ = some (.int .u64 (U : Int)) := cell_of_row W w.heap.size 1 _ _ (0, 0) hWn
  have c2 : IntKind.u16.wrap (U : Int) = (U : Int) % 65536 := by simp [IntKind.wrap, IntKind.bits, IntKind.signed]
  have bq : Hid (((u : Int) == (U : Int) % 65536) = decide (u = U % 65536)) := (show ((u : Int) == (U : Int) % 65536) = decide (u = U % 65536) from by by_cases e : u = U % 65536; (rw [decide_eq_true e, e]; simp); (rw [decide_eq_false e]; simp; omega))
  go_region_with (go_at_call 73; refine Calls.mono (M.out _ ?_) ?_; exact rfl; rintro e2 w1 ⟨hG1, hR1, v1, rfl, rfl⟩; have hG2 := gq _ _ hG1 rfl rfl rfl rfl; have k2 := hG2.cell k1 (fun e3 => by injection e3 with e3; have e4 : w.heap.size = r := e3; omega))
  all_goals
    go_wp2
    go_ret
    exact ⟨gtrans (grown_below (grefl w _) hWb) hG2, hR1, by first | (rw [← bq.out]; rfl) | (simp only [← bq.out]; rfl)⟩
set_option maxHeartbeats 4000000 in
set_option maxRecDepth 1000000 in
theorem back5 {w : World} {r : Nat} {l : List (BitVec 8)} {f : Int} (h : Rdr w r l f) (hl : l.length ≤ 1099511627000) (kk : Int) (hk : kk % 9 = 5) (U : Nat) (S : Int) (B : List (BitVec 8)) (T : List (List (BitVec 8))) (pB pT : Option Addr) (cB cT : Nat)   :
    Calls Try.prog 39 #[.pointer (some ⟨r, 0, none⟩), .agg #[.int .i64 kk, .int .u64 (U : Int), .int .i64 S, .slice pB B.length cB, .slice pT T.length cT]] w fun e' w' => Backs w r (res (0) f l (uv l)) (U) e' w' := by
  have al : ∀ (W : World) (o : Obj), Below W.heap.size W (W.alloc o) := fun W o => (Below.refl _ _).alloc (Nat.le_refl _) o
  have PK := (show Hid _ from pick_any kk 9 (by omega) (by omega))
  rw [hk] at PK
  have hlt := h.lt
  obtain ⟨W, hWd⟩ : ∃ W, W = w.alloc (.cells #[.int .i64 kk, .int .u64 (U : Int), .int .i64 S, .slice pB B.length cB, .slice pT T.length cT] 80) := ⟨_, rfl⟩
  have hWb : Below w.heap.size w W := by rw [hWd]; exact al _ _
  have hWn : W.heap[w.heap.size]? = some (.cells #[.int .i64 kk, .int .u64 (U : Int), .int .i64 S, .slice pB B.length cB, .slice pT T.length cT] 80 (0, 0)) := by rw [hWd]; exact heap_alloc_new w _
  have hWs : W.heap.size = w.heap.size + 1 := by rw [hWd, alloc_size]
  have hR := h.below hWb
  have hRnb := hR.nb
  have gq : ∀ X w1 : World, X.grownBy w1 (some r) → X.heap = W.heap → X.os = W.os → X.tape = W.tape → X.output = W.output → W.grownBy w1 (some r) := fun X w1 hg e1 e2 e3 e4 => ⟨hg.os.trans e2, hg.tape.trans e3, hg.output.trans e4, by have := hg.size; rwa [e1] at this, fun i hi hne => by have := hg.block i (by rw [e1]; exact hi) hne; rwa [e1] at this⟩
  obtain ⟨⟨u, l2, f2⟩, hx⟩ : ∃ x, res (0) f l (uv l) = x := ⟨_, rfl⟩
  rw [hx]
  have M := (show Hid (∀ X : World, X.heap = W.heap → Calls Try.prog 74 #[.pointer (some ⟨r, 0, none⟩)] X fun e' w' => Says X r (fun (n : Nat) _ v => v = .int .u64 (n : Int)) (u, l2, f2) e' w') from fun X e => hx ▸ muv_any (hR.heap e) hl)
  clear hx
  go_enter Try.func39, Try.ntmps39
  go_wp2_with (first | (go_at_call 31; refine (PK.out _).mono ?_; rintro e2 w2 ⟨rfl, h9⟩; obtain rfl := h9.symm))
  rw [← hWd]
  clear hWd
  have k1 : W.cell? ⟨w.heap.size, 1, none⟩ = some (.int .u64 (U : Int)) := cell_of_row W w.heap.size 1 _ _ (0, 0) hWn
  have bq : Hid (((u : Int) == (U : Int)) = decide (u = U)) := (show ((u : Int) == (U : Int)) = decide (u = U) from by by_cases e : u = U; (rw [decide_eq_true e, e]; simp); (rw [decide_eq_false e]; simp; omega))
  go_region_with (go_at_call 74; refine Calls.mono (M.out _ ?_) ?_; exact rfl; rintro e2 w1 ⟨hG1, hR1, v1, rfl, rfl⟩; have hG2 := gq _ _ hG1 rfl rfl rfl rfl; have k2 := hG2.cell k1 (fun e3 => by injection e3 with e3; have e4 : w.heap.size = r := e3; omega))
  all_goals
    go_wp2
    go_ret
    exact ⟨gtrans (grown_below (grefl w _) hWb) hG2, hR1, by first | (rw [← bq.out]; rfl) | (simp only [← bq.out]; rfl)⟩
set_option maxHeartbeats 4000000 in
set_option maxRecDepth 1000000 in
theorem back6 {w : World} {r : Nat} {l : List (BitVec 8)} {f : Int} (h : Rdr w r l f) (hl : l.length ≤ 1099511627000) (kk : Int) (hk : kk % 9 = 6) (U : Nat) (S : Int) (B : List (BitVec 8)) (T : List (List (BitVec 8))) (pB pT : Option Addr) (cB cT : Nat)   :
    Calls Try.prog 39 #[.pointer (some ⟨r, 0, none⟩), .agg #[.int .i64 kk, .int .u64 (U : Int), .int .i64 S, .slice pB B.length cB, .slice pT T.length cT]] w fun e' w' => Backs w r (res (0) f l (zv l)) (S) e' w' := by
  have al : ∀ (W : World) (o : Obj), Below W.heap.size W (W.alloc o) := fun W o => (Below.refl _ _).alloc (Nat.le_refl _) o
  have PK := (show Hid _ from pick_any kk 9 (by omega) (by omega))
  rw [hk] at PK
  have hlt := h.lt
  obtain ⟨W, hWd⟩ : ∃ W, W = w.alloc (.cells #[.int .i64 kk, .int .u64 (U : Int), .int .i64 S, .slice pB B.length cB, .slice pT T.length cT] 80) := ⟨_, rfl⟩
  have hWb : Below w.heap.size w W := by rw [hWd]; exact al _ _
  have hWn : W.heap[w.heap.size]? = some (.cells #[.int .i64 kk, .int .u64 (U : Int), .int .i64 S, .slice pB B.length cB, .slice pT T.length cT] 80 (0, 0)) := by rw [hWd]; exact heap_alloc_new w _
  have hWs : W.heap.size = w.heap.size + 1 := by rw [hWd, alloc_size]
  have hR := h.below hWb
  have hRnb := hR.nb
  have gq : ∀ X w1 : World, X.grownBy w1 (some r) → X.heap = W.heap → X.os = W.os → X.tape = W.tape → X.output = W.output → W.grownBy w1 (some r) := fun X w1 hg e1 e2 e3 e4 => ⟨hg.os.trans e2, hg.tape.trans e3, hg.output.trans e4, by have := hg.size; rwa [e1] at this, fun i hi hne => by have := hg.block i (by rw [e1]; exact hi) hne; rwa [e1] at this⟩
  obtain ⟨⟨u, l2, f2⟩, hx⟩ : ∃ x, res (0) f l (zv l) = x := ⟨_, rfl⟩
  rw [hx]
  have M := (show Hid (∀ X : World, X.heap = W.heap → Calls Try.prog 75 #[.pointer (some ⟨r, 0, none⟩)] X fun e' w' => Says X r (fun (n : Int) _ v => v = .int .i64 n) (u, l2, f2) e' w') from fun X e => hx ▸ mvi_any (hR.heap e) hl)
  clear hx
  go_enter Try.func39, Try.ntmps39
  go_wp2_with (first | (go_at_call 31; refine (PK.out _).mono ?_; rintro e2 w2 ⟨rfl, h9⟩; obtain rfl := h9.symm))
  rw [← hWd]
  clear hWd
  have k1 : W.cell? ⟨w.heap.size, 2, none⟩ = some (.int .i64 S) := cell_of_row W w.heap.size 2 _ _ (0, 0) hWn
  have bq : Hid ((u == S) = decide (u = S)) := (show (u == S) = decide (u = S) from rfl)
  go_region_with (go_at_call 75; refine Calls.mono (M.out _ ?_) ?_; exact rfl; rintro e2 w1 ⟨hG1, hR1, v1, rfl, rfl⟩; have hG2 := gq _ _ hG1 rfl rfl rfl rfl; have k2 := hG2.cell k1 (fun e3 => by injection e3 with e3; have e4 : w.heap.size = r := e3; omega))
  all_goals
    go_wp2
    go_ret
    exact ⟨gtrans (grown_below (grefl w _) hWb) hG2, hR1, by first | (rw [← bq.out]; rfl) | (simp only [← bq.out]; rfl)⟩
set_option maxHeartbeats 4000000 in
set_option maxRecDepth 1000000 in
theorem back7 {w : World} {r : Nat} {l : List (BitVec 8)} {f : Int} (h : Rdr w r l f) (hl : l.length ≤ 1099511627000) (kk : Int) (hk : kk % 9 = 7) (U : Nat) (S : Int) (B : List (BitVec 8)) (T : List (List (BitVec 8))) (pB pT : Option Addr) (cB cT : Nat)  (hB : Rd w pB B) (hlB : B.length ≤ 1048576) :
    Calls Try.prog 39 #[.pointer (some ⟨r, 0, none⟩), .agg #[.int .i64 kk, .int .u64 (U : Int), .int .i64 S, .slice pB B.length cB, .slice pT T.length cT]] w fun e' w' => Backs w r (res [] f l (ge0 (B.length : Int) (bk (B.length : Int).toNat l))) (B) e' w' := by
  have al : ∀ (W : World) (o : Obj), Below W.heap.size W (W.alloc o) := fun W o => (Below.refl _ _).alloc (Nat.le_refl _) o
  have PK := (show Hid _ from pick_any kk 9 (by omega) (by omega))
  rw [hk] at PK
  have hlt := h.lt
  obtain ⟨W, hWd⟩ : ∃ W, W = w.alloc (.cells #[.int .i64 kk, .int .u64 (U : Int), .int .i64 S, .slice pB B.length cB, .slice pT T.length cT] 80) := ⟨_, rfl⟩
  have hWb : Below w.heap.size w W := by rw [hWd]; exact al _ _
  have hWn : W.heap[w.heap.size]? = some (.cells #[.int .i64 kk, .int .u64 (U : Int), .int .i64 S, .slice pB B.length cB, .slice pT T.length cT] 80 (0, 0)) := by rw [hWd]; exact heap_alloc_new w _
  have hWs : W.heap.size = w.heap.size + 1 := by rw [hWd, alloc_size]
  have hR := h.below hWb
  have hRnb := hR.nb
  have gq : ∀ X w1 : World, X.grownBy w1 (some r) → X.heap = W.heap → X.os = W.os → X.tape = W.tape → X.output = W.output → W.grownBy w1 (some r) := fun X w1 hg e1 e2 e3 e4 => ⟨hg.os.trans e2, hg.tape.trans e3, hg.output.trans e4, by have := hg.size; rwa [e1] at this, fun i hi hne => by have := hg.block i (by rw [e1]; exact hi) hne; rwa [e1] at this⟩
  obtain ⟨⟨u, l2, f2⟩, hx⟩ : ∃ x, res [] f l (ge0 (B.length : Int) (bk (B.length : Int).toNat l)) = x := ⟨_, rfl⟩
  rw [hx]
  have M := (show Hid (∀ X : World, X.heap = W.heap → Calls Try.prog 77 #[.pointer (some ⟨r, 0, none⟩), .int .i64 (B.length : Int)] X fun e' w' => Says X r (fun xs W2 v => Ow W2 X.heap.size v xs) (u, l2, f2) e' w') from fun X e => hx ▸ mbk_any (hR.heap e) hl (B.length : Int) (by omega))
  clear hx
  go_enter Try.func39, Try.ntmps39
  go_wp2_with (first | (go_at_call 31; refine (PK.out _).mono ?_; rintro e2 w2 ⟨rfl, h9⟩; obtain rfl := h9.symm))
  rw [← hWd]
  clear hWd
  have k1 : W.cell? ⟨w.heap.size, 3, none⟩ = some (.slice pB B.length cB) := cell_of_row W w.heap.size 3 _ _ (0, 0) hWn
  have rB := hB.below hWb
  have rBq : ∀ (w1 X : World), W.grownBy w1 (some r) → X.heap = w1.heap → (convert 22 9 (.slice pB B.length cB)).run Try.prog X = .ok (.string (bstr B)) X := fun w1 X hg e => by
    refine conv_rd ?_ _ _ rfl
    rcases rB with h1 | ⟨b, of, ha, hc⟩
    · exact .inl h1
    · refine .inr ⟨b, of, ha, fun i hi => ?_⟩
      rw [← hg.cell (hc i hi) (fun e3 => hRnb _ _ (by injection e3 with e3; have e4 : b = r := e3; rw [← e4]; exact hc i hi))]
      exact World.cell?_of_block (a := ⟨b, of + i, none⟩) (by rw [e])
  have cw0 := rBq W W (grefl W _) rfl
  have cw1 := rBq W W.drew (grefl W _) rfl
  have cw2 := rBq W W.drew.drew (grefl W _) rfl
  have cw3 := rBq W W.drew.drew.drew (grefl W _) rfl
  have rdh : ∀ {w1 : World} {p : Option Addr} {xs : List (BitVec 8)}, Rd w1 p xs → ∀ X : World, X.heap = w1.heap → Rd X p xs := fun hr X e => by
    rcases hr with h1 | ⟨b, of, ha, hc⟩
    · exact .inl h1
    · exact .inr ⟨b, of, ha, fun i hi => by rw [← hc i hi]; exact World.cell?_of_block (a := ⟨b, of + i, none⟩) (by rw [e])⟩
  have bq := (show Hid _ from bstr_beq u B)
  clear hB rB
  go_region_with (go_at_call 77; refine Calls.mono (M.out _ ?_) ?_; exact rfl; rintro e2 w1 ⟨hG1, hR1, v1, rfl, ho1⟩; obtain ⟨p1, c1, rfl, _, r1⟩ := ho1.rd; have hG2 := gq _ _ hG1 rfl rfl rfl rfl; have k2 := hG2.cell k1 (fun e3 => by injection e3 with e3; have e4 : w.heap.size = r := e3; omega); have ca0 := conv_rd (rdh r1 w1 rfl) u.length c1 rfl; have cb0 := rBq w1 w1 hG2 rfl; have ca1 := conv_rd (rdh r1 w1.drew rfl) u.length c1 rfl; have cb1 := rBq w1 w1.drew hG2 rfl; have ca2 := conv_rd (rdh r1 w1.drew.drew rfl) u.length c1 rfl; have cb2 := rBq w1 w1.drew.drew hG2 rfl; have ca3 := conv_rd (rdh r1 w1.drew.drew.drew rfl) u.length c1 rfl; have cb3 := rBq w1 w1.drew.drew.drew hG2 rfl)
  all_goals
    go_wp2
    go_ret
    exact ⟨gtrans (grown_below (grefl w _) hWb) hG2, hR1, by first | (rw [← bq.out]; rfl) | (simp only [← bq.out]; rfl)⟩
end
end Go.Proofs.Ytmcbeikgdcgdcaa
