/-
  'reading' with one of its functions.
-/
import Derived.Test.YtjobaeopokfekaaGreatRf
namespace Go.Proofs.YtjobaeopokfekaaGreat
open Go.RowKit
section
attribute [local irreducible] Calls el
-- num64
set_option maxRecDepth 1000000 in
theorem reading_num64_fault  {w : World} {r : Nat} {bs : List (BitVec 8)} {f : Int} (h : Rdr w r bs f) (hf : f ≠ 0) :
    Calls Tryz.prog 87 #[.pointer (some ⟨r, 0, none⟩), .func (.func 88) #[] #[]] w fun e w' => e = .returned (.int .u64 0) ∧ Below w.heap.size w w' := by
  have al : ∀ (W : World) (o : Obj), Below W.heap.size W (W.alloc o) := fun W o => (Below.refl _ _).alloc (Nat.le_refl _) o
  have F1 := (show Hid _ from fault_any (h.below (al w (.cells #[.pointer (some ⟨r, 0, none⟩)] 115))))
  have h2 : (f != 0) = true := by simpa using hf
  go_enter_defers Tryz.func87, Tryz.ntmps87
  go_wp2_with (go_at_call 93; refine F1.out.mono ?_; rintro e w1 ⟨rfl, h⟩; obtain rfl := h.symm)
  simp [bodyPostD, Leaves, results, Tryz.results87, go_sem]
  exact al _ _
set_option maxRecDepth 1000000 in
theorem reading_num64_nil  (w : World) :
    Calls Tryz.prog 87 #[.pointer none, .func (.func 88) #[] #[]] w fun e w' => e = .returned (.int .u64 0) ∧ Below w.heap.size w w' := by
  have al : ∀ (W : World) (o : Obj), Below W.heap.size W (W.alloc o) := fun W o => (Below.refl _ _).alloc (Nat.le_refl _) o
  have F1 := (show Hid _ from fault_nil (w.alloc (.cells #[.pointer none] 115)))
  go_enter_defers Tryz.func87, Tryz.ntmps87
  go_wp2_with (go_at_call 93; refine F1.out.mono ?_; rintro e w1 ⟨rfl, h⟩; obtain rfl := h.symm)
  simp [bodyPostD, Leaves, results, Tryz.results87, go_sem]
  exact al _ _
set_option maxHeartbeats 4000000 in
set_option maxRecDepth 1000000 in
theorem reading_num64 {α : Type} {R : Ans α} {f : α → World → Value → Prop}  {w : World} {r : Nat} {bs : List (BitVec 8)} (h : Rdr w r bs 0)
    (H : ∀ W g, Wk r W g bs → w.heap.size ≤ g → Below w.heap.size w W → Calls Tryz.prog 88 #[.pointer (some ⟨g, 0, none⟩)] W fun e w' => Tell r W g f R e w')
    (hf : ∀ a W W' v, f a W v → W.grownBy W' (some r) → Nb W r → f a W' v) :
    Calls Tryz.prog 87 #[.pointer (some ⟨r, 0, none⟩), .func (.func 88) #[] #[]] w fun e w' => Face w r bs (.int .u64 0) f R e w' := by
  have al : ∀ (W : World) (o : Obj), Below W.heap.size W (W.alloc o) := fun W o => (Below.refl _ _).alloc (Nat.le_refl _) o
  have F1 := (show Hid _ from fault_any (h.below (al w (.cells #[.pointer (some ⟨r, 0, none⟩)] 115))))
  have hmf : ∀ (fn : Fn) (first cap : Array Value) (w : World), (Instr.makeFunc fn first cap).run Tryz.prog w = .ok (.func fn first cap) w := fun _ _ _ _ => rfl
  have hnb := h.nb
  have hlt := h.lt
  obtain ⟨v, hg, hs, hv⟩ := h
  obtain ⟨p, c, rfl, hcc, _⟩ := hs.rd
  have h1 : w.cell? ⟨r, 0, none⟩ = some (.slice p bs.length c) := cell_of_row w r 0 _ _ (0, 0) hg
  have h2 := frozen_of_row w r 0 _ _ hg
  obtain ⟨W, hWd⟩ : ∃ W, W = (w.alloc (.cells #[.pointer (some ⟨r, 0, none⟩)] 115)).alloc (.cells #[.slice p bs.length c] 148) := ⟨_, rfl⟩
  obtain ⟨hWb, hWq, hWg, hWs⟩ := two_new w _ _ W hWd
  have hWr : W.heap[r]? = some (.cells #[.slice p bs.length c, .int .i64 0] 128 (0, 0)) := by rw [hWb.block r hlt]; exact hg
  have C := (show Hid _ from H W (w.heap.size + 1) ⟨_, hWg, hs.below hWb, by omega, hv⟩ (by omega) hWb)
  have facts : Hid (∀ w1, W.grownBy w1 (some (w.heap.size + 1)) → w1.cell? ⟨w.heap.size, 0, none⟩ = some (.pointer (some ⟨r, 0, none⟩)) ∧ w1.heap[r]? = some (.cells #[.slice p bs.length c, .int .i64 0] 128 (0, 0)) ∧ Nb w1 r ∧ w.grownBy w1 (some r)) := by
    intro w1 hG
    have e1 : w1.heap[w.heap.size]? = some (.cells #[.pointer (some ⟨r, 0, none⟩)] 115 (0, 0)) := by rw [hG.block w.heap.size (by omega) (by intro e; injection e; omega)]; exact hWq
    have e2 : w1.heap[r]? = some (.cells #[.slice p bs.length c, .int .i64 0] 128 (0, 0)) := by rw [hG.block r (by omega) (by intro e; injection e; omega)]; exact hWr
    have e3 : Nb w1 r := (show Rdr W r bs 0 from ⟨_, hWr, hs.below hWb, hv⟩).nb.heap (by rw [e2, hWr])
    exact ⟨cell_of_row w1 w.heap.size 0 _ _ (0, 0) e1, e2, e3, grown_new (grown_below (grefl w _) hWb) (by omega) hG⟩
  cases R with
  | error c1 =>
    go_enter_defers Tryz.func87, Tryz.ntmps87
    go_wp2_with (first | (go_at_call 93; refine F1.out.mono ?_; rintro e w1 ⟨rfl, h⟩; obtain rfl := h.symm) | (go_at_call 88; rw [← hWd]; refine C.out.mono ?_; rintro e w1 ⟨hG, rfl⟩))
    obtain ⟨hq, hr1, hn1, hg1⟩ := facts.out w1 hG
    refine leaves_cons (f := 97) (args := #[.pointer (some ⟨w.heap.size, 0, none⟩)]) (by simp) (by simp [go_sem]) ?_
    refine (catch_u64 c1 [] hq hr1).mono ?_
    rintro e u' w'' ⟨rfl, rfl, rfl⟩
    have fin := set_fault (c := c1) hr1 hn1 ((hs.below hWb).kept (show Wk r W (w.heap.size + 1) bs from ⟨_, hWg, hs.below hWb, by omega, hv⟩).nb hG) hv
    have fin2 := gtrans hg1 (grown_set w1 r 1 (.int .i64 c1))
    simp [Leaves, settle, results, Tryz.results87, go_sem]
    exact ⟨fin2, rfl, fin⟩
  | ok al =>
    obtain ⟨a, l⟩ := al
    go_enter_defers Tryz.func87, Tryz.ntmps87
    go_wp2_with (first | (go_at_call 93; refine F1.out.mono ?_; rintro e w1 ⟨rfl, h⟩; obtain rfl := h.symm) | (go_at_call 88; rw [← hWd]; refine C.out.mono ?_; rintro e w1 ⟨hG, v1, rfl, hf1, hW1⟩; obtain ⟨hq, hr1, hn1, hg1⟩ := facts.out w1 hG; obtain ⟨vl, hgl, hsl, hBl, hvl⟩ := hW1; obtain ⟨pl, cl, rfl, hcl, _⟩ := hsl.rd; have j1 := cell_of_row w1 (w.heap.size + 1) 0 _ _ (0, 0) hgl; have j2 := cell_of_row w1 r 0 _ _ (0, 0) hr1; have j3 := frozen_of_row w1 r 0 _ _ hr1))
    refine leaves_cons (f := 97) (args := #[.pointer (some ⟨w.heap.size, 0, none⟩)]) (by simp) (by simp [go_sem]) ?_
    refine idle_u64.mono ?_
    rintro e u' w'' ⟨rfl, rfl, rfl⟩
    have fin := set_left hr1 hn1 hsl hvl
    have fin2 := gtrans hg1 (grown_set w1 r 0 (.slice pl l.length cl))
    have fin3 := hf a _ _ v1 hf1 (grown_set w1 r 0 (.slice pl l.length cl)) hn1
    simp [Leaves, settle, results, Tryz.results87, go_sem]
    exact ⟨fin2, v1, rfl, fin3, fin⟩
end
end Go.Proofs.YtjobaeopokfekaaGreat
