/-
  'addMultiple' where the rows may have no numbers.
-/
import Derived.Test.YtchmggehbajebaaTm
namespace Go.Proofs.Ytchmggehbajebaa
open Go.RowKit
section
attribute [local irreducible] Calls el
set_option maxHeartbeats 4000000 in
set_option maxRecDepth 1000000 in
theorem addMulE_nil (g c1 c2 : Nat) (p2 : Option Addr) (x : BitVec 8) (w : World) :
    Calls Try.prog 57 #[.slice (some ⟨g, 0, none⟩) 0 c1, .int .u8 (el x), .slice p2 0 c2] w fun e w' => e = .returned (.tuple #[]) ∧ Below w.heap.size w w' := by
  have HZ := (show Hid _ from fun w => isZeroE x w)
  obtain ⟨z, hz⟩ : ∃ z, z = izE x := ⟨_, rfl⟩
  rw [← hz] at HZ
  clear hz
  cases z
  · go_enter Try.func57, Try.ntmps57
    go_wp2_with (refine (HZ.out _).mono ?_; rintro e w' ⟨rfl, h⟩; obtain rfl := h.symm)
    refine wp_loop_rounds 1 ?_
    rw [rounds_succ]
    go_wp2
    (try simp only [Exit.inBlock, Exit.then])
    refine bodyPost_end (results_0 rfl _ _ _) rfl ?_
    exact ⟨rfl, Below.refl _ _⟩
  · go_enter Try.func57, Try.ntmps57
    go_wp2_with (refine (HZ.out _).mono ?_; rintro e w' ⟨rfl, h⟩; obtain rfl := h.symm)
    refine bodyPost_ret (results_0 rfl _ _ _) rfl ?_
    exact ⟨rfl, Below.refl _ _⟩
end
theorem addMulE_all {w0 w : World} {g l c1 : Nat} {x : BitVec 8} {f d : Nat → BitVec 8} {v2 : Value} (hl : l ≤ 1000) (hc : l ≤ c1) (hO : Ov w 34 g (clE f) (l)) (hd : NrE w0 v2 l d) (hg : w0.heap.size ≤ g) (hb : Below w0.heap.size w0 w) :
    Calls Try.prog 57 #[.slice (some ⟨g, 0, none⟩) l c1, vE x, v2] w fun e w' => e = .returned (.tuple #[]) ∧ Ov w' 34 g (clE (fun j => plE (f j) (tiE x (d j)))) (l) ∧ But g w w' := by
  by_cases h0 : l = 0
  · subst h0
    obtain ⟨p, c, rfl, _⟩ := hd
    exact (addMulE_nil g c1 c p x w).mono fun e w' ⟨he, hb'⟩ => ⟨he, (hO.below hb').congr (fun i hi => by omega), (But.refl g w).below (Nat.le_of_lt hO.lt) hb'⟩
  · obtain ⟨b, o, c, rfl, hcs⟩ := Sv.cells hd (by omega)
    refine addMulE_any hl hc hO ⟨b, o, c, rfl, ?_, fun j hj => cell_below (hcs j hj) hb⟩
    have := block_lt_of_cell (hcs 0 (by omega))
    simp only at this
    omega
section
attribute [local irreducible] Calls el
set_option maxHeartbeats 4000000 in
set_option maxRecDepth 1000000 in
theorem addMulB_nil (g c1 c2 : Nat) (p2 : Option Addr) (x : Bool) (w : World) :
    Calls Try.prog 61 #[.slice (some ⟨g, 0, none⟩) 0 c1, .bool x, .slice p2 0 c2] w fun e w' => e = .returned (.tuple #[]) ∧ Below w.heap.size w w' := by
  have HZ := (show Hid _ from fun w => isZeroB x w)
  obtain ⟨z, hz⟩ : ∃ z, z = izB x := ⟨_, rfl⟩
  rw [← hz] at HZ
  clear hz
  cases z
  · go_enter Try.func61, Try.ntmps61
    go_wp2_with (refine (HZ.out _).mono ?_; rintro e w' ⟨rfl, h⟩; obtain rfl := h.symm)
    refine wp_loop_rounds 1 ?_
    rw [rounds_succ]
    go_wp2
    (try simp only [Exit.inBlock, Exit.then])
    refine bodyPost_end (results_0 rfl _ _ _) rfl ?_
    exact ⟨rfl, Below.refl _ _⟩
  · go_enter Try.func61, Try.ntmps61
    go_wp2_with (refine (HZ.out _).mono ?_; rintro e w' ⟨rfl, h⟩; obtain rfl := h.symm)
    refine bodyPost_ret (results_0 rfl _ _ _) rfl ?_
    exact ⟨rfl, Below.refl _ _⟩
end
theorem addMulB_all {w0 w : World} {g l c1 : Nat} {x : Bool} {f d : Nat → Bool} {v2 : Value} (hl : l ≤ 1000) (hc : l ≤ c1) (hO : Ov w 40 g (clB f) (l)) (hd : NrB w0 v2 l d) (hg : w0.heap.size ≤ g) (hb : Below w0.heap.size w0 w) :
    Calls Try.prog 61 #[.slice (some ⟨g, 0, none⟩) l c1, vB x, v2] w fun e w' => e = .returned (.tuple #[]) ∧ Ov w' 40 g (clB (fun j => plB (f j) (tiB x (d j)))) (l) ∧ But g w w' := by
  by_cases h0 : l = 0
  · subst h0
    obtain ⟨p, c, rfl, _⟩ := hd
    exact (addMulB_nil g c1 c p x w).mono fun e w' ⟨he, hb'⟩ => ⟨he, (hO.below hb').congr (fun i hi => by omega), (But.refl g w).below (Nat.le_of_lt hO.lt) hb'⟩
  · obtain ⟨b, o, c, rfl, hcs⟩ := Sv.cells hd (by omega)
    refine addMulB_any hl hc hO ⟨b, o, c, rfl, ?_, fun j hj => cell_below (hcs j hj) hb⟩
    have := block_lt_of_cell (hcs 0 (by omega))
    simp only at this
    omega
section
attribute [local irreducible] Calls el
set_option maxHeartbeats 4000000 in
set_option maxRecDepth 1000000 in
theorem addMulF_nil (g c1 c2 : Nat) (p2 : Option Addr) (x1 x2 : Bool) (w : World) :
    Calls Try.prog 65 #[.slice (some ⟨g, 0, none⟩) 0 c1, .agg #[.bool x1, .bool x2], .slice p2 0 c2] w fun e w' => e = .returned (.tuple #[]) ∧ Below w.heap.size w w' := by
  have HZ := (show Hid _ from fun w => isZeroF (x1, x2) w)
  have hb0 : Below w.heap.size w (w.alloc (.cells #[.bool x1, .bool x2] 47)) := (Below.refl _ _).alloc (Nat.le_refl _) _
  obtain ⟨q1, q2⟩ := (two_var w (x1, x2)).cells
  obtain ⟨z, hz⟩ : ∃ z, z = izF (x1, x2) := ⟨_, rfl⟩
  rw [← hz] at HZ
  clear hz
  cases z
  · go_enter Try.func65, Try.ntmps65
    go_wp2_with (refine (HZ.out _).mono ?_; rintro e w1 ⟨rfl, hb1⟩)
    refine wp_loop_rounds 1 ?_
    rw [rounds_succ]
    go_wp2
    (try simp only [Exit.inBlock, Exit.then])
    refine bodyPost_end (results_0 rfl _ _ _) rfl ?_
    exact ⟨rfl, bt hb0 hb1⟩
  · go_enter Try.func65, Try.ntmps65
    go_wp2_with (refine (HZ.out _).mono ?_; rintro e w1 ⟨rfl, hb1⟩)
    refine bodyPost_ret (results_0 rfl _ _ _) rfl ?_
    exact ⟨rfl, bt hb0 hb1⟩
end
theorem addMulF_all {w0 w : World} {g l c1 : Nat} {x : (Bool × Bool)} {f d : Nat → (Bool × Bool)} {v2 : Value} (hl : l ≤ 1000) (hc : l ≤ c1) (hO : Ov w 47 g (clF f) (l * 2)) (hd : NrF w0 v2 l d) (hg : w0.heap.size ≤ g) (hb : Below w0.heap.size w0 w) :
    Calls Try.prog 65 #[.slice (some ⟨g, 0, none⟩) l c1, vF x, v2] w fun e w' => e = .returned (.tuple #[]) ∧ Ov w' 47 g (clF (fun j => plF (f j) (tiF x (d j)))) (l * 2) ∧ But g w w' := by
  by_cases h0 : l = 0
  · subst h0
    obtain ⟨p, c, rfl, _⟩ := hd
    exact (addMulF_nil g c1 c p x.1 x.2 w).mono fun e w' ⟨he, hb'⟩ => ⟨he, (hO.below hb').congr (fun i hi => by omega), (But.refl g w).below (Nat.le_of_lt hO.lt) hb'⟩
  · obtain ⟨b, o, c, rfl, hcs⟩ := Sv.cells hd (by omega)
    refine addMulF_any hl hc hO ⟨b, o, c, rfl, ?_, fun j hj => cell_below (hcs j hj) hb⟩
    have := block_lt_of_cell (hcs 0 (by omega))
    simp only at this
    omega
end Go.Proofs.Ytchmggehbajebaa
