/-
  Boards in memory: has, Score, Tell.
-/
import Derived.Test.YtcfjinpjijcheabFs27
namespace Go.Proofs.Ytcfjinpjijcheab
open Go.RowKit
attribute [local irreducible] dW dR p2 fR fW fV fval
theorem infoS : (Try.prog.info? 57).map (fun i => (i.zero, i.size, i.bytes)) = some (some (.float .f32 0), 1, 4) := by kernel_rfl
def sc (xs : List Nat) : List Value := xs.map fun b => Value.float .f32 b
theorem sc_len (xs : List Nat) : (sc xs).length = xs.length := by simp [sc]
theorem sc_app (xs ys : List Nat) : sc (xs ++ ys) = sc xs ++ sc ys := by simp [sc]
theorem sc_at (xs : List Nat) (i : Nat) (h : i < xs.length) : (sc xs)[i]? = some (.float .f32 (xs.getD i 0)) := by simp [sc, List.getD, h]
theorem sc_set (xs : List Nat) (i v : Nat) : (sc xs).set i (.float .f32 v) = sc (xs.set i v) := by simp [sc, List.map_set]
/-- A board at block b, its scores at block s. -/
structure Bd (w : World) (b s k : Nat) (ss : List Nat) : Prop where
  blk : w.heap[b]? = some (.cells #[.float .f32 k, .slice (some ⟨s, 0, none⟩) ss.length ss.length] 60 (0, 0))
  row : Bl w 57 s (sc ss)
theorem Bd.c0 {w : World} {b s k : Nat} {ss : List Nat} (h : Bd w b s k ss) : w.cell? ⟨b, 0, none⟩ = some (.float .f32 k) := by rw [cell_of_row w b 0 _ _ _ h.blk]; rfl
theorem Bd.c1 {w : World} {b s k : Nat} {ss : List Nat} (h : Bd w b s k ss) : w.cell? ⟨b, 1, none⟩ = some (.slice (some ⟨s, 0, none⟩) ss.length ss.length) := by rw [cell_of_row w b 1 _ _ _ h.blk]; rfl
theorem Bd.at {w : World} {b s k : Nat} {ss : List Nat} (h : Bd w b s k ss) (i : Nat) (hi : i < ss.length) : w.cell? ⟨s, i, none⟩ = some (.float .f32 (ss.getD i 0)) := by rw [h.row.cell, sc_at ss i hi]
theorem Bd.ltb {w : World} {b s k : Nat} {ss : List Nat} (h : Bd w b s k ss) : b < w.heap.size := by
  rcases Nat.lt_or_ge b w.heap.size with h1 | h1
  · exact h1
  · have := h.blk; rw [Array.getElem?_eq_none h1] at this; cases this
theorem Bd.below {w w' : World} {b s k : Nat} {ss : List Nat} (h : Bd w b s k ss) (hb : Below w.heap.size w w') : Bd w' b s k ss := ⟨by rw [hb.block b h.ltb]; exact h.blk, h.row.below hb⟩
theorem Bd.ne {w : World} {b s k : Nat} {ss : List Nat} (h : Bd w b s k ss) : b ≠ s := by
  rintro rfl
  have h1 := h.blk
  have h2 := h.row
  unfold Bl at h2
  rw [h1] at h2
  injection h2 with h2
  injection h2 with h2 h3
  have := congrArg Array.size h2
  exact absurd h3 (by decide)
theorem Bd.set {w : World} {b s k : Nat} {ss : List Nat} (h : Bd w b s k ss) (i v : Nat) : Bd (w.setCell ⟨s, i, none⟩ (.float .f32 v)) b s k (ss.set i v) ∧ w.grownBy (w.setCell ⟨s, i, none⟩ (.float .f32 v)) (some s) := by
  refine ⟨⟨?_, ?_⟩, ⟨rfl, rfl, rfl, by simp, fun j _ hj => heap_setCell_other w ⟨s, i, none⟩ j _ (fun e => hj (by simp [e]))⟩⟩
  · rw [List.length_set, heap_setCell_other w ⟨s, i, none⟩ b _ h.ne]
    exact h.blk
  · rw [← sc_set]; exact h.row.set i _
theorem Bd.drewN {w : World} {b s k : Nat} {ss : List Nat} (h : Bd w b s k ss) (n : Nat) : Bd (w.drewN n) b s k ss := ⟨h.blk, h.row⟩
theorem cv_run (s d : TypeId) {x r : Nat} {a c : FloatKind} (hs : (Try.prog.underlying s).isSome = true) (hd : Try.prog.underlying d = some (.float c)) (h : floatToFloatBits a x c = some r) : ∀ W : World, (convert s d (.float a x)).run Try.prog W = .ok (.float c r) W := fun W => run_convert_float_float W s d a c x r hs hd h
theorem s36 : (Try.prog.underlying 57).isSome = true := by rw [Try.underlying57]; rfl
theorem s63 : (Try.prog.underlying 22).isSome = true := by rw [Try.underlying22]; rfl
theorem gdrewN {w w' : World} {r : Option Nat} (h : w.grownBy w' r) (n : Nat) : w.grownBy (w'.drewN n) r := ⟨h.os, h.tape, h.output, h.size, h.block⟩
section
attribute [local irreducible] Calls
set_option maxRecDepth 1000000 in
theorem has_any {w : World} {b s k : Nat} {ss : List Nat} (h : Bd w b s k ss) (p : Int) : Calls Try.prog 25 #[.pointer (some ⟨b, 0, none⟩), .int .i64 p] w fun e w' => e = .returned (.int .i64 (if 0 ≤ p ∧ p < (ss.length : Int) then 0 else 2)) ∧ w' = w := by
  have c1 := h.c1
  by_cases h1 : p < 0
  · rw [if_neg (by omega)]
    go_enter Try.func25, Try.ntmps25
    go_wp2
    go_ret
    exact ⟨rfl, rfl⟩
  · by_cases h2 : p < (ss.length : Int)
    · rw [if_pos ⟨by omega, h2⟩]
      have h3 : ¬ (ss.length : Int) ≤ p := by omega
      go_enter Try.func25, Try.ntmps25
      go_wp2
      go_ret
      exact ⟨rfl, rfl⟩
    · rw [if_neg (by omega)]
      have h3 : (ss.length : Int) ≤ p := by omega
      go_enter Try.func25, Try.ntmps25
      go_wp2
      go_ret
      exact ⟨rfl, rfl⟩
set_option maxRecDepth 1000000 in
theorem score_any {w : World} {b s k : Nat} {ss : List Nat} (h : Bd w b s k ss) (p : Nat) (hp : p < ss.length) (hs : Sc (ss.getD p 0)) : Calls Try.prog 17 #[.pointer (some ⟨b, 0, none⟩), .int .i64 (p : Int)] w fun e w' => e = .returned (.tuple #[.float .f64 (cv6 (ss.getD p 0)), .int .i64 0]) ∧ w' = w := by
  have HH := (show Hid _ from has_any h (p : Int))
  have hpi : (p : Int) < (ss.length : Int) := by omega
  rw [if_pos ⟨by omega, hpi⟩] at HH
  have c1 := h.c1
  have g1 := h.at p hp
  obtain ⟨n, hn'⟩ : ∃ n, ss.length = n := ⟨_, rfl⟩
  rw [hn'] at c1 hpi
  obtain ⟨y, hy⟩ : ∃ y, ss.getD p 0 = y := ⟨_, rfl⟩
  rw [hy] at g1 hs ⊢
  have a1 := cv_run 57 22 s36 Try.underlying22 (sc_cv hs).1
  obtain ⟨z, hz⟩ : ∃ z, cv6 y = z := ⟨_, rfl⟩
  rw [hz] at a1 ⊢
  clear hs h hy hz
  go_enter Try.func17, Try.ntmps17
  go_wp2_with (go_at_call 25; refine HH.out.mono ?_; rintro e w1 ⟨rfl, h⟩; obtain rfl := h.symm)
  go_ret2
  exact ⟨rfl, rfl⟩
set_option maxRecDepth 1000000 in
set_option maxHeartbeats 2000000 in
theorem tell_any {w : World} {b s k : Nat} {ss : List Nat} (h : Bd w b s k ss) (p : Nat) (g : Bool) (hp : p < ss.length) (hk : Kp k) (hs : Sc (ss.getD p 0)) : Calls Try.prog 13 #[.pointer (some ⟨b, 0, none⟩), .int .i64 (p : Int), .bool g] w fun e w' => e = .returned (.int .i64 0) ∧ Bd w' b s k (ss.set p (tel k (ss.getD p 0) g)) ∧ w.grownBy w' (some s) := by
  have HH := (show Hid _ from has_any h (p : Int))
  have hpi : (p : Int) < (ss.length : Int) := by omega
  rw [if_pos ⟨by omega, hpi⟩] at HH
  have c0 := h.c0
  have c1 := h.c1
  have g1 := h.at p hp
  have fz := h.row.frozen p
  have HS := (show Hid (_ ∧ _) from h.set p (tel k (ss.getD p 0) g))
  obtain ⟨n, hn'⟩ : ∃ n, ss.length = n := ⟨_, rfl⟩
  rw [hn'] at c1 hpi
  obtain ⟨y, hy⟩ : ∃ y, ss.getD p 0 = y := ⟨_, rfl⟩
  rw [hy] at g1 hs HS ⊢
  obtain ⟨⟨t1, t2, t3, t4, t5⟩, -⟩ := tel_ok hk hs g
  have a1 := cv_run 57 22 s36 Try.underlying22 (kp_cv hk).1
  have a2 := cv_run 57 22 s36 Try.underlying22 (sc_cv hs).1
  have a3 := fl_run (op := .mul) t1
  have a4 := fl_run (op := .sub) t2
  have a5 := fl_run (op := .mul) t3
  have a6 := fl_run (op := .add) t4
  have a7 := cv_run 22 57 s63 Try.underlying57 t5
  clear t1 t2 t3 t4 t5 hs h hk
  obtain ⟨z1, hz1⟩ : ∃ z, cv6 k = z := ⟨_, rfl⟩
  obtain ⟨z2, hz2⟩ : ∃ z, cv6 y = z := ⟨_, rfl⟩
  rw [hz1] at a1 a3 a4 a5 a6 a7
  rw [hz2] at a2 a3 a6 a7
  obtain ⟨z3, hz3⟩ : ∃ z, fmu z1 z2 = z := ⟨_, rfl⟩
  obtain ⟨z4, hz4⟩ : ∃ z, fsu 4607182418800017408 z1 = z := ⟨_, rfl⟩
  rw [hz3] at a3 a6 a7
  rw [hz4] at a4 a5 a6 a7
  obtain ⟨z6, hz6⟩ : ∃ z, tel k y g = z := ⟨_, rfl⟩
  rw [hz6] at a7 HS ⊢
  have hst := run_store_flt
  clear hz1 hz2 hz3 hz4 hz6 hy
  cases g with
  | false =>
    rw [if_neg (by simp)] at a5 a6 a7
    obtain ⟨z5, hz5⟩ : ∃ z, fmu z4 0 = z := ⟨_, rfl⟩
    rw [hz5] at a5 a6 a7
    obtain ⟨z7, hz7⟩ : ∃ z, fad z3 z5 = z := ⟨_, rfl⟩
    rw [hz7] at a6 a7
    clear hz5 hz7
    go_enter Try.func13, Try.ntmps13
    go_wp2_with (go_at_call 25; refine HH.out.mono ?_; rintro e w1 ⟨rfl, h⟩; obtain rfl := h.symm)
    go_quiet (fail)
    go_wp2
    go_ret
    exact ⟨rfl, HS.out.1.drewN _, gdrewN HS.out.2 _⟩
  | true =>
    rw [if_pos rfl] at a5 a6 a7
    obtain ⟨z5, hz5⟩ : ∃ z, fmu z4 4607182418800017408 = z := ⟨_, rfl⟩
    rw [hz5] at a5 a6 a7
    obtain ⟨z7, hz7⟩ : ∃ z, fad z3 z5 = z := ⟨_, rfl⟩
    rw [hz7] at a6 a7
    clear hz5 hz7
    go_enter Try.func13, Try.ntmps13
    go_wp2_with (go_at_call 25; refine HH.out.mono ?_; rintro e w1 ⟨rfl, h⟩; obtain rfl := h.symm)
    go_quiet (fail)
    go_wp2
    go_ret
    exact ⟨rfl, HS.out.1.drewN _, gdrewN HS.out.2 _⟩
end
end Go.Proofs.Ytcfjinpjijcheab
