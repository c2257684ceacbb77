/-
  Package get on no set: every call answers ErrNil.
-/
import Derived.Test.YthgjfpdeboaipaaGreatGb20
import Derived.Conc.LoneCalls
import Derived.Deep.Cut
namespace Go.Proofs.YthgjfpdeboaipaaGreat
open Go.RowKit
/-- No verdict. -/
def vd0C : Array Value := #[.int .i64 0, .int .i64 0, .int .i64 0, .int .i64 0, .slice none 0 0]
def gn0C : Array Value := #[.int .i64 0, .int .i64 0]
theorem vd0 (w : World) : (zeroValue 26).run Tryz.prog w = .ok (.agg #[.int .i64 0, .int .i64 0, .int .i64 0, .int .i64 0, .slice none 0 0]) w := by kernel_rfl
theorem gn0 (w : World) : (zeroValue 23).run Tryz.prog w = .ok (.agg #[.int .i64 0, .int .i64 0]) w := by kernel_rfl
theorem size_Vd : (Tryz.prog.info? 26).map (·.size) = some 5 := by kernel_rfl
theorem size_Gn : (Tryz.prog.info? 23).map (·.size) = some 2 := by kernel_rfl
theorem mkch (w : World) : (Instr.makeChan 64 (.int .i64 0)).run Tryz.prog w = .ok (.chan (some w.heap.size)) (w.alloc (.chan 0 #[] false 0 0 false)) := by
  have h0 : (Tryz.prog.info? 93).map (·.bytes) = some 0 := by kernel_rfl
  obtain ⟨i, hi, hb⟩ := Option.map_eq_some_iff.1 h0
  exact Conc.run_makeChan Tryz.underlying64 hi .i64 0 (by decide) (by rw [hb]; decide)
theorem vd0_one : (vd0C.all fun x => x.oneCell') = true := by simp [vd0C, Value.oneCell']
theorem gn0_one : (gn0C.all fun x => x.oneCell') = true := by simp [gn0C, Value.oneCell']
section
attribute [local irreducible] Calls GB
set_option maxRecDepth 1000000 in
theorem done_any (b : Bool) (w : World) : Calls Tryz.prog 5 #[.bool b] w fun e w' => (∃ c, e = .returned (.chan c)) ∧ Below w.heap.size w w' := by
  cases b
  · go_enter Tryz.func5, Tryz.ntmps5
    go_wp2
    go_ret
    exact ⟨⟨_, rfl⟩, Below.refl _ _⟩
  · have hm := mkch w
    have hcl := fun ats ty => run_close_open (P := Tryz.prog) (w := (w.alloc (.chan 0 #[] false 0 0 false))) ats ty (heap_alloc_new w (.chan 0 #[] false 0 0 false))
    go_enter Tryz.func5, Tryz.ntmps5
    go_wp2
    go_ret
    refine ⟨⟨_, rfl⟩, ?_⟩
    exact Conc.below_setChan ((Below.refl _ w).alloc (Nat.le_refl _) _) (Nat.le_refl _) _ _ _ _ _ _
set_option maxRecDepth 1000000 in
theorem check_nil (k : ByteArray) (w : World) : Calls Tryz.prog 9 #[.pointer none, .string k] w fun e w' => e = .returned (.int .i64 1) ∧ w' = w := by
  go_enter Tryz.func9, Tryz.ntmps9
  go_wp2
  go_ret
  exact ⟨rfl, rfl⟩
theorem grow_end {w a b : World} {g : Nat} (h : Below w.heap.size w a) (hg : a.grownBy b (some g)) (hgB : w.heap.size ≤ g) : Below w.heap.size w b := grown_below h hg h.size hgB
set_option maxRecDepth 1000000 in
theorem look_nil (c : Option Nat) (k : ByteArray) (w : World) : Calls Tryz.prog 4 #[.pointer none, .chan c, .string k] w fun e w' => e = .returned (.tuple #[.agg vd0C, .slice none 0 0, .int .i64 1]) ∧ Below w.heap.size w w' := by
  go_enter Tryz.func4, Tryz.ntmps4
  go_wp2_with (first
    | (refine wpList_alB (cs := vd0C) rfl rfl vd0 ?_; intro w2 hG2 hb2 hs2)
    | (go_at_call 9; refine (check_nil k _).mono ?_; rintro e w1 ⟨rfl, h⟩; obtain rfl := h.symm)
    | (refine wpList_stB (cs := vd0C) rfl _ _ rfl rfl w.heap.size rfl rfl hG2 size_Vd rfl vd0_one ?_; intro w4 hG4 hg4 hs4))
  refine bodyPost_ret (res_B3 rfl _ _ w.heap.size rfl hG4 Tryz.underlying26 size_Vd) rfl ?_
  exact ⟨rfl, grow_end hb2 hg4 (Nat.le_refl _)⟩
set_option maxRecDepth 1000000 in
theorem find_nil (c : Option Nat) (k : ByteArray) (w : World) : Calls Tryz.prog 16 #[.pointer none, .chan c, .string k] w fun e w' => e = .returned (.tuple #[.slice none 0 0, .agg vd0C, .int .i64 1]) ∧ Below w.heap.size w w' := by
  go_enter Tryz.func16, Tryz.ntmps16
  go_wp2_with (first
    | (have hx := hG1; refine wpList_alB (cs := vd0C) rfl rfl vd0 ?_; intro w3 hG3 hb3 hs3; have hG1' := hG1.below hb3; clear hG1 hx)
    | (refine wpList_alB (cs := vd0C) rfl rfl vd0 ?_; intro w2 hG2 hb2 hs2)
    | (go_at_call 4; refine (look_nil c k _).mono ?_; rintro e w1 ⟨rfl, hb1⟩; have hG1 := hG2.below hb1)
    | (refine wpList_stB (cs := vd0C) rfl _ _ rfl rfl w1.heap.size rfl rfl hG3 size_Vd rfl vd0_one ?_; intro w4 hG4 hg4 hs4; have hG5 := hG1'.kept hg4 (by intro e; injection e with e; have := hs2.out; have := hb1.size; omega); clear hG3)
    | (refine wpList_stB (cs := vd0C) rfl _ _ rfl rfl w.heap.size rfl rfl hG5 size_Vd rfl vd0_one ?_; intro w6 hG6 hg6 hs6))
  refine bodyPost_ret (res_2B3 rfl _ _ w.heap.size rfl hG6 Tryz.underlying26 size_Vd) rfl ?_
  have B1 := bt hb2 hb1
  exact ⟨rfl, grow_end (grow_end (bt B1 hb3) hg4 B1.size) hg6 (Nat.le_refl _)⟩
set_option maxRecDepth 1000000 in
theorem get_nil (c : Option Nat) (k : ByteArray) (w : World) : Calls Tryz.prog 6 #[.pointer none, .chan c, .string k] w fun e w' => e = .returned (.tuple #[.slice none 0 0, .agg gn0C, .int .i64 1]) ∧ Below w.heap.size w w' := by
  go_enter Tryz.func6, Tryz.ntmps6
  go_wp2_with (first
    | (refine wpList_alB (cs := gn0C) rfl rfl gn0 ?_; intro w2 hG2 hb2 hs2)
    | (refine wpList_alB (cs := vd0C) rfl rfl vd0 ?_; intro w3 hG3 hb3 hs3; have hG1' := hG1.below hb3; clear hG1)
    | (go_at_call 16; refine (find_nil c k _).mono ?_; rintro e w1 ⟨rfl, hb1⟩; have hG1 := hG2.below hb1)
    | (refine wpList_stB (cs := vd0C) rfl _ _ rfl rfl w1.heap.size rfl rfl hG3 size_Vd rfl vd0_one ?_; intro w4 hG4 hg4 hs4; have hG5 := hG1'.kept hg4 (by intro e; injection e with e; have := hs2.out; have := hb1.size; omega); clear hG3)
    | (refine wpList_stB (cs := gn0C) rfl _ _ rfl rfl w.heap.size rfl rfl hG5 size_Gn rfl gn0_one ?_; intro w6 hG6 hg6 hs6))
  refine bodyPost_ret (res_2B3 rfl _ _ w.heap.size rfl hG6 Tryz.underlying23 size_Gn) rfl ?_
  have B1 := bt hb2 hb1
  exact ⟨rfl, grow_end (grow_end (bt B1 hb3) hg4 B1.size) hg6 (Nat.le_refl _)⟩
set_option maxRecDepth 1000000 in
theorem range_nil (c : Option Nat) (k : ByteArray) (a b : Int) (w : World) : Calls Tryz.prog 7 #[.pointer none, .chan c, .string k, .int .i64 a, .int .i64 b] w fun e w' => e = .returned (.tuple #[.slice none 0 0, .int .i64 1]) ∧ w' = w := by
  go_enter Tryz.func7, Tryz.ntmps7
  go_wp2_with (first
    | (go_at_call 9; refine (check_nil k _).mono ?_; rintro e w1 ⟨rfl, h⟩; obtain rfl := h.symm))
  refine bodyPost_ret (results_tmp2 rfl _ _ _) rfl ?_
  exact ⟨rfl, rfl⟩
theorem num_any (a : Int) (w : World) : Calls Tryz.prog 8 #[.int .i64 a] w fun e w' => e = .returned (.int .i64 a) ∧ w' = w := by
  go_enter Tryz.func8, Tryz.ntmps8
  go_wp2
  go_ret
  exact ⟨rfl, rfl⟩
set_option maxRecDepth 1000000 in
theorem getNone_walk (k : ByteArray) (a b : Int) (s : Bool) (w : World) : Calls Tryz.prog 3 #[.string k, .int .i64 a, .int .i64 b, .bool s] w fun e w' => e = .returned (.bool true) ∧ Below w.heap.size w w' := by
  go_enter Tryz.func3, Tryz.ntmps3
  go_upto_region 4 with (first
    | (have hx := hG8; go_at_call 5; refine (done_any s _).mono ?_; rintro e w7 ⟨⟨c7, rfl⟩, hb7⟩; clear hx)
    | (go_at_call 5; refine (done_any s _).mono ?_; rintro e w1 ⟨⟨c1, rfl⟩, hb1⟩)
    | (go_at_call 4; refine (look_nil _ k _).mono ?_; rintro e w2 ⟨rfl, hb2⟩)
    | (refine wpList_alB (cs := vd0C) rfl rfl vd0 ?_; intro w3 hG3 hb3 hs3)
    | (refine wpList_stB (cs := vd0C) rfl _ _ rfl rfl w2.heap.size rfl rfl hG3 size_Vd rfl vd0_one ?_; intro w4 hG4 hg4 hs4)
    | (go_at_call 6; refine (get_nil _ k _).mono ?_; rintro e w5 ⟨rfl, hb5⟩)
    | (refine wpList_alB (cs := gn0C) rfl rfl gn0 ?_; intro w6 hG6 hb6 hs6)
    | (refine wpList_stB (cs := gn0C) rfl _ _ rfl rfl w5.heap.size rfl rfl hG6 size_Gn rfl gn0_one ?_; intro w8 hG8 hg8 hs8)
    | (go_at_call 7; refine (range_nil _ k a b _).mono ?_; rintro e w9 ⟨rfl, h⟩; obtain rfl := h.symm))
  have B2 := bt hb1 hb2
  have B4 := grow_end (bt B2 hb3) hg4 B2.size
  have B5 := bt B4 hb5
  have B8 := grow_end (bt B5 hb6) hg8 B5.size
  have HB := (show Hid (Below w.heap.size w w7) from bt B8 hb7)
  have GV := ((hG4.below hb5).below hb6).kept hg8 (by intro e; injection e with e; have := hG4.lt; have := hb5.size; omega)
  have GV7 := GV.below hb7
  have GG7 := hG8.below hb7
  have v0 := GV7.cell 0
  have v4 := GV7.cell 4
  have g0 := GG7.cell 0
  have g1 := GG7.cell 1
  simp only [vd0C, gn0C] at v0 v4 g0 g1
  have NM := (show Hid (∀ W, _) from fun W => num_any 1 W)
  clear B2 B4 B5 B8 GV GV7 GG7 hG3 hG4 hG6 hG8 hb1 hb2 hb3 hb5 hb6 hb7 hg4 hg8 hs3 hs4 hs6 hs8
  go_wp2_with (first
    | (go_at_call 8; refine (NM.out _).mono ?_; rintro e w0 ⟨rfl, h⟩; obtain rfl := h.symm))
  go_ret
  exact ⟨rfl, HB.out⟩
end
end Go.Proofs.YthgjfpdeboaipaaGreat
