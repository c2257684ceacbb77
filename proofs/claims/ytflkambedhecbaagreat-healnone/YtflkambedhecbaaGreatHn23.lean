/-
  Package heal on no set: Heal answers ErrNil.
-/
import Derived.Test.YtflkambedhecbaaGreatGb20
import Derived.Conc.LoneCalls
import Derived.Deep.Cut
namespace Go.Proofs.YtflkambedhecbaaGreat
open Go.RowKit
/-- Nothing was healed. -/
def hl0C : Array Value := #[.int .i64 0, .int .i64 0, .int .i64 0, .int .i64 0]
theorem hl0 (w : World) : (zeroValue 23).run Tryz.prog w = .ok (.agg #[.int .i64 0, .int .i64 0, .int .i64 0, .int .i64 0]) w := by kernel_rfl
theorem size_Hl : (Tryz.prog.info? 23).map (·.size) = some 4 := by kernel_rfl
theorem mkch (w : World) : (Instr.makeChan 46 (.int .i64 0)).run Tryz.prog w = .ok (.chan (some w.heap.size)) (w.alloc (.chan 0 #[] false 0 0 false)) := by
  have h0 : (Tryz.prog.info? 181).map (·.bytes) = some 0 := by kernel_rfl
  obtain ⟨i, hi, hb⟩ := Option.map_eq_some_iff.1 h0
  exact Conc.run_makeChan Tryz.underlying46 hi .i64 0 (by decide) (by rw [hb]; decide)
theorem hl0_one : (hl0C.all fun x => x.oneCell') = true := by simp [hl0C, Value.oneCell']
section
variable {fn : Func} {p q : Tmp} {t : TypeId} {cs : Array Value}
/-- The first of two. -/
theorem res_B2 (h : fn.results = #[.cell p t, .tmp q]) (tmps : Array Value) (w : World) (g : Nat) (hp : tmps.getD p undef = .pointer (some ⟨g, 0, none⟩)) (H : GB w g t cs) {fs : Array Field} (hu : Tryz.prog.underlying t = some (.struct fs)) (hs : (Tryz.prog.info? t).map (·.size) = some cs.size) :
    (results fn tmps).run Tryz.prog w = .ok (.tuple #[.agg cs, tmps.getD q undef]) w := by
  have hl := run_loadVar_at (P := Tryz.prog) w g 0 t cs _ (fun j v hv => by rw [Nat.zero_add, H.cell]; simpa using hv) hu rfl hs
  have hp' : tmps[p]?.getD undef = .pointer (some ⟨g, 0, none⟩) := by simpa using hp
  simp [results, h, hp', asAddr, hl]
end
section
attribute [local irreducible] Calls GB
set_option maxRecDepth 1000000 in
theorem done_any (b : Bool) (w : World) : Calls Tryz.prog 5 #[.bool b] w fun e w' => (∃ c, e = .returned (.chan c)) ∧ Below w.heap.size w w' := by
  cases b
  · go_enter Tryz.func5, Tryz.ntmps5
    go_wp2
    go_ret
    exact ⟨⟨_, rfl⟩, Below.refl _ _⟩
  · have hm := mkch w
    have hcl := fun ats ty => run_close_open (P := Tryz.prog) (w := (w.alloc (.chan 0 #[] false 0 0 false))) ats ty (heap_alloc_new w (.chan 0 #[] false 0 0 false))
    go_enter Tryz.func5, Tryz.ntmps5
    go_wp2
    go_ret
    refine ⟨⟨_, rfl⟩, ?_⟩
    exact Conc.below_setChan ((Below.refl _ w).alloc (Nat.le_refl _) _) (Nat.le_refl _) _ _ _ _ _ _
set_option maxRecDepth 1000000 in
theorem check_nil (w : World) : Calls Tryz.prog 7 #[.pointer none] w fun e w' => e = .returned (.int .i64 1) ∧ w' = w := by
  go_enter Tryz.func7, Tryz.ntmps7
  go_wp2
  go_ret
  exact ⟨rfl, rfl⟩
theorem grow_end {w a b : World} {g : Nat} (h : Below w.heap.size w a) (hg : a.grownBy b (some g)) (hgB : w.heap.size ≤ g) : Below w.heap.size w b := grown_below h hg h.size hgB
set_option maxRecDepth 1000000 in
theorem heal_nil (c : Option Nat) (w : World) : Calls Tryz.prog 4 #[.pointer none, .chan c] w fun e w' => e = .returned (.tuple #[.agg hl0C, .int .i64 1]) ∧ Below w.heap.size w w' := by
  go_enter Tryz.func4, Tryz.ntmps4
  go_wp2_with (first
    | (refine wpList_alB (cs := hl0C) rfl rfl hl0 ?_; intro w2 hG2 hb2 hs2)
    | (go_at_call 7; refine (check_nil _).mono ?_; rintro e w1 ⟨rfl, h⟩; obtain rfl := h.symm)
    | (refine wpList_stB (cs := hl0C) rfl _ _ rfl rfl w.heap.size rfl rfl hG2 size_Hl rfl hl0_one ?_; intro w4 hG4 hg4 hs4))
  refine bodyPost_ret (res_B2 rfl _ _ w.heap.size rfl hG4 Tryz.underlying23 size_Hl) rfl ?_
  exact ⟨rfl, grow_end hb2 hg4 (Nat.le_refl _)⟩
theorem num_any (a : Int) (w : World) : Calls Tryz.prog 6 #[.int .i64 a] w fun e w' => e = .returned (.int .i64 a) ∧ w' = w := by
  go_enter Tryz.func6, Tryz.ntmps6
  go_wp2
  go_ret
  exact ⟨rfl, rfl⟩
set_option maxRecDepth 1000000 in
theorem healNone_walk (s : Bool) (w : World) : Calls Tryz.prog 3 #[.bool s] w fun e w' => e = .returned (.bool true) ∧ Below w.heap.size w w' := by
  go_enter Tryz.func3, Tryz.ntmps3
  go_upto_region 2 with (first
    | (go_at_call 5; refine (done_any s _).mono ?_; rintro e w1 ⟨⟨c1, rfl⟩, hb1⟩)
    | (go_at_call 4; refine (heal_nil _ _).mono ?_; rintro e w2 ⟨rfl, hb2⟩)
    | (refine wpList_alB (cs := hl0C) rfl rfl hl0 ?_; intro w3 hG3 hb3 hs3)
    | (refine wpList_stB (cs := hl0C) rfl _ _ rfl rfl w2.heap.size rfl rfl hG3 size_Hl rfl hl0_one ?_; intro w4 hG4 hg4 hs4))
  have B2 := bt hb1 hb2
  have HB := (show Hid (Below w.heap.size w w4) from grow_end (bt B2 hb3) hg4 B2.size)
  have v0 := hG4.cell 0
  have v1 := hG4.cell 1
  have v2 := hG4.cell 2
  have v3 := hG4.cell 3
  simp only [hl0C] at v0 v1 v2 v3
  have NM := (show Hid (∀ W, _) from fun W => num_any 1 W)
  clear B2 hG3 hG4 hb1 hb2 hb3 hg4 hs3 hs4
  go_wp2_with (first
    | (go_at_call 6; refine (NM.out _).mono ?_; rintro e w0 ⟨rfl, h⟩; obtain rfl := h.symm))
  go_ret
  exact ⟨rfl, HB.out⟩
end
end Go.Proofs.YtflkambedhecbaaGreat
