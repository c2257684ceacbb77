/-
  Stripe: Blocks, Where, of the program and of the document; sameNumbers.
-/
import Derived.Test.YtgokkppojhokbaaQ8e
import Derived.Deep.QuietTactic
import Derived.BigQuiet
namespace Go.Proofs.Ytgokkppojhokbaa
open Go.RowKit
section
attribute [local irreducible] Calls el Hd.cs
set_option maxHeartbeats 1000000 in
set_option maxRecDepth 1000000 in
theorem blocks_any (k m b sz : Int) (hm : In64 m) (hz : In64 sz) (w : World) :
    Calls Try.prog 13 #[.agg (shC k m b), .int .i64 sz] w fun e w' => ∃ v, e = .returned (.tuple #[v, .int .i64 (szC k m b sz)]) ∧ Oi w' w.heap.size v (szL k m b sz) ∧ Below w.heap.size w w' := by
  have al : ∀ (W : World) (o : Obj), Below W.heap.size W (W.alloc o) := fun W o => (Below.refl _ _).alloc (Nat.le_refl _) o
  have SZ := (show Hid _ from fun w => sizes_any k m b sz hm hz w)
  have HA := ShAt.new w k m b
  unfold shC at SZ HA ⊢
  generalize szC k m b sz = z at SZ ⊢
  generalize szL k m b sz = L at SZ ⊢
  go_enter Try.func13, Try.ntmps13
  go_wp2_with (go_at_call 23; refine (SZ.out _).mono ?_; rintro e w1 ⟨v, rfl, hO, hb1⟩)
  go_ret2
  first
    | exact ⟨_, rfl, hO, hb1⟩
    | exact ⟨_, rfl, own_mono hO (al w _).size, btN (al _ _) hb1⟩
end
theorem results_tmp4 {fn : Func} {t u v x : Tmp} (h : fn.results = #[.tmp t, .tmp u, .tmp v, .tmp x]) (tmps : Array Value) (P : Program) (w : World) :
    (results fn tmps).run P w = .ok (.tuple #[tmps.getD t undef, tmps.getD u undef, tmps.getD v undef, tmps.getD x undef]) w := by
  simp [results, h]
/-- Where a range lies. -/
structure Wr where
  f : Int
  t : Int
  s : Int
  e : Int
def whR (k m b sz off n : Int) : Wr :=
  if szC k m b sz ≠ 0 then ⟨0, 0, 0, szC k m b sz⟩ else if off < 0 ∨ n < 0 then ⟨0, 0, 0, 2⟩ else if n = 0 ∨ sz ≤ off then ⟨0, 0, 0, 0⟩ else
    ⟨off / (k * b), (off + min n (sz - off) - 1) / (k * b) + 1, off % (k * b), 0⟩
section
attribute [local irreducible] Calls el Hd.cs szC szL
set_option maxHeartbeats 1000000 in
set_option maxRecDepth 1000000 in
theorem stripeBytes_any (k m b : Int) (hs : shp k m b) (w : World) :
    Calls Try.prog 35 #[.agg (shC k m b)] w fun e w' => e = .returned (.int .i64 (k * b)) ∧ Below w.heap.size w w' := by
  have kb := kb_bd hs
  have HA := ShAt.new w k m b
  have e1 : wrap64 (k * b) = k * b := by unfold wrap64; omega
  unfold shC at HA ⊢
  obtain ⟨q0, q1, q2⟩ := HA.cells
  go_enter Try.func35, Try.ntmps35
  go_wp2
  go_ret
  exact ⟨rfl, (Below.refl _ _).alloc (Nat.le_refl _) _⟩
theorem szC_ok {k m b sz : Int} (h : szC k m b sz = 0) : shp k m b ∧ 0 ≤ sz ∧ sz ≤ 1048576 := by
  unfold szC at h
  by_cases h1 : shp k m b
  · rw [if_neg (not_not_intro h1)] at h
    obtain ⟨z1, z2, z3⟩ := (szE_ok _ _ _).1 h
    exact ⟨h1, by omega, by omega⟩
  · rw [if_pos h1] at h; cases h
end
end Go.Proofs.Ytgokkppojhokbaa
