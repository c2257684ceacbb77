/-
  Stripe: Blocks, Where, of the program and of the document; sameNumbers.
-/
import Derived.Test.YtkngfeciobalmaaQ8e
import Derived.Deep.QuietTactic
import Derived.BigQuiet
namespace Go.Proofs.Ytkngfeciobalmaa
open Go.RowKit
section
attribute [local irreducible] Calls el Hd.cs
set_option maxHeartbeats 1000000 in
set_option maxRecDepth 1000000 in
theorem blocks_any (k m b sz : Int) (hm : In64 m) (hz : In64 sz) (w : World) :
    Calls Try.prog 14 #[.agg (shC k m b), .int .i64 sz] w fun e w' => ∃ v, e = .returned (.tuple #[v, .int .i64 (szC k m b sz)]) ∧ Oi w' w.heap.size v (szL k m b sz) ∧ Below w.heap.size w w' := by
  have al : ∀ (W : World) (o : Obj), Below W.heap.size W (W.alloc o) := fun W o => (Below.refl _ _).alloc (Nat.le_refl _) o
  have SZ := (show Hid _ from fun w => sizes_any k m b sz hm hz w)
  have HA := ShAt.new w k m b
  unfold shC at SZ HA ⊢
  generalize szC k m b sz = z at SZ ⊢
  generalize szL k m b sz = L at SZ ⊢
  go_enter Try.func14, Try.ntmps14
  go_wp2_with (go_at_call 28; refine (SZ.out _).mono ?_; rintro e w1 ⟨v, rfl, hO, hb1⟩)
  go_ret2
  first
    | exact ⟨_, rfl, hO, hb1⟩
    | exact ⟨_, rfl, own_mono hO (al w _).size, btN (al _ _) hb1⟩
end
theorem results_tmp4 {fn : Func} {t u v x : Tmp} (h : fn.results = #[.tmp t, .tmp u, .tmp v, .tmp x]) (tmps : Array Value) (P : Program) (w : World) :
    (results fn tmps).run P w = .ok (.tuple #[tmps.getD t undef, tmps.getD u undef, tmps.getD v undef, tmps.getD x undef]) w := by
  simp [results, h]
/-- Where a range lies. -/
structure Wr where
  f : Int
  t : Int
  s : Int
  e : Int
def whR (k m b sz off n : Int) : Wr :=
  if szC k m b sz ≠ 0 then ⟨0, 0, 0, szC k m b sz⟩ else if off < 0 ∨ n < 0 then ⟨0, 0, 0, 2⟩ else if n = 0 ∨ sz ≤ off then ⟨0, 0, 0, 0⟩ else
    ⟨off / (k * b), (off + min n (sz - off) - 1) / (k * b) + 1, off % (k * b), 0⟩
section
attribute [local irreducible] Calls el Hd.cs szC szL
set_option maxHeartbeats 1000000 in
set_option maxRecDepth 1000000 in
theorem stripeBytes_any (k m b : Int) (hs : shp k m b) (w : World) :
    Calls Try.prog 29 #[.agg (shC k m b)] w fun e w' => e = .returned (.int .i64 (k * b)) ∧ Below w.heap.size w w' := by
  have kb := kb_bd hs
  have HA := ShAt.new w k m b
  have e1 : wrap64 (k * b) = k * b := by unfold wrap64; omega
  unfold shC at HA ⊢
  obtain ⟨q0, q1, q2⟩ := HA.cells
  go_enter Try.func29, Try.ntmps29
  go_wp2
  go_ret
  exact ⟨rfl, (Below.refl _ _).alloc (Nat.le_refl _) _⟩
theorem szC_ok {k m b sz : Int} (h : szC k m b sz = 0) : shp k m b ∧ 0 ≤ sz ∧ sz ≤ 1048576 := by
  unfold szC at h
  by_cases h1 : shp k m b
  · rw [if_neg (not_not_intro h1)] at h
    obtain ⟨z1, z2, z3⟩ := (szE_ok _ _ _).1 h
    exact ⟨h1, by omega, by omega⟩
  · rw [if_pos h1] at h; cases h
set_option maxHeartbeats 2000000 in
set_option maxRecDepth 1000000 in
theorem where_any (k m b sz off n : Int) (hm : In64 m) (hz : In64 sz) (ho : In64 off) (hn : In64 n) (w : World) :
    Calls Try.prog 16 #[.agg (shC k m b), .int .i64 sz, .int .i64 off, .int .i64 n] w fun e w' => e = .returned (.tuple #[.int .i64 (whR k m b sz off n).f, .int .i64 (whR k m b sz off n).t, .int .i64 (whR k m b sz off n).s, .int .i64 (whR k m b sz off n).e]) ∧ Below w.heap.size w w' := by
  have al : ∀ (W : World) (o : Obj), Below W.heap.size W (W.alloc o) := fun W o => (Below.refl _ _).alloc (Nat.le_refl _) o
  have BL := (show Hid _ from fun w => blocks_any k m b sz hm hz w)
  have HA := ShAt.new w k m b
  unfold In64 at ho hn
  unfold shC at BL HA ⊢
  go_enter Try.func16, Try.ntmps16
  unfold whR
  by_cases h1 : szC k m b sz = 0
  · rw [if_neg (not_not_intro h1)]
    obtain ⟨hs, hz1, hz2⟩ := szC_ok h1
    have kb := kb_bd hs
    have SB := (show Hid _ from fun w => stripeBytes_any k m b hs w)
    unfold shC at SB
    rw [h1] at BL
    by_cases h2 : off < 0 ∨ n < 0
    · rw [if_pos h2]
      rcases h2 with h2 | h2
      · go_wp2_with (go_at_call 14; refine (BL.out _).mono ?_; rintro e w1 ⟨v, rfl, hO, hb1⟩)
        (try simp only [Exit.inBlock, Exit.then])
        refine bodyPost_ret (results_tmp4 rfl _ _ _) rfl ?_
        exact ⟨rfl, btN (al _ _) hb1⟩
      · by_cases h3 : off < 0
        · go_wp2_with (go_at_call 14; refine (BL.out _).mono ?_; rintro e w1 ⟨v, rfl, hO, hb1⟩)
          (try simp only [Exit.inBlock, Exit.then])
          refine bodyPost_ret (results_tmp4 rfl _ _ _) rfl ?_
          exact ⟨rfl, btN (al _ _) hb1⟩
        · go_wp2_with (go_at_call 14; refine (BL.out _).mono ?_; rintro e w1 ⟨v, rfl, hO, hb1⟩)
          (try simp only [Exit.inBlock, Exit.then])
          refine bodyPost_ret (results_tmp4 rfl _ _ _) rfl ?_
          exact ⟨rfl, btN (al _ _) hb1⟩
    · rw [if_neg h2]
      have h3 : ¬ off < 0 := by omega
      have h4 : ¬ n < 0 := by omega
      by_cases h5 : n = 0
      · subst h5
        rw [if_pos (.inl rfl)]
        go_wp2_with (go_at_call 14; refine (BL.out _).mono ?_; rintro e w1 ⟨v, rfl, hO, hb1⟩)
        (try simp only [Exit.inBlock, Exit.then])
        refine bodyPost_ret (results_tmp4 rfl _ _ _) rfl ?_
        exact ⟨rfl, btN (al _ _) hb1⟩
      · have i5 : (n == 0) = false := by simp [h5]
        by_cases h6 : sz ≤ off
        · rw [if_pos (.inr h6)]
          go_wp2_with (go_at_call 14; refine (BL.out _).mono ?_; rintro e w1 ⟨v, rfl, hO, hb1⟩)
          (try simp only [Exit.inBlock, Exit.then])
          refine bodyPost_ret (results_tmp4 rfl _ _ _) rfl ?_
          exact ⟨rfl, btN (al _ _) hb1⟩
        · rw [if_neg (by omega)]
          by_cases h7 : n < sz - off
          · have hmn : min n (sz - off) = n := by omega
            rw [hmn]
            have w1' : wrap64 (sz - off) = sz - off := by unfold wrap64; omega
            have w2' : wrap64 (off + n) = off + n := by unfold wrap64; omega
            have w3' : wrap64 (off + n - 1) = off + n - 1 := by unfold wrap64; omega
            have n0 : ¬ k * b = 0 := by omega
            have q1 : 0 ≤ (off + n - 1) / (k * b) := Int.ediv_nonneg (by omega) (by omega)
            have q2 : (off + n - 1) / (k * b) ≤ off + n - 1 := Int.ediv_le_self _ (by omega)
            have t1 : (off + n - 1).tdiv (k * b) = (off + n - 1) / (k * b) := Int.tdiv_eq_ediv_of_nonneg (by omega)
            have t2 : off.tdiv (k * b) = off / (k * b) := Int.tdiv_eq_ediv_of_nonneg (by omega)
            have t3 : off.tmod (k * b) = off % (k * b) := Int.tmod_eq_emod_of_nonneg (by omega)
            have q3 : 0 ≤ off / (k * b) := Int.ediv_nonneg (by omega) (by omega)
            have q4 : off / (k * b) ≤ off := Int.ediv_le_self _ (by omega)
            have w4' : wrap64 ((off + n - 1) / (k * b) + 1) = (off + n - 1) / (k * b) + 1 := by unfold wrap64; omega
            have w5' : wrap64 ((off + n - 1) / (k * b)) = (off + n - 1) / (k * b) := by unfold wrap64; omega
            have w6' : wrap64 (off / (k * b)) = off / (k * b) := by unfold wrap64; omega
            generalize k * b = kb at *
            go_wp2_with (first | (go_at_call 14; refine (BL.out _).mono ?_; rintro e w1 ⟨v, rfl, hO, hb1⟩; obtain ⟨c0, c1, c2⟩ := (HA.below hb1).cells) | (go_at_call 29; refine (SB.out _).mono ?_; rintro e w2 ⟨rfl, hb2⟩))
            go_quiet (fail)
            go_wp2
            (try simp only [Exit.inBlock, Exit.then])
            refine bodyPost_ret (results_tmp4 rfl _ _ _) rfl ?_
            exact ⟨rfl, below_drewN (btN (btN (al _ _) hb1) hb2) _⟩
          · by_cases h8 : sz - off < n
            · have hmn : min n (sz - off) = (sz - off) := by omega
              rw [hmn]
              have w1' : wrap64 (sz - off) = sz - off := by unfold wrap64; omega
              have w2' : wrap64 (off + (sz - off)) = off + (sz - off) := by unfold wrap64; omega
              have w3' : wrap64 (off + (sz - off) - 1) = off + (sz - off) - 1 := by unfold wrap64; omega
              have n0 : ¬ k * b = 0 := by omega
              have q1 : 0 ≤ (off + (sz - off) - 1) / (k * b) := Int.ediv_nonneg (by omega) (by omega)
              have q2 : (off + (sz - off) - 1) / (k * b) ≤ off + (sz - off) - 1 := Int.ediv_le_self _ (by omega)
              have t1 : (off + (sz - off) - 1).tdiv (k * b) = (off + (sz - off) - 1) / (k * b) := Int.tdiv_eq_ediv_of_nonneg (by omega)
              have t2 : off.tdiv (k * b) = off / (k * b) := Int.tdiv_eq_ediv_of_nonneg (by omega)
              have t3 : off.tmod (k * b) = off % (k * b) := Int.tmod_eq_emod_of_nonneg (by omega)
              have q3 : 0 ≤ off / (k * b) := Int.ediv_nonneg (by omega) (by omega)
              have q4 : off / (k * b) ≤ off := Int.ediv_le_self _ (by omega)
              have w4' : wrap64 ((off + (sz - off) - 1) / (k * b) + 1) = (off + (sz - off) - 1) / (k * b) + 1 := by unfold wrap64; omega
              have w5' : wrap64 ((off + (sz - off) - 1) / (k * b)) = (off + (sz - off) - 1) / (k * b) := by unfold wrap64; omega
              have w6' : wrap64 (off / (k * b)) = off / (k * b) := by unfold wrap64; omega
              generalize k * b = kb at *
              go_wp2_with (first | (go_at_call 14; refine (BL.out _).mono ?_; rintro e w1 ⟨v, rfl, hO, hb1⟩; obtain ⟨c0, c1, c2⟩ := (HA.below hb1).cells) | (go_at_call 29; refine (SB.out _).mono ?_; rintro e w2 ⟨rfl, hb2⟩))
              go_quiet (fail)
              go_wp2
              (try simp only [Exit.inBlock, Exit.then])
              refine bodyPost_ret (results_tmp4 rfl _ _ _) rfl ?_
              exact ⟨rfl, below_drewN (btN (btN (al _ _) hb1) hb2) _⟩
            · obtain rfl : n = sz - off := by omega
              have hmn : min (sz - off) (sz - off) = (sz - off) := by omega
              rw [hmn]
              have w1' : wrap64 (sz - off) = sz - off := by unfold wrap64; omega
              have w2' : wrap64 (off + (sz - off)) = off + (sz - off) := by unfold wrap64; omega
              have w3' : wrap64 (off + (sz - off) - 1) = off + (sz - off) - 1 := by unfold wrap64; omega
              have n0 : ¬ k * b = 0 := by omega
              have q1 : 0 ≤ (off + (sz - off) - 1) / (k * b) := Int.ediv_nonneg (by omega) (by omega)
              have q2 : (off + (sz - off) - 1) / (k * b) ≤ off + (sz - off) - 1 := Int.ediv_le_self _ (by omega)
              have t1 : (off + (sz - off) - 1).tdiv (k * b) = (off + (sz - off) - 1) / (k * b) := Int.tdiv_eq_ediv_of_nonneg (by omega)
              have t2 : off.tdiv (k * b) = off / (k * b) := Int.tdiv_eq_ediv_of_nonneg (by omega)
              have t3 : off.tmod (k * b) = off % (k * b) := Int.tmod_eq_emod_of_nonneg (by omega)
              have q3 : 0 ≤ off / (k * b) := Int.ediv_nonneg (by omega) (by omega)
              have q4 : off / (k * b) ≤ off := Int.ediv_le_self _ (by omega)
              have w4' : wrap64 ((off + (sz - off) - 1) / (k * b) + 1) = (off + (sz - off) - 1) / (k * b) + 1 := by unfold wrap64; omega
              have w5' : wrap64 ((off + (sz - off) - 1) / (k * b)) = (off + (sz - off) - 1) / (k * b) := by unfold wrap64; omega
              have w6' : wrap64 (off / (k * b)) = off / (k * b) := by unfold wrap64; omega
              generalize k * b = kb at *
              go_wp2_with (first | (go_at_call 14; refine (BL.out _).mono ?_; rintro e w1 ⟨v, rfl, hO, hb1⟩; obtain ⟨c0, c1, c2⟩ := (HA.below hb1).cells) | (go_at_call 29; refine (SB.out _).mono ?_; rintro e w2 ⟨rfl, hb2⟩))
              go_quiet (fail)
              go_wp2
              (try simp only [Exit.inBlock, Exit.then])
              refine bodyPost_ret (results_tmp4 rfl _ _ _) rfl ?_
              exact ⟨rfl, below_drewN (btN (btN (al _ _) hb1) hb2) _⟩
  · rw [if_pos h1]
    generalize szC k m b sz = z at BL h1 ⊢
    go_wp2_with (go_at_call 14; refine (BL.out _).mono ?_; rintro e w1 ⟨v, rfl, hO, hb1⟩)
    (try simp only [Exit.inBlock, Exit.then])
    refine bodyPost_ret (results_tmp4 rfl _ _ _) rfl ?_
    exact ⟨rfl, btN (al _ _) hb1⟩
end
end Go.Proofs.Ytkngfeciobalmaa
