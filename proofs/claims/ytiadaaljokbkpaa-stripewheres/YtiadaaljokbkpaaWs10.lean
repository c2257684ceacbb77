/-
  StripeSizes, StripeWheres: the document's Where, the walks.
-/
import Derived.Test.YtiadaaljokbkpaaWh10
namespace Go.Proofs.Ytiadaaljokbkpaa
open Go.RowKit
theorem szL_len {k m b sz : Int} : (szL k m b sz).length ≤ 1099511627776 := by
  unfold szL
  split
  · rename_i h0
    obtain ⟨h1, z1, z2⟩ := szC_ok h0
    have kb := kb_bd h1
    rw [bls_len _ _ (by omega) _ _ (Nat.le_refl _)]
    exact Nat.le_trans (Nat.div_le_self _ _) (by omega)
  · simp
section
attribute [local irreducible] Calls el Hd.cs szC szL
set_option maxHeartbeats 4000000 in
set_option maxRecDepth 1000000 in
theorem rwhere_any (k m b sz off n : Int) (hk : In64 k) (hm : In64 m) (hz : In64 sz) (ho : In64 off) (hn : In64 n) (w : World) :
    Calls Try.prog 9 #[.agg (shC k m b), .int .i64 sz, .int .i64 off, .int .i64 n] w fun e w' => e = .returned (.tuple #[.int .i64 (whR k m b sz off n).f, .int .i64 (whR k m b sz off n).t, .int .i64 (whR k m b sz off n).s, .int .i64 (whR k m b sz off n).e]) ∧ Below w.heap.size w w' := by
  have al : ∀ (W : World) (o : Obj), Below W.heap.size W (W.alloc o) := fun W o => (Below.refl _ _).alloc (Nat.le_refl _) o
  have BL := (show Hid _ from fun w => rsizes_any k m b sz hk hm hz w)
  have HA := ShAt.new w k m b
  unfold In64 at ho hn
  unfold shC at BL HA ⊢
  go_enter Try.func9, Try.ntmps9
  unfold whR
  by_cases h1 : szC k m b sz = 0
  · rw [if_neg (not_not_intro h1)]
    obtain ⟨hs, hz1, hz2⟩ := szC_ok h1
    have kb := kb_bd hs
    rw [h1] at BL
    by_cases h2 : off < 0 ∨ n < 0
    · rw [if_pos h2]
      by_cases h3 : off < 0
      · go_wp2_with (go_at_call 6; refine (BL.out _).mono ?_; rintro e w1 ⟨v, rfl, hO, hb1⟩)
        (try simp only [Exit.inBlock, Exit.then])
        refine bodyPost_ret (results_tmp4 rfl _ _ _) rfl ?_
        exact ⟨rfl, bt (al _ _) hb1⟩
      · have h4 : n < 0 := by omega
        go_wp2_with (go_at_call 6; refine (BL.out _).mono ?_; rintro e w1 ⟨v, rfl, hO, hb1⟩)
        (try simp only [Exit.inBlock, Exit.then])
        refine bodyPost_ret (results_tmp4 rfl _ _ _) rfl ?_
        exact ⟨rfl, bt (al _ _) hb1⟩
    · rw [if_neg h2]
      have h3 : ¬ off < 0 := by omega
      have h4 : ¬ n < 0 := by omega
      by_cases h5 : n = 0
      · subst h5
        rw [if_pos (.inl rfl)]
        go_wp2_with (go_at_call 6; refine (BL.out _).mono ?_; rintro e w1 ⟨v, rfl, hO, hb1⟩)
        (try simp only [Exit.inBlock, Exit.then])
        refine bodyPost_ret (results_tmp4 rfl _ _ _) rfl ?_
        exact ⟨rfl, bt (al _ _) hb1⟩
      · have i5 : (n == 0) = false := by simp [h5]
        by_cases h6 : sz ≤ off
        · rw [if_pos (.inr h6)]
          go_wp2_with (go_at_call 6; refine (BL.out _).mono ?_; rintro e w1 ⟨v, rfl, hO, hb1⟩)
          (try simp only [Exit.inBlock, Exit.then])
          refine bodyPost_ret (results_tmp4 rfl _ _ _) rfl ?_
          exact ⟨rfl, bt (al _ _) hb1⟩
        · rw [if_neg (by omega)]
          by_cases h7 : n < sz - off
          · have hmn : off + min n (sz - off) - 1 = off + n - 1 := by omega
            rw [hmn]
            have w1' : wrap64 (sz - off) = sz - off := by unfold wrap64; omega
            have w0' : wrap64 (sz - 1) = sz - 1 := by unfold wrap64; omega
            have w2' : wrap64 (off + n) = off + n := by unfold wrap64; omega
            have w3' : wrap64 (off + n - 1) = off + n - 1 := by unfold wrap64; omega
            have n0 : ¬ k * b = 0 := by omega
            have q1 : 0 ≤ (off + n - 1) / (k * b) := Int.ediv_nonneg (by omega) (by omega)
            have q2 : (off + n - 1) / (k * b) ≤ off + n - 1 := Int.ediv_le_self _ (by omega)
            have t1 : (off + n - 1).tdiv (k * b) = (off + n - 1) / (k * b) := Int.tdiv_eq_ediv_of_nonneg (by omega)
            have t2 : off.tdiv (k * b) = off / (k * b) := Int.tdiv_eq_ediv_of_nonneg (by omega)
            have t3 : off.tmod (k * b) = off % (k * b) := Int.tmod_eq_emod_of_nonneg (by omega)
            have q3 : 0 ≤ off / (k * b) := Int.ediv_nonneg (by omega) (by omega)
            have q4 : off / (k * b) ≤ off := Int.ediv_le_self _ (by omega)
            have w4' : wrap64 ((off + n - 1) / (k * b) + 1) = (off + n - 1) / (k * b) + 1 := by unfold wrap64; omega
            have w5' : wrap64 ((off + n - 1) / (k * b)) = (off + n - 1) / (k * b) := by unfold wrap64; omega
            have w6' : wrap64 (off / (k * b)) = off / (k * b) := by unfold wrap64; omega
            have w7' : wrap64 (k * b) = k * b := by unfold wrap64; omega
            go_wp2_with (go_at_call 6; refine (BL.out _).mono ?_; rintro e w1 ⟨v, rfl, hO, hb1⟩; obtain ⟨c0, c1, c2⟩ := (HA.below hb1).cells)
            go_quiet (fail)
            go_wp2
            (try simp only [Exit.inBlock, Exit.then])
            refine bodyPost_ret (results_tmp4 rfl _ _ _) rfl ?_
            exact ⟨rfl, below_drewN (bt (al _ _) hb1) _⟩
          · have hmn : off + min n (sz - off) - 1 = sz - 1 := by omega
            rw [hmn]
            have w1' : wrap64 (sz - off) = sz - off := by unfold wrap64; omega
            have w0' : wrap64 (sz - 1) = sz - 1 := by unfold wrap64; omega
            have n0 : ¬ k * b = 0 := by omega
            have q1 : 0 ≤ (sz - 1) / (k * b) := Int.ediv_nonneg (by omega) (by omega)
            have q2 : (sz - 1) / (k * b) ≤ sz - 1 := Int.ediv_le_self _ (by omega)
            have t1 : (sz - 1).tdiv (k * b) = (sz - 1) / (k * b) := Int.tdiv_eq_ediv_of_nonneg (by omega)
            have t2 : off.tdiv (k * b) = off / (k * b) := Int.tdiv_eq_ediv_of_nonneg (by omega)
            have t3 : off.tmod (k * b) = off % (k * b) := Int.tmod_eq_emod_of_nonneg (by omega)
            have q3 : 0 ≤ off / (k * b) := Int.ediv_nonneg (by omega) (by omega)
            have q4 : off / (k * b) ≤ off := Int.ediv_le_self _ (by omega)
            have w4' : wrap64 ((sz - 1) / (k * b) + 1) = (sz - 1) / (k * b) + 1 := by unfold wrap64; omega
            have w5' : wrap64 ((sz - 1) / (k * b)) = (sz - 1) / (k * b) := by unfold wrap64; omega
            have w6' : wrap64 (off / (k * b)) = off / (k * b) := by unfold wrap64; omega
            have w7' : wrap64 (k * b) = k * b := by unfold wrap64; omega
            go_wp2_with (go_at_call 6; refine (BL.out _).mono ?_; rintro e w1 ⟨v, rfl, hO, hb1⟩; obtain ⟨c0, c1, c2⟩ := (HA.below hb1).cells)
            go_quiet (fail)
            go_wp2
            (try simp only [Exit.inBlock, Exit.then])
            refine bodyPost_ret (results_tmp4 rfl _ _ _) rfl ?_
            exact ⟨rfl, below_drewN (bt (al _ _) hb1) _⟩
  · rw [if_pos h1]
    generalize szC k m b sz = z at BL h1 ⊢
    go_wp2_with (go_at_call 6; refine (BL.out _).mono ?_; rintro e w1 ⟨v, rfl, hO, hb1⟩)
    (try simp only [Exit.inBlock, Exit.then])
    refine bodyPost_ret (results_tmp4 rfl _ _ _) rfl ?_
    exact ⟨rfl, bt (al _ _) hb1⟩
set_option maxHeartbeats 4000000 in
set_option maxRecDepth 1000000 in
theorem stripeSizes_walk (k m b sz : Int) (hk : In64 k) (hm : In64 m) (hz : In64 sz) (w : World) :
    Calls Try.prog 3 #[.agg (shC k m b), .int .i64 sz] w fun e w' => e = .returned (.bool true) ∧ Below w.heap.size w w' := by
  have al : ∀ (W : World) (o : Obj), Below W.heap.size W (W.alloc o) := fun W o => (Below.refl _ _).alloc (Nat.le_refl _) o
  have RS := (show Hid _ from fun w => rsizes_any k m b sz hk hm hz w)
  have SZ := (show Hid _ from fun w => blocks_any k m b sz hm hz w)
  have HA := ShAt.new w k m b
  have hL := szL_len (k := k) (m := m) (b := b) (sz := sz)
  unfold shC at RS SZ HA ⊢
  generalize szC k m b sz = z at RS SZ
  generalize szL k m b sz = L at RS SZ hL
  obtain ⟨q0, q1, q2⟩ := HA.cells
  go_enter Try.func3, Try.ntmps3
  go_wp2_with (first
    | (go_at_call 6; refine (RS.out _).mono ?_; rintro e w2 ⟨v2, rfl, O2, hb2⟩; obtain ⟨a0, a1, a2⟩ := (HA.below hb2).cells; obtain ⟨p2, c2, rfl, hc2, V2⟩ := O2.rd)
    | (go_at_call 7; refine (SZ.out _).mono ?_; rintro e w4 ⟨v4, rfl, O4, hb4⟩; obtain ⟨p4, c4, rfl, hc4, V4⟩ := O4.rd)
    | (go_at_call 8; refine (sameNumbers_any (xs := L) (ys := L) V4 (V2.below hb4) L.length L.length c4 c2 rfl rfl hL).mono ?_; rintro e w7 ⟨rfl, hb7⟩; rw [decide_eq_true rfl]))
  go_ret
  first
    | exact ⟨rfl, bt (bt hb2 hb4) hb7⟩
    | exact ⟨rfl, bt (bt (bt (al _ _) hb2) hb4) hb7⟩
set_option maxHeartbeats 4000000 in
set_option maxRecDepth 1000000 in
theorem stripeWheres_walk (k m b sz off n : Int) (hk : In64 k) (hm : In64 m) (hz : In64 sz) (ho : In64 off) (hn : In64 n) (w : World) :
    Calls Try.prog 4 #[.agg (shC k m b), .int .i64 sz, .int .i64 off, .int .i64 n] w fun e w' => e = .returned (.bool true) ∧ Below w.heap.size w w' := by
  have al : ∀ (W : World) (o : Obj), Below W.heap.size W (W.alloc o) := fun W o => (Below.refl _ _).alloc (Nat.le_refl _) o
  have RS := (show Hid _ from fun w => rwhere_any k m b sz off n hk hm hz ho hn w)
  have SZ := (show Hid _ from fun w => where_any k m b sz off n hm hz ho hn w)
  have HA := ShAt.new w k m b
  unfold shC at RS SZ HA ⊢
  obtain ⟨q0, q1, q2⟩ := HA.cells
  generalize whR k m b sz off n = R at RS SZ
  obtain ⟨r1, r2, r3, r4⟩ := R
  go_enter Try.func4, Try.ntmps4
  go_wp2_with (first
    | (go_at_call 9; refine (RS.out _).mono ?_; rintro e w2 ⟨rfl, hb2⟩; obtain ⟨a0, a1, a2⟩ := (HA.below hb2).cells)
    | (go_at_call 10; refine (SZ.out _).mono ?_; rintro e w4 ⟨rfl, hb4⟩))
  go_ret
  first
    | exact ⟨rfl, bt hb2 hb4⟩
    | exact ⟨rfl, bt (bt (al _ _) hb2) hb4⟩
end
end Go.Proofs.Ytiadaaljokbkpaa
