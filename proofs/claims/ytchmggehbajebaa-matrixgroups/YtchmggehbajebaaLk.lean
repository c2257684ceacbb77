/-
  The laws' own helpers: 'size', 'low', 'elem', 'bit', 'four', 'like..'.
-/
import Derived.Test.YtchmggehbajebaaKn
import Derived.Test.YtchmggehbajebaaRi
namespace Go.Proofs.Ytchmggehbajebaa
open Go.RowKit
theorem elem_any (x : BitVec 8) (w : World) : Calls Try.prog 81 #[.int .i64 (nuE x)] w fun e w' => e = .returned (.int .u8 (el x)) ∧ w' = w := by
  show Calls Try.prog _ #[.int .i64 (el x)] _ _
  have h := el_bd x
  go_enter Try.func81, Try.ntmps81
  go_wp2
  go_ret
  exact ⟨rfl, rfl⟩
theorem bit_any (x : Bool) (w : World) : Calls Try.prog 82 #[.int .i64 (nuB x)] w fun e w' => e = .returned (.bool x) ∧ w' = w := by
  cases x
  · show Calls Try.prog _ #[.int .i64 0] _ _
    go_enter Try.func82, Try.ntmps82
    go_wp2
    go_ret
    exact ⟨rfl, rfl⟩
  · show Calls Try.prog _ #[.int .i64 1] _ _
    go_enter Try.func82, Try.ntmps82
    go_wp2
    go_ret
    exact ⟨rfl, rfl⟩
theorem four_any (x : Bool × Bool) (w : World) : Calls Try.prog 83 #[.int .i64 (nuF x)] w fun e w' => e = .returned (.agg #[.bool x.1, .bool x.2]) ∧ Below w.heap.size w w' := by
  obtain ⟨x1, x2⟩ := x
  cases x1 <;> cases x2
  · show Calls Try.prog _ #[.int .i64 0] _ _
    go_enter Try.func83, Try.ntmps83
    go_wp2
    refine bodyPost_ret (v := .agg #[.bool false, .bool false]) (by simp [results, Try.results83, go_sem]; decide) rfl ⟨rfl, (Below.refl _ _).alloc (Nat.le_refl _) _⟩
  · show Calls Try.prog _ #[.int .i64 2] _ _
    go_enter Try.func83, Try.ntmps83
    go_wp2
    refine bodyPost_ret (v := .agg #[.bool false, .bool true]) (by simp [results, Try.results83, go_sem]; decide) rfl ⟨rfl, (Below.refl _ _).alloc (Nat.le_refl _) _⟩
  · show Calls Try.prog _ #[.int .i64 1] _ _
    go_enter Try.func83, Try.ntmps83
    go_wp2
    refine bodyPost_ret (v := .agg #[.bool true, .bool false]) (by simp [results, Try.results83, go_sem]; decide) rfl ⟨rfl, (Below.refl _ _).alloc (Nat.le_refl _) _⟩
  · show Calls Try.prog _ #[.int .i64 3] _ _
    go_enter Try.func83, Try.ntmps83
    go_wp2
    refine bodyPost_ret (v := .agg #[.bool true, .bool true]) (by simp [results, Try.results83, go_sem]; decide) rfl ⟨rfl, (Below.refl _ _).alloc (Nat.le_refl _) _⟩
theorem size_any (f : Int) : ∃ s : Int, (s = 256 ∨ s = 2 ∨ s = 4) ∧ ∀ w : World, Calls Try.prog 9 #[.int .i64 f] w fun e w' => e = .returned (.int .i64 s) ∧ w' = w := by
  have b1 : -3 < f.tmod 3 := by have := Int.tmod_lt_of_pos f (b := 3) (by decide); have := Int.lt_tmod_of_pos f (b := 3) (by decide); omega
  have b2 : f.tmod 3 < 3 := Int.tmod_lt_of_pos f (b := 3) (by decide)
  have e1 : wrap64 (f.tmod 3 + 3) = f.tmod 3 + 3 := by unfold wrap64; omega
  obtain ⟨m, hm⟩ : ∃ m, m = (f.tmod 3 + 3).tmod 3 := ⟨_, rfl⟩
  have hm2 : (wrap64 (f.tmod 3 + 3)).tmod 3 = m := by rw [e1, hm]
  have b3 : m = 0 ∨ m = 1 ∨ m = 2 := by
    have h3 : 0 ≤ f.tmod 3 + 3 := by omega
    rw [Int.tmod_eq_emod_of_nonneg h3] at hm
    omega
  clear b1 b2 e1 hm
  rcases b3 with rfl | rfl | rfl
  · refine ⟨256, .inl rfl, fun w => ?_⟩
    go_enter Try.func9, Try.ntmps9
    go_wp2
    go_ret
    exact ⟨rfl, rfl⟩
  · refine ⟨2, .inr (.inl rfl), fun w => ?_⟩
    go_enter Try.func9, Try.ntmps9
    go_wp2
    go_ret
    exact ⟨rfl, rfl⟩
  · refine ⟨4, .inr (.inr rfl), fun w => ?_⟩
    go_enter Try.func9, Try.ntmps9
    go_wp2
    go_ret
    exact ⟨rfl, rfl⟩
theorem low_eq {s : Int} (n : Int) (h : s = 256 ∨ s = 2 ∨ s = 4) : (wrap64 (n.tmod s + s)).tmod s = n % s := by
  have hs : 0 < s := by omega
  have b2 : n.tmod s < s := Int.tmod_lt_of_pos n hs
  have b1 : -s < n.tmod s := Int.lt_tmod_of_pos n hs
  have e1 : wrap64 (n.tmod s + s) = n.tmod s + s := by unfold wrap64; omega
  rw [e1, Int.tmod_eq_emod_of_nonneg (by omega), Int.add_emod_right]
  rcases Int.le_total 0 n with h0 | h0
  · rw [Int.tmod_eq_emod_of_nonneg h0, Int.emod_emod_of_dvd n (Int.dvd_refl s)]
  · have := Int.tmod_add_mul_tdiv n s
    have e : n.tmod s = n + s * (-(n.tdiv s)) := by rw [Int.mul_neg]; omega
    rw [e, Int.add_mul_emod_self_left]
theorem low_any (s n : Int) (h : s = 256 ∨ s = 2 ∨ s = 4) (w : World) : Calls Try.prog 80 #[.int .i64 s, .int .i64 n] w fun e w' => e = .returned (.int .i64 (n % s)) ∧ w' = w := by
  have hs : ¬ s = 0 := by omega
  have HL : Hid ((wrap64 (n.tmod s + s)).tmod s = n % s) := low_eq n h
  go_enter Try.func80, Try.ntmps80
  go_wp2
  go_ret
  exact ⟨ret_int HL.out, rfl⟩
section
attribute [local irreducible] Calls el nuE
set_option maxHeartbeats 2000000 in
set_option maxRecDepth 1000000 in
theorem likeE_core (b1 o1 b2 o2 n c1 c2 : Nat) (f : Nat → BitVec 8) (w : World) (hn : n ≤ 1000)
    (H1 : Hid (∀ i, i < n → w.cell? ⟨b1, o1 + i, none⟩ = some (clE f i))) (H2 : Hid (∀ i, i < n → w.cell? ⟨b2, o2 + i, none⟩ = some (.int .i64 (nuE (f i))))) :
    Calls Try.prog 37 #[.slice (some ⟨b1, o1, none⟩) n c1, .slice (some ⟨b2, o2, none⟩) n c2] w fun e w' => e = .returned (.bool true) ∧ Below w.heap.size w w' := by
  go_enter Try.func37, Try.ntmps37
  go_wp2
  go_loopw [5] (fun i wr => ∃ k : Nat, k ≤ n ∧ i = .int .i64 k ∧ Below w.heap.size w wr) (fun i _ => n - (intOf i).toNat)
  case atStart => exact ⟨0, Nat.zero_le _, rfl, Below.refl _ _⟩
  case round =>
    obtain ⟨k, hk, rfl, hb⟩ := hrel
    by_cases hlt : k < n
    · have g2 := cell_below (H2.out k hlt) hb
      have hi : (k : Int) < (n : Int) := by omega
      have g1 : wr.cell? ⟨b1, o1 + k, none⟩ = some (.int .u8 (el (f k))) := cell_below (H1.out k hlt) hb
      go_wp2
      go_quiet ((go_at_call 81; exact Calls.quiet_of_same (elem_any _ _)))
      go_wp2
      go_roundw
      case rel => exact ⟨k + 1, by omega, by go_num, below_drewN hb _⟩
      case measure => simp [intOf]; omega
    · go_wp2
      go_ret
      exact ⟨rfl, hb⟩
set_option maxRecDepth 1000000 in
theorem likeE_nil (a1 a2 : Option Addr) (c1 c2 : Nat) (w : World) :
    Calls Try.prog 37 #[.slice a1 0 c1, .slice a2 0 c2] w fun e w' => e = .returned (.bool true) ∧ Below w.heap.size w w' := by
  go_enter Try.func37, Try.ntmps37
  go_wp2
  refine wp_loop_rounds 1 ?_
  rw [rounds_succ]
  go_wp2
  go_ret
  exact ⟨rfl, Below.refl _ _⟩
end
/-- A row of numbers that reads so. -/
def NrE (w : World) (v : Value) (n : Nat) (f : Nat → BitVec 8) : Prop := Sv w v n (clE f) n
theorem NrE.below {w w' : World} {v : Value} {n : Nat} {f : Nat → BitVec 8} (h : NrE w v n f) (hb : Below w.heap.size w w') : NrE w' v n f := Sv.below h hb
theorem likeE_any {w : World} {v1 v2 : Value} {n : Nat} {f : Nat → BitVec 8} (h1 : NrE w v1 n f) (h2 : Ir w v2 n (fun j => nuE (f j))) (hn : n ≤ 1000) :
    Calls Try.prog 37 #[v1, v2] w fun e w' => e = .returned (.bool true) ∧ Below w.heap.size w w' := by
  obtain ⟨p1, c1, rfl, h1⟩ := h1
  obtain ⟨p2, c2, rfl, h3⟩ := St.sv h2
  clear h2
  by_cases h0 : n = 0
  · subst h0; exact likeE_nil p1 p2 c1 c2 w
  · rcases h1 with h | ⟨b1, o1, rfl, h1⟩
    · omega
    · rcases h3 with h | ⟨b2, o2, rfl, h2⟩
      · omega
      · exact likeE_core b1 o1 b2 o2 n c1 c2 f w hn h1 h2
/-- A matrix of numbers that reads so. -/
def NmE (w : World) (v : Value) (r : Nat) (l : Nat → Nat) (N : Nat → Nat → BitVec 8) : Prop := ∃ rows : Nat → Value, Sv w v r rows r ∧ ∀ i, i < r → NrE w (rows i) (l i) (N i)
theorem NmE.below {w w' : World} {v : Value} {r : Nat} {l : Nat → Nat} {N : Nat → Nat → BitVec 8} (h : NmE w v r l N) (hb : Below w.heap.size w w') : NmE w' v r l N := by
  obtain ⟨rows, h1, h2⟩ := h
  exact ⟨rows, h1.below hb, fun i hi => (h2 i hi).below hb⟩
theorem NmE.nil (w : World) (l : Nat → Nat) (N : Nat → Nat → BitVec 8) : NmE w (.slice none 0 0) 0 l N := ⟨fun _ => .bool false, ⟨none, 0, rfl, .inl rfl⟩, fun i hi => by omega⟩
theorem GxE.nm {b : Nat} {w : World} {v : Value} {r l : Nat} {N : Nat → Nat → BitVec 8} (h : GxE b w v r l N) : NmE w v r (fun _ => l) N := by
  obtain ⟨B, ρ, rfl, h, _, _⟩ := h
  exact ⟨_, ((Gr.out h).st r r).sv, fun i hi => ((Gr.row h i hi).st l l).sv⟩
section
attribute [local irreducible] Calls el nuE NrE Ir
set_option maxHeartbeats 2000000 in
set_option maxRecDepth 1000000 in
theorem likesE_core (b1 o1 b2 o2 n c1 c2 : Nat) (rows rows2 : Nat → Value) (l : Nat → Nat) (N : Nat → Nat → BitVec 8) (w : World) (hn : n ≤ 1000)
    (H1 : Hid (∀ i, i < n → w.cell? ⟨b1, o1 + i, none⟩ = some (rows i))) (H2 : Hid (∀ i, i < n → w.cell? ⟨b2, o2 + i, none⟩ = some (rows2 i))) (HL : Hid (∀ i, i < n → l i ≤ 1000))
    (R1 : Hid (∀ i, i < n → NrE w (rows i) (l i) (N i))) (R2 : Hid (∀ i, i < n → Ir w (rows2 i) (l i) (fun j => nuE (N i j)))) :
    Calls Try.prog 14 #[.slice (some ⟨b1, o1, none⟩) n c1, .slice (some ⟨b2, o2, none⟩) n c2] w fun e w' => e = .returned (.bool true) ∧ Below w.heap.size w w' := by
  go_enter Try.func14, Try.ntmps14
  go_wp2
  go_loopw [5] (fun i wr => ∃ k : Nat, k ≤ n ∧ i = .int .i64 k ∧ Below w.heap.size w wr) (fun i _ => n - (intOf i).toNat)
  case atStart => exact ⟨0, Nat.zero_le _, rfl, Below.refl _ _⟩
  case round =>
    obtain ⟨k, hk, rfl, hb⟩ := hrel
    by_cases hlt : k < n
    · have g1 := cell_below (H1.out k hlt) hb
      have g2 := cell_below (H2.out k hlt) hb
      have hi : (k : Int) < (n : Int) := by omega
      have r1 := (show Hid _ from (R1.out k hlt).below hb)
      have r2 := (show Hid _ from (R2.out k hlt).below hb)
      go_wp2
      go_region_with (go_at_call 37; refine (likeE_any (NrE.below r1.out ((Below.refl wr.heap.size wr).drew)) (Ir.below r2.out ((Below.refl wr.heap.size wr).drew)) (HL.out k hlt)).mono ?_; rintro e w4 ⟨rfl, hb4⟩; have hb5 := bt ((Below.refl wr.heap.size wr).drew) hb4)
      all_goals
        go_wp2
        exact ⟨⟨k + 1, by omega, by go_num, bt hb hb5⟩, by simp [intOf]; omega⟩
    · go_wp2
      go_ret
      exact ⟨rfl, hb⟩
set_option maxRecDepth 1000000 in
theorem likesE_nil (a1 a2 : Option Addr) (c1 c2 : Nat) (w : World) :
    Calls Try.prog 14 #[.slice a1 0 c1, .slice a2 0 c2] w fun e w' => e = .returned (.bool true) ∧ Below w.heap.size w w' := by
  go_enter Try.func14, Try.ntmps14
  go_wp2
  refine wp_loop_rounds 1 ?_
  rw [rounds_succ]
  go_wp2
  go_ret
  exact ⟨rfl, Below.refl _ _⟩
end
theorem likesE_any {w : World} {v1 v2 : Value} {n : Nat} {l : Nat → Nat} {N : Nat → Nat → BitVec 8} (h1 : NmE w v1 n l N) (h2 : Im w v2 n l (fun i j => nuE (N i j))) (hn : n ≤ 1000) (hl : ∀ i, i < n → l i ≤ 1000) :
    Calls Try.prog 14 #[v1, v2] w fun e w' => e = .returned (.bool true) ∧ Below w.heap.size w w' := by
  obtain ⟨rows, ⟨p1, c1, rfl, h1⟩, r1⟩ := h1
  obtain ⟨rows2, h2, r2⟩ := h2
  obtain ⟨p2, c2, rfl, h3⟩ := St.sv h2
  clear h2
  by_cases h0 : n = 0
  · subst h0; exact likesE_nil p1 p2 c1 c2 w
  · rcases h1 with h | ⟨b1, o1, rfl, h1⟩
    · omega
    · rcases h3 with h | ⟨b2, o2, rfl, h2⟩
      · omega
      · exact likesE_core b1 o1 b2 o2 n c1 c2 rows rows2 l N w hn h1 h2 hl r1 r2
section
attribute [local irreducible] Calls el nuB
set_option maxHeartbeats 2000000 in
set_option maxRecDepth 1000000 in
theorem likeB_core (b1 o1 b2 o2 n c1 c2 : Nat) (f : Nat → Bool) (w : World) (hn : n ≤ 1000)
    (H1 : Hid (∀ i, i < n → w.cell? ⟨b1, o1 + i, none⟩ = some (clB f i))) (H2 : Hid (∀ i, i < n → w.cell? ⟨b2, o2 + i, none⟩ = some (.int .i64 (nuB (f i))))) :
    Calls Try.prog 40 #[.slice (some ⟨b1, o1, none⟩) n c1, .slice (some ⟨b2, o2, none⟩) n c2] w fun e w' => e = .returned (.bool true) ∧ Below w.heap.size w w' := by
  go_enter Try.func40, Try.ntmps40
  go_wp2
  go_loopw [5] (fun i wr => ∃ k : Nat, k ≤ n ∧ i = .int .i64 k ∧ Below w.heap.size w wr) (fun i _ => n - (intOf i).toNat)
  case atStart => exact ⟨0, Nat.zero_le _, rfl, Below.refl _ _⟩
  case round =>
    obtain ⟨k, hk, rfl, hb⟩ := hrel
    by_cases hlt : k < n
    · have g2 := cell_below (H2.out k hlt) hb
      have hi : (k : Int) < (n : Int) := by omega
      have g1 : wr.cell? ⟨b1, o1 + k, none⟩ = some (.bool (f k)) := cell_below (H1.out k hlt) hb
      go_wp2
      go_quiet ((go_at_call 82; exact Calls.quiet_of_same (bit_any _ _)))
      go_wp2
      go_roundw
      case rel => exact ⟨k + 1, by omega, by go_num, below_drewN hb _⟩
      case measure => simp [intOf]; omega
    · go_wp2
      go_ret
      exact ⟨rfl, hb⟩
set_option maxRecDepth 1000000 in
theorem likeB_nil (a1 a2 : Option Addr) (c1 c2 : Nat) (w : World) :
    Calls Try.prog 40 #[.slice a1 0 c1, .slice a2 0 c2] w fun e w' => e = .returned (.bool true) ∧ Below w.heap.size w w' := by
  go_enter Try.func40, Try.ntmps40
  go_wp2
  refine wp_loop_rounds 1 ?_
  rw [rounds_succ]
  go_wp2
  go_ret
  exact ⟨rfl, Below.refl _ _⟩
end
/-- A row of numbers that reads so. -/
def NrB (w : World) (v : Value) (n : Nat) (f : Nat → Bool) : Prop := Sv w v n (clB f) n
theorem NrB.below {w w' : World} {v : Value} {n : Nat} {f : Nat → Bool} (h : NrB w v n f) (hb : Below w.heap.size w w') : NrB w' v n f := Sv.below h hb
theorem likeB_any {w : World} {v1 v2 : Value} {n : Nat} {f : Nat → Bool} (h1 : NrB w v1 n f) (h2 : Ir w v2 n (fun j => nuB (f j))) (hn : n ≤ 1000) :
    Calls Try.prog 40 #[v1, v2] w fun e w' => e = .returned (.bool true) ∧ Below w.heap.size w w' := by
  obtain ⟨p1, c1, rfl, h1⟩ := h1
  obtain ⟨p2, c2, rfl, h3⟩ := St.sv h2
  clear h2
  by_cases h0 : n = 0
  · subst h0; exact likeB_nil p1 p2 c1 c2 w
  · rcases h1 with h | ⟨b1, o1, rfl, h1⟩
    · omega
    · rcases h3 with h | ⟨b2, o2, rfl, h2⟩
      · omega
      · exact likeB_core b1 o1 b2 o2 n c1 c2 f w hn h1 h2
/-- A matrix of numbers that reads so. -/
def NmB (w : World) (v : Value) (r : Nat) (l : Nat → Nat) (N : Nat → Nat → Bool) : Prop := ∃ rows : Nat → Value, Sv w v r rows r ∧ ∀ i, i < r → NrB w (rows i) (l i) (N i)
theorem NmB.below {w w' : World} {v : Value} {r : Nat} {l : Nat → Nat} {N : Nat → Nat → Bool} (h : NmB w v r l N) (hb : Below w.heap.size w w') : NmB w' v r l N := by
  obtain ⟨rows, h1, h2⟩ := h
  exact ⟨rows, h1.below hb, fun i hi => (h2 i hi).below hb⟩
theorem NmB.nil (w : World) (l : Nat → Nat) (N : Nat → Nat → Bool) : NmB w (.slice none 0 0) 0 l N := ⟨fun _ => .bool false, ⟨none, 0, rfl, .inl rfl⟩, fun i hi => by omega⟩
theorem GxB.nm {b : Nat} {w : World} {v : Value} {r l : Nat} {N : Nat → Nat → Bool} (h : GxB b w v r l N) : NmB w v r (fun _ => l) N := by
  obtain ⟨B, ρ, rfl, h, _, _⟩ := h
  exact ⟨_, ((Gr.out h).st r r).sv, fun i hi => ((Gr.row h i hi).st l l).sv⟩
section
attribute [local irreducible] Calls el nuB NrB Ir
set_option maxHeartbeats 2000000 in
set_option maxRecDepth 1000000 in
theorem likesB_core (b1 o1 b2 o2 n c1 c2 : Nat) (rows rows2 : Nat → Value) (l : Nat → Nat) (N : Nat → Nat → Bool) (w : World) (hn : n ≤ 1000)
    (H1 : Hid (∀ i, i < n → w.cell? ⟨b1, o1 + i, none⟩ = some (rows i))) (H2 : Hid (∀ i, i < n → w.cell? ⟨b2, o2 + i, none⟩ = some (rows2 i))) (HL : Hid (∀ i, i < n → l i ≤ 1000))
    (R1 : Hid (∀ i, i < n → NrB w (rows i) (l i) (N i))) (R2 : Hid (∀ i, i < n → Ir w (rows2 i) (l i) (fun j => nuB (N i j)))) :
    Calls Try.prog 17 #[.slice (some ⟨b1, o1, none⟩) n c1, .slice (some ⟨b2, o2, none⟩) n c2] w fun e w' => e = .returned (.bool true) ∧ Below w.heap.size w w' := by
  go_enter Try.func17, Try.ntmps17
  go_wp2
  go_loopw [5] (fun i wr => ∃ k : Nat, k ≤ n ∧ i = .int .i64 k ∧ Below w.heap.size w wr) (fun i _ => n - (intOf i).toNat)
  case atStart => exact ⟨0, Nat.zero_le _, rfl, Below.refl _ _⟩
  case round =>
    obtain ⟨k, hk, rfl, hb⟩ := hrel
    by_cases hlt : k < n
    · have g1 := cell_below (H1.out k hlt) hb
      have g2 := cell_below (H2.out k hlt) hb
      have hi : (k : Int) < (n : Int) := by omega
      have r1 := (show Hid _ from (R1.out k hlt).below hb)
      have r2 := (show Hid _ from (R2.out k hlt).below hb)
      go_wp2
      go_region_with (go_at_call 40; refine (likeB_any (NrB.below r1.out ((Below.refl wr.heap.size wr).drew)) (Ir.below r2.out ((Below.refl wr.heap.size wr).drew)) (HL.out k hlt)).mono ?_; rintro e w4 ⟨rfl, hb4⟩; have hb5 := bt ((Below.refl wr.heap.size wr).drew) hb4)
      all_goals
        go_wp2
        exact ⟨⟨k + 1, by omega, by go_num, bt hb hb5⟩, by simp [intOf]; omega⟩
    · go_wp2
      go_ret
      exact ⟨rfl, hb⟩
set_option maxRecDepth 1000000 in
theorem likesB_nil (a1 a2 : Option Addr) (c1 c2 : Nat) (w : World) :
    Calls Try.prog 17 #[.slice a1 0 c1, .slice a2 0 c2] w fun e w' => e = .returned (.bool true) ∧ Below w.heap.size w w' := by
  go_enter Try.func17, Try.ntmps17
  go_wp2
  refine wp_loop_rounds 1 ?_
  rw [rounds_succ]
  go_wp2
  go_ret
  exact ⟨rfl, Below.refl _ _⟩
end
theorem likesB_any {w : World} {v1 v2 : Value} {n : Nat} {l : Nat → Nat} {N : Nat → Nat → Bool} (h1 : NmB w v1 n l N) (h2 : Im w v2 n l (fun i j => nuB (N i j))) (hn : n ≤ 1000) (hl : ∀ i, i < n → l i ≤ 1000) :
    Calls Try.prog 17 #[v1, v2] w fun e w' => e = .returned (.bool true) ∧ Below w.heap.size w w' := by
  obtain ⟨rows, ⟨p1, c1, rfl, h1⟩, r1⟩ := h1
  obtain ⟨rows2, h2, r2⟩ := h2
  obtain ⟨p2, c2, rfl, h3⟩ := St.sv h2
  clear h2
  by_cases h0 : n = 0
  · subst h0; exact likesB_nil p1 p2 c1 c2 w
  · rcases h1 with h | ⟨b1, o1, rfl, h1⟩
    · omega
    · rcases h3 with h | ⟨b2, o2, rfl, h2⟩
      · omega
      · exact likesB_core b1 o1 b2 o2 n c1 c2 rows rows2 l N w hn h1 h2 hl r1 r2
section
attribute [local irreducible] Calls el nuF
set_option maxHeartbeats 2000000 in
set_option maxRecDepth 1000000 in
theorem likeF_core (b1 o1 b2 o2 n c1 c2 : Nat) (f : Nat → (Bool × Bool)) (w : World) (hn : n ≤ 1000)
    (H1 : Hid (∀ i, i < (n * 2) → w.cell? ⟨b1, o1 + i, none⟩ = some (clF f i))) (H2 : Hid (∀ i, i < n → w.cell? ⟨b2, o2 + i, none⟩ = some (.int .i64 (nuF (f i))))) :
    Calls Try.prog 43 #[.slice (some ⟨b1, o1, none⟩) n c1, .slice (some ⟨b2, o2, none⟩) n c2] w fun e w' => e = .returned (.bool true) ∧ Below w.heap.size w w' := by
  go_enter Try.func43, Try.ntmps43
  go_wp2
  go_loopw [5] (fun i wr => ∃ k : Nat, k ≤ n ∧ i = .int .i64 k ∧ Below w.heap.size w wr) (fun i _ => n - (intOf i).toNat)
  case atStart => exact ⟨0, Nat.zero_le _, rfl, Below.refl _ _⟩
  case round =>
    obtain ⟨k, hk, rfl, hb⟩ := hrel
    by_cases hlt : k < n
    · have g2 := cell_below (H2.out k hlt) hb
      have hi : (k : Int) < (n : Int) := by omega
      have g1 : wr.cell? ⟨b1, o1 + k * 2, none⟩ = some (.bool (f k).1) := by
        rw [cell_below (H1.out (k * 2) (by omega)) hb]; unfold clF; rw [if_pos (by omega), show k * 2 / 2 = k by omega]
      have g3 : wr.cell? ⟨b1, o1 + k * 2 + 1, none⟩ = some (.bool (f k).2) := by
        rw [Nat.add_assoc, cell_below (H1.out (k * 2 + 1) (by omega)) hb]; unfold clF; rw [if_neg (by omega), show (k * 2 + 1) / 2 = k by omega]
      go_wp2
      go_region_with (go_at_call 83; refine (four_any _ _).mono ?_; rintro e w4 ⟨rfl, hb4⟩; have hb5 := bt ((Below.refl wr.heap.size wr).drew) hb4; have g14 := cell_below g1 hb5; have g34 := cell_below g3 hb5)
      all_goals
        go_wp2
        exact ⟨⟨k + 1, by omega, by go_num, bt hb hb5⟩, by simp [intOf]; omega⟩
    · go_wp2
      go_ret
      exact ⟨rfl, hb⟩
set_option maxRecDepth 1000000 in
theorem likeF_nil (a1 a2 : Option Addr) (c1 c2 : Nat) (w : World) :
    Calls Try.prog 43 #[.slice a1 0 c1, .slice a2 0 c2] w fun e w' => e = .returned (.bool true) ∧ Below w.heap.size w w' := by
  go_enter Try.func43, Try.ntmps43
  go_wp2
  refine wp_loop_rounds 1 ?_
  rw [rounds_succ]
  go_wp2
  go_ret
  exact ⟨rfl, Below.refl _ _⟩
end
/-- A row of numbers that reads so. -/
def NrF (w : World) (v : Value) (n : Nat) (f : Nat → (Bool × Bool)) : Prop := Sv w v n (clF f) (n * 2)
theorem NrF.below {w w' : World} {v : Value} {n : Nat} {f : Nat → (Bool × Bool)} (h : NrF w v n f) (hb : Below w.heap.size w w') : NrF w' v n f := Sv.below h hb
theorem likeF_any {w : World} {v1 v2 : Value} {n : Nat} {f : Nat → (Bool × Bool)} (h1 : NrF w v1 n f) (h2 : Ir w v2 n (fun j => nuF (f j))) (hn : n ≤ 1000) :
    Calls Try.prog 43 #[v1, v2] w fun e w' => e = .returned (.bool true) ∧ Below w.heap.size w w' := by
  obtain ⟨p1, c1, rfl, h1⟩ := h1
  obtain ⟨p2, c2, rfl, h3⟩ := St.sv h2
  clear h2
  by_cases h0 : n = 0
  · subst h0; exact likeF_nil p1 p2 c1 c2 w
  · rcases h1 with h | ⟨b1, o1, rfl, h1⟩
    · omega
    · rcases h3 with h | ⟨b2, o2, rfl, h2⟩
      · omega
      · exact likeF_core b1 o1 b2 o2 n c1 c2 f w hn h1 h2
/-- A matrix of numbers that reads so. -/
def NmF (w : World) (v : Value) (r : Nat) (l : Nat → Nat) (N : Nat → Nat → (Bool × Bool)) : Prop := ∃ rows : Nat → Value, Sv w v r rows r ∧ ∀ i, i < r → NrF w (rows i) (l i) (N i)
theorem NmF.below {w w' : World} {v : Value} {r : Nat} {l : Nat → Nat} {N : Nat → Nat → (Bool × Bool)} (h : NmF w v r l N) (hb : Below w.heap.size w w') : NmF w' v r l N := by
  obtain ⟨rows, h1, h2⟩ := h
  exact ⟨rows, h1.below hb, fun i hi => (h2 i hi).below hb⟩
theorem NmF.nil (w : World) (l : Nat → Nat) (N : Nat → Nat → (Bool × Bool)) : NmF w (.slice none 0 0) 0 l N := ⟨fun _ => .bool false, ⟨none, 0, rfl, .inl rfl⟩, fun i hi => by omega⟩
theorem GxF.nm {b : Nat} {w : World} {v : Value} {r l : Nat} {N : Nat → Nat → (Bool × Bool)} (h : GxF b w v r l N) : NmF w v r (fun _ => l) N := by
  obtain ⟨B, ρ, rfl, h, _, _⟩ := h
  exact ⟨_, ((Gr.out h).st r r).sv, fun i hi => ((Gr.row h i hi).st l l).sv⟩
section
attribute [local irreducible] Calls el nuF NrF Ir
set_option maxHeartbeats 2000000 in
set_option maxRecDepth 1000000 in
theorem likesF_core (b1 o1 b2 o2 n c1 c2 : Nat) (rows rows2 : Nat → Value) (l : Nat → Nat) (N : Nat → Nat → (Bool × Bool)) (w : World) (hn : n ≤ 1000)
    (H1 : Hid (∀ i, i < n → w.cell? ⟨b1, o1 + i, none⟩ = some (rows i))) (H2 : Hid (∀ i, i < n → w.cell? ⟨b2, o2 + i, none⟩ = some (rows2 i))) (HL : Hid (∀ i, i < n → l i ≤ 1000))
    (R1 : Hid (∀ i, i < n → NrF w (rows i) (l i) (N i))) (R2 : Hid (∀ i, i < n → Ir w (rows2 i) (l i) (fun j => nuF (N i j)))) :
    Calls Try.prog 20 #[.slice (some ⟨b1, o1, none⟩) n c1, .slice (some ⟨b2, o2, none⟩) n c2] w fun e w' => e = .returned (.bool true) ∧ Below w.heap.size w w' := by
  go_enter Try.func20, Try.ntmps20
  go_wp2
  go_loopw [5] (fun i wr => ∃ k : Nat, k ≤ n ∧ i = .int .i64 k ∧ Below w.heap.size w wr) (fun i _ => n - (intOf i).toNat)
  case atStart => exact ⟨0, Nat.zero_le _, rfl, Below.refl _ _⟩
  case round =>
    obtain ⟨k, hk, rfl, hb⟩ := hrel
    by_cases hlt : k < n
    · have g1 := cell_below (H1.out k hlt) hb
      have g2 := cell_below (H2.out k hlt) hb
      have hi : (k : Int) < (n : Int) := by omega
      have r1 := (show Hid _ from (R1.out k hlt).below hb)
      have r2 := (show Hid _ from (R2.out k hlt).below hb)
      go_wp2
      go_region_with (go_at_call 43; refine (likeF_any (NrF.below r1.out ((Below.refl wr.heap.size wr).drew)) (Ir.below r2.out ((Below.refl wr.heap.size wr).drew)) (HL.out k hlt)).mono ?_; rintro e w4 ⟨rfl, hb4⟩; have hb5 := bt ((Below.refl wr.heap.size wr).drew) hb4)
      all_goals
        go_wp2
        exact ⟨⟨k + 1, by omega, by go_num, bt hb hb5⟩, by simp [intOf]; omega⟩
    · go_wp2
      go_ret
      exact ⟨rfl, hb⟩
set_option maxRecDepth 1000000 in
theorem likesF_nil (a1 a2 : Option Addr) (c1 c2 : Nat) (w : World) :
    Calls Try.prog 20 #[.slice a1 0 c1, .slice a2 0 c2] w fun e w' => e = .returned (.bool true) ∧ Below w.heap.size w w' := by
  go_enter Try.func20, Try.ntmps20
  go_wp2
  refine wp_loop_rounds 1 ?_
  rw [rounds_succ]
  go_wp2
  go_ret
  exact ⟨rfl, Below.refl _ _⟩
end
theorem likesF_any {w : World} {v1 v2 : Value} {n : Nat} {l : Nat → Nat} {N : Nat → Nat → (Bool × Bool)} (h1 : NmF w v1 n l N) (h2 : Im w v2 n l (fun i j => nuF (N i j))) (hn : n ≤ 1000) (hl : ∀ i, i < n → l i ≤ 1000) :
    Calls Try.prog 20 #[v1, v2] w fun e w' => e = .returned (.bool true) ∧ Below w.heap.size w w' := by
  obtain ⟨rows, ⟨p1, c1, rfl, h1⟩, r1⟩ := h1
  obtain ⟨rows2, h2, r2⟩ := h2
  obtain ⟨p2, c2, rfl, h3⟩ := St.sv h2
  clear h2
  by_cases h0 : n = 0
  · subst h0; exact likesF_nil p1 p2 c1 c2 w
  · rcases h1 with h | ⟨b1, o1, rfl, h1⟩
    · omega
    · rcases h3 with h | ⟨b2, o2, rfl, h2⟩
      · omega
      · exact likesF_core b1 o1 b2 o2 n c1 c2 rows rows2 l N w hn h1 h2 hl r1 r2
end Go.Proofs.Ytchmggehbajebaa
