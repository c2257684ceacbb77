/-
  The document's Count and Most of numbers; two lists of numbers compared.
-/
import Derived.Test.YtgconfcijmemmaaIq16
import Derived.BigQuiet
namespace Go.Proofs.Ytgconfcijmemmaa
open Go.RowKit
theorem ieq_comm (x y : Int) : (y == x) = ieq x y := by
  unfold ieq
  rw [Bool.eq_iff_iff]
  simp only [beq_iff_eq]
  exact eq_comm
theorem below_dr {B : Nat} {a w : World} (h : Below B a w) (n : Nat) : Below B a (w.drewN n) := ⟨h.os, h.tape, h.output, h.size, h.block⟩
theorem cell_belowB {w w' : World} {p : Addr} {v : Value} (h : w.cell? p = some v) (hb : Below w.heap.size w w') : w'.cell? p = some v := by
  rw [hb.cell (p := p) (block_lt_of_cell h)]; exact h
section
attribute [local irreducible] Calls
set_option maxRecDepth 1000000 in
theorem rcount_core (b o n c : Nat) (xs : List Int) (x : Int) (w : World) (hn : xs.length = n) (hm : n ≤ 140737488355328) (H : Hid (∀ i, i < n → w.cell? ⟨b, o + i, none⟩ = some (ivl (xs.getD i 0)))) :
    Calls Try.prog 9 #[.slice (some ⟨b, o, none⟩) n c, .int .i64 x] w fun e w' => e = .returned (.int .i64 (xs.countP (ieq x) : Int)) ∧ w' = w := by
  obtain ⟨N, hN⟩ : ∃ N, xs.countP (ieq x) = N := ⟨_, rfl⟩
  have HN := (show Hid (xs.countP (ieq x) = N) from hN)
  have HL := (show Hid (xs.length = n) from hn)
  rw [hN]
  clear hN hn
  go_enter Try.func9, Try.ntmps9
  go_wp2
  go_loopw [5, 6] (fun m i wr => ∃ k c : Nat, k ≤ n ∧ i = .int .i64 k ∧ m = .int .i64 c ∧ c ≤ k ∧ Hid (c = (xs.take k).countP (ieq x)) ∧ wr = w) (fun _ i _ => n - (intOf i).toNat)
  case atStart => exact ⟨0, 0, Nat.zero_le _, rfl, rfl, Nat.le_refl _, rfl, rfl⟩
  case round =>
    obtain ⟨k, c, hk, rfl, rfl, hck, hc, rfl⟩ := hrel
    by_cases hlt : k < n
    · have g1 := H.out k hlt
      have hi : (k : Int) < (n : Int) := by omega
      have ht := (show Hid _ from count_take (ieq x) xs 0 (by rw [HL.out]; exact hlt))
      obtain ⟨y, hy⟩ : ∃ y, xs.getD k 0 = y := ⟨_, rfl⟩
      rw [hy] at g1 ht
      clear hy
      unfold ivl at g1
      by_cases hq : ieq x y = true
      · have hyx : (y == x) = true := by rw [ieq_comm]; exact hq
        go_wp2
        go_roundw
        case rel => exact ⟨k + 1, c + 1, by omega, by go_num, by go_num, by omega, by (show _ = _; have h := ht.out; rw [if_pos hq] at h; rw [h, ← hc.out]), trivial⟩
        case measure => simp [intOf]; omega
      · have hq' : ieq x y = false := by simpa using hq
        have hyx : (y == x) = false := by rw [ieq_comm]; exact hq'
        go_wp2
        go_roundw
        case rel => exact ⟨k + 1, c, by omega, by go_num, rfl, by omega, by (show _ = _; have h := ht.out; rw [if_neg hq] at h; rw [h, ← hc.out]; rfl), trivial⟩
        case measure => simp [intOf]; omega
    · obtain rfl : k = n := by omega
      have hc2 : c = N := by rw [hc.out, ← HL.out, List.take_length, HN.out]
      subst hc2
      go_wp2
      go_ret
      exact ⟨rfl, rfl⟩
set_option maxRecDepth 1000000 in
theorem rcount_nil (a : Option Addr) (c : Nat) (x : Int) (w : World) :
    Calls Try.prog 9 #[.slice a 0 c, .int .i64 x] w fun e w' => e = .returned (.int .i64 0) ∧ w' = w := by
  go_enter Try.func9, Try.ntmps9
  go_wp2
  refine wp_loop_rounds 1 ?_
  rw [rounds_succ]
  go_wp2
  go_ret
  exact ⟨rfl, rfl⟩
theorem rcount_any {w : World} {a : Option Addr} {xs : List Int} (h : IrAt w a xs) (n c : Nat) (x : Int) (hn : xs.length = n) (hm : n ≤ 140737488355328) :
    Calls Try.prog 9 #[.slice a n c, .int .i64 x] w fun e w' => e = .returned (.int .i64 (xs.countP (ieq x) : Int)) ∧ w' = w := by
  rcases h with rfl | ⟨b, o, rfl, h⟩
  · obtain rfl : n = 0 := by simpa using hn.symm
    exact rcount_nil a c x w
  · exact rcount_core b o n c xs x w hn hm (fun i hi => h i (by omega))
set_option maxRecDepth 1000000 in
set_option maxHeartbeats 4000000 in
theorem rmost_some {w : World} {a : Option Addr} {xs : List Int} (h : IrAt w a xs) (n cap : Nat) (hn : xs.length = n) (hm : n ≤ 140737488355328) (h0 : 0 < n) :
    Calls Try.prog 4 #[.slice a n cap] w fun e w' => e = .returned (.tuple #[.int .i64 (mst ieq 0 xs).1, .int .i64 ((mst ieq 0 xs).2 : Int)]) ∧ Below w.heap.size w w' := by
  obtain ⟨p, hp, e1, e2, e3, e4⟩ := mst_spec ikind.per 0 xs (by intro e; subst e; simp at hn; omega)
  obtain ⟨E, hE⟩ : ∃ E, (mst ieq 0 xs).1 = E := ⟨_, rfl⟩
  obtain ⟨M, hM⟩ : ∃ M, (mst ieq 0 xs).2 = M := ⟨_, rfl⟩
  rw [hE, hM]
  rw [hE] at e1
  rw [hM] at e2
  simp only [hM] at e3 e4
  have gd : ∀ i, i < xs.length → ∀ hi : i < xs.length, xs.getD i 0 = xs[i] := fun i _ hi => by simp [List.getD, hi]
  have ES := (show Hid ((E = xs.getD p 0) ∧ p < n ∧ (xs.countP (ieq (xs.getD p 0)) = M) ∧ (∀ i, i < p → xs.countP (ieq (xs.getD i 0)) < M) ∧ (∀ i, i < n → xs.countP (ieq (xs.getD i 0)) ≤ M)) from by
    have hpp := hp
    rw [hn] at hpp
    refine ⟨by rw [e1, gd p hp hp], hpp, by rw [gd p hp hp]; exact e2, fun i hi => ?_, fun i hi => ?_⟩
    · have hil : i < xs.length := by omega
      rw [gd i hil hil]; exact e3 i hil hi
    · have hil : i < xs.length := by omega
      rw [gd i hil hil]; exact e4 i hil)
  have HN := (show Hid (xs.length = n) from hn)
  have HI := (show Hid (IrAt w a xs) from h)
  clear e1 e2 e3 e4 hE hM hp gd hn
  obtain ⟨hE, hp, hT, hlt, hle⟩ := ES.out
  rcases h with rfl | ⟨b, o, rfl, hcell⟩
  · have := HN.out; simp at this; omega
  have HC := (show Hid (∀ i, i < n → w.cell? ⟨b, o + i, none⟩ = some (.int .i64 (xs.getD i 0))) from fun i hi => hcell i (by rw [HN.out]; exact hi))
  clear hcell
  have CT := (show Hid (∀ (W : World) (y : Int) (T : Nat), Below w.heap.size w W → xs.countP (ieq y) = T → Calls Try.prog 9 #[.slice (some ⟨b, o, none⟩) n cap, .int .i64 y] W fun e w' => e = .returned (.int .i64 (T : Int)) ∧ w' = W) from fun W y T hb hT => by
    rw [← hT]; exact rcount_any (HI.out.below hb) n cap y HN.out hm)
  clear HI
  have hM2 : Hid (M ≤ n) := by
    have := hT
    have h2 : xs.countP (ieq (xs.getD p 0)) ≤ xs.length := List.countP_le_length
    rw [HN.out] at h2
    show M ≤ n
    omega
  go_enter Try.func4, Try.ntmps4
  go_wp2
  go_loopw [4] (fun i wr => ∃ k : Nat, k ≤ p ∧ i = .int .i64 k ∧ Below w.heap.size w wr) (fun i _ => n - (intOf i).toNat)
  case atStart => exact ⟨0, Nat.zero_le _, rfl, Below.refl _ _⟩
  case round =>
    obtain ⟨k, hk, rfl, hbr⟩ := hrel
    have hkn : (k : Int) < (n : Int) := by omega
    obtain ⟨y, hy⟩ : ∃ y, xs.getD k 0 = y := ⟨_, rfl⟩
    obtain ⟨T, hTT⟩ : ∃ T, xs.countP (ieq y) = T := ⟨_, rfl⟩
    have HY := (show Hid (xs.getD k 0 = y ∧ xs.countP (ieq y) = T) from ⟨hy, hTT⟩)
    have HBR := (show Hid (Below w.heap.size w wr) from hbr)
    by_cases hkp : k < p
    · have hT1 : T < M := by have := hlt k hkp; rw [hy, hTT] at this; exact this
      have HES := (show Hid _ from ES.out)
      clear hE hT hlt hle hy hTT hbr ES
      go_wp2
      go_loopw [5, 6] (fun bst j wq => ∃ (t : Nat) (B : Bool), t ≤ n ∧ j = .int .i64 t ∧ bst = .bool B ∧ (t ≤ p ∨ B = false) ∧ Below w.heap.size w wq) (fun _ j _ => n - (intOf j).toNat)
      case atStart => exact ⟨0, true, Nat.zero_le _, rfl, rfl, .inl (Nat.zero_le _), HBR.out⟩
      case round =>
        obtain ⟨t, B, ht, rfl, rfl, htp, hbq⟩ := hrel
        by_cases htn : t < n
        · have htn' : (t : Int) < (n : Int) := by omega
          obtain ⟨z, hz⟩ : ∃ z, xs.getD t 0 = z := ⟨_, rfl⟩
          obtain ⟨U, hU⟩ : ∃ U, xs.countP (ieq z) = U := ⟨_, rfl⟩
          have g1 : wr.cell? ⟨b, o + t, none⟩ = some (.int .i64 z) := by rw [← hz]; exact cell_belowB (HC.out t htn) hbq
          have g2 : wr.cell? ⟨b, o + k, none⟩ = some (.int .i64 y) := by rw [← HY.out.1]; exact cell_belowB (HC.out k (by omega)) hbq
          have HBQ := (show Hid (Below w.heap.size w wr ∧ xs.countP (ieq z) = U ∧ xs.getD t 0 = z) from ⟨hbq, hU, hz⟩)
          clear hbq hU hz
          by_cases hg : T < U
          · have hg' : (T : Int) < (U : Int) := by omega
            go_wp2
            go_quiet ((first | (go_at_call 9; exact Calls.quiet_of_same (CT.out _ z U (below_dr HBQ.out.1 _) HBQ.out.2.1)) | (go_at_call 9; exact Calls.quiet_of_same (CT.out _ y T (below_dr HBQ.out.1 _) HY.out.2))))
            go_wp2
            go_roundw
            case rel => exact ⟨t + 1, false, by omega, by go_num, rfl, .inr rfl, below_dr HBQ.out.1 _⟩
            case measure => simp [intOf]; omega
          · have hg' : ¬ (T : Int) < (U : Int) := by omega
            have hB : t + 1 ≤ p ∨ B = false := by
              rcases htp with h | h
              · by_cases e : t = p
                · exfalso
                  have h3 := HES.out.2.2.1
                  rw [← e, HBQ.out.2.2, HBQ.out.2.1] at h3
                  omega
                · exact .inl (by omega)
              · exact .inr h
            clear htp
            go_wp2
            go_quiet ((first | (go_at_call 9; exact Calls.quiet_of_same (CT.out _ z U (below_dr HBQ.out.1 _) HBQ.out.2.1)) | (go_at_call 9; exact Calls.quiet_of_same (CT.out _ y T (below_dr HBQ.out.1 _) HY.out.2))))
            go_wp2
            go_roundw
            case rel => exact ⟨t + 1, B, by omega, by go_num, rfl, hB, below_dr HBQ.out.1 _⟩
            case measure => simp [intOf]; omega
        · obtain rfl : t = n := by omega
          obtain rfl : B = false := by rcases htp with h | h; omega; exact h
          have HBQ := (show Hid (Below w.heap.size w wr) from hbq)
          clear hbq htp
          go_wp2
          go_roundw
          case rel => exact ⟨k + 1, by omega, by go_num, HBQ.out⟩
          case measure => simp [intOf]; omega
    · obtain rfl : k = p := by omega
      have hTM : T = M := by have := hT; rw [hy, hTT] at this; exact this
      have hyE : y = E := by rw [hE, hy]
      have HES := (show Hid _ from ES.out)
      clear hE hT hlt hle hy hTT hbr ES
      subst hTM
      subst hyE
      go_wp2
      go_loopw [5, 6] (fun bst j wq => ∃ (t : Nat), t ≤ n ∧ j = .int .i64 t ∧ bst = .bool true ∧ Below w.heap.size w wq) (fun _ j _ => n - (intOf j).toNat)
      case atStart => exact ⟨0, Nat.zero_le _, rfl, rfl, HBR.out⟩
      case round =>
        obtain ⟨t, ht, rfl, rfl, hbq⟩ := hrel
        have g2 : wr.cell? ⟨b, o + k, none⟩ = some (.int .i64 y) := by rw [← HY.out.1]; exact cell_belowB (HC.out k (by omega)) hbq
        by_cases htn : t < n
        · have htn' : (t : Int) < (n : Int) := by omega
          obtain ⟨z, hz⟩ : ∃ z, xs.getD t 0 = z := ⟨_, rfl⟩
          obtain ⟨U, hU⟩ : ∃ U, xs.countP (ieq z) = U := ⟨_, rfl⟩
          have g1 : wr.cell? ⟨b, o + t, none⟩ = some (.int .i64 z) := by rw [← hz]; exact cell_belowB (HC.out t htn) hbq
          have HBQ := (show Hid (Below w.heap.size w wr ∧ xs.countP (ieq z) = U ∧ xs.getD t 0 = z) from ⟨hbq, hU, hz⟩)
          have hg' : ¬ (T : Int) < (U : Int) := by
            have h5 := HES.out.2.2.2.2 t htn
            rw [hz, hU] at h5
            omega
          clear hbq hU hz
          go_wp2
          go_quiet ((first | (go_at_call 9; exact Calls.quiet_of_same (CT.out _ z U (below_dr HBQ.out.1 _) HBQ.out.2.1)) | (go_at_call 9; exact Calls.quiet_of_same (CT.out _ y T (below_dr HBQ.out.1 _) HY.out.2))))
          go_wp2
          go_roundw
          case rel => exact ⟨t + 1, by omega, by go_num, rfl, below_dr HBQ.out.1 _⟩
          case measure => simp [intOf]; omega
        · obtain rfl : t = n := by omega
          have HBQ := (show Hid (Below w.heap.size w wr) from hbq)
          clear hbq
          go_wp2
          go_quiet ((go_at_call 9; exact Calls.quiet_of_same (CT.out _ y T (below_dr HBQ.out _) HY.out.2)))
          go_wp2
          refine bodyPost_ret (results_tmp2 rfl _ _ _) rfl ?_
          exact ⟨rfl, below_dr HBQ.out _⟩
set_option maxRecDepth 1000000 in
theorem rmost_nil (a : Option Addr) (c : Nat) (w : World) :
    Calls Try.prog 4 #[.slice a 0 c] w fun e w' => e = .returned (.tuple #[.int .i64 0, .int .i64 0]) ∧ w' = w := by
  go_enter Try.func4, Try.ntmps4
  go_wp2
  refine wp_loop_rounds 1 ?_
  rw [rounds_succ]
  go_wp2
  refine bodyPost_ret (results_tmp2 rfl _ _ _) rfl ?_
  exact ⟨rfl, rfl⟩
theorem rmost_any {w : World} {a : Option Addr} {xs : List Int} (h : IrAt w a xs) (n cap : Nat) (hn : xs.length = n) (hm : n ≤ 140737488355328) :
    Calls Try.prog 4 #[.slice a n cap] w fun e w' => e = .returned (.tuple #[.int .i64 (mst ieq 0 xs).1, .int .i64 ((mst ieq 0 xs).2 : Int)]) ∧ Below w.heap.size w w' := by
  by_cases h0 : 0 < n
  · exact rmost_some h n cap hn hm h0
  · obtain rfl : n = 0 := by omega
    obtain rfl := List.length_eq_zero_iff.1 hn
    refine (rmost_nil a cap w).mono ?_
    rintro e w' ⟨rfl, rfl⟩
    exact ⟨rfl, Below.refl _ _⟩
set_option maxRecDepth 1000000 in
theorem sameN_core (b o b2 o2 n c c2 : Nat) (xs : List Int) (w : World) (hm : n ≤ 140737488355328) (H : Hid (∀ i, i < n → w.cell? ⟨b, o + i, none⟩ = some (.int .i64 (xs.getD i 0)))) (H2 : Hid (∀ i, i < n → w.cell? ⟨b2, o2 + i, none⟩ = some (.int .i64 (xs.getD i 0)))) :
    Calls Try.prog 13 #[.slice (some ⟨b, o, none⟩) n c, .slice (some ⟨b2, o2, none⟩) n c2] w fun e w' => e = .returned (.bool true) ∧ ∃ m, w' = w.drewN m := by
  go_enter Try.func13, Try.ntmps13
  go_wp2
  go_loopw [5] (fun i wr => ∃ k m : Nat, k ≤ n ∧ i = .int .i64 k ∧ wr = w.drewN m) (fun i _ => n - (intOf i).toNat)
  case atStart => exact ⟨0, 0, Nat.zero_le _, rfl, rfl⟩
  case round =>
    obtain ⟨k, m, hk, rfl, rfl⟩ := hrel
    by_cases hlt : k < n
    · have g1 := H.out k hlt
      have g2 := H2.out k hlt
      have hi : (k : Int) < (n : Int) := by omega
      obtain ⟨y, hy⟩ : ∃ y, xs.getD k 0 = y := ⟨_, rfl⟩
      rw [hy] at g1 g2
      clear hy
      go_wp2
      go_quiet (fail)
      go_wp2
      go_roundw
      case rel => exact ⟨k + 1, m + nq, by omega, by go_num, rfl⟩
      case measure => simp [intOf]; omega
    · obtain rfl : k = n := by omega
      go_wp2
      go_ret
      exact ⟨rfl, m, rfl⟩
set_option maxRecDepth 1000000 in
theorem sameN_nil (a a2 : Option Addr) (c c2 : Nat) (w : World) :
    Calls Try.prog 13 #[.slice a 0 c, .slice a2 0 c2] w fun e w' => e = .returned (.bool true) ∧ w' = w := by
  go_enter Try.func13, Try.ntmps13
  go_wp2
  refine wp_loop_rounds 1 ?_
  rw [rounds_succ]
  go_wp2
  go_ret
  exact ⟨rfl, rfl⟩
theorem sameN_any {w : World} {a a2 : Option Addr} {xs : List Int} (h : IrAt w a xs) (h2 : IrAt w a2 xs) (n c c2 : Nat) (hn : xs.length = n) (hm : n ≤ 140737488355328) :
    Calls Try.prog 13 #[.slice a n c, .slice a2 n c2] w fun e w' => e = .returned (.bool true) ∧ ∃ m, w' = w.drewN m := by
  subst hn
  rcases h with rfl | ⟨b, o, rfl, h⟩
  · refine (sameN_nil a a2 c c2 w).mono ?_
    rintro e w' ⟨rfl, rfl⟩
    exact ⟨rfl, 0, rfl⟩
  · rcases h2 with rfl | ⟨b2, o2, rfl, h2⟩
    · refine (sameN_nil _ a2 c c2 w).mono ?_
      rintro e w' ⟨rfl, rfl⟩
      exact ⟨rfl, 0, rfl⟩
    · exact sameN_core b o b2 o2 _ c c2 xs w hm h h2
end
end Go.Proofs.Ytgconfcijmemmaa
