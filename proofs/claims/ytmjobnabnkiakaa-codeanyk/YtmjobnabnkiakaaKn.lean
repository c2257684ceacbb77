/-
  'sizeFault', 'Identity'.
-/
import Derived.Test.YtmjobnabnkiakaaKb
namespace Go.Proofs.Ytmjobnabnkiakaa
open Go.RowKit
theorem sizeFault_neg (n : Int) (h : n < 0) (w : World) : Calls Try.prog 63 #[.int .i64 n] w fun e w' => e = .returned (.int .i64 2) ∧ w' = w := by
  go_enter Try.func63, Try.ntmps63
  go_wp2
  go_ret
  exact ⟨rfl, rfl⟩
theorem sizeFault_big (n : Int) (h : 255 < n) (w : World) : Calls Try.prog 63 #[.int .i64 n] w fun e w' => e = .returned (.int .i64 3) ∧ w' = w := by
  have h2 : ¬ n < 0 := by omega
  go_enter Try.func63, Try.ntmps63
  go_wp2
  go_ret
  exact ⟨rfl, rfl⟩
theorem sizeFault_ok (n : Nat) (h : n ≤ 255) (w : World) : Calls Try.prog 63 #[.int .i64 (n : Int)] w fun e w' => e = .returned (.int .i64 0) ∧ w' = w := by
  have h2 : ¬ (n : Int) < 0 := by omega
  have h3 : ¬ 255 < (n : Int) := by omega
  go_enter Try.func63, Try.ntmps63
  go_wp2
  go_ret
  exact ⟨rfl, rfl⟩
theorem identityE_err (n c : Int) (x : BitVec 8) (h : ∀ w : World, Calls Try.prog 63 #[.int .i64 n] w fun e w' => e = .returned (.int .i64 c) ∧ w' = w) (hc : ¬ c = 0) (w : World) :
    Calls Try.prog 55 #[.int .i64 n, vE x] w fun e w' => e = .returned (.tuple #[.slice none 0 0, .int .i64 c]) ∧ Below w.heap.size w w' := by
  have hc2 : (c != 0) = true := by simpa using hc
  go_enter Try.func55, Try.ntmps55
  go_wp2_with (go_at_call 63; refine (h _).mono ?_; rintro e w' ⟨rfl, h⟩; obtain rfl := h.symm)
  go_ret2
  exact ⟨rfl, Below.refl _ _⟩
section
attribute [local irreducible] Calls el Ov GmE
set_option maxHeartbeats 2000000 in
set_option maxRecDepth 1000000 in
theorem identityE_ok (n : Nat) (hn : n ≤ 255) (x : BitVec 8) (w : World) : Calls Try.prog 55 #[.int .i64 (n : Int), vE x] w fun e w' => ∃ v, e = .returned (.tuple #[v, .int .i64 0]) ∧ GxE w.heap.size w' v n n (fun i j => if i = j then x else oE) ∧ Below w.heap.size w w' := by
  show Calls Try.prog _ #[_, .int .u8 (el x)] _ _
  go_enter Try.func55, Try.ntmps55
  go_wp2_with (first
    | (go_at_call 63; refine (sizeFault_ok n hn _).mono ?_; rintro e w' ⟨rfl, h⟩; obtain rfl := h.symm)
    | (go_at_call 64; refine (blankxE n n (by omega) (by omega) _).mono ?_; rintro e w1 ⟨B, rfl, hG, hB, hb⟩))
  have hG0 : GmE w1 B n n (fun i => B + 1 + i) (fun i j => if i < 0 ∧ i = j then x else oE) := hG.congr (fun i _ j _ => by rw [if_neg (by omega)])
  clear hG
  go_loopw [20] (fun i wr => ∃ k : Nat, k ≤ n ∧ i = .int .i64 k ∧ GmE wr B n n (fun i => B + 1 + i) (fun i j => if i < k ∧ i = j then x else oE) ∧ Below (w).heap.size w wr) (fun i _ => n - (intOf i).toNat)
  case atStart => exact ⟨0, Nat.zero_le _, rfl, hG0, hb⟩
  case round =>
    clear hG0 hb
    obtain ⟨k, hk, rfl, hG, hb⟩ := hrel
    by_cases hlt : k < n
    · have hi : (k : Int) < (n : Int) := by omega
      have g1 := hG.out hlt
      have g2 := hG.cell hlt hlt
      have g3 := hG.frozen hlt k
      go_wp2
      go_roundw
      case rel =>
        refine ⟨k + 1, by omega, by go_num, (hG.put hlt hlt x rfl).congr (fun i _ j _ => ?_), ?_⟩
        · by_cases e : i = k
          · by_cases e2 : j = k
            · rw [if_pos e, if_pos e2, if_pos (by omega)]
            · rw [if_pos e, if_neg e2, if_neg (by omega), if_neg (by omega)]
          · rw [if_neg e]
            by_cases e2 : i < k ∧ i = j
            · rw [if_pos e2, if_pos (by omega)]
            · rw [if_neg e2, if_neg (by omega)]
        · exact hb.setCell (by show _ ≤ B + 1 + k; omega) _
      case measure => simp [intOf]; omega
    · obtain rfl : k = n := by omega
      go_wp2
      go_ret2
      have hG2 : GmE wr B k k (fun i => B + 1 + i) (fun i j => if i = j then x else oE) := hG.congr (fun i hi j hj => by
        by_cases e : i = j
        · rw [if_pos ⟨hi, e⟩, if_pos e]
        · rw [if_neg (fun h => e h.2), if_neg e])
      refine ⟨_, rfl, ⟨B, _, rfl, hG2, hB, fun i hi => by omega⟩, hb⟩
end
section
attribute [local irreducible] Calls el Ov
end
section
attribute [local irreducible] Calls el Ov
end
end Go.Proofs.Ytmjobnabnkiakaa
