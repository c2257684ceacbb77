/-
  The document's 'First', 'Matrix'.
-/
import Derived.Test.YtienknoahjhopaaSh
namespace Go.Proofs.Ytienknoahjhopaa
open Go.RowKit
section
attribute [local irreducible] Calls lv
set_option maxHeartbeats 4000000 in
set_option maxRecDepth 1000000 in
theorem first_core (k : Nat) (hk : k ≤ 255) (w : World) : Calls Try.prog 35 #[.int .i64 (k : Int)] w fun e w' => ∃ v, e = .returned v ∧ w'.ownsRow w.heap.size 3 1 v k (lv (fun j => .int .i64 (j : Int)) k) ∧ Below w.heap.size w w' := by
  obtain ⟨i1, hi1, hz01, hz11, hz21⟩ := info_parts infoI
  go_enter Try.func35, Try.ntmps35
  go_wp2
  go_loopw [3, 4] (fun v i wr => ∃ t : Nat, t ≤ k ∧ i = .int .i64 t ∧ wr.ownsRow w.heap.size 3 1 v t (lv (fun j => .int .i64 (j : Int)) t) ∧ Below w.heap.size w wr) (fun _ i _ => k - (intOf i).toNat)
  case atStart => exact ⟨0, Nat.zero_le _, rfl, lv_none _ _ _ _ _, Below.refl _ _⟩
  case round =>
    obtain ⟨t, ht, rfl, hown, hb⟩ := hrel
    by_cases hlt : t < k
    · have j1 : (t : Int) < (k : Int) := by omega
      have M1 : Hid (t + 1 ≤ maxLen) := by show _ ≤ _; unfold maxLen; omega
      have M3 : Hid (∀ o : Obj, w.heap.size ≤ (wr.alloc o).heap.size) := fun o => by have := hb.size; simp; omega
      go_wp2_with (at_builtin; refine wpList_append_own _ rfl _ _ 47 rfl w.heap.size 3 i1 (.int .i64 0) 1 8 Try.underlying47 hi1 hz01 hz11 hz21 rfl (by decide) _ _ _ rfl (hown.alloc _) ⟨wr.heap.size, 0, none⟩ 1 1 [.int .i64 (t : Int)] rfl rfl (one_new _ _ _) (one_cellv rfl) M1.out (by omega) (M3.out _) ?_; intro v' w8 hown' hgrow _)
      have hb8 := below_append (hb.alloc hb.size _) (M3.out _) hgrow (hown.alloc _) (Nat.le_refl _)
      rw [← lv_succ (fun j => .int .i64 (j : Int)) t] at hown'
      clear hown hgrow
      go_roundw
      case rel => exact ⟨t + 1, by omega, by go_num, hown', hb8⟩
      case measure => simp [intOf]; omega
    · obtain rfl : t = k := by omega
      go_wp2
      go_ret
      exact ⟨_, rfl, hown, hb⟩
end
theorem first_cells {w : World} {b k : Nat} {v : Value} (h : w.ownsRow b 3 1 v k (lv (fun j => .int .i64 (j : Int)) k)) (h0 : 0 < k) : ∃ b' o c, v = .slice (some ⟨b', o, none⟩) k c ∧ ∀ t, t < k → w.cell? ⟨b', o + t, none⟩ = some (.int .i64 (t : Int)) := (St.sv (owns_st1 h)).cells h0
theorem lv_byte (f : Nat → BitVec 8) (j : Nat) : lv (clE f) j ++ [.int .u8 (el (f j))] = lv (clE f) (j + 1) := by rw [lv_succ]; rfl
theorem br_of {w : World} {b n : Nat} {v : Value} {f : Nat → BitVec 8} (h : w.ownsRow b 5 1 v n (lv (clE f) n)) : Br w v n f := owns_st1 h
section
attribute [local irreducible] Calls Br lv clE el shr Ov
end
theorem shr_id {k : Nat} {F : Nat → Nat → BitVec 8} (hF : Fac k F) (hk : k ≤ 255) {j : Nat} (hj : j < k) (i : Nat) : F i j = shr (fun t => t) k i j := by
  by_cases h : i < k
  · rw [shr_in (p := fun t => t) h rfl, hF.id h hj]
    unfold dl
    by_cases e : i = j
    · rw [if_pos e, if_pos e.symm]; rfl
    · rw [if_neg e, if_neg (fun e2 => e e2.symm)]; rfl
  · rw [shr_out (p := fun t => t) (fun t ht => by show t ≠ i; omega), sha_fac hF hk hj]
end Go.Proofs.Ytienknoahjhopaa
