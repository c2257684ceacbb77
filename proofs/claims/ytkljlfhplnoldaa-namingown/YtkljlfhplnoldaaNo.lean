/-
  Object.
-/
import Derived.Test.YtkljlfhplnoldaaNb
namespace Go.Proofs.Ytkljlfhplnoldaa
open Go.RowKit
section
attribute [local irreducible] Calls
set_option maxRecDepth 1000000 in
theorem object_ok (k : Tx) (h : fitK k) (w : World) : Calls Try.prog 13 #[encStr k] w fun e w' => e = .returned (.tuple #[encStr (nm k), .int .i64 0]) ∧ Below w.heap.size w w' := by
  have h1 := h.1
  have h2 := h.2
  obtain ⟨i0, hi, hz0, hz1, hz2⟩ := info_parts info5
  go_enter Try.func13, Try.ntmps13
  go_wp2_with (first
    | (at_make; refine wpList_make_own _ rfl _ _ 45 rfl w.heap.size 5 i0 (.int .u8 0) 1 Try.underlying45 hi hz0 hz1 _ _ _ (1 + 2 * k.length) rfl rfl (by go_num) (by rw [hz2]; omega) (by unfold maxLen; omega) (Nat.le_refl _) ?_; intro w1 hrow1 hg1)
    | (at_builtin; refine Lib.wpList_append_own_string w1 rfl _ _ 45 9 rfl w.heap.size 5 i0 Try.underlying45 undS hi hz0 hz1 hz2 _ 0 [] rfl hrow1 ⟨#[111]⟩ rfl (by decide) (by decide) hg1.size ?_; intro v2 w2 ho2 hg2 _; go_frame))
  have hb2 : Below w.heap.size w w2 := ((Below.refl _ _).grown hg1 (Nat.le_refl _) (fun j hj => by cases hj)).grown hg2 hg1.size (fun j hj => (hrow1.lt j hj).1)
  go_loopw [4, 23] (fun v i wr => ∃ j : Nat, j ≤ k.length ∧ i = .int .i64 j ∧ Ob wr w.heap.size v (nm (k.take j)) ∧ Below w.heap.size w wr) (fun _ i _ => k.length - (intOf i).toNat)
  case atStart => exact ⟨0, Nat.zero_le _, rfl, ho2, hb2⟩
  case round =>
    obtain ⟨j, hj, rfl, hO, hb⟩ := hrel
    by_cases hlt : j < k.length
    · have hi1 : (j : Int) < (k.length : Int) := by omega
      obtain ⟨c, hc⟩ : ∃ c, c = k.getD j 0 := ⟨_, rfl⟩
      have hx := idx_at k j hlt
      rw [← hc] at hx
      obtain ⟨q, r, d, e, hd, he, hq, hr, hdq, hdr⟩ := halves c
      have hs : (nm (k.take (j + 1))).map u8v = (nm (k.take j)).map u8v ++ [.int .u8 d, .int .u8 e] := by
        have e1 : k.take (j + 1) = k.take j ++ [c] := by rw [List.take_add_one, hc]; simp [hlt]
        rw [e1, nm, dgs_app, hd, he, ← List.cons_append, List.map_append]; rfl
      have hl : (nm (k.take j)).length = 1 + 2 * j := by rw [nm_len, List.length_take]; omega
      have hl2 : (nm (k.take (j + 1))).length = 1 + 2 * j + 2 := by rw [nm_len, List.length_take]; omega
      clear hc hd he
      have M1 : Hid ((nm (k.take j)).length + 2 ≤ maxLen) := by show _ ≤ _; unfold maxLen; omega
      have M2 : Hid (∀ o : Obj, w.heap.size ≤ (wr.alloc o).heap.size) := fun o => by have := hb.size; simp; omega
      have M3 : Hid (((nm (k.take j)).length + 2) * 1 ≤ 140737488355328) := by show _ ≤ _; omega
      go_wp2
      go_region_law (refine step_append_own rfl (.tmp 26) (.tmp 37) 45 rfl w.heap.size 5 i0 (.int .u8 0) 1 1 Try.underlying45 hi hz0 hz1 hz2 rfl (by decide) _ (nm (k.take j)).length ((nm (k.take j)).map u8v) (by first | (simp [Act.eval]; done) | simp [Act.eval, Act.put]) (hO.alloc _).drew ⟨wr.heap.size, 0, none⟩ 2 2 [.int .u8 d, .int .u8 e] (by first | (simp [Act.eval]; done) | simp [Act.eval, Act.put]) rfl (two_new wr _ _ _) (by intro u hu; simp at hu; rcases hu with rfl | rfl <;> rfl) M1.out M3.out (M2.out _) ?_; intro v' w1 hown' hgrow)
      all_goals
        have hb' : Below w.heap.size w w1 := (hb.alloc hb.size _).drew.grown hgrow (M2.out _) (fun z hz => (hO.lt z hz).1)
        go_wp2
        go_roundw
        case rel => exact ⟨j + 1, by omega, by go_num, by unfold Ob; rw [hs, hl2, ← hl]; exact hown', hb'⟩
        case measure => simp [intOf]; omega
    · obtain rfl : j = k.length := by omega
      rw [List.take_length] at hO
      obtain ⟨g, cp, hv, hcs⟩ := hO.shape (by simp [nm])
      have hcv := conv_at hcs (nm k).length cp rfl
      subst hv
      go_wp2
      go_ret2
      exact ⟨rfl, hb⟩
set_option maxRecDepth 1000000 in
theorem object_no (k : Tx) (h : ¬ fitK k) (w : World) : Calls Try.prog 13 #[encStr k] w fun e w' => e = .returned (.tuple #[encStr [], .int .i64 90]) ∧ w' = w := by
  by_cases h1 : k.length < 1
  · have h2 : (k.length : Int) < 1 := by omega
    go_enter Try.func13, Try.ntmps13
    go_wp2
    go_ret2
    exact ⟨rfl, rfl⟩
  · have h2 : ¬ (k.length : Int) < 1 := by omega
    have h3 : (k.length : Int) > 255 := by unfold fitK at h; omega
    go_enter Try.func13, Try.ntmps13
    go_wp2
    go_ret2
    exact ⟨rfl, rfl⟩
end
end Go.Proofs.Ytkljlfhplnoldaa
