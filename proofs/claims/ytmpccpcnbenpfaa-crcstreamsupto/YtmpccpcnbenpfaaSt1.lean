/-
  CrcStreams: what its walk wants.
-/
import Derived.Test.YtmpccpcnbenpfaaSr
import Derived.Test.YtmpccpcnbenpfaaLd
import Derived.Test.YtmpccpcnbenpfaaLcW
import Derived.Test.YtmpccpcnbenpfaaGz

namespace Go.Proofs.Ytmpccpcnbenpfaa
open Go.RowKit Go.Great
theorem four_num (n : Int) : (wrap64 (n.tmod 4 + 4)).tmod 4 = n % 4 := by
  have h1 : -4 < n.tmod 4 ∧ n.tmod 4 < 4 := by
    have := Int.tmod_lt_of_pos n (show (0 : Int) < 4 by omega)
    have h2 := Int.tmod_lt_of_pos (-n) (show (0 : Int) < 4 by omega)
    rw [Int.neg_tmod] at h2
    omega
  have hw : wrap64 (n.tmod 4 + 4) = n.tmod 4 + 4 := by unfold wrap64; omega
  rw [hw, Int.tmod_eq_emod_of_nonneg (by omega)]
  have h3 : n = 4 * n.tdiv 4 + n.tmod 4 := (Int.mul_tdiv_add_tmod n 4).symm
  omega
section
attribute [local irreducible] Calls
theorem four_any (n : Int) (w : World) :
    Calls Try.prog 23 #[.int .i64 n] w fun e w' => e = .returned (.int .i64 (n % 4)) ∧ w' = w := by
  go_enter Try.func23, Try.ntmps23
  go_wp2
  go_ret
  exact ⟨ret_int (four_num n), rfl⟩
theorem sn_write (p : Option Addr) (n c : Nat) (w : World) :
    Calls Try.prog 9 #[.pointer none, .slice p n c] w fun e w' => e = .returned (.tuple #[]) ∧ w' = w := by
  go_enter Try.func9, Try.ntmps9
  go_wp2
  first | (go_end0; exact ⟨rfl, rfl⟩) | (refine bodyPost_ret (results_none rfl _ _ _) rfl ⟨rfl, rfl⟩)
theorem sn_reset (w : World) :
    Calls Try.prog 12 #[.pointer none] w fun e w' => e = .returned (.tuple #[]) ∧ w' = w := by
  go_enter Try.func12, Try.ntmps12
  go_wp2
  first | (go_end0; exact ⟨rfl, rfl⟩) | (refine bodyPost_ret (results_none rfl _ _ _) rfl ⟨rfl, rfl⟩)
theorem sn_sum (w : World) :
    Calls Try.prog 10 #[.pointer none] w fun e w' => e = .returned (.int .u32 0) ∧ w' = w := by
  go_enter Try.func10, Try.ntmps10
  go_wp2
  go_ret
  exact ⟨rfl, rfl⟩
theorem sn_len (w : World) :
    Calls Try.prog 11 #[.pointer none] w fun e w' => e = .returned (.int .u64 0) ∧ w' = w := by
  go_enter Try.func11, Try.ntmps11
  go_wp2
  go_ret
  exact ⟨rfl, rfl⟩
theorem nothing_any (p : Option Addr) (n c : Nat) (w : World) :
    Calls Try.prog 25 #[.slice p n c] w fun e w' => e = .returned (.bool true) ∧ w' = w := by
  go_enter Try.func25, Try.ntmps25
  go_wp2_with (first | (go_at_call 9; refine (sn_write _ _ _ _).mono ?_; rintro e w' ⟨rfl, rfl⟩) | (go_at_call 12; refine (sn_reset _).mono ?_; rintro e w' ⟨rfl, rfl⟩) | (go_at_call 10; refine (sn_sum _).mono ?_; rintro e w' ⟨rfl, rfl⟩) | (go_at_call 11; refine (sn_len _).mono ?_; rintro e w' ⟨rfl, rfl⟩))
  go_ret
  exact ⟨rfl, rfl⟩
end
theorem owns_setCell {w W : World} {base : Nat} {t : TypeId} {v : Value} {n : Nat} {xs : List Value} {a : Addr} {u : Value} (h : w.ownsRow base t 1 v n xs) (ha : a.block < base) (e : W.heap = (w.setCell a u).heap) : W.ownsRow base t 1 v n xs := by
  refine ⟨h.1, ?_⟩
  rcases h.2 with h1 | ⟨g, cap, c, hv, hg, hh, hc⟩
  · exact .inl h1
  · refine .inr ⟨g, cap, c, hv, hg, ?_, hc⟩
    rw [e, heap_setCell_other w a g u (by omega)]; exact hh
theorem Ow.other {w W : World} {base : Nat} {v : Value} {xs : List (BitVec 8)} {a : Addr} {u : Value} (h : Ow w base v xs) (ha : a.block < base) (e : W.heap = (w.setCell a u).heap) : Ow W base v xs := by
  unfold Ow at h ⊢; exact owns_setCell h ha e
/-- append(v, x..) for whatever slice x. -/
theorem wpList_appx {w : World} {ops : Array Oper} {rest : List Oper} {o : Oper} {a : Act} {Q : Exit → Act → World → Prop} (hgd : o.guard = none) (s x : Operand) (ho : o.op = .call { callee := .builtin .append, args := #[s, x], argTypes := #[29, 29] })
    (base : Nat) (v : Value) (xs : List (BitVec 8)) (hs : a.eval s = v) (hown : Ow w base v xs) (p : Option Addr) (n c : Nat) (ys : List (BitVec 8)) (hx : a.eval x = .slice p n c) (hr : Rd w p ys) (hn : ys.length = n) (hnc : p = none → c = 0) (hm : xs.length + n ≤ 140737488355328) (hbase : base ≤ w.heap.size)
    (h : ∀ v' w', Ow w' base v' (xs ++ ys) → w.grownBy w' v.ownBlock → wpList Try.prog ops Q rest (a.put o.dst v') w') : wpList Try.prog ops Q (o :: rest) a w := by
  obtain ⟨i0, hi, hz0, hz1, hz2⟩ := info_parts info5
  cases p with
  | some ad => exact wpList_app hgd s x ho base v xs hs hown ad n c ys hx hr hn hm hbase (fun v' w' h1 h2 _ => h v' w' h1 h2)
  | none =>
    obtain rfl := hnc rfl
    have hys : ys = [] := by
      rcases hr with e | ⟨b, off, e, _⟩
      · exact e
      · cases e
    subst hys
    obtain rfl : n = 0 := hn.symm
    refine wpList_append_own_none hgd _ _ 29 ho base 5 i0 1 Try.underlying29 hi v xs.length (vs (fn xs) xs.length) hs hown hx ?_
    exact h v w (by rw [List.append_nil]; exact hown) ⟨rfl, rfl, rfl, Nat.le_refl _, fun _ _ _ => rfl⟩
section
attribute [local irreducible] Calls rg ov cmo el Ow Rd
set_option maxHeartbeats 2000000 in
set_option maxRecDepth 1000000 in
theorem refWrite_any {w : World} {p q : Option Addr} {xs ys : List (BitVec 8)} (h1 : Rd w p xs) (h2 : Rd w q ys) (n c m d : Nat) (hn : xs.length = n) (hm : ys.length = m) (hd : q = none → d = 0) (hb : n + m ≤ 1000000000) :
    Calls Try.prog 24 #[.agg #[.slice p n c], .slice q m d] w fun e w' => ∃ v, e = .returned (.agg #[v]) ∧ Ow w' w.heap.size v (xs ++ ys) ∧ Below w.heap.size w w' := by
  obtain ⟨W2, hW2⟩ : ∃ W2, W2 = (w.alloc (.cells #[.slice p n c] 46)).alloc (.cells #[.slice none 0 0] 46) := ⟨_, rfl⟩
  have r0 : W2.heap[w.heap.size + 1]? = some (.cells #[.slice none 0 0] 46) := by
    have := heap_alloc_new (w.alloc (.cells #[.slice p n c] 46)) (.cells #[.slice none 0 0] 46)
    rw [World.size_alloc] at this; rw [hW2]; exact this
  have d2 : Below w.heap.size w W2 := by rw [hW2]; exact ((Below.refl _ _).alloc (Nat.le_refl _) _).alloc (by simp) _
  have hs2 : W2.heap.size = w.heap.size + 2 := by rw [hW2]; simp
  have HS : Hid (W2.heap.size = w.heap.size + 2) := hs2
  have HW : Hid (W2 = (w.alloc (.cells #[.slice p n c] 46)).alloc (.cells #[.slice none 0 0] 46)) := hW2
  have R0 : Hid (W2.heap[w.heap.size + 1]? = some (.cells #[.slice none 0 0] 46)) := r0
  clear hW2 r0 hs2
  go_enter Try.func24, Try.ntmps24
  go_wp2_with (first | (at_builtin; rw [← HW.out]; refine wpList_cl rfl (.tmp 6) (.tmp 8) rfl rfl p n c xs rfl (h1.below d2) hn (by omega) ?_; intro v3 w3 ho3 hb3; have d3 := bt d2 hb3) | (at_builtin; refine wpList_appx rfl (.tmp 10) (.tmp 11) rfl W2.heap.size v3 xs rfl ho3 q m d ys rfl (h2.below d3) hm hd (by omega) hb3.size ?_; intro v4 w4 ho4 hg4; have b4 : Below W2.heap.size W2 w4 := ho3.below_append hb3 hb3.size hg4 (Nat.le_refl _); have q4 : w4.heap[w.heap.size + 1]? = some (.cells #[.slice none 0 0] 46) := (by rw [b4.block (w.heap.size + 1) (by have := HS.out; omega)]; exact R0.out); have g4 : w4.cell? ⟨w.heap.size + 1, 0, none⟩ = some (.slice none 0 0) := (by rw [cell_of_row _ _ _ _ _ (0, 0) q4]; rfl); have f4 := frozen_of_row w4 (w.heap.size + 1) 0 _ _ q4; have Q4 : Hid (w4.heap[w.heap.size + 1]? = some (.cells #[.slice none 0 0] 46)) := q4; clear q4; obtain ⟨p4, c4, e4, _, _⟩ := ho4.rd; subst e4))
  have q5 : (w4.setCell ⟨w.heap.size + 1, 0, none⟩ (.slice p4 (n + m) c4)).heap[w.heap.size + 1]? = some (.cells #[.slice p4 (n + m) c4] 46 (0, 0)) := by
    rw [heap_setCell_same w4 (w.heap.size + 1) 0 _ _ _ Q4.out]; rfl
  have hl4 : (xs ++ ys).length = n + m := by rw [List.length_append, hn, hm]
  rw [hl4] at ho4
  have ho5 : Ow (w4.setCell ⟨w.heap.size + 1, 0, none⟩ (.slice p4 (n + m) c4)) W2.heap.size (.slice p4 (n + m) c4) (xs ++ ys) := ho4.other (by have := HS.out; show w.heap.size + 1 < W2.heap.size; omega) rfl
  refine bodyPost_ret (v := .agg #[.slice p4 (n + m) c4]) ?_ rfl ⟨_, rfl, ho5.mono (by have := HS.out; omega), (bt d2 b4).setCell (p := ⟨w.heap.size + 1, 0, none⟩) (Nat.le_succ _) _⟩
  exact results_cell_row rfl _ _ (w.heap.size + 1) 46 #[.slice p4 (n + m) c4] (0, 0) _ (by kernel_rfl) q5 Try.underlying46 rfl (by kernel_rfl)
end
end Go.Proofs.Ytmpccpcnbenpfaa
