/-
  slices.Repeat of one score; health.New.
-/
import Derived.Test.YtcfjinpjijcheabBk27
import Derived.Test.YtcfjinpjijcheabSf
import Derived.Laws.CopyOwn
import Derived.Deep.RegionLaw
namespace Go.Proofs.Ytcfjinpjijcheab
open Go.RowKit
attribute [local irreducible] dW dR p2 fR fW fV fval
/-- The row when c of n are filled. -/
def rpf (v c n : Nat) : List Nat := List.replicate c v ++ List.replicate (n - c) 0
theorem rpf_len (v c n : Nat) (h : c ≤ n) : (rpf v c n).length = n := by simp [rpf]; omega
theorem rpf_full (v n : Nat) : rpf v n n = List.replicate n v := by simp [rpf]
theorem rpf_none (v n : Nat) : sc (rpf v 0 n) = List.replicate n (.float .f32 0) := by simp [rpf, sc]
theorem rpf_splice (v c q n : Nat) (h : c + q ≤ n) : splice (sc (rpf v c n)) c (List.replicate q (.float .f32 v)) = sc (rpf v (c + q) n) := by
  unfold splice rpf sc
  simp only [List.map_append, List.map_replicate]
  rw [List.take_append_of_le_length (by simp), List.take_of_length_le (by simp)]
  rw [List.drop_append, List.drop_of_length_le (by simp), List.nil_append, List.length_replicate, List.length_replicate, List.drop_replicate]
  rw [← List.append_assoc, List.replicate_append_replicate]
  congr 2
  omega
theorem make_S (n : Nat) (hn : n ≤ 1048576) (w : World) : (Instr.makeSlice 58 (.int .i64 (n : Int)) (.int .i64 (n : Int))).run Try.prog w = .ok (.slice (some ⟨w.heap.size, 0, none⟩) n n) (w.alloc (.cells (List.replicate n (Value.float .f32 0)).toArray 57)) :=
  make_G Try.underlying58 infoS rfl n (by omega) (by omega) w
theorem hzS : ∀ w', (sizeOf (Try.prog.elem 58)).run Try.prog w' = .ok 1 w' := fun w' => by
  obtain ⟨i0, hi, hz0, hz1, hz2⟩ := info_parts infoS
  have e : Try.prog.elem 58 = 57 := by kernel_rfl
  rw [e]
  simp [sizeOf, typeInfo, hi, hz1]
theorem cutA (g n t : Nat) (h : t < n) : ∀ w', (Instr.slice 58 (.slice (some ⟨g, 0, none⟩) n n) (some (.int .i64 (t : Int))) none none).run Try.prog w' = .ok (.slice (some ⟨g, t, none⟩) (n - t) (n - t)) w' := by
  have hu : Try.prog.underlying 58 = some (.slice (Try.prog.elem 58)) := by kernel_rfl
  intro w'
  have e' : sliced (some ⟨g, 0, none⟩) t n n 1 = .slice (some ⟨g, t, none⟩) (n - t) (n - t) := by
    unfold sliced
    rw [if_neg (by omega), Nat.mul_one]
    congr 1
    exact congrArg some ((add_pl g 0 t).trans (by rw [Nat.zero_add]))
  rw [run_slice_l w' 58 _ n n hu .i64 (t : Int) (by omega) (by omega), hzS]
  exact congrArg (fun v => Result.ok v w') e'
theorem cutB (g n t : Nat) (h : t < n) : ∀ w', (Instr.slice 58 (.slice (some ⟨g, 0, none⟩) n n) none (some (.int .i64 (t : Int))) none).run Try.prog w' = .ok (.slice (some ⟨g, 0, none⟩) t n) w' := by
  have hu : Try.prog.underlying 58 = some (.slice (Try.prog.elem 58)) := by kernel_rfl
  intro w'
  have e' : sliced (some ⟨g, 0, none⟩) 0 t n 1 = .slice (some ⟨g, 0, none⟩) t n := by
    unfold sliced
    rw [if_neg (by omega), Nat.mul_one]
    congr 1
  rw [run_slice_h w' 58 _ n n hu .i64 (t : Int) (by omega) (by omega), hzS]
  exact congrArg (fun v => Result.ok v w') e'
theorem rp_src {w : World} {a : Addr} {v : Value} (h : w.cell? a = some v) : ∀ j u, ([v] : List Value)[j]? = some u → w.cell? (a.add j) = some u := by
  intro j u hu
  match j with
  | 0 =>
    simp at hu
    subst hu
    rw [show a.add 0 = a by unfold Addr.add; split <;> simp_all]
    exact h
  | j + 1 => simp at hu
section
attribute [local irreducible] Calls
set_option maxRecDepth 1000000 in
set_option maxHeartbeats 2000000 in
theorem repeat_any {w : World} {a : Addr} (v n c : Nat) (hr : w.cell? a = some (.float .f32 v)) (h1 : 1 ≤ n) (h2 : n ≤ 255) :
    Calls Try.prog 37 #[.slice (some a) 1 c, .int .i64 (n : Int)] w fun e w' => e = .returned (.slice (some ⟨w.heap.size, 0, none⟩) n n) ∧ Bl w' 57 w.heap.size (sc (List.replicate n v)) ∧ Below w.heap.size w w' := by
  have MU := (show Hid _ from Try.bits_Mul 1 n (by omega) (by omega))
  have e1 : 1 * n / 18446744073709551616 = 0 := by omega
  have e2 : 1 * n % 18446744073709551616 = n := by omega
  rw [e1, e2] at MU
  have mk := make_S n (by omega)
  have al := balloc
  have n1 : ¬ (n : Int) < 0 := by omega
  have n3 : ¬ (9223372036854775807 : Int) < (n : Int) := by omega
  have n4 : IntKind.i64.wrap (n : Int) = (n : Int) := by rw [IntKind.wrap_i64]; omega
  clear e1 e2
  go_enter Try.func37, Try.ntmps37
  go_wp2_with (first
    | (go_at_call 44; refine (MU.out _).mono ?_; rintro e w1 ⟨rfl, h⟩; obtain rfl := h.symm)
    | (refine wpList_copy_splice rfl (.tmp 31) (.tmp 32) 58 58 rfl 57 Try.underlying58 (by kernel_rfl) (some ⟨w.heap.size, 0, none⟩) (some a) n n 1 c rfl rfl w.heap.size 0 (sc (rpf v 0 n)) 57 (by rw [rpf_none]; exact bl_new _ _ _) [.float .f32 v] (by show 1 = min 1 n; omega) (fun _ => ⟨rfl, a, rfl, rp_src (cell_below hr (balloc _ _))⟩) (by rw [sc_len, rpf_len _ _ _ (by omega)]; simp; omega) (by intro u hu; simp at hu; subst hu; rfl) w.heap.size w (balloc _ _) (Nat.le_refl _) ?_; intro w2 hg2 hb2))
  have hg3 : Bl w2 57 w.heap.size (sc (rpf v 1 n)) := by
    have := rpf_splice v 0 1 n (by omega)
    rw [Nat.zero_add] at this
    rw [← this]
    exact hg2.out
  clear hg2 mk
  go_wp2
  go_loopw [8] (fun i wr => ∃ t : Nat, 1 ≤ t ∧ t ≤ n ∧ i = .int .i64 (t : Int) ∧ Bl wr 57 w.heap.size (sc (rpf v t n)) ∧ Below w.heap.size w wr) (fun i _ => n - (intOf i).toNat)
  case atStart => exact ⟨1, Nat.le_refl _, h1, rfl, hg3, hb2⟩
  case round =>
    obtain ⟨t, ht1, ht, rfl, hO, hb⟩ := hrel
    by_cases hlt : t < n
    · have hi : (t : Int) < (n : Int) := by omega
      obtain ⟨q, hq⟩ : ∃ q, q = min t (n - t) := ⟨_, rfl⟩
      have HO := (show Hid (wr.drew.heap[w.heap.size]? = some (.cells (sc (rpf v t n)).toArray 57 (0, 0))) from hO)
      have HB := (show Hid (Below w.heap.size w wr.drew) from hb.drew)
      have hS := rpf_splice v t q n (by omega)
      have i3 : (t : Int) ≤ (n : Int) := by omega
      have HC : Hid (∀ j u, (List.replicate q (Value.float .f32 v))[j]? = some u → wr.drew.cell? ((⟨w.heap.size, 0, none⟩ : Addr).add j) = some u) := by
        intro j u hu
        have hj : j < q := by
          rcases Nat.lt_or_ge j q with h | h
          · exact h
          · rw [List.getElem?_eq_none (by simpa using h)] at hu; cases hu
        show wr.cell? _ = _
        rw [add_pl, Nat.zero_add, hO.cell, sc_at _ _ (by rw [rpf_len _ _ _ ht]; omega), ← hu]
        simp [rpf, List.getD, List.getElem?_append_left, show j < t by omega, hj]
      have H1 : Hid (∀ u ∈ List.replicate q (Value.float .f32 v), u.oneCell' = true) := by
        intro u hu
        obtain ⟨-, rfl⟩ := List.mem_replicate.1 hu
        rfl
      have HL : Hid (t + (List.replicate q (Value.float .f32 v)).length ≤ (sc (rpf v t n)).length) := by
        show _ ≤ _
        rw [sc_len, rpf_len _ _ _ ht, List.length_replicate]; omega
      have HQ : Hid ((List.replicate q (Value.float .f32 v)).length = Nat.min t (n - t)) := by
        show _ = _
        rw [List.length_replicate, hq]
      clear hO hb
      have q1 := cutA w.heap.size n t hlt
      have q2 := cutB w.heap.size n t hlt
      go_wp2
      go_region_law (refine step_copy_splice rfl _ _ 58 58 rfl 57 Try.underlying58 (by kernel_rfl) (some ⟨w.heap.size, t, none⟩) (some ⟨w.heap.size, 0, none⟩) (n - t) (n - t) t n (by simp [Act.eval, Act.put]) (by simp [Act.eval, Act.put]) w.heap.size t (sc (rpf v t n)) 57 HO.out (List.replicate q (.float .f32 v)) HQ.out (fun _ => ⟨rfl, ⟨w.heap.size, 0, none⟩, rfl, HC.out⟩) HL.out H1.out w.heap.size w HB.out (Nat.le_refl _) ?_; intro w5 hg5 hb5)
      all_goals
        have hw : IntKind.i64.wrap ((t : Int) + ((min t (n - t) : Nat) : Int)) = ((t + q : Nat) : Int) := by
          rw [← hq, IntKind.wrap_i64]; omega
        rw [hw]
        go_simp
        go_roundw
        case rel =>
          have hrow := hg5.out
          rw [hS] at hrow
          exact ⟨.int .i64 ((t : Int) + ((min t (n - t) : Nat) : Int)), _, _, _, _, _, _, _, _, _, _, _, _, _, ⟨t + q, by omega, by omega, by rw [← hq, Int.natCast_add], hrow, hb5⟩, rfl⟩
        case measure =>
          simp [intOf]; omega
    · obtain rfl : t = n := by omega
      rw [rpf_full] at hO
      go_wp2
      go_ret
      exact ⟨rfl, hO, hb⟩
end
end Go.Proofs.Ytcfjinpjijcheab
