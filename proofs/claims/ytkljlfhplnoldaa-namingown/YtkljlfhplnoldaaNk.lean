/-
  Key.
-/
import Derived.Test.YtkljlfhplnoldaaNb
import Derived.Test.YtkljlfhplnoldaaSf
namespace Go.Proofs.Ytkljlfhplnoldaa
open Go.RowKit
set_option maxRecDepth 100000 in
theorem nu_idx (c : UInt8) : Lib.indexByte digs c = nu c := by
  have h : ∀ n < 256, Lib.indexByte digs (UInt8.ofNat n) = nu (UInt8.ofNat n) := by decide
  have := h c.toNat (UInt8.toNat_lt c)
  simpa using this
theorem wrap_i64 {z : Int} (h1 : -9223372036854775808 ≤ z) (h2 : z ≤ 9223372036854775807) : IntKind.i64.wrap z = z := by
  unfold IntKind.wrap
  simp only [IntKind.signed, IntKind.bits]
  simp
  omega
/-- What Key answers. -/
def kres : Option Tx → Value
  | some k => .tuple #[encStr k, .bool true]
  | none => .tuple #[encStr [], .bool false]
theorem u8_sum (a b : UInt8) (ha : ¬ nu a < 0) (hb : ¬ nu b < 0) : Value.int .u8 (16 * nu a + nu b) = u8v (UInt8.ofNat (16 * nu a + nu b).toNat) := by
  have ra := nu_rng a
  have rb := nu_rng b
  unfold u8v
  congr 1
  simp
  omega
theorem rb_next {w : World} {g m j : Nat} {done : Tx} (h : Rb w g (done ++ List.replicate (m - j) 0)) (hd : done.length = j) (hj : j < m) (c : UInt8) : Rb (w.setCell ⟨g, j, none⟩ (u8v c)).drew g (done ++ [c] ++ List.replicate (m - (j + 1)) 0) := by
  have e : (done ++ List.replicate (m - j) 0).set j c = done ++ [c] ++ List.replicate (m - (j + 1)) 0 := by
    rw [show m - j = (m - (j + 1)) + 1 by omega, List.replicate_succ, List.set_append_right _ _ (by omega), hd, Nat.sub_self, List.set_cons_zero, List.append_assoc]
    rfl
  rw [← e]
  exact h.set j c
theorem ret_bool {a b : Bool} (h : a = b) : Ending.returned (.bool a) = .returned (.bool b) := by rw [h]
section
attribute [local irreducible] Calls
set_option maxRecDepth 1000000 in
theorem number_any (c : UInt8) (w : World) : Calls Try.prog 21 #[u8v c] w fun e w' => e = .returned (.int .i64 (nu c)) ∧ w' = w := by
  have h := Try.strings_IndexByte ⟨digs.toArray⟩ (c.toNat : Int) w
  go_enter Try.func21, Try.ntmps21
  go_wp2_with (go_at_call 35; refine h.mono ?_; rintro e w' ⟨rfl, rfl⟩)
  go_ret
  refine ⟨?_, rfl⟩
  show Ending.returned (.int .i64 (Lib.indexByte digs c)) = _
  rw [nu_idx]
set_option maxRecDepth 1000000 in
theorem maybe_any (n : Nat) (w : World) : Calls Try.prog 20 #[.int .i64 (n : Int)] w fun e w' => e = .returned (.bool (decide (n % 2 = 0 ∧ 2 ≤ n ∧ n ≤ 510))) ∧ w' = w := by
  go_enter Try.func20, Try.ntmps20
  go_wp2
  all_goals
    go_ret
    refine ⟨ret_bool ?_, rfl⟩
    first | (rw [decide_eq_decide]; omega) | (rw [Bool.eq_iff_iff]; simp; omega)
set_option maxHeartbeats 4000000 in
set_option maxRecDepth 1000000 in
theorem key_ok (s t : Tx) (hs : s = 111 :: t) (ht : t.length % 2 = 0 ∧ 2 ≤ t.length ∧ t.length ≤ 510) (w : World) : Calls Try.prog 14 #[encStr s] w fun e w' => e = .returned (kres (prs t)) ∧ Below w.heap.size w w' := by
  have hcp := Try.strings_CutPrefix ⟨s.toArray⟩ ⟨#[111]⟩ w
  have e1 : Lib.trimPrefix (⟨s.toArray⟩ : ByteArray).data.toList (⟨#[111]⟩ : ByteArray).data.toList = t := by
    rw [enc_list, hs]; simp [Lib.trimPrefix, Lib.hasPrefix]
  have e2 : Lib.hasPrefix (⟨s.toArray⟩ : ByteArray).data.toList (⟨#[111]⟩ : ByteArray).data.toList = true := by
    rw [enc_list, hs]; simp [Lib.hasPrefix]
  rw [e1, e2] at hcp
  clear e1 e2 hs
  have hmb := maybe_any t.length w
  rw [decide_eq_true ht] at hmb
  obtain ⟨m, hm, hmk⟩ : ∃ m, Hid (t.length = 2 * m) ∧ ∀ w, (Instr.makeSlice 45 (.int .i64 ((t.length : Int) / 2)) (.int .i64 ((t.length : Int) / 2))).run Try.prog w = .ok (.slice (some ⟨w.heap.size, 0, none⟩) m m) (w.alloc (.cells (Array.replicate m (.int .u8 0)) 5)) :=
    ⟨t.length / 2, (by show _ = _; omega), fun w => by have := make_bytes (t.length / 2) (by omega) w; simpa using this⟩
  go_enter Try.func14, Try.ntmps14
  go_wp2_with (first
    | (go_at_call 19; refine hcp.mono ?_; rintro e w' ⟨rfl, hw⟩; rw [hw]; clear hw w')
    | (go_at_call 20; refine hmb.mono ?_; rintro e w' ⟨rfl, hw⟩; rw [hw]; clear hw w'))
  clear hmk hcp hmb
  go_loopw [29] (fun i wr => ∃ (j : Nat) (done : Tx), j ≤ m ∧ i = .int .i64 j ∧ done.length = j ∧ dgs done = t.take (2 * j) ∧ Rb wr w.heap.size (done ++ List.replicate (m - j) 0) ∧ Below w.heap.size w wr) (fun i _ => m - (intOf i).toNat)
  case atStart => exact ⟨0, [], Nat.zero_le _, rfl, rfl, rfl, rb_new w m, (Below.refl _ _).alloc (Nat.le_refl _) _⟩
  case round =>
    obtain ⟨j, done, hj, rfl, hd, hdt, hR, hb⟩ := hrel
    have hm' := hm.out
    by_cases hlt : j < m
    · have hi1 : (j : Int) < (m : Int) := by omega
      have hi2 : (j : Int) < 255 := by omega
      obtain ⟨a, ha⟩ : ∃ a, a = t.getD (2 * j) 0 := ⟨_, rfl⟩
      obtain ⟨b, hbb⟩ : ∃ b, b = t.getD (2 * j + 1) 0 := ⟨_, rfl⟩
      have hx1 : ∀ w, (Instr.index 9 (.string ⟨t.toArray⟩) (.int .i64 (2 * (j : Int)))).run Try.prog w = .ok (u8v a) w := fun w => by have := idx_at t (2 * j) (by omega) w; rw [← ha] at this; simpa using this
      have hx2 : ∀ w, (Instr.index 9 (.string ⟨t.toArray⟩) (.int .i64 (2 * (j : Int) + 1))).run Try.prog w = .ok (u8v b) w := fun w => by have := idx_at t (2 * j + 1) (by omega) w; rw [← hbb] at this; simpa using this
      have hab : Hid (t.drop (2 * j) = a :: b :: t.drop (2 * (j + 1))) := by
        show _ = _
        have p1 : 2 * j < t.length := by omega
        have p2 : 2 * j + 1 < t.length := by omega
        rw [List.drop_eq_getElem_cons p1, List.drop_eq_getElem_cons p2, ha, hbb]
        simp only [List.getD, List.getElem?_eq_getElem p1, List.getElem?_eq_getElem p2, Option.getD_some]
        rfl
      have hw1 : IntKind.i64.wrap (2 * (j : Int)) = 2 * (j : Int) := wrap_i64 (by omega) (by omega)
      have hw2 : IntKind.i64.wrap (2 * (j : Int) + 1) = 2 * (j : Int) + 1 := wrap_i64 (by omega) (by omega)
      have ra := nu_rng a
      have rb := nu_rng b
      have ra1 := ra.1; have ra2 := ra.2; have rb1 := rb.1; have rb2 := rb.2
      have hH : Hid (t.length = 2 * m) := hm
      have hdt' : Hid (dgs done = t.take (2 * j)) := hdt
      have g1 := hR.cell (i := j) (by simp; omega)
      have g2 := hR.frozen j
      clear ha hbb hm' ra rb hdt hm
      go_wp2
      go_region_with (first | (go_at_call 21; refine (number_any _ _).mono ?_; rintro e w' ⟨rfl, rfl⟩))
      all_goals
        by_cases hA : nu a < 0
        · go_wp2
          go_ret2
          rw [prs_no hab.out (.inl hA)]
          exact ⟨rfl, hb.drew⟩
        · by_cases hB : nu b < 0
          · go_wp2
            go_ret2
            rw [prs_no hab.out (.inr hB)]
            exact ⟨rfl, hb.drew⟩
          · go_wp2
            go_roundw
            case rel =>
              rw [u8_sum a b hA hB]
              exact ⟨j + 1, done ++ [UInt8.ofNat (16 * nu a + nu b).toNat], by omega, by go_num, by simp [hd], dgs_more hab.out hdt'.out hA hB, rb_next hR hd hlt _, (hb.setCell (Nat.le_refl _) _).drew⟩
            case measure => simp [intOf]; omega
    · obtain rfl : j = m := by omega
      have hdm : dgs done = t := by rw [hdt, ← hm', List.take_length]
      have hpr : prs t = some done := by rw [← hdm, prs_dgs]
      rw [Nat.sub_self, List.replicate_zero, List.append_nil] at hR
      have hcv := conv_at (b := w.heap.size) (o := 0) (xs := done) (fun i hi => by rw [Nat.zero_add]; exact hR.cell hi) j j hd
      clear hm' hdm hdt
      go_wp2
      go_ret2
      rw [hpr]
      exact ⟨rfl, hb⟩
set_option maxRecDepth 1000000 in
theorem key_odd (s t : Tx) (hs : s = 111 :: t) (ht : ¬ (t.length % 2 = 0 ∧ 2 ≤ t.length ∧ t.length ≤ 510)) (w : World) : Calls Try.prog 14 #[encStr s] w fun e w' => e = .returned (kres none) ∧ w' = w := by
  have hcp := Try.strings_CutPrefix ⟨s.toArray⟩ ⟨#[111]⟩ w
  have e1 : Lib.trimPrefix (⟨s.toArray⟩ : ByteArray).data.toList (⟨#[111]⟩ : ByteArray).data.toList = t := by
    rw [enc_list, hs]; simp [Lib.trimPrefix, Lib.hasPrefix]
  have e2 : Lib.hasPrefix (⟨s.toArray⟩ : ByteArray).data.toList (⟨#[111]⟩ : ByteArray).data.toList = true := by
    rw [enc_list, hs]; simp [Lib.hasPrefix]
  rw [e1, e2] at hcp
  clear e1 e2 hs
  have hmb := maybe_any t.length w
  rw [decide_eq_false ht] at hmb
  clear ht
  go_enter Try.func14, Try.ntmps14
  go_wp2_with (first
    | (go_at_call 19; refine hcp.mono ?_; rintro e w' ⟨rfl, hw⟩; rw [hw]; clear hw w')
    | (go_at_call 20; refine hmb.mono ?_; rintro e w' ⟨rfl, hw⟩; rw [hw]; clear hw w'))
  go_ret2
  exact ⟨rfl, rfl⟩
set_option maxRecDepth 1000000 in
theorem key_else (s : Tx) (hs : s.head? ≠ some 111) (w : World) : Calls Try.prog 14 #[encStr s] w fun e w' => e = .returned (kres none) ∧ w' = w := by
  have hcp := Try.strings_CutPrefix ⟨s.toArray⟩ ⟨#[111]⟩ w
  have e2 : Lib.hasPrefix (⟨s.toArray⟩ : ByteArray).data.toList (⟨#[111]⟩ : ByteArray).data.toList = false := by
    rw [enc_list]
    cases s with
    | nil => rfl
    | cons c t =>
      have hc : ¬ (111 : UInt8) = c := fun h => hs (by rw [h]; rfl)
      simp [Lib.hasPrefix, List.isPrefixOf, hc]
  rw [e2] at hcp
  clear e2 hs
  go_enter Try.func14, Try.ntmps14
  go_wp2_with (first
    | (go_at_call 19; refine hcp.mono ?_; rintro e w' ⟨rfl, hw⟩; rw [hw]; clear hw w'))
  go_ret2
  exact ⟨rfl, rfl⟩
theorem key_any (s : Tx) (w : World) : Calls Try.prog 14 #[encStr s] w fun e w' => e = .returned (kres (ky s)) ∧ Below w.heap.size w w' := by
  by_cases hs : s.head? = some 111
  · cases s with
    | nil => simp at hs
    | cons c t =>
      simp at hs
      subst hs
      by_cases ht : t.length % 2 = 0 ∧ 2 ≤ t.length ∧ t.length ≤ 510
      · have e : ky (111 :: t) = prs t := by unfold ky; rw [if_pos ⟨rfl, by simp; omega, by simp; omega, by simp; omega⟩]; rfl
        rw [e]
        exact key_ok _ t rfl ht w
      · have e : ky (111 :: t) = none := by unfold ky; rw [if_neg (by rintro ⟨_, h1, h2, h3⟩; simp at h1 h2 h3; omega)]
        rw [e]
        refine (key_odd _ t rfl ht w).mono ?_
        rintro e w' ⟨rfl, rfl⟩
        exact ⟨rfl, Below.refl _ _⟩
  · have e : ky s = none := by unfold ky; rw [if_neg (fun h => hs h.1)]
    rw [e]
    refine (key_else s hs w).mono ?_
    rintro e w' ⟨rfl, rfl⟩
    exact ⟨rfl, Below.refl _ _⟩
end
end Go.Proofs.Ytkljlfhplnoldaa
