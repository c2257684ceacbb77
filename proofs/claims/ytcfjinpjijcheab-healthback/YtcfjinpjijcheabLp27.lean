/-
  What Load takes, as mathematics; mayScore, mayKeep.
-/
import Derived.Test.YtcfjinpjijcheabLo27
namespace Go.Proofs.Ytcfjinpjijcheab
open Go.RowKit
theorem cv6_neg : floatToFloatBits .f32 2147483648 .f64 = some 9223372036854775808 := by decide +kernel
attribute [local irreducible] dW dR p2 fR fW fV fval sW sR
theorem get_drop (bs : List Nat) (o i : Nat) : bs.getD (o + i) 0 = (bs.drop o).getD i 0 := by simp [List.getD]
theorem rd4_drop (bs : List Nat) (o : Nat) : rd4 bs o = rd4 (bs.drop o) 0 := by
  have h0 := get_drop bs o 0
  rw [Nat.add_zero] at h0
  unfold rd4
  rw [h0, get_drop bs o 1, get_drop bs o 2, get_drop bs o 3]
theorem rd4_by4 (x : Nat) (l : List Nat) (hx : x < 4294967296) : rd4 (by4 x ++ l) 0 = x := by
  unfold rd4 by4
  simp [List.getD]
  omega
theorem by4_drop {bs : List Nat} (h : ∀ x ∈ bs, x < 256) (o : Nat) (ho : o + 4 ≤ bs.length) : bs.drop o = by4 (rd4 bs o) ++ bs.drop (o + 4) := by
  have hg : ∀ i (hi : i < bs.length), bs[i] < 256 := fun i hi => h _ (List.getElem_mem hi)
  rw [List.drop_eq_getElem_cons (by omega), List.drop_eq_getElem_cons (show o + 1 < bs.length by omega), List.drop_eq_getElem_cons (show o + 1 + 1 < bs.length by omega), List.drop_eq_getElem_cons (show o + 1 + 1 + 1 < bs.length by omega)]
  have a0 := hg o (by omega)
  have a1 := hg (o + 1) (by omega)
  have a2 := hg (o + 2) (by omega)
  have a3 := hg (o + 3) (by omega)
  have e : rd4 bs o = bs[o] + 256 * bs[o + 1] + 65536 * bs[o + 2] + 16777216 * bs[o + 3] := by
    unfold rd4
    simp [List.getD, show o < bs.length by omega, show o + 1 < bs.length by omega, show o + 2 < bs.length by omega, show o + 3 < bs.length by omega]
  rw [e]
  unfold by4
  show _ :: _ :: _ :: _ :: _ = _ :: _ :: _ :: _ :: _
  congr 1
  · omega
  · congr 1
    · show bs[o + 1] = _; omega
    · congr 1
      · show bs[o + 2] = _; omega
      · congr 1
        show bs[o + 3] = _; omega
theorem flat_drop {bs : List Nat} (h : ∀ x ∈ bs, x < 256) : ∀ N o, o + 4 * N = bs.length → ((List.range N).map fun i => rd4 bs (o + 4 * i)).flatMap by4 = bs.drop o
  | 0, o, ho => by rw [List.drop_of_length_le (by omega)]; rfl
  | N + 1, o, ho => by
    rw [List.range_succ_eq_map, List.map_cons, List.map_map, List.flatMap_cons, Nat.mul_zero, Nat.add_zero, by4_drop h o (by omega)]
    congr 1
    have := flat_drop h N (o + 4) (by omega)
    rw [← this]
    congr 2
    funext i
    show rd4 bs (o + 4 * (i + 1)) = _
    congr 1
    omega
theorem svd_len (k : Nat) (ss : List Nat) : (svd k ss).length = 5 + 4 * ss.length := by rw [← svk_full, svk_len _ _ _ (Nat.le_refl _)]
theorem svd_head (k : Nat) (ss : List Nat) : (svd k ss).getD 0 0 = ss.length % 256 := rfl
theorem svd_keep (k : Nat) (ss : List Nat) (hk : k < 4294967296) : rd4 (svd k ss) 1 = k := by
  rw [rd4_drop]
  exact rd4_by4 k _ hk
theorem svd_score (k : Nat) (ss : List Nat) (t : Nat) (ht : t < ss.length) (hs : ss.getD t 0 < 4294967296) : rd4 (svd k ss) (5 + 4 * t) = ss.getD t 0 := by
  rw [rd4_drop]
  have e : (svd k ss).drop (5 + 4 * t) = by4 (ss.getD t 0) ++ (ss.drop (t + 1)).flatMap by4 := by
    have h1 : svd k ss = svk k ss t ++ (ss.drop t).flatMap by4 := by
      unfold svd svk
      rw [List.append_assoc, ← List.flatMap_append, List.take_append_drop]
    rw [h1, List.drop_append, List.drop_of_length_le (by rw [svk_len _ _ _ (by omega)]; omega), List.nil_append, svk_len _ _ _ (by omega), Nat.sub_self, List.drop_zero, List.drop_eq_getElem_cons ht, List.flatMap_cons]
    rw [show ss.getD t 0 = ss[t] by simp [List.getD, ht]]
  rw [e]
  exact rd4_by4 _ _ hs
/-- The bytes of some board. -/
def Gd (bs : List Nat) (k : Nat) (ss : List Nat) : Prop := Kp k ∧ k < 4294967296 ∧ (∀ x ∈ ss, Sc x) ∧ 1 ≤ ss.length ∧ ss.length ≤ 255 ∧ svd k ss = bs
theorem gd_of {bs : List Nat} (h : ∀ x ∈ bs, x < 256) (N : Nat) (h0 : bs.getD 0 0 = N) (h1 : 1 ≤ N) (hl : bs.length = 5 + 4 * N) (hk : Kp (rd4 bs 1)) (hs : ∀ i, i < N → Sc (rd4 bs (5 + 4 * i))) : Gd bs (rd4 bs 1) ((List.range N).map fun i => rd4 bs (5 + 4 * i)) := by
  have hN : N < 256 := by
    rw [← h0, show bs.getD 0 0 = bs[0]'(by omega) by simp [List.getD, show 0 < bs.length by omega]]
    exact h _ (List.getElem_mem _)
  have h4 := rdk_lt h 1 4
  rw [rdk_4] at h4
  refine ⟨hk, by omega, fun x hx => ?_, by simp; omega, by simp; omega, ?_⟩
  · obtain ⟨i, hi, rfl⟩ := List.mem_map.1 hx
    exact hs i (List.mem_range.1 hi)
  · unfold svd
    rw [flat_drop h N 5 (by omega), List.length_map, List.length_range, Nat.mod_eq_of_lt hN, List.cons_append, ← by4_drop h 1 (by omega)]
    have : bs = bs.getD 0 0 :: bs.drop 1 := by
      conv => lhs; rw [← List.drop_zero (l := bs)]
      rw [List.drop_eq_getElem_cons (by omega), show bs.getD 0 0 = bs[0]'(by omega) by simp [List.getD, show 0 < bs.length by omega]]
    rw [h0] at this
    exact this.symm
theorem gd_len {bs : List Nat} {k : Nat} {ss : List Nat} (h : Gd bs k ss) : bs.length = 5 + 4 * ss.length ∧ bs.getD 0 0 = ss.length := by
  obtain ⟨-, -, -, h1, h2, rfl⟩ := h
  exact ⟨svd_len k ss, by rw [svd_head]; omega⟩
theorem gd_keep {bs : List Nat} {k : Nat} {ss : List Nat} (h : Gd bs k ss) : rd4 bs 1 = k := by
  obtain ⟨-, h1, -, -, -, rfl⟩ := h
  exact svd_keep k ss h1
theorem gd_score {bs : List Nat} {k : Nat} {ss : List Nat} (h : Gd bs k ss) (t : Nat) (ht : t < ss.length) : rd4 bs (5 + 4 * t) = ss.getD t 0 ∧ Sc (ss.getD t 0) := by
  obtain ⟨-, -, h1, -, -, rfl⟩ := h
  have hs : Sc (ss.getD t 0) := h1 _ (by rw [show ss.getD t 0 = ss[t] by simp [List.getD, ht]]; exact List.getElem_mem _)
  exact ⟨svd_score k ss t ht (by unfold Sc at hs; omega), hs⟩
theorem gd_scores {bs : List Nat} {k : Nat} {ss : List Nat} (h : Gd bs k ss) : ((List.range ss.length).map fun i => rd4 bs (5 + 4 * i)) = ss := by
  apply List.ext_getElem
  · simp
  · intro i h1 h2
    have := (gd_score h i h2).1
    rw [show ss.getD i 0 = ss[i] by simp [List.getD, h2]] at this
    simp [this]
section
attribute [local irreducible] Calls
set_option maxRecDepth 1000000 in
theorem mayKeep_bool (k : Nat) (w : World) : Calls Try.prog 28 #[.float .f32 k] w fun e w' => (e = .returned (.bool true) ∧ Kp k ∨ e = .returned (.bool false) ∧ ¬ Kp k) ∧ w' = w := by
  by_cases h : Kp k
  · exact (mayKeep_any h w).mono fun e w' ⟨h1, h2⟩ => ⟨.inl ⟨h1, h⟩, h2⟩
  · cases b1 : (FloatKind.f32.format.order 0 k == some .lt) with
    | false =>
      go_enter Try.func28, Try.ntmps28
      go_wp2
      go_ret
      exact ⟨.inr ⟨rfl, h⟩, rfl⟩
    | true =>
      cases b2 : (FloatKind.f32.format.order k 1065353216 == some .lt) with
      | false =>
        go_enter Try.func28, Try.ntmps28
        go_wp2
        go_ret
        exact ⟨.inr ⟨rfl, h⟩, rfl⟩
      | true => exact absurd (kp_of b1 b2) h
set_option maxRecDepth 1000000 in
theorem signbit_any (x : Nat) (hx : x < 18446744073709551616) (w : World) : Calls Try.prog 40 #[.float .f64 x] w fun e w' => e = .returned (.bool (decide (9223372036854775808 ≤ x))) ∧ w' = w := by
  have rb := run_bits64
  by_cases h : 9223372036854775808 ≤ x
  · rw [decide_eq_true h]
    have e1 : wrap64 (x : Int) = (x : Int) - 18446744073709551616 := by unfold wrap64; omega
    have e2 : ((x : Int) - 18446744073709551616) < 0 := by omega
    go_enter Try.func40, Try.ntmps40
    go_wp2
    go_ret
    exact ⟨rfl, rfl⟩
  · rw [decide_eq_false h]
    have e1 : wrap64 (x : Int) = (x : Int) := by unfold wrap64; omega
    have e2 : ¬ (x : Int) < 0 := by omega
    go_enter Try.func40, Try.ntmps40
    go_wp2
    go_ret
    exact ⟨rfl, rfl⟩
end
end Go.Proofs.Ytcfjinpjijcheab
