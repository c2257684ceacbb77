/-
  The document's Object, Key, Kind.
-/
import Derived.Test.YtdfhhogibphngaaNw
import Derived.Laws.Concat
namespace Go.Proofs.Ytdfhhogibphngaa
open Go.RowKit Go.Maps Go.Sort
theorem eq_u8 (a b : UInt8) (w : World) : (binOp .eql 5 (u8v a) (u8v b)).run Try.prog w = .ok (.bool (decide (a = b))) w := by
  unfold u8v
  go_simp
  by_cases h : a = b
  · simp [h]
  · have : ¬ a.toNat = b.toNat := fun e => h (UInt8.toNat_inj.1 e)
    simp [h]
    omega
theorem dig_at (n : Nat) (h : n < 16) (w : World) : (Instr.index 9 (.string ⟨#[48, 49, 50, 51, 52, 53, 54, 55, 56, 57, 97, 98, 99, 100, 101, 102]⟩) (.int .i64 (n : Int))).run Try.prog w = .ok (u8v (dig n)) w := by
  have := idx_k digs .i64 n (by show _ < 16; omega) w
  rw [digs_at _ h] at this
  exact this
theorem ret_int {k : IntKind} {a b : Int} (h : a = b) : Ending.returned (.int k a) = .returned (.int k b) := by rw [h]
theorem dig_cut (n : Nat) (h : n < 16) : (⟨#[48, 49, 50, 51, 52, 53, 54, 55, 56, 57, 97, 98, 99, 100, 101, 102]⟩ : ByteArray).extract n (n + 1) = ⟨[dig n].toArray⟩ := by
  have : ∀ n < 16, (⟨#[48, 49, 50, 51, 52, 53, 54, 55, 56, 57, 97, 98, 99, 100, 101, 102]⟩ : ByteArray).extract n (n + 1) = ⟨[dig n].toArray⟩ := by decide
  exact this n h
/-- Two digits behind a text, as the document writes them. -/
theorem radd (c : UInt8) (C : Int) (hC : C = (c.toNat : Int)) (t : Tx) (ht : t.length ≤ 1000) : ∃ (t2 t1 : Tx) (X Y : ByteArray), t2 = t ++ [dig (c.toNat / 16)] ++ [dig (c.toNat % 16)] ∧ (∀ w, (Op.stringOp .add ⟨t.toArray⟩ X).run Try.prog w = .ok (encStr t1) w) ∧ (∀ w, (Op.stringOp .add ⟨t1.toArray⟩ Y).run Try.prog w = .ok (encStr t2) w)
    ∧ (⟨#[48, 49, 50, 51, 52, 53, 54, 55, 56, 57, 97, 98, 99, 100, 101, 102]⟩ : ByteArray).extract (C / 16).toNat (C / 16 + 1).toNat = X ∧ (⟨#[48, 49, 50, 51, 52, 53, 54, 55, 56, 57, 97, 98, 99, 100, 101, 102]⟩ : ByteArray).extract (C % 16).toNat (C % 16 + 1).toNat = Y := by
  refine ⟨_, t ++ [dig (c.toNat / 16)], ⟨[dig (c.toNat / 16)].toArray⟩, ⟨[dig (c.toNat % 16)].toArray⟩, rfl, fun w => run_string_add_lists w _ _ (by omega) (by simp), fun w => run_string_add_lists w _ _ (by simp; omega) (by simp), ?_, ?_⟩
  · rw [← dig_cut _ (hi16 c), hC]
    congr 1
  · rw [← dig_cut _ (lo16 c), hC]
    congr 1
theorem ob_below {w w' : World} {base : Nat} {v : Value} {xs : Tx} (h : Ob w base v xs) (hb : Below w.heap.size w w') : Ob w' base v xs := by
  refine ⟨h.1, ?_⟩
  rcases h.2 with h1 | ⟨g, cap, c, hv, hg, hh, hc⟩
  · exact .inl h1
  · refine .inr ⟨g, cap, c, hv, hg, ?_, hc⟩
    rw [hb.block g (Array.getElem?_eq_some_iff.1 hh).1]
    exact hh
section
attribute [local irreducible] Calls
set_option maxRecDepth 1000000 in
theorem rnumber_any (c : UInt8) (w : World) : Calls Try.prog 20 #[u8v c] w fun e w' => e = .returned (.int .i64 (nu c)) ∧ Below w.heap.size w w' := by
  obtain ⟨C, hC⟩ : ∃ C : Int, C = (c.toNat : Int) := ⟨_, rfl⟩
  rw [show u8v c = .int .u8 C by rw [hC]; rfl]
  have hC' : Hid (C = (c.toNat : Int)) := hC
  clear hC
  go_enter Try.func20, Try.ntmps20
  go_wp2
  go_loopw [3] (fun i wr => ∃ k : Nat, k ≤ 16 ∧ i = .int .i64 k ∧ (∀ j < k, ¬ dig j = c) ∧ Below w.heap.size w wr) (fun i _ => 16 - (intOf i).toNat)
  case atStart => exact ⟨0, Nat.zero_le _, rfl, fun j hj => absurd hj (by omega), Below.refl _ _⟩
  case round =>
    obtain ⟨k, hk, rfl, ht, hw⟩ := hrel
    by_cases hlt : k < 16
    · have hi1 : (k : Int) < 16 := by omega
      obtain ⟨E, hE, hx⟩ : ∃ E : Int, Hid (E = ((dig k).toNat : Int)) ∧ ∀ w, (Instr.index 9 (.string ⟨#[48, 49, 50, 51, 52, 53, 54, 55, 56, 57, 97, 98, 99, 100, 101, 102]⟩) (.int .i64 (k : Int))).run Try.prog w = .ok (.int .u8 E) w := ⟨_, rfl, dig_at k hlt⟩
      by_cases hd : dig k = c
      · have he : E = C := by rw [hE.out, hC'.out, hd]
        have F : Hid ((k : Int) = nu c) := by show _ = _; rw [← hd, nu_dig k hlt]
        clear hd ht hE
        subst he
        go_wp2
        go_ret
        exact ⟨ret_int F.out, hw⟩
      · have he : (E == C) = false := by
          rw [hE.out, hC'.out]
          have : ¬ (dig k).toNat = c.toNat := fun e => hd (UInt8.toNat_inj.1 e)
          simp
          omega
        have T : Hid (∀ j < k + 1, ¬ dig j = c) := fun j hj => by
          by_cases e : j = k
          · rw [e]; exact hd
          · exact ht j (by omega)
        clear hd ht hE
        go_wp2
        go_roundw
        case rel => exact ⟨k + 1, by omega, by go_num, T.out, hw⟩
        case measure => simp [intOf]; omega
    · obtain rfl : k = 16 := by omega
      have F : Hid ((-1 : Int) = nu c) := by
        show _ = _
        have r := nu_rng c
        by_cases h0 : nu c < 0
        · omega
        · exact absurd (dig_nu c h0) (ht _ (by omega))
      clear ht
      go_wp2
      go_ret
      exact ⟨ret_int F.out, hw⟩
set_option maxRecDepth 1000000 in
theorem robject_ok (k : Tx) (h : fitK k) (w : World) : Calls Try.prog 10 #[encStr k] w fun e w' => e = .returned (.tuple #[encStr (nm k), .int .i64 0]) ∧ Below w.heap.size w w' := by
  have h1 := h.1
  have h2 := h.2
  go_enter Try.func10, Try.ntmps10
  go_wp2
  go_loopw [4, 5] (fun v i wr => ∃ j : Nat, j ≤ k.length ∧ i = .int .i64 j ∧ v = encStr (nm (k.take j)) ∧ Below w.heap.size w wr) (fun _ i _ => k.length - (intOf i).toNat)
  case atStart => exact ⟨0, Nat.zero_le _, rfl, rfl, Below.refl _ _⟩
  case round =>
    obtain ⟨j, hj, rfl, rfl, hb⟩ := hrel
    by_cases hlt : j < k.length
    · have hi1 : (j : Int) < (k.length : Int) := by omega
      obtain ⟨c, hc⟩ : ∃ c, c = k.getD j 0 := ⟨_, rfl⟩
      obtain ⟨C, hC0, hC1, hC, hx⟩ : ∃ C : Int, 0 ≤ C ∧ C < 256 ∧ Hid (C = (c.toNat : Int)) ∧ ∀ w, (Instr.index 9 (.string ⟨k.toArray⟩) (.int .i64 (j : Int))).run Try.prog w = .ok (.int .u8 C) w := ⟨(c.toNat : Int), by omega, by have := UInt8.toNat_lt c; omega, rfl, fun w => by have := idx_at k j hlt w; rw [← hc] at this; exact this⟩
      have hs : Hid (nm (k.take (j + 1)) = nm (k.take j) ++ ([dig (c.toNat / 16)] ++ [dig (c.toNat % 16)])) := by
        show _ = _
        have e1 : k.take (j + 1) = k.take j ++ [c] := by rw [List.take_add_one, hc]; simp [hlt]
        rw [e1, nm, dgs_app]; rfl
      have hl : Hid ((nm (k.take j)).length = 1 + 2 * j) := by show _ = _; rw [nm_len, List.length_take]; omega
      clear hc
      obtain ⟨t, htt⟩ : ∃ t, t = nm (k.take j) := ⟨_, rfl⟩
      rw [← htt] at hs hl ⊢
      clear htt
      obtain ⟨t2, t1, X, Y, h2t, hA1, hA2, hex1, hex2⟩ := radd c C hC.out t (by rw [hl.out]; omega)
      have hs2 : Hid (nm (k.take (j + 1)) = t2) := by show _ = _; rw [hs.out, h2t, List.append_assoc]
      clear h2t hs hl hC
      go_wp2
      go_region
      all_goals
        go_wp2
        go_roundw
        case rel => exact ⟨j + 1, by omega, by go_num, by rw [hs2.out], hb.drew⟩
        case measure => simp [intOf]; omega
    · obtain rfl : j = k.length := by omega
      rw [List.take_length]
      go_wp2
      go_ret2
      exact ⟨rfl, hb⟩
set_option maxHeartbeats 4000000 in
set_option maxRecDepth 1000000 in
theorem rkey_ok (s t : Tx) (m : Nat) (hs : s = 111 :: t) (ht : Hid (t.length = 2 * m)) (hm1 : 1 ≤ m) (hm2 : m ≤ 255) (w : World) : Calls Try.prog 12 #[encStr s] w fun e w' => e = .returned (kres (prs t)) ∧ Below w.heap.size w w' := by
  obtain ⟨i0, hi, hz0, hz1, hz2⟩ := info_parts info5
  have hl : Hid (s.length = 2 * m + 1) := by show _ = _; rw [hs]; simp [ht.out]
  have hl' := hl.out
  have l1 : 3 ≤ (s.length : Int) := by omega
  have l2 : (s.length : Int) ≤ 511 := by omega
  have l3 : ((s.length : Int) % 2 == 0) = false := by simp; omega
  have hx0 : ∀ w, (Instr.index 9 (.string ⟨s.toArray⟩) (.int .i64 0)).run Try.prog w = .ok (.int .u8 111) w := fun w => by have := idx_at s 0 (by omega) w; rw [hs] at this ⊢; exact this
  have hss : Hid (s = 111 :: t) := hs
  clear hs hl'
  go_enter Try.func12, Try.ntmps12
  go_wp2
  go_loopw [4, 5] (fun v i wr => ∃ (j : Nat) (done : Tx), j ≤ m ∧ i = .int .i64 (2 * (j : Int) + 1) ∧ done.length = j ∧ dgs done = t.take (2 * j) ∧ Ob wr w.heap.size v done ∧ Below w.heap.size w wr) (fun _ i _ => 2 * m + 1 - (intOf i).toNat)
  case atStart => exact ⟨0, [], Nat.zero_le _, rfl, rfl, rfl, World.ownsRow_nil _ _ _ _, Below.refl _ _⟩
  case round =>
    obtain ⟨j, done, hj, rfl, hd, hdt, hO, hb⟩ := hrel
    have hl' := hl.out
    have ht' := ht.out
    by_cases hlt : j < m
    · have hi2 : (j : Int) < 255 := by omega
      have hi3 : 2 * (j : Int) + 1 + 1 < (s.length : Int) := by omega
      obtain ⟨a, ha⟩ : ∃ a, a = t.getD (2 * j) 0 := ⟨_, rfl⟩
      obtain ⟨b, hbb⟩ : ∃ b, b = t.getD (2 * j + 1) 0 := ⟨_, rfl⟩
      have hx1 : ∀ w, (Instr.index 9 (.string ⟨s.toArray⟩) (.int .i64 (2 * (j : Int) + 1))).run Try.prog w = .ok (u8v a) w := fun w => by
        have := idx_at s (2 * j + 1) (by omega) w
        rw [show s.getD (2 * j + 1) 0 = a by rw [hss.out, ha]; rfl] at this
        simpa using this
      have hx2 : ∀ w, (Instr.index 9 (.string ⟨s.toArray⟩) (.int .i64 (2 * (j : Int) + 1 + 1))).run Try.prog w = .ok (u8v b) w := fun w => by
        have := idx_at s (2 * j + 1 + 1) (by omega) w
        rw [show s.getD (2 * j + 1 + 1) 0 = b by rw [hss.out, hbb]; rfl] at this
        simpa using this
      have hab : Hid (t.drop (2 * j) = a :: b :: t.drop (2 * (j + 1))) := by
        show _ = _
        have p1 : 2 * j < t.length := by omega
        have p2 : 2 * j + 1 < t.length := by omega
        rw [List.drop_eq_getElem_cons p1, List.drop_eq_getElem_cons p2, ha, hbb]
        simp only [List.getD, List.getElem?_eq_getElem p1, List.getElem?_eq_getElem p2, Option.getD_some]
        rfl
      have ra1 := (nu_rng a).1; have ra2 := (nu_rng a).2; have rb1 := (nu_rng b).1; have rb2 := (nu_rng b).2
      have hdt' : Hid (dgs done = t.take (2 * j)) := hdt
      have M1 : Hid (done.length + 1 ≤ maxLen) := by show _ ≤ _; unfold maxLen; omega
      have M3 : Hid ((done.length + 1) * 1 ≤ 140737488355328) := by show _ ≤ _; omega
      clear ha hbb hl' ht' hdt
      by_cases hA : nu a < 0
      · go_wp2_with (first
          | (go_at_call 20; refine (rnumber_any a _).mono ?_; rintro e w1 ⟨rfl, hb1⟩)
          | (go_at_call 20; refine (rnumber_any b _).mono ?_; rintro e w2 ⟨rfl, hb2⟩))
        go_ret2
        rw [prs_no hab.out (.inl hA)]
        exact ⟨rfl, below_trans (below_trans hb hb1 hb.size) hb2 (Nat.le_trans hb.size hb1.size)⟩
      · by_cases hB : nu b < 0
        · go_wp2_with (first
            | (go_at_call 20; refine (rnumber_any a _).mono ?_; rintro e w1 ⟨rfl, hb1⟩)
            | (go_at_call 20; refine (rnumber_any b _).mono ?_; rintro e w2 ⟨rfl, hb2⟩))
          go_ret2
          rw [prs_no hab.out (.inr hB)]
          exact ⟨rfl, below_trans (below_trans hb hb1 hb.size) hb2 (Nat.le_trans hb.size hb1.size)⟩
        · go_wp2_with (first
            | (go_at_call 20; refine (rnumber_any a _).mono ?_; rintro e w1 ⟨rfl, hb1⟩)
            | (go_at_call 20; refine (rnumber_any b _).mono ?_; rintro e w2 ⟨rfl, hb2⟩; have hO2 := ob_below (ob_below hO hb1) hb2; have hbw := below_trans (below_trans hb hb1 hb.size) hb2 (Nat.le_trans hb.size hb1.size))
            | (at_builtin; refine wpList_append_own _ rfl _ _ 34 rfl w.heap.size 5 i0 (.int .u8 0) 1 1 Try.underlying34 hi hz0 hz1 hz2 rfl (by decide) _ done.length (done.map u8v) rfl (hO2.alloc _) ⟨w2.heap.size, 0, none⟩ 1 1 [.int .u8 (16 * nu a + nu b)] rfl rfl (one_new _ _ _) (by intro u hu; simp at hu; subst hu; rfl) M1.out M3.out (by have := hbw.size; simp; omega) ?_; intro v' w3 hown' hg3 _))
          go_roundw
          case rel =>
            rw [u8_sum a b (by omega) (by omega)] at hown'
            exact ⟨j + 1, done ++ [UInt8.ofNat (16 * nu a + nu b).toNat], by omega, by go_num, by simp [hd], dgs_more hab.out hdt'.out (by omega) (by omega), by unfold Ob; simpa using hown', (hbw.alloc hbw.size _).grown hg3 (by have := hbw.size; simp; omega) (fun z hz => (hO.lt z hz).1)⟩
          case measure => simp [intOf]; omega
    · obtain rfl : j = m := by omega
      have hi3 : ¬ 2 * (j : Int) + 1 + 1 < (s.length : Int) := by omega
      have hdm : dgs done = t := by rw [hdt, ← ht', List.take_length]
      have hpr : Hid (prs t = some done) := by show _ = _; rw [← hdm, prs_dgs]
      obtain ⟨g, cp, hv, hcs⟩ := hO.shape (by intro e; rw [e] at hd; simp at hd; omega)
      have hcv := conv_at hcs done.length cp rfl
      subst hv
      clear ht' hl' hdm hdt hd
      go_wp2
      go_ret2
      rw [hpr.out]
      exact ⟨rfl, hb⟩
set_option maxRecDepth 1000000 in
theorem rkey_no (s : Tx) (h : ¬ (s.head? = some 111 ∧ 3 ≤ s.length ∧ s.length ≤ 511 ∧ s.length % 2 = 1)) (w : World) : Calls Try.prog 12 #[encStr s] w fun e w' => e = .returned (kres none) ∧ w' = w := by
  by_cases h1 : s.length < 3
  · have l1 : (s.length : Int) < 3 := by omega
    clear h
    go_enter Try.func12, Try.ntmps12
    go_wp2
    go_ret2
    exact ⟨rfl, rfl⟩
  · have l1 : 3 ≤ (s.length : Int) := by omega
    by_cases h2 : 511 < s.length
    · have l2 : 511 < (s.length : Int) := by omega
      clear h
      go_enter Try.func12, Try.ntmps12
      go_wp2
      go_ret2
      exact ⟨rfl, rfl⟩
    · have l2 : (s.length : Int) ≤ 511 := by omega
      by_cases h3 : s.length % 2 = 0
      · have l3 : ((s.length : Int) % 2 == 0) = true := by simp; omega
        clear h h3
        go_enter Try.func12, Try.ntmps12
        go_wp2
        go_ret2
        exact ⟨rfl, rfl⟩
      · have l3 : ((s.length : Int) % 2 == 0) = false := by simp; omega
        cases s with
        | nil => simp at h1
        | cons c t =>
          have hc : ¬ c = 111 := fun e => h ⟨by rw [e]; rfl, by omega, by omega, by omega⟩
          obtain ⟨C, hC, hx0⟩ : ∃ C : Int, (C != 111) = true ∧ ∀ w, (Instr.index 9 (.string ⟨(c :: t).toArray⟩) (.int .i64 0)).run Try.prog w = .ok (.int .u8 C) w := by
            refine ⟨(c.toNat : Int), ?_, fun w => idx_at (c :: t) 0 (by simp) w⟩
            have : ¬ c.toNat = 111 := fun e => hc (UInt8.toNat_inj.1 e)
            simp
            omega
          obtain ⟨s, hs⟩ : ∃ s, s = c :: t := ⟨_, rfl⟩
          rw [← hs] at hx0 l1 l2 l3 ⊢
          clear hs h h1 h2 h3 hc
          go_enter Try.func12, Try.ntmps12
          go_wp2
          go_ret2
          exact ⟨rfl, rfl⟩
theorem rkey_any (s : Tx) (w : World) : Calls Try.prog 12 #[encStr s] w fun e w' => e = .returned (kres (ky s)) ∧ Below w.heap.size w w' := by
  by_cases hs : s.head? = some 111 ∧ 3 ≤ s.length ∧ s.length ≤ 511 ∧ s.length % 2 = 1
  · have e : ky s = prs s.tail := by unfold ky; rw [if_pos hs]
    obtain ⟨h1, h2, h3, h4⟩ := hs
    cases s with
    | nil => simp at h1
    | cons c t =>
      simp at h1 h2 h3 h4
      subst h1
      rw [e]
      exact rkey_ok _ t (t.length / 2) rfl (by show _ = _; omega) (by omega) (by omega) w
  · have e : ky s = none := by unfold ky; rw [if_neg hs]
    rw [e]
    refine (rkey_no s hs w).mono ?_
    rintro e w' ⟨rfl, rfl⟩
    exact ⟨rfl, Below.refl _ _⟩
set_option maxRecDepth 1000000 in
theorem robject_no (k : Tx) (h : ¬ fitK k) (w : World) : Calls Try.prog 10 #[encStr k] w fun e w' => e = .returned (.tuple #[encStr [], .int .i64 90]) ∧ w' = w := by
  by_cases h1 : k.length < 1
  · have h2 : (k.length : Int) < 1 := by omega
    go_enter Try.func10, Try.ntmps10
    go_wp2
    go_ret2
    exact ⟨rfl, rfl⟩
  · have h2 : ¬ (k.length : Int) < 1 := by omega
    have h3 : (k.length : Int) > 255 := by unfold fitK at h; omega
    go_enter Try.func10, Try.ntmps10
    go_wp2
    go_ret2
    exact ⟨rfl, rfl⟩
set_option maxRecDepth 1000000 in
theorem rkind_t (w : World) : Calls Try.prog 15 #[encStr [116]] w fun e w' => e = .returned (.int .i64 2) ∧ w' = w := by
  go_enter Try.func15, Try.ntmps15
  go_wp2
  go_ret
  exact ⟨rfl, rfl⟩
set_option maxRecDepth 1000000 in
theorem rkind_l (w : World) : Calls Try.prog 15 #[encStr [108]] w fun e w' => e = .returned (.int .i64 3) ∧ w' = w := by
  go_enter Try.func15, Try.ntmps15
  go_wp2
  go_ret
  exact ⟨rfl, rfl⟩
set_option maxRecDepth 1000000 in
theorem rkind_else (s : Tx) (h1 : ¬ s = [116]) (h2 : ¬ s = [108]) (w : World) : Calls Try.prog 15 #[encStr s] w fun e w' => e = .returned (.int .i64 (if (ky s).isSome then 1 else 0)) ∧ Below w.heap.size w w' := by
  have hk := rkey_any s w
  have b1 : (s == [116]) = false := by simp [h1]
  have b2 : (s == [108]) = false := by simp [h2]
  clear h1 h2
  cases hy : ky s with
  | none =>
    rw [hy] at hk
    clear hy
    go_enter Try.func15, Try.ntmps15
    go_wp2_with (go_at_call 12; refine hk.mono ?_; rintro e w' ⟨rfl, hw⟩; unfold kres)
    go_ret
    exact ⟨rfl, hw⟩
  | some k =>
    rw [hy] at hk
    clear hy
    go_enter Try.func15, Try.ntmps15
    go_wp2_with (go_at_call 12; refine hk.mono ?_; rintro e w' ⟨rfl, hw⟩; unfold kres)
    go_ret
    exact ⟨rfl, hw⟩
theorem rkind_any (s : Tx) (w : World) : Calls Try.prog 15 #[encStr s] w fun e w' => e = .returned (.int .i64 (knd s)) ∧ Below w.heap.size w w' := by
  unfold knd
  by_cases h1 : s = [116]
  · rw [if_pos h1, h1]
    refine (rkind_t w).mono ?_
    rintro e w' ⟨rfl, rfl⟩
    exact ⟨rfl, Below.refl _ _⟩
  · rw [if_neg h1]
    by_cases h2 : s = [108]
    · rw [if_pos h2, h2]
      refine (rkind_l w).mono ?_
      rintro e w' ⟨rfl, rfl⟩
      exact ⟨rfl, Below.refl _ _⟩
    · rw [if_neg h2]
      exact rkind_else s h1 h2 w
end
end Go.Proofs.Ytdfhhogibphngaa
