/-
  HealthBack: the walk.
-/
import Derived.Test.YtcfjinpjijcheabFm27
import Derived.Test.YtcfjinpjijcheabTd27
namespace Go.Proofs.Ytcfjinpjijcheab
open Go.RowKit
attribute [local irreducible] dW dR p2 fR fW fV fval sW sR
theorem Bd.kept {w w' : World} {b s k r : Nat} {ss : List Nat} (h : Bd w b s k ss) (hg : w.grownBy w' (some r)) (hb : b ≠ r) (hs : s ≠ r) : Bd w' b s k ss := by
  refine ⟨?_, ?_⟩
  · rw [hg.block b h.ltb (fun e => hb (by injection e))]; exact h.blk
  · have h1 := h.row
    have h2 := h.row.lt
    unfold Bl at h1 ⊢
    rw [hg.block s h2 (fun e => hs (by injection e))]; exact h1
theorem gd_inj {bs : List Nat} {k k' : Nat} {ss ss' : List Nat} (h : Gd bs k ss) (h' : Gd bs k' ss') : k' = k ∧ ss' = ss := by
  refine ⟨by rw [← gd_keep h, ← gd_keep h'], ?_⟩
  have l1 := (gd_len h).1
  have l2 := (gd_len h').1
  rw [← gd_scores h, ← gd_scores h', show ss'.length = ss.length by omega]
theorem c3_lt {d k : Nat} (h : floatToFloatBits .f64 d .f32 = some k) : k < 4294967296 := by
  have e : (Lit.float .f32 k).wf = true := by
    unfold floatToFloatBits at h
    rw [if_neg (by decide)] at h
    split at h
    · cases h
    · cases h; exact encode_wf ..
    · split at h
      · cases h
      · cases h; exact encode_wf ..
  simpa [Lit.wf] using e
theorem sc_all_set' {ss : List Nat} (h : ∀ x ∈ ss, Sc x) (p v : Nat) (hv : Sc v) : ∀ x ∈ ss.set p v, Sc x := by
  intro x hx
  rcases List.mem_or_eq_of_mem_set hx with h1 | rfl
  · exact h x h1
  · exact hv
section
attribute [local irreducible] Calls
set_option maxRecDepth 1000000 in
set_option maxHeartbeats 2000000 in
theorem board2_any (n : Int) (x : Nat) (w : World) : Calls Try.prog 10 #[.int .i64 n, .float .f64 x] w fun e w' => ∃ b s k, e = .returned (.pointer (some ⟨b, 0, none⟩)) ∧ (Kp k ∧ k < 4294967296) ∧ Bd w' b s k (List.replicate (nPl n) 1065353216) ∧ w.heap.size ≤ b ∧ w.heap.size ≤ s ∧ Below w.heap.size w w' := by
  have PK := (show Hid _ from fun (W : World) => pick_any (wrap64 (n - 1)) 255 (by omega) (by omega) W)
  have KE := (show Hid _ from kept_any x)
  obtain ⟨N, hN⟩ : ∃ N, Hid (nPl n = N) := ⟨_, rfl⟩
  have h1 := nPl_le n
  have e1 := nPl_eq n
  rw [hN.out] at h1 e1 ⊢
  have NW := (show Hid _ from fun (W : World) (d k : Nat) (hc : floatToFloatBits .f64 d .f32 = some k) (hk : Kp k) => new_any (w := W) N d k h1.1 h1.2 hc hk)
  have e2 : wrap64 (1 + wrap64 (n - 1) % 255) = (N : Int) := by rw [e1]; unfold wrap64; omega
  go_enter Try.func10, Try.ntmps10
  go_wp2_with (first
    | (go_at_call 11; refine (PK.out _).mono ?_; rintro e w1 ⟨rfl, h⟩; obtain rfl := h.symm)
    | (go_at_call 24; refine (KE.out _).mono ?_; rintro e w1 ⟨d, k, rfl, hc, hk, hb1⟩)
    | (go_at_call 22; refine (NW.out _ _ _ hc hk).mono ?_; rintro e w2 ⟨b, s, rfl, hB, hb, hs, hb2⟩))
  go_ret
  have := hb1.size
  exact ⟨b, s, k, rfl, ⟨hk, c3_lt hc⟩, hB, by omega, by omega, bt hb1 hb2⟩
end
section
attribute [local irreducible] Calls tel cv6 nPl svd bstr
set_option maxRecDepth 1000000 in
set_option maxHeartbeats 8000000 in
theorem healthBack_walk {w : World} {a : Option Addr} {T : List (Bool × Int × Bool)} (h : TdAt w a T) (n : Int) (x m c : Nat) (hm : T.length = m) (hm2 : m ≤ 1000000000000000) :
    Calls Try.prog 4 #[.int .i64 n, .float .f64 x, .slice a m c] w fun e w' => e = .returned (.bool true) ∧ Below w.heap.size w w' := by
  have AW := (show Hid _ from awake_any w)
  have BO := (show Hid _ from board2_any n x)
  have PK := (show Hid _ from fun (W : World) => pick_any (wrap64 (n - 1)) 255 (by omega) (by omega) W)
  obtain ⟨N, hN⟩ : ∃ N, Hid (nPl n = N) := ⟨_, rfl⟩
  have h1 := nPl_le n
  have e1 := nPl_eq n
  rw [hN.out] at h1 e1 BO
  have e2 : wrap64 (1 + wrap64 (n - 1) % 255) = (N : Int) := by rw [e1]; unfold wrap64; omega
  have HT := (show Hid (TdAt w a T) from h)
  have S0 : ∀ x ∈ List.replicate N 1065353216, Sc x := fun x hx => by obtain ⟨-, rfl⟩ := List.mem_replicate.1 hx; exact Nat.le_refl _
  clear h
  go_enter Try.func4, Try.ntmps4
  go_wp2_with (first
    | (go_at_call 9; refine AW.out.mono ?_; rintro e w1 ⟨rfl, hb1⟩)
    | (go_at_call 10; refine (BO.out _).mono ?_; rintro e w2 ⟨b, s, k, rfl, hk, hB, hb, hs, hb2⟩)
    | (go_at_call 11; refine (PK.out _).mono ?_; rintro e w3 ⟨rfl, h⟩; obtain rfl := h.symm))
  have hsz1 := hb1.size
  have hsz2 := hb2.size
  have hbW : Below w.heap.size w w2 := bt hb1 hb2
  have HKp := (show Hid (Kp k ∧ k < 4294967296) from hk)
  have HS0 := (show Hid (w.heap.size ≤ b ∧ w.heap.size ≤ s) from ⟨by omega, by omega⟩)
  clear AW BO PK hb1 hb2 hk hb hs hsz1 hsz2
  go_loopw [7, 8] (fun o i wr => ∃ (t b s : Nat) (ss : List Nat), t ≤ m ∧ i = .int .i64 (t : Int) ∧ o = .pointer (some ⟨b, 0, none⟩) ∧ ss.length = N ∧ Hid (∀ x ∈ ss, Sc x) ∧ Bd wr b s k ss ∧ Hid (w.heap.size ≤ b ∧ w.heap.size ≤ s) ∧ Below w.heap.size w wr) (fun _ i _ => m - (intOf i).toNat)
  case atStart => exact ⟨0, b, s, _, Nat.zero_le _, rfl, rfl, by simp, S0, hB, HS0.out, hbW⟩
  case round =>
    clear hB HS0 hbW S0
    obtain ⟨t, b, s, ss, ht, rfl, rfl, hsl, hsa, hBd, hbs, hbr⟩ := hrel
    by_cases hlt : t < m
    · have hi : (t : Int) < (m : Int) := by omega
      obtain ⟨V, hV⟩ : ∃ V, V = wr := ⟨_, rfl⟩
      subst hV
      obtain ⟨tb, to, rfl, hTc⟩ : ∃ b o, a = some ⟨b, o, none⟩ ∧ ∀ j x, T[j]? = some x → w.cell? ⟨b, o + j * 4, none⟩ = some (.bool x.1) ∧ w.cell? ⟨b, o + j * 4 + 2, none⟩ = some (.int .i64 x.2.1) ∧ w.cell? ⟨b, o + j * 4 + 3, none⟩ = some (.bool x.2.2) := by
        rcases HT.out with h0 | h0
        · rw [h0] at hm; simp at hm; omega
        · exact h0
      obtain ⟨⟨q0, q1, good⟩, hq⟩ : ∃ x, T[t]? = some x := ⟨T[t]'(by omega), List.getElem?_eq_getElem (by omega)⟩
      have HCS := (show Hid _ from hTc t _ hq)
      clear hTc hq
      have hG : Gd (svd k ss) k ss := ⟨HKp.out.1, HKp.out.2, hsa.out, by omega, by omega, rfl⟩
      obtain ⟨bs, hbse⟩ : ∃ y, Hid (svd k ss = y) := ⟨_, rfl⟩
      have SV := (show Hid _ from save_any hBd HKp.out.2 hsa.out N hsl h1.2)
      rw [hbse.out] at SV hG
      have HL : Hid ((bs.length = 5 + 4 * N) ∧ (∀ x ∈ bs, x < 256)) := ⟨by rw [(gd_len hG).1, hsl], by rw [← hbse.out]; exact svd_lt _ _⟩
      have HG := (show Hid _ from hG)
      have HBR := (show Hid (Below w.heap.size w V) from hbr)
      have HBD := (show Hid (Bd V b s k ss) from hBd)
      clear hG hbr hBd
      go_wp2_with (first
        | (go_at_call 14; refine SV.out.mono ?_; rintro e w4 ⟨v4, rfl, hO4, hb4⟩; obtain ⟨p4, c4, rfl, hc4, hr4⟩ := hO4.rd)
        | (go_at_call 15; refine (load_any hr4 HL.out.2 _ c4 rfl hc4 (by have := HL.out.1; omega)).mono ?_; rintro e w5 ⟨hLd, hb5⟩; obtain ⟨b', s', k', ss', rfl, hG', hB', hbb', hss'⟩ := hLd.resolve_left (fun hh => hh.2 _ _ HG.out)))
      have hbV := bt hb4 hb5
      have HB5 := (show Hid (Below w.heap.size w w5) from bt HBR.out hbV)
      obtain ⟨rfl, rfl⟩ := gd_inj HG.out hG'
      have HNE : Hid (b' ≠ s ∧ s' ≠ s ∧ b ≠ s' ∧ s ≠ s' ∧ w.heap.size ≤ s' ∧ w.heap.size ≤ b') := by
        have z1 := HBD.out.ltb
        have z2 := HBD.out.row.lt
        have z3 := hb4.size
        have z4 := HBR.out.size
        exact ⟨by omega, by omega, by omega, by omega, by omega, by omega⟩
      have KC := (show Hid _ from fun (W : World) (hW : Below w5.heap.size w5 W) => conv_rd (w := W) (hr4.below (bt hb5 hW)) HL.out.2 bs.length c4 rfl)
      have SW := (show Hid _ from fun (W : World) (hW : Below w5.heap.size w5 W) => save_any (w := W) (hB'.below hW) HKp.out.2 hsa.out N hsl h1.2)
      rw [hbse.out] at SW
      have HBD5 := (show Hid (Bd w5 b s k' ss') from HBD.out.below hbV)
      have HC5 := (show Hid (Bd w5 b' s' k' ss') from hB')
      have kc1 := KC.out w5.drew (Below.refl _ _).drew
      have eb := bstr_beq bs
      have el : ((bs.length : Int) != 5 + 4 * (N : Int)) = false := by have := HL.out.1; simp; omega
      have wr1 : IntKind.i64.wrap (4 * (N : Int)) = 4 * (N : Int) := by rw [IntKind.wrap_i64]; omega
      have wr2 : IntKind.i64.wrap (5 + 4 * (N : Int)) = 5 + 4 * (N : Int) := by rw [IntKind.wrap_i64]; omega
      clear hG' hB' hbb' hss' hb4 hb5 hbV hr4 hc4 HBR HBD SV
      refine wp_region_held_drew (S := fun X => (convert 35 9 (.slice p4 bs.length c4)).run Try.prog X = .ok (.string (bstr bs)) X) (by kernel_rfl) kc1 (fun hHeld => ?_)
      clear kc1
      refine takeHr (i := 0) (d := some 37) (v := ?v1) rfl rfl (by kernel_rfl) (by kernel_rfl) (by kernel_rfl) (fun _ _ _ h => h) (Or.inl ⟨by rfl, ?hy1⟩) hHeld ?rest1
      case hy1 => intro X hSw; (try dsimp only at hSw); go_simp <;> with_reducible rfl
      try simp only [Act.put, List.setIfInBounds_toArray, List.set_cons_zero, List.set_cons_succ]
      refine takeHr (i := 1) (d := some 38) (v := .bool false) rfl rfl (by kernel_rfl) (by kernel_rfl) (by kernel_rfl) (fun _ _ _ h => h) (Or.inl ⟨by rfl, ?hy2⟩) hHeld ?rest2
      case hy2 => intro X hSw; (try dsimp only at hSw); go_simp <;> with_reducible rfl
      try simp only [Act.put, List.setIfInBounds_toArray, List.set_cons_zero, List.set_cons_succ]
      refine takeHr (i := 2) (d := some 39) (v := ?v3) rfl rfl (by kernel_rfl) (by kernel_rfl) (by kernel_rfl) (fun _ _ _ h => h) (Or.inl ⟨by rfl, ?hy3⟩) hHeld ?rest3
      case hy3 => intro X hSw; (try dsimp only at hSw); go_simp <;> with_reducible rfl
      try simp only [Act.put, List.setIfInBounds_toArray, List.set_cons_zero, List.set_cons_succ]
      refine takeHr (i := 3) (d := some 40) (v := ?v4) rfl rfl (by kernel_rfl) (by kernel_rfl) (by kernel_rfl) (fun _ _ _ h => h) (Or.inl ⟨by rfl, ?hy4⟩) hHeld ?rest4
      case hy4 => intro X hSw; (try dsimp only at hSw); go_simp <;> with_reducible rfl
      try simp only [Act.put, List.setIfInBounds_toArray, List.set_cons_zero, List.set_cons_succ]
      refine takeHr (i := 4) (d := some 41) (v := .bool false) rfl rfl (by kernel_rfl) (by kernel_rfl) (by kernel_rfl) (fun _ _ _ h => h) (Or.inl ⟨by rfl, ?hy5⟩) hHeld ?rest5
      case hy5 => intro X hSw; (try dsimp only at hSw); go_simp <;> with_reducible rfl
      try simp only [Act.put, List.setIfInBounds_toArray, List.set_cons_zero, List.set_cons_succ]
      refine takeHr (i := 5) (d := some 42) (v := .bool false) rfl rfl (by kernel_rfl) (by kernel_rfl) (by kernel_rfl) (fun _ _ _ h => h) (Or.inl ⟨by rfl, ?hy6⟩) hHeld ?rest6
      case hy6 => intro X hSw; (try dsimp only at hSw); go_simp <;> with_reducible rfl
      try simp only [Act.put, List.setIfInBounds_toArray, List.set_cons_zero, List.set_cons_succ]
      refine takeHr (i := 6) (d := some 43) (v := ?v7) rfl rfl (by kernel_rfl) (by kernel_rfl) (by kernel_rfl) (fun _ _ _ h => h) (Or.inl ⟨by rfl, ?hy7⟩) hHeld ?rest7
      case hy7 => intro X hSw; (try dsimp only at hSw); go_simp <;> with_reducible rfl
      try simp only [Act.put, List.setIfInBounds_toArray, List.set_cons_zero, List.set_cons_succ]
      refine takeHr (i := 7) (d := some 44) (v := ?v8) rfl rfl (by kernel_rfl) (by kernel_rfl) (by kernel_rfl) (fun _ _ _ h => h) (Or.inl ⟨by rfl, ?hy8⟩) hHeld ?rest8
      case hy8 => intro X hSw; (try dsimp only at hSw); go_simp <;> with_reducible rfl
      try simp only [Act.put, List.setIfInBounds_toArray, List.set_cons_zero, List.set_cons_succ]
      refine takeHr (i := 10) (d := some 47) (v := ?v9) rfl rfl (by kernel_rfl) (by kernel_rfl) (by kernel_rfl) (fun _ _ _ h => h) (Or.inl ⟨by rfl, ?hy9⟩) hHeld ?rest9
      case hy9 => intro X hSw; (try dsimp only at hSw); go_simp <;> with_reducible rfl
      try simp only [Act.put, List.setIfInBounds_toArray, List.set_cons_zero, List.set_cons_succ]
      refine takeHr (i := 11) (d := some 48) (v := .string (bstr bs)) rfl rfl (by kernel_rfl) (by kernel_rfl) (by kernel_rfl) (fun _ _ _ h => h) (Or.inl ⟨by rfl, ?hy10⟩) hHeld ?rest10
      case hy10 => intro X hSw; (try dsimp only at hSw); go_simp
      try simp only [Act.put, List.setIfInBounds_toArray, List.set_cons_zero, List.set_cons_succ]
      refine wpAnyH_ready (rs := [8]) (by kernel_rfl) (by simp) ?_
      refine AllReadyH.cons (o := { dst := some 45, op := Op.call { callee := Callee.value (Operand.func 14), args := #[Operand.tmp 44], argTypes := #[25] }, type := 35, pos := "outright.go:105", after := #[{ on := 7, ground := Ground.data }, { on := 6, ground := Ground.chain }, { on := 6, ground := Ground.guard }], guard := some (6, false) }) rfl (fun Kq hKq => ?_) AllReadyH.nil
      · go_simp
        refine (SW.out _ (by first | exact Below.refl _ _ | exact (Below.refl _ _).drew)).mono ?_
        rintro e w6 ⟨v6, rfl, hO6, hb6⟩
        obtain ⟨p6, c6, rfl, hc6, hr6⟩ := hO6.rd
        have kc3 := KC.out w6 (bt (Below.refl _ _).drew hb6)
        have kd := conv_rd hr6 HL.out.2 _ c6 rfl
        refine hKq.out _ _ kc3 (fun hHeld => ?_)
        clear hKq Kq
        try simp only [Act.put, List.setIfInBounds_toArray, List.set_cons_zero, List.set_cons_succ]
        refine wpAnyH_ready (rs := [9]) (by kernel_rfl) (by simp) ?_
        refine AllReadyH.cons (o := { dst := some 46, op := Op.convert 35 9 (Operand.tmp 45), type := 9, pos := "outright.go:105", after := #[{ on := 8, ground := Ground.data }, { on := 6, ground := Ground.guard }], guard := some (6, false) }) rfl (fun Kq hKq => ?_) AllReadyH.nil
        · go_simp
          refine hKq.out _ _ hHeld (fun hHeld => ?_)
          clear hKq Kq
          try simp only [Act.put, List.setIfInBounds_toArray, List.set_cons_zero, List.set_cons_succ]
          refine takeHr (i := 12) (d := some 49) (v := .bool false) rfl rfl (by kernel_rfl) (by kernel_rfl) (by kernel_rfl) (fun _ _ _ h => h) (Or.inl ⟨by rfl, ?hy13⟩) hHeld ?rest13
          case hy13 => intro X hSw; (try dsimp only at hSw); go_simp <;> with_reducible rfl
          try simp only [Act.put, List.setIfInBounds_toArray, List.set_cons_zero, List.set_cons_succ]
          refine takeHr (i := 13) (d := some 50) (v := .bool false) rfl rfl (by kernel_rfl) (by kernel_rfl) (by kernel_rfl) (fun _ _ _ h => h) (Or.inl ⟨by rfl, ?hy14⟩) hHeld ?rest14
          case hy14 => intro X hSw; (try dsimp only at hSw); go_simp <;> with_reducible rfl
          try simp only [Act.put, List.setIfInBounds_toArray, List.set_cons_zero, List.set_cons_succ]
          refine takeHr (i := 14) (d := some 51) (v := ?v15) rfl rfl (by kernel_rfl) (by kernel_rfl) (by kernel_rfl) (fun _ _ _ h => h) (Or.inl ⟨by rfl, ?hy15⟩) hHeld ?rest15
          case hy15 => intro X hSw; (try dsimp only at hSw); go_simp <;> with_reducible rfl
          try simp only [Act.put, List.setIfInBounds_toArray, List.set_cons_zero, List.set_cons_succ]
          refine takeHr (i := 15) (d := some 52) (v := ?v16) rfl rfl (by kernel_rfl) (by kernel_rfl) (by kernel_rfl) (fun _ _ _ h => h) (Or.inl ⟨by rfl, ?hy16⟩) hHeld ?rest16
          case hy16 => intro X hSw; (try dsimp only at hSw); go_simp <;> with_reducible rfl
          try simp only [Act.put, List.setIfInBounds_toArray, List.set_cons_zero, List.set_cons_succ]
          refine takeHr (i := 16) (d := some 53) (v := .int .i64 (bs.length : Int)) rfl rfl (by kernel_rfl) (by kernel_rfl) (by kernel_rfl) (fun _ _ _ h => h) (Or.inl ⟨by rfl, ?hy17⟩) hHeld ?rest17
          case hy17 => intro X hSw; (try dsimp only at hSw); go_simp <;> with_reducible rfl
          try simp only [Act.put, List.setIfInBounds_toArray, List.set_cons_zero, List.set_cons_succ]
          refine takeHr (i := 17) (d := some 54) (v := ?v18) rfl rfl (by kernel_rfl) (by kernel_rfl) (by kernel_rfl) (fun _ _ _ h => h) (Or.inl ⟨by rfl, ?hy18⟩) hHeld ?rest18
          case hy18 => intro X hSw; (try dsimp only at hSw); go_simp <;> with_reducible rfl
          try simp only [Act.put, List.setIfInBounds_toArray, List.set_cons_zero, List.set_cons_succ]
          refine takeHr (i := 18) (d := some 55) (v := .int .i64 (4 * (N : Int))) rfl rfl (by kernel_rfl) (by kernel_rfl) (by kernel_rfl) (fun _ _ _ h => h) (Or.inl ⟨by rfl, ?hy19⟩) hHeld ?rest19
          case hy19 => intro X hSw; (try dsimp only at hSw); go_simp <;> with_reducible rfl
          try simp only [Act.put, List.setIfInBounds_toArray, List.set_cons_zero, List.set_cons_succ]
          refine takeHr (i := 19) (d := some 56) (v := .int .i64 (5 + 4 * (N : Int))) rfl rfl (by kernel_rfl) (by kernel_rfl) (by kernel_rfl) (fun _ _ _ h => h) (Or.inl ⟨by rfl, ?hy20⟩) hHeld ?rest20
          case hy20 => intro X hSw; (try dsimp only at hSw); go_simp <;> with_reducible rfl
          try simp only [Act.put, List.setIfInBounds_toArray, List.set_cons_zero, List.set_cons_succ]
          refine takeHr (i := 20) (d := some 57) (v := .bool false) rfl rfl (by kernel_rfl) (by kernel_rfl) (by kernel_rfl) (fun _ _ _ h => h) (Or.inl ⟨by rfl, ?hy21⟩) hHeld ?rest21
          case hy21 => intro X hSw; (try dsimp only at hSw); go_simp <;> with_reducible rfl
          try simp only [Act.put, List.setIfInBounds_toArray, List.set_cons_zero, List.set_cons_succ]
          refine takeHr (i := 21) (d := some 58) (v := .bool false) rfl rfl (by kernel_rfl) (by kernel_rfl) (by kernel_rfl) (fun _ _ _ h => h) (Or.inl ⟨by rfl, ?hy22⟩) hHeld ?rest22
          case hy22 => intro X hSw; (try dsimp only at hSw); go_simp <;> with_reducible rfl
          try simp only [Act.put, List.setIfInBounds_toArray, List.set_cons_zero, List.set_cons_succ]
          refine wpAnyH_done (by kernel_rfl) ?_ _
          have HB7 := (show Hid (Below w.heap.size w w6.drew) from (bt HB5.out.drew hb6).drew)
          have b56 : Below w5.heap.size w5 w6.drew := (bt (Below.refl _ _).drew hb6).drew
          have hBb := HBD5.out.below b56
          have HC7 := (show Hid (Bd w6.drew b' s' k' ss') from HC5.out.below b56)
          have t2 := cell_below HCS.out.2.1 (bt HB5.out.drew hb6)
          have HT3 := (show Hid _ from HCS.out.2.2)
          have HT0 := (show Hid _ from HCS.out.1)
          obtain ⟨P, hP⟩ : ∃ P : Nat, q1 % (N : Int) = (P : Int) := ⟨(q1 % (N : Int)).toNat, by have := Int.emod_nonneg q1 (show (N : Int) ≠ 0 by omega); omega⟩
          have hPN : P < N := by have := Int.emod_lt_of_pos q1 (show (0 : Int) < N by omega); omega
          have PI := (show Hid _ from fun (W : World) => pick_any q1 N h1.1 (by omega) W)
          rw [hP] at PI
          have hs0 : Sc (ss'.getD P 0) := hsa.out _ (by rw [show ss'.getD P 0 = ss'[P]'(by omega) by simp [List.getD, show P < ss'.length by omega]]; exact List.getElem_mem _)
          have TB := (show Hid _ from tell_any hBb P good (by omega) HKp.out.1 hs0)
          have TC := (show Hid _ from fun (W : World) (hW : Bd W b' s' k' ss') => tell_any hW P good (by omega) HKp.out.1 hs0)
          have hs1 := (tel_ok HKp.out.1 hs0 good).2.1
          obtain ⟨ss1, hss1⟩ : ∃ y, Hid (ss'.set P (tel k' (ss'.getD P 0) good) = y) := ⟨_, rfl⟩
          rw [hss1.out] at TB TC
          have hsl1 : ss1.length = N := by rw [← hss1.out, List.length_set]; exact hsl
          have hsa1 : Hid (∀ x ∈ ss1, Sc x) := by rw [← hss1.out]; exact sc_all_set' hsa.out P _ hs1
          obtain ⟨bs1, hbse1⟩ : ∃ y, Hid (svd k' ss1 = y) := ⟨_, rfl⟩
          have SB := (show Hid _ from fun (W : World) (hW : Bd W b s k' ss1) => save_any hW HKp.out.2 hsa1.out N hsl1 h1.2)
          have SC := (show Hid _ from fun (W : World) (hW : Bd W b' s' k' ss1) => save_any hW HKp.out.2 hsa1.out N hsl1 h1.2)
          rw [hbse1.out] at SB SC
          have HL1 : Hid (0 = 0 ∧ ∀ x ∈ bs1, x < 256) := ⟨rfl, by rw [← hbse1.out]; exact svd_lt _ _⟩
          have eb1 := bstr_beq bs1
          clear wr1 wr2 HC5 HBD5 b56 hBb hb6 hr6 hO6 hc6 kc3 kd hHeld eb el KC SW hs0 hs1
          go_wp2_with (go_at_call 11; refine (PI.out _).mono ?_; rintro e w7 ⟨rfl, h⟩; obtain rfl := h.symm)
          have t3 := cell_below HT3.out HB7.out
          refine wp_region_held_drew (S := fun X => X.cell? ⟨tb, to + t * 4 + 3, none⟩ = some (.bool good)) (by kernel_rfl) t3 (fun hHeld => ?_)
          clear t2 t3 PI
          refine takeHr (i := 0) (d := some 66) (v := ?v23) rfl rfl (by kernel_rfl) (by kernel_rfl) (by kernel_rfl) (fun _ _ _ h => h) (Or.inl ⟨by rfl, ?hy23⟩) hHeld ?rest23
          case hy23 => intro X hSw; (try dsimp only at hSw); go_simp <;> with_reducible rfl
          try simp only [Act.put, List.setIfInBounds_toArray, List.set_cons_zero, List.set_cons_succ]
          refine takeHr (i := 1) (d := some 67) (v := ?v24) rfl rfl (by kernel_rfl) (by kernel_rfl) (by kernel_rfl) (fun _ _ _ h => h) (Or.inl ⟨by rfl, ?hy24⟩) hHeld ?rest24
          case hy24 => intro X hSw; (try dsimp only at hSw); go_simp <;> with_reducible rfl
          try simp only [Act.put, List.setIfInBounds_toArray, List.set_cons_zero, List.set_cons_succ]
          refine takeHr (i := 2) (d := some 68) (v := ?v25) rfl rfl (by kernel_rfl) (by kernel_rfl) (by kernel_rfl) (fun _ _ _ h => h) (Or.inl ⟨by rfl, ?hy25⟩) hHeld ?rest25
          case hy25 => intro X hSw; (try dsimp only at hSw); go_simp <;> with_reducible rfl
          try simp only [Act.put, List.setIfInBounds_toArray, List.set_cons_zero, List.set_cons_succ]
          refine takeHr (i := 3) (d := some 69) (v := ?v26) rfl rfl (by kernel_rfl) (by kernel_rfl) (by kernel_rfl) (fun _ _ _ h => h) (Or.inl ⟨by rfl, ?hy26⟩) hHeld ?rest26
          case hy26 => intro X hSw; (try dsimp only at hSw); go_simp <;> with_reducible rfl
          try simp only [Act.put, List.setIfInBounds_toArray, List.set_cons_zero, List.set_cons_succ]
          refine takeHr (i := 4) (d := some 70) (v := .pointer (some ⟨tb, to + t * 4, none⟩)) rfl rfl (by kernel_rfl) (by kernel_rfl) (by kernel_rfl) (fun _ _ _ h => h) (Or.inl ⟨by rfl, ?hy27⟩) hHeld ?rest27
          case hy27 => intro X hSw; (try dsimp only at hSw); go_simp <;> with_reducible rfl
          try simp only [Act.put, List.setIfInBounds_toArray, List.set_cons_zero, List.set_cons_succ]
          refine takeHr (i := 5) (d := some 71) (v := ?v28) rfl rfl (by kernel_rfl) (by kernel_rfl) (by kernel_rfl) (fun _ _ _ h => h) (Or.inl ⟨by rfl, ?hy28⟩) hHeld ?rest28
          case hy28 => intro X hSw; (try dsimp only at hSw); go_simp <;> with_reducible rfl
          try simp only [Act.put, List.setIfInBounds_toArray, List.set_cons_zero, List.set_cons_succ]
          refine takeHr (i := 6) (d := some 72) (v := ?v29) rfl rfl (by kernel_rfl) (by kernel_rfl) (by kernel_rfl) (fun _ _ _ h => h) (Or.inl ⟨by rfl, ?hy29⟩) hHeld ?rest29
          case hy29 => intro X hSw; (try dsimp only at hSw); go_simp <;> with_reducible rfl
          try simp only [Act.put, List.setIfInBounds_toArray, List.set_cons_zero, List.set_cons_succ]
          refine wpAnyH_ready (rs := [7]) (by kernel_rfl) (by simp) ?_
          refine AllReadyH.cons (o := { dst := some 73, op := Op.call { callee := Callee.value (Operand.func 13), args := #[Operand.tmp 66, Operand.tmp 67, Operand.tmp 72], argTypes := #[25, 3, 4] }, type := 32, pos := "outright.go:109", after := #[{ on := 0, ground := Ground.data }, { on := 1, ground := Ground.data }, { on := 6, ground := Ground.data }], guard := none }) rfl (fun Kq hKq => ?_) AllReadyH.nil
          · go_simp
            refine TB.out.mono ?_
            rintro e w8 ⟨rfl, hB8, hg8⟩
            have HBW8 := (show Hid (Below w.heap.size w w8) from HB7.out.grown hg8 HB7.out.size (fun i hi => by injection hi with hi; have := hbs.out.2; omega))
            have t8 := cell_below HT3.out HBW8.out
            have HC8 := (show Hid (Bd w8 b' s' k' ss') from HC7.out.kept hg8 HNE.out.1 HNE.out.2.1)
            refine hKq.out _ _ t8 (fun hHeld => ?_)
            clear hKq Kq
            try simp only [Act.put, List.setIfInBounds_toArray, List.set_cons_zero, List.set_cons_succ]
            refine takeHr (i := 8) (d := some 74) (v := .bool false) rfl rfl (by kernel_rfl) (by kernel_rfl) (by kernel_rfl) (fun _ _ _ h => h) (Or.inl ⟨by rfl, ?hy31⟩) hHeld ?rest31
            case hy31 => intro X hSw; (try dsimp only at hSw); go_simp <;> with_reducible rfl
            try simp only [Act.put, List.setIfInBounds_toArray, List.set_cons_zero, List.set_cons_succ]
            refine takeHr (i := 9) (d := some 75) (v := ?v32) rfl rfl (by kernel_rfl) (by kernel_rfl) (by kernel_rfl) (fun _ _ _ h => h) (Or.inl ⟨by rfl, ?hy32⟩) hHeld ?rest32
            case hy32 => intro X hSw; (try dsimp only at hSw); go_simp <;> with_reducible rfl
            try simp only [Act.put, List.setIfInBounds_toArray, List.set_cons_zero, List.set_cons_succ]
            refine takeHr (i := 10) (d := some 76) (v := ?v33) rfl rfl (by kernel_rfl) (by kernel_rfl) (by kernel_rfl) (fun _ _ _ h => h) (Or.inl ⟨by rfl, ?hy33⟩) hHeld ?rest33
            case hy33 => intro X hSw; (try dsimp only at hSw); go_simp <;> with_reducible rfl
            try simp only [Act.put, List.setIfInBounds_toArray, List.set_cons_zero, List.set_cons_succ]
            refine takeHr (i := 11) (d := some 77) (v := ?v34) rfl rfl (by kernel_rfl) (by kernel_rfl) (by kernel_rfl) (fun _ _ _ h => h) (Or.inl ⟨by rfl, ?hy34⟩) hHeld ?rest34
            case hy34 => intro X hSw; (try dsimp only at hSw); go_simp <;> with_reducible rfl
            try simp only [Act.put, List.setIfInBounds_toArray, List.set_cons_zero, List.set_cons_succ]
            refine takeHr (i := 12) (d := some 78) (v := ?v35) rfl rfl (by kernel_rfl) (by kernel_rfl) (by kernel_rfl) (fun _ _ _ h => h) (Or.inl ⟨by rfl, ?hy35⟩) hHeld ?rest35
            case hy35 => intro X hSw; (try dsimp only at hSw); go_simp <;> with_reducible rfl
            try simp only [Act.put, List.setIfInBounds_toArray, List.set_cons_zero, List.set_cons_succ]
            refine takeHr (i := 13) (d := some 79) (v := ?v36) rfl rfl (by kernel_rfl) (by kernel_rfl) (by kernel_rfl) (fun _ _ _ h => h) (Or.inl ⟨by rfl, ?hy36⟩) hHeld ?rest36
            case hy36 => intro X hSw; (try dsimp only at hSw); go_simp <;> with_reducible rfl
            try simp only [Act.put, List.setIfInBounds_toArray, List.set_cons_zero, List.set_cons_succ]
            refine takeHr (i := 14) (d := some 80) (v := .pointer (some ⟨tb, to + t * 4, none⟩)) rfl rfl (by kernel_rfl) (by kernel_rfl) (by kernel_rfl) (fun _ _ _ h => h) (Or.inl ⟨by rfl, ?hy37⟩) hHeld ?rest37
            case hy37 => intro X hSw; (try dsimp only at hSw); go_simp <;> with_reducible rfl
            try simp only [Act.put, List.setIfInBounds_toArray, List.set_cons_zero, List.set_cons_succ]
            refine takeHr (i := 15) (d := some 81) (v := ?v38) rfl rfl (by kernel_rfl) (by kernel_rfl) (by kernel_rfl) (fun _ _ _ h => h) (Or.inl ⟨by rfl, ?hy38⟩) hHeld ?rest38
            case hy38 => intro X hSw; (try dsimp only at hSw); go_simp <;> with_reducible rfl
            try simp only [Act.put, List.setIfInBounds_toArray, List.set_cons_zero, List.set_cons_succ]
            refine takeHr (i := 16) (d := some 82) (v := ?v39) rfl rfl (by kernel_rfl) (by kernel_rfl) (by kernel_rfl) (fun _ _ _ h => h) (Or.inl ⟨by rfl, ?hy39⟩) hHeld ?rest39
            case hy39 => intro X hSw; (try dsimp only at hSw); go_simp <;> with_reducible rfl
            try simp only [Act.put, List.setIfInBounds_toArray, List.set_cons_zero, List.set_cons_succ]
            refine wpAnyH_ready (rs := [17]) (by kernel_rfl) (by simp) ?_
            refine AllReadyH.cons (o := { dst := some 83, op := Op.call { callee := Callee.value (Operand.func 13), args := #[Operand.tmp 76, Operand.tmp 77, Operand.tmp 82], argTypes := #[25, 3, 4] }, type := 32, pos := "outright.go:109", after := #[{ on := 10, ground := Ground.data }, { on := 11, ground := Ground.data }, { on := 16, ground := Ground.data }, { on := 9, ground := Ground.chain }, { on := 9, ground := Ground.guard }], guard := some (9, false) }) rfl (fun Kq hKq => ?_) AllReadyH.nil
            · go_simp
              refine (TC.out _ HC8.out).mono ?_
              rintro e w9 ⟨rfl, hC9, hg9⟩
              have HBW9 := (show Hid (Below w.heap.size w w9) from HBW8.out.grown hg9 HBW8.out.size (fun i hi => by injection hi with hi; have := HNE.out.2.2.2.2.1; omega))
              have t9 := cell_below HT3.out HBW9.out
              have HC9 := (show Hid _ from hC9)
              have HB9 := (show Hid (Bd w9 b s k' ss1) from hB8.kept hg9 HNE.out.2.2.1 HNE.out.2.2.2.1)
              refine hKq.out _ _ t9 (fun hHeld => ?_)
              clear hKq Kq
              try simp only [Act.put, List.setIfInBounds_toArray, List.set_cons_zero, List.set_cons_succ]
              refine takeHr (i := 18) (d := some 84) (v := .bool false) rfl rfl (by kernel_rfl) (by kernel_rfl) (by kernel_rfl) (fun _ _ _ h => h) (Or.inl ⟨by rfl, ?hy41⟩) hHeld ?rest41
              case hy41 => intro X hSw; (try dsimp only at hSw); go_simp <;> with_reducible rfl
              try simp only [Act.put, List.setIfInBounds_toArray, List.set_cons_zero, List.set_cons_succ]
              refine takeHr (i := 19) (d := some 85) (v := .bool false) rfl rfl (by kernel_rfl) (by kernel_rfl) (by kernel_rfl) (fun _ _ _ h => h) (Or.inl ⟨by rfl, ?hy42⟩) hHeld ?rest42
              case hy42 => intro X hSw; (try dsimp only at hSw); go_simp <;> with_reducible rfl
              try simp only [Act.put, List.setIfInBounds_toArray, List.set_cons_zero, List.set_cons_succ]
              refine takeHr (i := 20) (d := some 86) (v := ?v43) rfl rfl (by kernel_rfl) (by kernel_rfl) (by kernel_rfl) (fun _ _ _ h => h) (Or.inl ⟨by rfl, ?hy43⟩) hHeld ?rest43
              case hy43 => intro X hSw; (try dsimp only at hSw); go_simp <;> with_reducible rfl
              try simp only [Act.put, List.setIfInBounds_toArray, List.set_cons_zero, List.set_cons_succ]
              refine takeHr (i := 21) (d := some 87) (v := ?v44) rfl rfl (by kernel_rfl) (by kernel_rfl) (by kernel_rfl) (fun _ _ _ h => h) (Or.inl ⟨by rfl, ?hy44⟩) hHeld ?rest44
              case hy44 => intro X hSw; (try dsimp only at hSw); go_simp <;> with_reducible rfl
              try simp only [Act.put, List.setIfInBounds_toArray, List.set_cons_zero, List.set_cons_succ]
              refine takeHr (i := 24) (d := some 90) (v := ?v45) rfl rfl (by kernel_rfl) (by kernel_rfl) (by kernel_rfl) (fun _ _ _ h => h) (Or.inl ⟨by rfl, ?hy45⟩) hHeld ?rest45
              case hy45 => intro X hSw; (try dsimp only at hSw); go_simp <;> with_reducible rfl
              try simp only [Act.put, List.setIfInBounds_toArray, List.set_cons_zero, List.set_cons_succ]
              refine wpAnyH_ready (rs := [22]) (by kernel_rfl) (by simp) ?_
              refine AllReadyH.cons (o := { dst := some 88, op := Op.call { callee := Callee.value (Operand.func 14), args := #[Operand.tmp 87], argTypes := #[25] }, type := 35, pos := "outright.go:109", after := #[{ on := 21, ground := Ground.data }, { on := 20, ground := Ground.chain }, { on := 20, ground := Ground.guard }], guard := some (20, false) }) rfl (fun Kq hKq => ?_) AllReadyH.nil
              · go_simp
                refine (SB.out _ HB9.out).mono ?_
                rintro e wa ⟨va, rfl, hOa, hba⟩
                obtain ⟨pa, ca, rfl, hca, hra⟩ := hOa.rd
                have HBWa := (show Hid (Below w.heap.size w wa) from bt HBW9.out hba)
                have ta := cell_below HT3.out HBWa.out
                have ka := conv_rd hra HL1.out.2 _ ca rfl
                have HRA := (show Hid _ from hra)
                refine hKq.out _ _ ta (fun hHeld => ?_)
                clear hKq Kq
                try simp only [Act.put, List.setIfInBounds_toArray, List.set_cons_zero, List.set_cons_succ]
                refine wpAnyH_ready (rs := [23, 25]) (by kernel_rfl) (by simp) ?_
                refine AllReadyH.cons (o := { dst := some 89, op := Op.convert 35 9 (Operand.tmp 88), type := 9, pos := "outright.go:109", after := #[{ on := 22, ground := Ground.data }, { on := 20, ground := Ground.guard }], guard := some (20, false) }) rfl (fun Kq hKq => ?_) (AllReadyH.cons (o := { dst := some 91, op := Op.call { callee := Callee.value (Operand.func 14), args := #[Operand.tmp 90], argTypes := #[25] }, type := 35, pos := "outright.go:109", after := #[{ on := 24, ground := Ground.data }, { on := 22, ground := Ground.chain }, { on := 20, ground := Ground.guard }], guard := some (20, false) }) rfl (fun Kq hKq => ?_) AllReadyH.nil)
                · go_simp
                  refine hKq.out _ _ hHeld (fun hHeld => ?_)
                  clear hKq Kq
                  try simp only [Act.put, List.setIfInBounds_toArray, List.set_cons_zero, List.set_cons_succ]
                  refine wpAnyH_ready (rs := [25]) (by kernel_rfl) (by simp) ?_
                  refine AllReadyH.cons (o := { dst := some 91, op := Op.call { callee := Callee.value (Operand.func 14), args := #[Operand.tmp 90], argTypes := #[25] }, type := 35, pos := "outright.go:109", after := #[{ on := 24, ground := Ground.data }, { on := 22, ground := Ground.chain }, { on := 20, ground := Ground.guard }], guard := some (20, false) }) rfl (fun Kq hKq => ?_) AllReadyH.nil
                  · go_simp
                    refine (SC.out _ (HC9.out.below hba)).mono ?_
                    rintro e wb ⟨vb, rfl, hOb, hbb⟩
                    obtain ⟨pb, cb, rfl, hcb, hrb⟩ := hOb.rd
                    have HBWb := (show Hid (Below w.heap.size w wb) from bt HBWa.out hbb)
                    have tb2 := cell_below HT3.out HBWb.out
                    have kb := conv_rd hrb HL1.out.2 _ cb rfl
                    have ka2 := conv_rd (Vr.below HRA.out hbb) HL1.out.2 _ ca rfl
                    refine hKq.out _ _ tb2 (fun hHeld => ?_)
                    clear hKq Kq
                    try simp only [Act.put, List.setIfInBounds_toArray, List.set_cons_zero, List.set_cons_succ]
                    refine wpAnyH_ready (rs := [26]) (by kernel_rfl) (by simp) ?_
                    refine AllReadyH.cons (o := { dst := some 92, op := Op.convert 35 9 (Operand.tmp 91), type := 9, pos := "outright.go:109", after := #[{ on := 25, ground := Ground.data }, { on := 20, ground := Ground.guard }], guard := some (20, false) }) rfl (fun Kq hKq => ?_) AllReadyH.nil
                    · go_simp
                      refine hKq.out _ _ hHeld (fun hHeld => ?_)
                      clear hKq Kq
                      try simp only [Act.put, List.setIfInBounds_toArray, List.set_cons_zero, List.set_cons_succ]
                      refine takeHr (i := 27) (d := some 93) (v := .bool false) rfl rfl (by kernel_rfl) (by kernel_rfl) (by kernel_rfl) (fun _ _ _ h => h) (Or.inl ⟨by rfl, ?hy50⟩) hHeld ?rest50
                      case hy50 => intro X hSw; (try dsimp only at hSw); go_simp <;> with_reducible rfl
                      try simp only [Act.put, List.setIfInBounds_toArray, List.set_cons_zero, List.set_cons_succ]
                      refine takeHr (i := 28) (d := some 94) (v := .bool false) rfl rfl (by kernel_rfl) (by kernel_rfl) (by kernel_rfl) (fun _ _ _ h => h) (Or.inl ⟨by rfl, ?hy51⟩) hHeld ?rest51
                      case hy51 => intro X hSw; (try dsimp only at hSw); go_simp <;> with_reducible rfl
                      try simp only [Act.put, List.setIfInBounds_toArray, List.set_cons_zero, List.set_cons_succ]
                      refine wpAnyH_done (by kernel_rfl) ?_ _
                      have t4 := cell_below HT0.out HBWb.out
                      have HF := (show Hid (Bd wb b s k' ss1 ∧ Bd wb b' s' k' ss1) from ⟨(HB9.out.below hba).below hbb, (HC9.out.below hba).below hbb⟩)
                      have HSZ := (show Hid (w.heap.size ≤ b' ∧ w.heap.size ≤ s') from ⟨HNE.out.2.2.2.2.2, HNE.out.2.2.2.2.1⟩)
                      cases q0 with
                      | false =>
                        go_wp2
                        go_roundw
                        case rel => exact ⟨t + 1, b, s, ss1, hlt, by go_num, rfl, hsl1, hsa1, HF.out.1, hbs, HBWb.out⟩
                        case measure => simp [intOf]; omega
                      | true =>
                        go_wp2
                        go_roundw
                        case rel => exact ⟨t + 1, b', s', ss1, hlt, by go_num, rfl, hsl1, hsa1, HF.out.2, HSZ, HBWb.out⟩
                        case measure => simp [intOf]; omega
                · go_simp
                  refine (SC.out _ (HC9.out.below hba)).mono ?_
                  rintro e wb ⟨vb, rfl, hOb, hbb⟩
                  obtain ⟨pb, cb, rfl, hcb, hrb⟩ := hOb.rd
                  have HBWb := (show Hid (Below w.heap.size w wb) from bt HBWa.out hbb)
                  have tb2 := cell_below HT3.out HBWb.out
                  have kb := conv_rd hrb HL1.out.2 _ cb rfl
                  have ka2 := conv_rd (Vr.below HRA.out hbb) HL1.out.2 _ ca rfl
                  refine hKq.out _ _ tb2 (fun hHeld => ?_)
                  clear hKq Kq
                  try simp only [Act.put, List.setIfInBounds_toArray, List.set_cons_zero, List.set_cons_succ]
                  refine wpAnyH_ready (rs := [23, 26]) (by kernel_rfl) (by simp) ?_
                  refine AllReadyH.cons (o := { dst := some 89, op := Op.convert 35 9 (Operand.tmp 88), type := 9, pos := "outright.go:109", after := #[{ on := 22, ground := Ground.data }, { on := 20, ground := Ground.guard }], guard := some (20, false) }) rfl (fun Kq hKq => ?_) (AllReadyH.cons (o := { dst := some 92, op := Op.convert 35 9 (Operand.tmp 91), type := 9, pos := "outright.go:109", after := #[{ on := 25, ground := Ground.data }, { on := 20, ground := Ground.guard }], guard := some (20, false) }) rfl (fun Kq hKq => ?_) AllReadyH.nil)
                  · go_simp
                    refine hKq.out _ _ hHeld (fun hHeld => ?_)
                    clear hKq Kq
                    try simp only [Act.put, List.setIfInBounds_toArray, List.set_cons_zero, List.set_cons_succ]
                    refine wpAnyH_ready (rs := [26]) (by kernel_rfl) (by simp) ?_
                    refine AllReadyH.cons (o := { dst := some 92, op := Op.convert 35 9 (Operand.tmp 91), type := 9, pos := "outright.go:109", after := #[{ on := 25, ground := Ground.data }, { on := 20, ground := Ground.guard }], guard := some (20, false) }) rfl (fun Kq hKq => ?_) AllReadyH.nil
                    · go_simp
                      refine hKq.out _ _ hHeld (fun hHeld => ?_)
                      clear hKq Kq
                      try simp only [Act.put, List.setIfInBounds_toArray, List.set_cons_zero, List.set_cons_succ]
                      refine takeHr (i := 27) (d := some 93) (v := .bool false) rfl rfl (by kernel_rfl) (by kernel_rfl) (by kernel_rfl) (fun _ _ _ h => h) (Or.inl ⟨by rfl, ?hy55⟩) hHeld ?rest55
                      case hy55 => intro X hSw; (try dsimp only at hSw); go_simp <;> with_reducible rfl
                      try simp only [Act.put, List.setIfInBounds_toArray, List.set_cons_zero, List.set_cons_succ]
                      refine takeHr (i := 28) (d := some 94) (v := .bool false) rfl rfl (by kernel_rfl) (by kernel_rfl) (by kernel_rfl) (fun _ _ _ h => h) (Or.inl ⟨by rfl, ?hy56⟩) hHeld ?rest56
                      case hy56 => intro X hSw; (try dsimp only at hSw); go_simp <;> with_reducible rfl
                      try simp only [Act.put, List.setIfInBounds_toArray, List.set_cons_zero, List.set_cons_succ]
                      refine wpAnyH_done (by kernel_rfl) ?_ _
                      have t4 := cell_below HT0.out HBWb.out
                      have HF := (show Hid (Bd wb b s k' ss1 ∧ Bd wb b' s' k' ss1) from ⟨(HB9.out.below hba).below hbb, (HC9.out.below hba).below hbb⟩)
                      have HSZ := (show Hid (w.heap.size ≤ b' ∧ w.heap.size ≤ s') from ⟨HNE.out.2.2.2.2.2, HNE.out.2.2.2.2.1⟩)
                      cases q0 with
                      | false =>
                        go_wp2
                        go_roundw
                        case rel => exact ⟨t + 1, b, s, ss1, hlt, by go_num, rfl, hsl1, hsa1, HF.out.1, hbs, HBWb.out⟩
                        case measure => simp [intOf]; omega
                      | true =>
                        go_wp2
                        go_roundw
                        case rel => exact ⟨t + 1, b', s', ss1, hlt, by go_num, rfl, hsl1, hsa1, HF.out.2, HSZ, HBWb.out⟩
                        case measure => simp [intOf]; omega
                  · go_simp
                    refine hKq.out _ _ hHeld (fun hHeld => ?_)
                    clear hKq Kq
                    try simp only [Act.put, List.setIfInBounds_toArray, List.set_cons_zero, List.set_cons_succ]
                    refine wpAnyH_ready (rs := [23]) (by kernel_rfl) (by simp) ?_
                    refine AllReadyH.cons (o := { dst := some 89, op := Op.convert 35 9 (Operand.tmp 88), type := 9, pos := "outright.go:109", after := #[{ on := 22, ground := Ground.data }, { on := 20, ground := Ground.guard }], guard := some (20, false) }) rfl (fun Kq hKq => ?_) AllReadyH.nil
                    · go_simp
                      refine hKq.out _ _ hHeld (fun hHeld => ?_)
                      clear hKq Kq
                      try simp only [Act.put, List.setIfInBounds_toArray, List.set_cons_zero, List.set_cons_succ]
                      refine takeHr (i := 27) (d := some 93) (v := .bool false) rfl rfl (by kernel_rfl) (by kernel_rfl) (by kernel_rfl) (fun _ _ _ h => h) (Or.inl ⟨by rfl, ?hy59⟩) hHeld ?rest59
                      case hy59 => intro X hSw; (try dsimp only at hSw); go_simp <;> with_reducible rfl
                      try simp only [Act.put, List.setIfInBounds_toArray, List.set_cons_zero, List.set_cons_succ]
                      refine takeHr (i := 28) (d := some 94) (v := .bool false) rfl rfl (by kernel_rfl) (by kernel_rfl) (by kernel_rfl) (fun _ _ _ h => h) (Or.inl ⟨by rfl, ?hy60⟩) hHeld ?rest60
                      case hy60 => intro X hSw; (try dsimp only at hSw); go_simp <;> with_reducible rfl
                      try simp only [Act.put, List.setIfInBounds_toArray, List.set_cons_zero, List.set_cons_succ]
                      refine wpAnyH_done (by kernel_rfl) ?_ _
                      have t4 := cell_below HT0.out HBWb.out
                      have HF := (show Hid (Bd wb b s k' ss1 ∧ Bd wb b' s' k' ss1) from ⟨(HB9.out.below hba).below hbb, (HC9.out.below hba).below hbb⟩)
                      have HSZ := (show Hid (w.heap.size ≤ b' ∧ w.heap.size ≤ s') from ⟨HNE.out.2.2.2.2.2, HNE.out.2.2.2.2.1⟩)
                      cases q0 with
                      | false =>
                        go_wp2
                        go_roundw
                        case rel => exact ⟨t + 1, b, s, ss1, hlt, by go_num, rfl, hsl1, hsa1, HF.out.1, hbs, HBWb.out⟩
                        case measure => simp [intOf]; omega
                      | true =>
                        go_wp2
                        go_roundw
                        case rel => exact ⟨t + 1, b', s', ss1, hlt, by go_num, rfl, hsl1, hsa1, HF.out.2, HSZ, HBWb.out⟩
                        case measure => simp [intOf]; omega
    · obtain rfl : t = m := by omega
      go_wp2
      go_ret
      exact ⟨rfl, hbr⟩
end
end Go.Proofs.Ytcfjinpjijcheab
