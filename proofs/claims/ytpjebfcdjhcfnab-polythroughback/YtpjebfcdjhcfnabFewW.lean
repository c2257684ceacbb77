/-
  PolyRootsFew: the walk.
-/
import Derived.Test.YtpjebfcdjhcfnabFew
namespace Go.Proofs.Ytpjebfcdjhcfnab
open Go.RowKit

theorem co_mem {u : List (BitVec 8)} {j : Nat} (h : j < u.length) : co u j ∈ u := by
  unfold co; rw [List.getD_eq_getElem?_getD, List.getElem?_eq_getElem h]; exact List.getElem_mem h
theorem lin_sl (w : World) (k : Nat) (hk : k < 256) : Sl (w.alloc (.cells #[.int .u8 (k : Int), .int .u8 1] 28)) (.slice (some ⟨w.heap.size, 0, none⟩) 2 2) [nb k, 1#8] := by
  have h := lit2 w (nb k) 1#8
  rw [el_nb k hk] at h
  exact h
theorem lin_ne (a : BitVec 8) : trim [a, 1#8] ≠ [] := by rw [lin_len]; simp
/-- A row of the call's own: its slice, and each of its places. -/
theorem rs_form {t : TypeId} {B : Nat} {w : World} {v : Value} {xs : List (BitVec 8)} (h : Rs t B w v xs) : ∃ p c, v = .slice p xs.length c ∧ ∀ i, i < xs.length → ∃ b o, p = some ⟨b, o, none⟩ ∧ w.cell? ⟨b, o + i, none⟩ = some (.int .u8 (el (co xs i))) := by
  obtain ⟨p, c, e, hr⟩ := h.sr
  refine ⟨p, c, e, fun i hi => ?_⟩
  rcases hr with h | ⟨b, o, ep, hc⟩
  · subst h; simp at hi
  · exact ⟨b, o, ep, hc i hi⟩
section
attribute [local irreducible] Calls el gm trim co vs Rs Sl Sr Rd ev add mul smul rts van nb
set_option maxHeartbeats 16000000 in
set_option maxRecDepth 1000000 in
theorem polyRootsFew_walk {w : World} {va vb : Value} {xs ys : List (BitVec 8)} (ha : Sr w va xs) (hb0 : Sr w vb ys) (hn1 : xs.length ≤ 140737488351232) (hn2 : ys.length ≤ 140737488351232) :
    Calls Try.prog 6 #[va, vb] w fun e w' => e = .returned (.bool true) ∧ Below w.heap.size w w' := by
  have L1 : Hid (xs.length ≤ 140737488351232) := hn1
  have L2 : Hid (ys.length ≤ 140737488351232) := hn2
  have M1 : Hid (xs.length ≤ 281474976710656) := by show _ ≤ _; omega
  have q0 := trim_len xs
  obtain ⟨D, hD⟩ : ∃ D, D = (trim xs).length := ⟨_, rfl⟩
  have hDb : (D : Int) ≤ 140737488351232 := by omega
  have HD : Hid (D = (trim xs).length) := hD
  obtain ⟨NR, hNR⟩ : ∃ NR, NR = (rts xs 256).length := ⟨_, rfl⟩
  have hNb : NR ≤ 256 := by rw [hNR]; exact rts_len xs 256
  have HN : Hid (NR = (rts xs 256).length) := hNR
  have hcase : (D = 0 ∧ NR = 256) ∨ (0 < D ∧ NR < D) := by
    by_cases h0 : trim xs = []
    · left; exact ⟨by rw [hD, h0]; rfl, by rw [hNR]; exact rts_all h0⟩
    · right; exact ⟨by rw [hD]; exact List.length_pos_iff.2 h0, by rw [hNR, hD]; exact rts_few h0⟩
  have hDeg : ∀ (W : World) (v : Value), Sl W v xs → Calls Try.prog 19 #[v] W fun e w' => e = .returned (.int .i64 ((D : Int) - 1)) ∧ w' = W := fun W v h => by rw [hD]; exact pdegree_any h M1.out
  have HDeg := (show Hid _ from hDeg)
  clear q0 hD hNR hDeg hn1 hn2
  have hr0 : (rts xs 0) = [] := by unfold rts; rfl
  rcases hcase with ⟨hD0, hN0⟩ | ⟨hD0, hN0⟩
  · have d1 : (D : Int) - 1 < 0 := by omega
    have d2 : (NR : Int) = 256 := by omega
    go_enter Try.func6, Try.ntmps6
    go_wp2_with (first
      | (go_at_call 9; refine (awake_any _).mono ?_; rintro e w1 ⟨rfl, hb1⟩; have ha1 := ha.below hb1; have hc1 := hb0.below hb1)
      | (go_at_call 10; refine (elems_any ha1 L1.out).mono ?_; rintro e w2 ⟨p, rfl, hP, hb2⟩; have hc2 := hc1.below hb2; have c2 := bt hb1 hb2)
      | (go_at_call 26; refine (proots_any hP.sl M1.out).mono ?_; rintro e w3 ⟨l, rfl, hL, hb3⟩; have hc3 := hc2.below hb3; have hP3 := hP.below hb3; have c3 := bt c2 hb3; obtain ⟨pl, cl, hvl, hrl⟩ := rs_form hL; subst hvl; rw [← HN.out] at hrl ⊢; have HRL := (show Hid _ from hrl); clear hrl)
      | (go_at_call 19; refine (HDeg.out _ _ hP3.sl).mono ?_; rintro e w' ⟨rfl, e⟩; obtain rfl := e.symm))
    go_loopw [9, 10] (fun kk i wr => ∃ k : Nat, k ≤ 256 ∧ i = .int .i64 k ∧ kk = .int .i64 ((rts xs k).length : Int) ∧ Below w3.heap.size w3 wr) (fun _ i _ => 256 - (intOf i).toNat)
    case atStart => exact ⟨0, Nat.zero_le _, rfl, by rw [hr0]; rfl, Below.refl _ _⟩
    case round =>
      clear hr0
      obtain ⟨k, hk, rfl, rfl, hb⟩ := hrel
      obtain ⟨K, hK⟩ : ∃ K, K = (rts xs k).length := ⟨_, rfl⟩
      have hkl : K ≤ k := by rw [hK]; exact rts_len xs k
      have HK : Hid (K = (rts xs k).length) := hK
      rw [← hK]
      clear hK
      by_cases hlt : k < 256
      · have i1 : (k : Int) < 256 := by omega
        have HDv : Hid (Calls Try.prog 20 #[p, .slice (some ⟨wr.heap.size, 0, none⟩) 2 2] (wr.alloc (.cells #[.int .u8 (k : Int), .int .u8 1] 28)) fun e w' => ∃ vs vr, e = .returned (.tuple #[vs, vr, .int .i64 0]) ∧ Sr w' vr (trim [ev (nb k) xs]) ∧ Below w3.heap.size w3 w') := by
          have hbA := bt hb (ba wr (.cells #[.int .u8 (k : Int), .int .u8 1] 28))
          refine (pdivide_any (hP3.below hbA).sl (lin_sl wr k hlt) M1.out (by simp) (lin_ne _)).mono ?_
          rintro e w' ⟨s, r, a1, a2, he, hd, _, hr, _, hb9⟩
          rw [div_lin hd] at hr
          exact ⟨a1, a2, he, hr.sr, bt hbA hb9⟩
        by_cases hz : ev (nb k) xs = 0#8
        · have hat := rts_at hlt hz
          rw [← HN.out, ← HK.out] at hat
          have i2 : (K : Int) < (NR : Int) := by omega
          obtain ⟨bl, ol, epl, hcl⟩ := HRL.out K hat.1
          rw [hat.2, el_nb k hlt] at hcl
          have GC := (show Hid _ from hcl)
          have HI : Hid ((rts xs (k + 1)).length = K + 1) := by show _ = _; rw [rts_in hz, List.length_append, ← HK.out]; rfl
          have ht0 : trim [ev (nb k) xs] = [] := trim_one_nil.2 hz
          rw [ht0] at HDv
          subst epl
          clear hz ht0 hcl hat
          go_wp2_with (first
            | (go_at_call 20; refine HDv.out.mono ?_; rintro e w5 ⟨v1, v2, rfl, hr, hb5⟩; obtain ⟨p5, c5, rfl⟩ := hr.empty; have g5 := cell_below GC.out hb5)
            | (go_at_call 21; refine (num_any 0 _).mono ?_; rintro e w' ⟨rfl, e⟩; obtain rfl := e.symm))
          go_roundw
          case rel => exact ⟨k + 1, by omega, by go_num, by rw [HI.out]; go_num, hb5⟩
          case measure => simp [intOf]; omega
        · have HI : Hid ((rts xs (k + 1)).length = K) := by show _ = _; rw [rts_out hz, ← HK.out]
          have ht1 : trim [ev (nb k) xs] = [ev (nb k) xs] := trim_self (fun _ => by simpa [co_zero] using hz)
          rw [ht1] at HDv
          by_cases hKN : K < NR
          · have i2 : (K : Int) < (NR : Int) := by omega
            obtain ⟨bl, ol, epl, hcl⟩ := HRL.out K hKN
            have hne := rts_not hz (k := K) (by rw [← HN.out]; exact hKN)
            have GC := (show Hid _ from hcl)
            have hq : (el (co (rts xs 256) K) == (k : Int)) = false := by rw [← el_nb k hlt, el_beq]; simpa using hne
            have hbd := el_bd (co (rts xs 256) K)
            subst epl
            clear hz ht1 hcl hne
            go_wp2_with (first
              | (go_at_call 20; refine HDv.out.mono ?_; rintro e w5 ⟨v1, v2, rfl, hr, hb5⟩; obtain ⟨b5, o5, c5, rfl, _⟩ := hr.cells (by simp); have g5 := cell_below GC.out hb5)
              | (go_at_call 21; refine (num_any 0 _).mono ?_; rintro e w' ⟨rfl, e⟩; obtain rfl := e.symm))
            go_roundw
            case rel => exact ⟨k + 1, by omega, by go_num, by rw [HI.out], hb5⟩
            case measure => simp [intOf]; omega
          · exfalso; omega
      · obtain rfl : k = 256 := by omega
        obtain rfl : K = NR := by rw [HK.out, HN.out]
        have hc4 := hc3.below hb
        have c4 := bt c3 hb
        go_wp2_with (first
          | (go_at_call 23; refine (unlike_any hc4 L2.out).mono ?_; rintro e w5 ⟨x, u, rfl, hnd, hul, hX, hb5⟩; have c5 := bt c4 hb5; have U1 : Hid (u.length + 1 ≤ 281474976710656) := (by show _ ≤ _; have := hul.out; have := L2.out; omega); have U2 : Hid ((van u).length ≤ 281474976710656) := (by show _ ≤ _; rw [van_len]; exact U1.out); have U3 : Hid ((rts (van u) 256).length = u.length) := rts_van hnd.out; have U4 : Hid ((((trim (van u)).length : Int) - 1) = (u.length : Int)) := (by show _ = _; rw [trim_van_len]; omega); obtain ⟨px, cx, hvx, hrx⟩ := rs_form hX; subst hvx; have HRX := (show Hid _ from hrx); clear hrx)
          | (go_at_call 27; refine (pvanish_any hX.sl U1.out).mono ?_; rintro e w6 ⟨vv, rfl, hV, hb6⟩; have c6 := bt c5 hb6)
          | (go_at_call 26; refine (proots_any hV.sl U2.out).mono ?_; rintro e w7 ⟨z, rfl, hZ, hb7⟩; have c7 := bt c6 hb7; have hV7 := hV.below hb7; obtain ⟨pz, cz, hvz, _⟩ := rs_form hZ; subst hvz; rw [U3.out])
          | (go_at_call 19; refine (pdegree_any hV7.sl U2.out).mono ?_; rw [U4.out]; rintro e w' ⟨rfl, e⟩; obtain rfl := e.symm))
        have b57 := bt hb6 hb7
        go_loopw [18] (fun i wq => ∃ j : Nat, j ≤ u.length ∧ i = .int .i64 j ∧ Below w7.heap.size w7 wq) (fun i _ => u.length - (intOf i).toNat)
        case atStart => exact ⟨0, Nat.zero_le _, rfl, Below.refl _ _⟩
        case round =>
          obtain ⟨j, hj, rfl, hq⟩ := hrel
          by_cases hlj : j < u.length
          · have i1 : (j : Int) < (u.length : Int) := by omega
            obtain ⟨bx, ox, epx, hcx⟩ := HRX.out j hlj
            subst epx
            have g1 := cell_below hcx (bt b57 hq)
            have HAt : Hid (Calls Try.prog 16 #[vv, .int .u8 (el (co u j))] wr fun e w' => e = .returned (.int .u8 0) ∧ Below wr.heap.size wr w') := by
              have h3 := pat_any (hV7.below hq).sl U2.out (co u j)
              rw [(ev_van (co u j) u).2 (co_mem hlj), el_0] at h3; exact h3
            have hul2 := hul.out
            have L22 := L2.out
            clear hcx
            go_wp2_with (go_at_call 16; refine HAt.out.mono ?_; rintro e w9 ⟨rfl, hb9⟩)
            go_roundw
            case rel => exact ⟨j + 1, by omega, by go_num, bt hq hb9⟩
            case measure => simp [intOf]; omega
          · have i1 : ¬ (j : Int) < (u.length : Int) := by omega
            go_wp2
            go_ret
            exact ⟨rfl, bt c7 hq⟩
  · have d1 : ¬ (D : Int) - 1 < 0 := by omega
    have d2 : ¬ (D : Int) - 1 < (NR : Int) := by omega
    have d3 : (0 : Int) ≤ (D : Int) - 1 := by omega
    go_enter Try.func6, Try.ntmps6
    go_wp2_with (first
      | (go_at_call 9; refine (awake_any _).mono ?_; rintro e w1 ⟨rfl, hb1⟩; have ha1 := ha.below hb1; have hc1 := hb0.below hb1)
      | (go_at_call 10; refine (elems_any ha1 L1.out).mono ?_; rintro e w2 ⟨p, rfl, hP, hb2⟩; have hc2 := hc1.below hb2; have c2 := bt hb1 hb2)
      | (go_at_call 26; refine (proots_any hP.sl M1.out).mono ?_; rintro e w3 ⟨l, rfl, hL, hb3⟩; have hc3 := hc2.below hb3; have hP3 := hP.below hb3; have c3 := bt c2 hb3; obtain ⟨pl, cl, hvl, hrl⟩ := rs_form hL; subst hvl; rw [← HN.out] at hrl ⊢; have HRL := (show Hid _ from hrl); clear hrl)
      | (go_at_call 19; refine (HDeg.out _ _ hP3.sl).mono ?_; rintro e w' ⟨rfl, e⟩; obtain rfl := e.symm))
    go_loopw [9, 10] (fun kk i wr => ∃ k : Nat, k ≤ 256 ∧ i = .int .i64 k ∧ kk = .int .i64 ((rts xs k).length : Int) ∧ Below w3.heap.size w3 wr) (fun _ i _ => 256 - (intOf i).toNat)
    case atStart => exact ⟨0, Nat.zero_le _, rfl, by rw [hr0]; rfl, Below.refl _ _⟩
    case round =>
      clear hr0
      obtain ⟨k, hk, rfl, rfl, hb⟩ := hrel
      obtain ⟨K, hK⟩ : ∃ K, K = (rts xs k).length := ⟨_, rfl⟩
      have hkl : K ≤ k := by rw [hK]; exact rts_len xs k
      have HK : Hid (K = (rts xs k).length) := hK
      rw [← hK]
      clear hK
      by_cases hlt : k < 256
      · have i1 : (k : Int) < 256 := by omega
        have HDv : Hid (Calls Try.prog 20 #[p, .slice (some ⟨wr.heap.size, 0, none⟩) 2 2] (wr.alloc (.cells #[.int .u8 (k : Int), .int .u8 1] 28)) fun e w' => ∃ vs vr, e = .returned (.tuple #[vs, vr, .int .i64 0]) ∧ Sr w' vr (trim [ev (nb k) xs]) ∧ Below w3.heap.size w3 w') := by
          have hbA := bt hb (ba wr (.cells #[.int .u8 (k : Int), .int .u8 1] 28))
          refine (pdivide_any (hP3.below hbA).sl (lin_sl wr k hlt) M1.out (by simp) (lin_ne _)).mono ?_
          rintro e w' ⟨s, r, a1, a2, he, hd, _, hr, _, hb9⟩
          rw [div_lin hd] at hr
          exact ⟨a1, a2, he, hr.sr, bt hbA hb9⟩
        by_cases hz : ev (nb k) xs = 0#8
        · have hat := rts_at hlt hz
          rw [← HN.out, ← HK.out] at hat
          have i2 : (K : Int) < (NR : Int) := by omega
          obtain ⟨bl, ol, epl, hcl⟩ := HRL.out K hat.1
          rw [hat.2, el_nb k hlt] at hcl
          have GC := (show Hid _ from hcl)
          have HI : Hid ((rts xs (k + 1)).length = K + 1) := by show _ = _; rw [rts_in hz, List.length_append, ← HK.out]; rfl
          have ht0 : trim [ev (nb k) xs] = [] := trim_one_nil.2 hz
          rw [ht0] at HDv
          subst epl
          clear hz ht0 hcl hat
          go_wp2_with (first
            | (go_at_call 20; refine HDv.out.mono ?_; rintro e w5 ⟨v1, v2, rfl, hr, hb5⟩; obtain ⟨p5, c5, rfl⟩ := hr.empty; have g5 := cell_below GC.out hb5)
            | (go_at_call 21; refine (num_any 0 _).mono ?_; rintro e w' ⟨rfl, e⟩; obtain rfl := e.symm))
          go_roundw
          case rel => exact ⟨k + 1, by omega, by go_num, by rw [HI.out]; go_num, hb5⟩
          case measure => simp [intOf]; omega
        · have HI : Hid ((rts xs (k + 1)).length = K) := by show _ = _; rw [rts_out hz, ← HK.out]
          have ht1 : trim [ev (nb k) xs] = [ev (nb k) xs] := trim_self (fun _ => by simpa [co_zero] using hz)
          rw [ht1] at HDv
          by_cases hKN : K < NR
          · have i2 : (K : Int) < (NR : Int) := by omega
            obtain ⟨bl, ol, epl, hcl⟩ := HRL.out K hKN
            have hne := rts_not hz (k := K) (by rw [← HN.out]; exact hKN)
            have GC := (show Hid _ from hcl)
            have hq : (el (co (rts xs 256) K) == (k : Int)) = false := by rw [← el_nb k hlt, el_beq]; simpa using hne
            have hbd := el_bd (co (rts xs 256) K)
            subst epl
            clear hz ht1 hcl hne
            go_wp2_with (first
              | (go_at_call 20; refine HDv.out.mono ?_; rintro e w5 ⟨v1, v2, rfl, hr, hb5⟩; obtain ⟨b5, o5, c5, rfl, _⟩ := hr.cells (by simp); have g5 := cell_below GC.out hb5)
              | (go_at_call 21; refine (num_any 0 _).mono ?_; rintro e w' ⟨rfl, e⟩; obtain rfl := e.symm))
            go_roundw
            case rel => exact ⟨k + 1, by omega, by go_num, by rw [HI.out], hb5⟩
            case measure => simp [intOf]; omega
          · have i2 : ¬ (K : Int) < (NR : Int) := by omega
            clear hz ht1
            go_wp2_with (first
              | (go_at_call 20; refine HDv.out.mono ?_; rintro e w5 ⟨v1, v2, rfl, hr, hb5⟩; obtain ⟨b5, o5, c5, rfl, _⟩ := hr.cells (by simp))
              | (go_at_call 21; refine (num_any 0 _).mono ?_; rintro e w' ⟨rfl, e⟩; obtain rfl := e.symm))
            go_roundw
            case rel => exact ⟨k + 1, by omega, by go_num, by rw [HI.out], hb5⟩
            case measure => simp [intOf]; omega
      · obtain rfl : k = 256 := by omega
        obtain rfl : K = NR := by rw [HK.out, HN.out]
        have hc4 := hc3.below hb
        have c4 := bt c3 hb
        go_wp2_with (first
          | (go_at_call 23; refine (unlike_any hc4 L2.out).mono ?_; rintro e w5 ⟨x, u, rfl, hnd, hul, hX, hb5⟩; have c5 := bt c4 hb5; have U1 : Hid (u.length + 1 ≤ 281474976710656) := (by show _ ≤ _; have := hul.out; have := L2.out; omega); have U2 : Hid ((van u).length ≤ 281474976710656) := (by show _ ≤ _; rw [van_len]; exact U1.out); have U3 : Hid ((rts (van u) 256).length = u.length) := rts_van hnd.out; have U4 : Hid ((((trim (van u)).length : Int) - 1) = (u.length : Int)) := (by show _ = _; rw [trim_van_len]; omega); obtain ⟨px, cx, hvx, hrx⟩ := rs_form hX; subst hvx; have HRX := (show Hid _ from hrx); clear hrx)
          | (go_at_call 27; refine (pvanish_any hX.sl U1.out).mono ?_; rintro e w6 ⟨vv, rfl, hV, hb6⟩; have c6 := bt c5 hb6)
          | (go_at_call 26; refine (proots_any hV.sl U2.out).mono ?_; rintro e w7 ⟨z, rfl, hZ, hb7⟩; have c7 := bt c6 hb7; have hV7 := hV.below hb7; obtain ⟨pz, cz, hvz, _⟩ := rs_form hZ; subst hvz; rw [U3.out])
          | (go_at_call 19; refine (pdegree_any hV7.sl U2.out).mono ?_; rw [U4.out]; rintro e w' ⟨rfl, e⟩; obtain rfl := e.symm))
        have b57 := bt hb6 hb7
        go_loopw [18] (fun i wq => ∃ j : Nat, j ≤ u.length ∧ i = .int .i64 j ∧ Below w7.heap.size w7 wq) (fun i _ => u.length - (intOf i).toNat)
        case atStart => exact ⟨0, Nat.zero_le _, rfl, Below.refl _ _⟩
        case round =>
          obtain ⟨j, hj, rfl, hq⟩ := hrel
          by_cases hlj : j < u.length
          · have i1 : (j : Int) < (u.length : Int) := by omega
            obtain ⟨bx, ox, epx, hcx⟩ := HRX.out j hlj
            subst epx
            have g1 := cell_below hcx (bt b57 hq)
            have HAt : Hid (Calls Try.prog 16 #[vv, .int .u8 (el (co u j))] wr fun e w' => e = .returned (.int .u8 0) ∧ Below wr.heap.size wr w') := by
              have h3 := pat_any (hV7.below hq).sl U2.out (co u j)
              rw [(ev_van (co u j) u).2 (co_mem hlj), el_0] at h3; exact h3
            have hul2 := hul.out
            have L22 := L2.out
            clear hcx
            go_wp2_with (go_at_call 16; refine HAt.out.mono ?_; rintro e w9 ⟨rfl, hb9⟩)
            go_roundw
            case rel => exact ⟨j + 1, by omega, by go_num, bt hq hb9⟩
            case measure => simp [intOf]; omega
          · have i1 : ¬ (j : Int) < (u.length : Int) := by omega
            go_wp2
            go_ret
            exact ⟨rfl, bt c7 hq⟩
end
end Go.Proofs.Ytpjebfcdjhcfnab
