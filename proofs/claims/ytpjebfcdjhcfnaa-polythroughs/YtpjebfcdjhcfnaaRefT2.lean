/-
  The document's Through.
-/
import Derived.Test.YtpjebfcdjhcfnaaRefV
namespace Go.Proofs.Ytpjebfcdjhcfnaa
open Go.RowKit

/-- The polynomial that is 1 at point i and 0 at the others so far. -/
structure ThP (xs : List (BitVec 8)) (i k : Nat) (P : List (BitVec 8)) : Prop where
  len : P.length ≤ if k ≤ i then k + 1 else k
  zero : ∀ j, j < k → j ≠ i → ev (co xs j) P = 0#8
  one : ev (co xs i) P = 1#8
theorem ev_two (a b x : BitVec 8) : ev x [a, b] = a ^^^ gm x b := by show a ^^^ gm x (b ^^^ gm x 0#8) = _; rw [gm_zero]; simp
theorem ThP.start (xs : List (BitVec 8)) (i : Nat) : ThP xs i 0 [1#8] := ⟨by simp, fun j h => by omega, ev_const _ _⟩
theorem ThP.skip {xs : List (BitVec 8)} {i : Nat} {P : List (BitVec 8)} (H : ThP xs i i P) : ThP xs i (i + 1) P :=
  ⟨by have := H.len; rw [if_pos (Nat.le_refl _)] at this; rw [if_neg (by omega)]; exact this, fun j hj hne => H.zero j (by omega) hne, H.one⟩
theorem ThP.step {xs : List (BitVec 8)} {i k : Nat} {P : List (BitVec 8)} (H : ThP xs i k P) (hne : k ≠ i) (hx : co xs i ≠ co xs k) :
    ThP xs i (k + 1) (trim (mul P [gm (co xs k) (inv (co xs i ^^^ co xs k)), inv (co xs i ^^^ co xs k)])) := by
  generalize hc : inv (co xs i ^^^ co xs k) = c
  have hi := gm_inv (xor_ne hx)
  rw [hc] at hi
  refine ⟨?_, fun j hj hji => ?_, ?_⟩
  · have h1 : (trim (mul P [gm (co xs k) c, c])).length ≤ P.length + 1 := by
      by_cases e : P = []
      · rw [e, show trim (mul [] [gm (co xs k) c, c]) = [] from rfl]; simp
      · have h2 := trim_len (mul P [gm (co xs k) c, c])
        rw [mul_len e (by simp)] at h2; simp at h2; omega
    have := H.len
    by_cases h2 : k ≤ i
    · rw [if_pos h2] at this; rw [if_pos (by omega)]; omega
    · rw [if_neg h2] at this; rw [if_neg (by omega)]; omega
  · rw [ev_trim, ev_mul]
    by_cases e : j = k
    · subst e; rw [ev_two, BitVec.xor_self, gm_zero]
    · rw [H.zero j (by omega) hji, gm_zero_l]
  · rw [ev_trim, ev_mul, H.one, gm_one_l, ev_two, ← gm_xor_l, BitVec.xor_comm, hi]
/-- The sum so far. -/
structure ThO (xs ys : List (BitVec 8)) (n i : Nat) (S : List (BitVec 8)) : Prop where
  tr : trim S = S
  len : S.length ≤ n
  lo : ∀ j, j < i → ev (co xs j) S = co ys j
  hi : ∀ j, i ≤ j → j < n → ev (co xs j) S = 0#8
theorem ThO.start (xs ys : List (BitVec 8)) (n : Nat) : ThO xs ys n 0 [] := ⟨rfl, Nat.zero_le _, fun j h => by omega, fun _ _ _ => rfl⟩
theorem ThO.step {xs ys : List (BitVec 8)} {n i : Nat} {S P : List (BitVec 8)} (H : ThO xs ys n i S) (hP : ThP xs i n P) (hi : i < n) : ThO xs ys n (i + 1) (trim (add S (trim (smul (co ys i) P)))) := by
  have he : ∀ x, ev x (trim (add S (trim (smul (co ys i) P)))) = ev x S ^^^ gm (co ys i) (ev x P) := fun x => by rw [ev_trim, ev_add, ev_trim, ev_smul]
  refine ⟨trim_trim _, ?_, fun j hj => ?_, fun j hj hn => ?_⟩
  · have h1 := trim_len (add S (trim (smul (co ys i) P)))
    rw [add_len] at h1
    have h2 := trim_len (smul (co ys i) P)
    rw [smul_len] at h2
    have h3 := hP.len
    rw [if_neg (by omega)] at h3
    have := H.len
    omega
  · rw [he]
    by_cases e : j = i
    · subst e; rw [H.hi j (Nat.le_refl _) hi, hP.one, gm_one]; simp
    · rw [H.lo j (by omega), hP.zero j (by omega) e, gm_zero]; simp
  · rw [he, H.hi j (by omega) hn, hP.zero j hn (by omega), gm_zero]; rfl
theorem ThO.done {xs ys : List (BitVec 8)} {n : Nat} {S : List (BitVec 8)} (H : ThO xs ys n n S) (hl : xs.length = n) : IsThr xs ys S :=
  ⟨H.tr, by rw [hl]; exact H.len, fun i hi => H.lo i (by omega)⟩
theorem nodup_ne {xs : List (BitVec 8)} (h : xs.Nodup) {i k : Nat} (hi : i < xs.length) (hk : k < xs.length) (hne : k ≠ i) : co xs i ≠ co xs k := by
  have hp := List.pairwise_iff_getElem.1 h
  have c1 : co xs i = xs[i] := by simp [co, List.getD_eq_getElem?_getD, List.getElem?_eq_getElem hi]
  have c2 : co xs k = xs[k] := by simp [co, List.getD_eq_getElem?_getD, List.getElem?_eq_getElem hk]
  rw [c1, c2]
  rcases Nat.lt_or_ge i k with h1 | h1
  · exact hp i k hi hk h1
  · exact (hp k i hk hi (by omega)).symm
section
attribute [local irreducible] Calls el gm co Rs Sr trim mul inv add smul ev
set_option maxHeartbeats 16000000 in
set_option maxRecDepth 1000000 in
theorem refThrough_core (b1 o1 b2 o2 n c1 c2 : Nat) (xs ys : List (BitVec 8)) (w : World) (hl : Hid (xs.length = n)) (hl2 : Hid (ys.length = n)) (hn : n ≤ 140737488351232) (hnd : Hid (xs.Nodup))
    (K1 : Hid (∀ i, i < n → w.cell? ⟨b1, o1 + i, none⟩ = some (.int .u8 (el (co xs i))))) (K2 : Hid (∀ i, i < n → w.cell? ⟨b2, o2 + i, none⟩ = some (.int .u8 (el (co ys i))))) :
    Calls Try.prog 30 #[.slice (some ⟨b1, o1, none⟩) n c1, .slice (some ⟨b2, o2, none⟩) n c2] w fun e w' => ∃ v t, e = .returned (.tuple #[v, .int .i64 0]) ∧ Hid (IsThr xs ys t) ∧ Rs 5 w.heap.size w' v t ∧ Below w.heap.size w w' := by
  have hx := el_xor
  have HT := (show Hid _ from refTwice_any (Sr.of_cells (c := c1) hl.out K1.out) (by rw [hl.out]; omega))
  have HF : ∀ r, Hid (r = true ↔ ¬ xs.Nodup) → r = false := fun r h => by
    cases r with
    | false => rfl
    | true => exact absurd hnd.out (h.out.1 rfl)
  go_enter Try.func30, Try.ntmps30
  go_wp2_with (go_at_call 54; refine HT.out.mono ?_; rintro e w1 ⟨r, rfl, hr, hb1⟩; obtain rfl := HF r hr; clear hr HT HF)
  have D0 : Hid (ThO xs ys n 0 []) := ThO.start xs ys n
  go_loopw [7, 8] (fun v i wr => ∃ (k : Nat) (S : List (BitVec 8)), k ≤ n ∧ i = .int .i64 k ∧ Rs 5 w.heap.size wr v S ∧ Below w.heap.size w wr ∧ Hid (ThO xs ys n k S)) (fun _ i _ => n - (intOf i).toNat)
  case atStart => exact ⟨0, [], Nat.zero_le _, rfl, Rs.nil _ _ _, hb1, D0⟩
  case round =>
    clear D0 hb1
    obtain ⟨i, S, hi, rfl, hS, hb, D⟩ := hrel
    by_cases hlt : i < n
    · have i1 : (i : Int) < (n : Int) := by omega
      have P0 : Hid (ThP xs i 0 [1#8]) := ThP.start xs i
      obtain ⟨W0, hW0⟩ : ∃ W0, W0 = wr := ⟨_, rfl⟩
      subst hW0
      have hP0 := one_rs W0
      have hw := hb.size
      have LS : Hid (S.length ≤ 140737488355328) := by show _ ≤ _; have := D.out.len; omega
      go_wp2
      go_loopw [9, 10] (fun v j wq => ∃ (k : Nat) (P : List (BitVec 8)), k ≤ n ∧ j = .int .i64 k ∧ Rs 5 W0.heap.size wq v P ∧ Below W0.heap.size W0 wq ∧ Hid (ThP xs i k P)) (fun _ j _ => n - (intOf j).toNat)
      case atStart => exact ⟨0, [1#8], Nat.zero_le _, rfl, hP0, ba W0 _, P0⟩
      case round =>
        clear P0 hP0
        obtain ⟨k, P, hk, rfl, hP, hq, E⟩ := hrel
        have hPl : P.length ≤ n + 1 := by have := E.out.len; split at this <;> omega
        have hbq := bt hb hq
        by_cases hlk : k < n
        · have i2 : (k : Int) < (n : Int) := by omega
          by_cases hki : k = i
          · subst hki
            have E2 : Hid (ThP xs k (k + 1) P) := E.out.skip
            go_wp2
            first
              | exact ⟨⟨k + 1, P, by omega, by go_num, hP, hq, E2⟩, by simp [intOf]; omega⟩
              | (go_roundw
                 case rel => exact ⟨k + 1, P, by omega, by go_num, hP, hq, E2⟩
                 case measure => simp [intOf]; omega)
          · have i3 : ((k : Int) != (i : Int)) = true := by simp; omega
            have i4 : ¬ (k : Int) = (i : Int) := by omega
            have hne := nodup_ne hnd.out (i := i) (k := k) (by rw [hl.out]; exact hlt) (by rw [hl.out]; exact hlk) hki
            have E2 : Hid (ThP xs i (k + 1) (trim (mul P [gm (co xs k) (inv (co xs i ^^^ co xs k)), inv (co xs i ^^^ co xs k)]))) := E.out.step hki hne
            have hxn := xor_ne hne
            obtain ⟨cc, hcc⟩ : ∃ cc, cc = inv (co xs i ^^^ co xs k) := ⟨_, rfl⟩
            rw [← hcc] at E2
            have g1 := cell_below (K1.out i hlt) hbq
            have g2 := cell_below (K1.out k hlk) hbq
            have g3 := below_drewN (Below.refl wr.heap.size wr)
            have HIn : Hid (∀ W : World, Calls Try.prog 51 #[.int .u8 (el (co xs i ^^^ co xs k))] W fun e w' => e = .returned (.int .u8 (el cc)) ∧ w' = W) := fun W => by rw [hcc]; exact refInv_any _ hxn W
            have HTi : Hid (∀ W : World, Below wr.heap.size wr W → Calls Try.prog 19 #[u9, .slice (some ⟨W.heap.size, 0, none⟩) 2 2] (W.alloc (.cells #[.int .u8 (el (gm (co xs k) cc)), .int .u8 (el cc)] 5)) fun e w' => ∃ v, e = .returned v ∧ Rs 5 W0.heap.size w' v (trim (mul P [gm (co xs k) cc, cc])) ∧ Below W0.heap.size W0 w') := fun W hW => by
              have hbA := ba W (.cells #[.int .u8 (el (gm (co xs k) cc)), .int .u8 (el cc)] 5)
              refine (refTimes_any (hP.below (bt hW hbA)).sr (refTwo_sl W _ _) (by simp; omega)).mono ?_
              rintro e w' ⟨v, he, hr, hb3⟩
              exact ⟨v, he, hr.mono (Nat.le_trans hq.size (Nat.le_trans hW.size hbA.size)), bt hq (bt (bt hW hbA) hb3)⟩
            clear E hcc hxn hne hP hPl
            go_wp2
            go_quiet ((go_at_call 51; exact Calls.quiet_of_same (HIn.out _)))
            go_wp2_with (first
              | (go_at_call 37; refine (refMul_any _ _ _).mono ?_; rintro e w' ⟨rfl, h⟩; obtain rfl := h.symm)
              | (go_at_call 19; refine (HTi.out (wr.drewN _) (g3 _)).mono ?_; rintro e w5 ⟨v5, rfl, hP5, hb5⟩))
            first
              | exact ⟨⟨k + 1, _, by omega, by go_num, hP5, hb5, E2⟩, by simp [intOf]; omega⟩
              | (go_roundw
                 case rel => exact ⟨k + 1, _, by omega, by go_num, hP5, hb5, E2⟩
                 case measure => simp [intOf]; omega)
        · obtain rfl : k = n := by omega
          have i2 : ¬ (k : Int) < (k : Int) := by omega
          have g2 := cell_below (K2.out i hlt) hbq
          have hS2 := hS.below hq
          have D2 : Hid (ThO xs ys k (i + 1) (trim (add S (trim (smul (co ys i) P))))) := D.out.step E.out hlt
          have LP : Hid (P.length ≤ 140737488355328) := by show _ ≤ _; omega
          have LQ : Hid ((trim (smul (co ys i) P)).length ≤ 140737488355328) := by show _ ≤ _; have := trim_len (smul (co ys i) P); rw [smul_len] at this; omega
          clear D E hS
          go_wp2_with (first
            | (go_at_call 20; refine (refScale_any hP.sr (co ys i) LP.out).mono ?_; rintro e w5 ⟨v5, rfl, hV5, hb5⟩; have hS5 := hS2.below hb5)
            | (go_at_call 18; refine (refPlus_any hS5.sr hV5.sr LS.out LQ.out).mono ?_; rintro e w6 ⟨v6, rfl, hV6, hb6⟩))
          have hb7 := bt hbq (bt hb5 hb6)
          have hV7 := hV6.mono (Nat.le_trans hbq.size hb5.size)
          first
            | exact ⟨⟨i + 1, _, by omega, by go_num, hV7, hb7, D2⟩, by simp [intOf]; omega⟩
            | (go_roundw
               case rel => exact ⟨i + 1, _, by omega, by go_num, hV7, hb7, D2⟩
               case measure => simp [intOf]; omega)
    · obtain rfl : i = n := by omega
      have i1 : ¬ (i : Int) < (i : Int) := by omega
      have HD : Hid (IsThr xs ys S) := D.out.done hl.out
      clear D
      go_wp2
      go_ret2
      first | exact ⟨_, _, rfl, HD, hS, hb⟩ | exact ⟨_, rfl, S, HD, hS, hb⟩ | exact ⟨_, S, HD, hS, hb⟩
set_option maxRecDepth 1000000 in
theorem refThrough_uneven (p1 p2 : Option Addr) (n m c1 c2 : Nat) (w : World) (h : ¬ n = m) :
    Calls Try.prog 30 #[.slice p1 n c1, .slice p2 m c2] w fun e w' => e = .returned (.tuple #[.slice none 0 0, .int .i64 2]) ∧ w' = w := by
  have h0 : ((n : Int) != (m : Int)) = true := by simp; omega
  go_enter Try.func30, Try.ntmps30
  go_wp2
  go_ret2
  exact ⟨rfl, rfl⟩
set_option maxRecDepth 1000000 in
theorem refThrough_twice (p1 p2 : Option Addr) (n c1 c2 : Nat) (xs : List (BitVec 8)) (w : World) (h1 : Sr w (.slice p1 n c1) xs) (hn : xs.length ≤ 140737488351232) (hnd : ¬ xs.Nodup) :
    Calls Try.prog 30 #[.slice p1 n c1, .slice p2 n c2] w fun e w' => e = .returned (.tuple #[.slice none 0 0, .int .i64 20]) ∧ Below w.heap.size w w' := by
  have HT := (show Hid _ from refTwice_any h1 hn)
  have HF : ∀ r, Hid (r = true ↔ ¬ xs.Nodup) → r = true := fun r h => h.out.2 hnd
  go_enter Try.func30, Try.ntmps30
  go_wp2_with (go_at_call 54; refine HT.out.mono ?_; rintro e w1 ⟨r, rfl, hr, hb1⟩; obtain rfl := HF r hr; clear hr HT HF)
  go_ret2
  exact ⟨rfl, hb1⟩
set_option maxHeartbeats 1000000 in
set_option maxRecDepth 1000000 in
theorem refThrough_nil (p1 p2 : Option Addr) (c1 c2 : Nat) (w : World) :
    Calls Try.prog 30 #[.slice p1 0 c1, .slice p2 0 c2] w fun e w' => e = .returned (.tuple #[.slice none 0 0, .int .i64 0]) ∧ w' = w := by
  go_enter Try.func30, Try.ntmps30
  go_wp2_with (go_at_call 54; refine (refTwice_nil _ _ _).mono ?_; rintro e w' ⟨rfl, h⟩; obtain rfl := h.symm)
  refine wp_loop_rounds 1 ?_
  rw [rounds_succ]
  go_wp2
  go_ret2
  exact ⟨rfl, rfl⟩
end
theorem refThrough_any {w : World} {v1 v2 : Value} {xs ys : List (BitVec 8)} (h1 : Sr w v1 xs) (h2 : Sr w v2 ys) (hl : xs.length = ys.length) (hn : xs.length ≤ 140737488351232) (hnd : xs.Nodup) :
    Calls Try.prog 30 #[v1, v2] w fun e w' => ∃ v t, e = .returned (.tuple #[v, .int .i64 0]) ∧ Hid (IsThr xs ys t) ∧ Rs 5 w.heap.size w' v t ∧ Below w.heap.size w w' := by
  by_cases h0 : xs = []
  · subst h0
    have e2 : ys = [] := List.length_eq_zero_iff.1 hl.symm
    subst e2
    obtain ⟨p1, c1, rfl⟩ := h1.empty
    obtain ⟨p2, c2, rfl⟩ := h2.empty
    exact (refThrough_nil p1 p2 c1 c2 w).mono fun e w' ⟨he, hw⟩ => ⟨_, [], he, ⟨rfl, Nat.le_refl _, fun i hi => by simp at hi⟩, by rw [hw]; exact Rs.nil _ _ _, by rw [hw]; exact Below.refl _ _⟩
  · obtain ⟨b1, o1, c1, rfl, _, hc1⟩ := h1.cells h0
    obtain ⟨b2, o2, c2, rfl, _, hc2⟩ := h2.cells (by intro e; rw [e] at hl; simp at hl; exact h0 hl)
    rw [← hl] at hc2 ⊢
    exact refThrough_core b1 o1 b2 o2 _ c1 c2 xs ys w rfl hl.symm hn hnd hc1 hc2
end Go.Proofs.Ytpjebfcdjhcfnaa
