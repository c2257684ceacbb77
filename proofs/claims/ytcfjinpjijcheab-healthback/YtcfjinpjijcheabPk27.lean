/-
  The law's pick, kept, board, scores.
-/
import Derived.Test.YtcfjinpjijcheabAw27
namespace Go.Proofs.Ytcfjinpjijcheab
open Go.RowKit
theorem kp_75 : Kp 1061158912 := by unfold Kp; decide +kernel
theorem cv3_75 : floatToFloatBits .f64 4604930618986332160 .f32 = some 1061158912 := by decide +kernel
attribute [local irreducible] dW dR p2 fR fW fV fval sW sR
/-- To 32: just so, or whatever is drawn. -/
theorem cv_any (x : Nat) : (∃ r, ∀ (W : World), (convert 22 57 (.float .f64 x)).run Try.prog W = .ok (.float .f32 r) W) ∨ (∃ nb : World → Nat, ∀ (W : World), (convert 22 57 (.float .f64 x)).run Try.prog W = .ok (.float .f32 (nb W)) W.drew) := by
  cases h : floatToFloatBits .f64 x .f32 with
  | some r => exact .inl ⟨r, cv_run 22 57 s63 Try.underlying57 h⟩
  | none =>
    right
    have e : ∀ W : World, (convert 22 57 (.float .f64 x)).run Try.prog W = (Conv.floatToFloat .f64 x .f32).run Try.prog W := fun W => by
      simp [convert, run_underlying Try.underlying22, run_underlying Try.underlying57]
    unfold floatToFloatBits at h
    rw [if_neg (by decide)] at h
    cases hd : FloatKind.f64.decode x with
    | nan s k =>
      refine ⟨fun W => (Question.nanConv .f32 x).cut (W.tape W.drawn (Question.nanConv .f32 x)), fun W => ?_⟩
      rw [e]
      unfold Conv.floatToFloat
      rw [if_neg (by decide), hd]
      rfl
    | infinity s => rw [hd] at h; cases h
    | number s m p =>
      rw [hd] at h
      dsimp only at h
      refine ⟨fun W => (Question.floatToFloat x).cut (W.tape W.drawn (Question.floatToFloat x)), fun W => ?_⟩
      rw [e]
      unfold Conv.floatToFloat
      rw [if_neg (by decide), hd]
      dsimp only
      split at h
      · rename_i hi
        rw [hi]
        rfl
      · cases h
/-- What stands between 0 and 1 is a keep. -/
theorem kp_of {k : Nat} (h1 : (FloatKind.f32.format.order 0 k == some .lt) = true) (h2 : (FloatKind.f32.format.order k 1065353216 == some .lt) = true) : Kp k := by
  have o1 : F3.order 0 k = some .lt := beq_iff_eq.1 h1
  have o2 : F3.order k 1065353216 = some .lt := beq_iff_eq.1 h2
  have f0 : ffin F3 0 := by unfold ffin; rw [F3_I]; show (0 : Nat) < _; omega
  have oo : fsg F3 1065353216 = false ∧ frg F3 1065353216 = 1065353216 := Sc.sg (s := 1065353216) (Nat.le_refl _)
  have f1 : ffin F3 1065353216 := by unfold ffin; rw [F3_I, oo.2]; omega
  have fk := order_two F3 F3_bI f0 f1 (.inl o1) (.inl o2)
  have v0 : fval F3 2148 0 = 0 := by unfold fval sgn; rw [show frg F3 0 = 0 from rfl, fW_zero]; simp
  have v1 : fval F3 2148 1065353216 = (sW 1065353216 : Int) := by unfold fval sgn sW; rw [oo.1, if_neg (by simp), oo.2]
  rw [order_num F3 2148 F3_hc f0 fk, v0] at o1
  rw [order_num F3 2148 F3_hc fk f1, v1] at o2
  have a1 := Int.compare_eq_lt.1 (Option.some.inj o1)
  have a2 := Int.compare_eq_lt.1 (Option.some.inj o2)
  have vk : fval F3 2148 k = sgn (fsg F3 k) (sW (frg F3 k)) := by unfold fval sW; rfl
  rw [vk] at a1 a2
  cases hs : fsg F3 k
  · rw [hs] at a1 a2
    have e : sgn false (sW (frg F3 k)) = (sW (frg F3 k) : Int) := by unfold sgn; rw [if_neg (by simp)]
    rw [e] at a1 a2
    refine ⟨hs, Nat.pos_of_ne_zero fun h0 => ?_, sW_lt_iff.1 (Int.ofNat_lt.1 a2)⟩
    rw [h0, sW_zero] at a1
    exact absurd a1 (by simp)
  · rw [hs] at a1
    have e : sgn true (sW (frg F3 k)) = -(sW (frg F3 k) : Int) := by unfold sgn; rw [if_pos rfl]
    rw [e] at a1
    omega
theorem kp_back {k : Nat} (h : Kp k) : floatToFloatBits .f64 (cv6 k) .f32 = some (frg F3 k) ∧ Kp (frg F3 k) := by
  obtain ⟨-, hn, hc, hv⟩ := kp_cv h
  have hr : sR (dv (cv6 k)) = frg F3 k := by rw [hv]; exact sR_W (by have := h.2.2; omega)
  have hlt := h.2.2
  obtain ⟨c1, c2⟩ := cv3_ok (hn.fin (by omega)) (by rw [hr]; omega)
  rw [hn.1, pos_word3, hr] at c2
  have hs : Sc (frg F3 k) := Nat.le_of_lt hlt
  exact ⟨by rw [c1, c2], hs.sg.1, by rw [hs.sg.2]; exact h.2.1, by rw [hs.sg.2]; exact hlt⟩
section
attribute [local irreducible] Calls
set_option maxRecDepth 1000000 in
theorem pick_any (k : Int) (n : Nat) (hn : 1 ≤ n) (hn2 : n ≤ 1000000000000) (w : World) : Calls Try.prog 11 #[.int .i64 k, .int .i64 (n : Int)] w fun e w' => e = .returned (.int .i64 (k % (n : Int))) ∧ w' = w := by
  have n1 : ¬ (n : Int) < 1 := by omega
  have n2 : ((n : Int) == 0) = false := by simp; omega
  have n3 : ¬ (n : Int) = 0 := by omega
  have n4 : (n == 0) = false := by simp; omega
  have n5 : ¬ n = 0 := by omega
  have e1 : k.tmod (n : Int) = if 0 ≤ k then k % (n : Int) else -((-k) % (n : Int)) := by
    split
    · exact Int.tmod_eq_emod_of_nonneg (by assumption)
    · have := Int.neg_tmod (-k) (n : Int)
      rw [Int.neg_neg] at this
      rw [this, Int.tmod_eq_emod_of_nonneg (by omega)]
  have r1 := Int.emod_nonneg k (show (n : Int) ≠ 0 by omega)
  have r2 := Int.emod_lt_of_pos k (show (0 : Int) < n by omega)
  have r3 := Int.emod_nonneg (-k) (show (n : Int) ≠ 0 by omega)
  have r4 := Int.emod_lt_of_pos (-k) (show (0 : Int) < n by omega)
  have key : (0 ≤ k.tmod (n : Int) ∧ k.tmod (n : Int) = k % (n : Int)) ∨ (k.tmod (n : Int) < 0 ∧ IntKind.i64.wrap (k.tmod (n : Int) + (n : Int)) = k % (n : Int)) := by
    by_cases h0 : 0 ≤ k
    · rw [e1, if_pos h0]; exact .inl ⟨r1, rfl⟩
    · rw [e1, if_neg h0]
      by_cases hz : (-k) % (n : Int) = 0
      · left
        rw [hz]
        refine ⟨by omega, ?_⟩
        have : (n : Int) ∣ k := by have := Int.dvd_of_emod_eq_zero hz; exact (Int.dvd_neg).1 this
        rw [Int.emod_eq_zero_of_dvd this]; rfl
      · right
        have e2 : k % (n : Int) = (n : Int) - (-k) % (n : Int) := by
          have h3 := Int.emod_add_mul_ediv (-k) (n : Int)
          have h4 : k = ((n : Int) - (-k) % (n : Int)) + (n : Int) * (-((-k) / (n : Int)) - 1) := by
            rw [Int.mul_sub, Int.mul_neg, Int.mul_one]; omega
          generalize hq : (-k) / (n : Int) = q at *
          generalize hr : (-k) % (n : Int) = r at *
          rw [h4, Int.add_mul_emod_self_left]
          exact Int.emod_eq_of_lt (by omega) (by omega)
        refine ⟨by omega, ?_⟩
        rw [IntKind.wrap_i64]
        omega
  rcases key with ⟨h1, h2⟩ | ⟨h1, h2⟩
  · have h3 : ¬ k.tmod (n : Int) < 0 := by omega
    clear e1 r1 r2 r3 r4
    go_enter Try.func11, Try.ntmps11
    go_wp2
    go_ret
    exact ⟨by rw [← h2]; rfl, rfl⟩
  · clear e1 r1 r2 r3 r4
    have h3 : wrap64 (k.tmod (n : Int) + (n : Int)) = k % (n : Int) := by
      have h4 := h2
      rw [IntKind.wrap_i64] at h4
      unfold wrap64
      omega
    go_enter Try.func11, Try.ntmps11
    go_wp2
    go_ret
    exact ⟨by first | rfl | rw [← h2]; rfl, rfl⟩
set_option maxRecDepth 1000000 in
theorem kept_any (x : Nat) (w : World) : Calls Try.prog 24 #[.float .f64 x] w fun e w' => ∃ d k, e = .returned (.float .f64 d) ∧ floatToFloatBits .f64 d .f32 = some k ∧ Kp k ∧ Below w.heap.size w w' := by
  have body : ∀ (r : Nat) (V : World), V = w ∨ V = w.drew → (∀ W : World, W = w → (convert 22 57 (.float .f64 x)).run Try.prog W = .ok (.float .f32 r) V) → Calls Try.prog 24 #[.float .f64 x] w fun e w' => ∃ d k, e = .returned (.float .f64 d) ∧ floatToFloatBits .f64 d .f32 = some k ∧ Kp k ∧ Below w.heap.size w w' := by
    intro r V hV hr
    have hc := hr w rfl
    have hb : Below w.heap.size w V := by
      rcases hV with rfl | rfl
      · exact Below.refl _ _
      · exact (Below.refl _ _).drew
    have HB := (show Hid _ from hb)
    clear hr hV hb
    cases b1 : (FloatKind.f32.format.order r 0 == some .gt) with
    | false =>
      go_enter Try.func24, Try.ntmps24
      go_wp2
      go_ret
      exact ⟨_, _, rfl, cv3_75, kp_75, HB.out⟩
    | true =>
      cases b2 : (FloatKind.f32.format.order r 1065353216 == some .lt) with
      | false =>
        go_enter Try.func24, Try.ntmps24
        go_wp2
        go_ret
        exact ⟨_, _, rfl, cv3_75, kp_75, HB.out⟩
      | true =>
        have hk : Kp r := by
          refine kp_of ?_ b2
          have := order_swap F3 r 0
          rw [show F3.order 0 r = _ from this, beq_iff_eq.1 (show (F3.order r 0 == some .gt) = true from b1)]
          rfl
        have a1 := cv_run 57 22 s36 Try.underlying22 (kp_cv hk).1
        have HK := (show Hid _ from kp_back hk)
        clear hk
        go_enter Try.func24, Try.ntmps24
        go_wp2
        go_ret
        exact ⟨_, _, rfl, HK.out.1, HK.out.2, HB.out⟩
  rcases cv_any x with ⟨r, hr⟩ | ⟨nb, hr⟩
  · exact body r w (.inl rfl) (fun W e => by rw [e]; exact hr w)
  · exact body (nb w) w.drew (.inr rfl) (fun W e => by rw [e]; exact hr w)
/-- How many places the law's board has. -/
def nPl (n : Int) : Nat := ((wrap64 (n - 1)) % 255).toNat + 1
theorem nPl_le (n : Int) : 1 ≤ nPl n ∧ nPl n ≤ 255 := by unfold nPl; omega
theorem nPl_eq (n : Int) : 1 + wrap64 (n - 1) % 255 = (nPl n : Int) := by unfold nPl; omega
set_option maxRecDepth 1000000 in
set_option maxHeartbeats 2000000 in
theorem board_any (n : Int) (x : Nat) (w : World) : Calls Try.prog 10 #[.int .i64 n, .float .f64 x] w fun e w' => ∃ b s k, e = .returned (.pointer (some ⟨b, 0, none⟩)) ∧ Kp k ∧ Bd w' b s k (List.replicate (nPl n) 1065353216) ∧ w.heap.size ≤ b ∧ w.heap.size ≤ s ∧ Below w.heap.size w w' := by
  have PK := (show Hid _ from fun (W : World) => pick_any (wrap64 (n - 1)) 255 (by omega) (by omega) W)
  have KE := (show Hid _ from kept_any x)
  obtain ⟨N, hN⟩ : ∃ N, Hid (nPl n = N) := ⟨_, rfl⟩
  have h1 := nPl_le n
  have e1 := nPl_eq n
  rw [hN.out] at h1 e1 ⊢
  have NW := (show Hid _ from fun (W : World) (d k : Nat) (hc : floatToFloatBits .f64 d .f32 = some k) (hk : Kp k) => new_any (w := W) N d k h1.1 h1.2 hc hk)
  have e2 : wrap64 (1 + wrap64 (n - 1) % 255) = (N : Int) := by rw [e1]; unfold wrap64; omega
  go_enter Try.func10, Try.ntmps10
  go_wp2_with (first
    | (go_at_call 11; refine (PK.out _).mono ?_; rintro e w1 ⟨rfl, h⟩; obtain rfl := h.symm)
    | (go_at_call 24; refine (KE.out _).mono ?_; rintro e w1 ⟨d, k, rfl, hc, hk, hb1⟩)
    | (go_at_call 22; refine (NW.out _ _ _ hc hk).mono ?_; rintro e w2 ⟨b, s, rfl, hB, hb, hs, hb2⟩))
  go_ret
  have := hb1.size
  exact ⟨b, s, k, rfl, hk, hB, by omega, by omega, bt hb1 hb2⟩
set_option maxRecDepth 1000000 in
set_option maxHeartbeats 2000000 in
theorem scores_any {w : World} {b s k : Nat} {ss : List Nat} (h : Bd w b s k ss) (hs : ∀ x ∈ ss, Sc x) (n : Nat) (hn : ss.length = n) (h2 : n ≤ 255) :
    Calls Try.prog 12 #[.pointer (some ⟨b, 0, none⟩), .int .i64 (n : Int)] w fun e w' => ∃ v, e = .returned v ∧ Of w' w.heap.size v (ss.map cv6) ∧ Below w.heap.size w w' := by
  have SC := (show Hid _ from fun (W : World) (p : Nat) (hW : Bd W b s k ss) (hp : p < ss.length) => score_any hW p hp (hs _ (by rw [show ss.getD p 0 = ss[p] by simp [List.getD, hp]]; exact List.getElem_mem _)))
  have HH := (show Hid (Bd w b s k ss) from h)
  have al := balloc
  clear h hs
  go_enter Try.func12, Try.ntmps12
  go_wp2
  go_loopw [5, 6] (fun o i wr => ∃ t : Nat, t ≤ n ∧ i = .int .i64 (t : Int) ∧ Of wr w.heap.size o ((ss.take t).map cv6) ∧ Below w.heap.size w wr) (fun _ i _ => n - (intOf i).toNat)
  case atStart => exact ⟨0, Nat.zero_le _, rfl, Of.nil _ _, Below.refl _ _⟩
  case round =>
    obtain ⟨t, ht, rfl, hO, hb⟩ := hrel
    have hsz := hb.size
    by_cases hlt : t < n
    · have hi : (t : Int) < (n : Int) := by omega
      have S1 := (show Hid _ from SC.out wr t (HH.out.below hb) (by omega))
      have e1 : (ss.take (t + 1)).map cv6 = (ss.take t).map cv6 ++ [cv6 (ss.getD t 0)] := by
        rw [List.take_add_one, List.getElem?_eq_getElem (by omega)]
        rw [List.map_append]
        simp only [Option.toList_some, List.map_cons, List.map_nil]
        rw [show ss.getD t 0 = ss[t]'(by omega) by simp [List.getD, show t < ss.length by omega]]
      have e2 : ((ss.take t).map cv6).length = t := by rw [List.length_map, List.length_take]; omega
      obtain ⟨y, hy⟩ : ∃ y, cv6 (ss.getD t 0) = y := ⟨_, rfl⟩
      rw [hy] at S1 e1
      have HE := (show Hid _ from e1)
      have r1 : Fr (wr.alloc (.cells #[.float .f64 y] 22)) (some ⟨wr.heap.size, 0, none⟩) [y] := (bl_new wr 22 [.float .f64 y]).rd
      clear e1 hy
      go_wp2_with (first
        | (go_at_call 17; refine S1.out.mono ?_; rintro e w1 ⟨rfl, h⟩; obtain rfl := h.symm)
        | (at_builtin; refine wpList_apF rfl (.tmp 20) (.tmp 22) rfl w.heap.size u5 ((ss.take t).map cv6) rfl (hO.below (al _ _)) (some ⟨wr.heap.size, 0, none⟩) 1 1 [y] rfl r1 rfl (by rw [e2]; omega) (Nat.le_trans hsz (al _ _).size) ?_; intro v2 w2 ho2 hg2))
      go_roundw
      case rel =>
        exact ⟨t + 1, hlt, by go_num, by rw [HE.out]; exact ho2, below_append (t := 22) (hb.alloc hsz _) (Nat.le_trans hsz (al _ _).size) hg2 (hO.below (al _ _)) (Nat.le_refl _)⟩
      case measure => simp [intOf]; omega
    · obtain rfl : t = n := by omega
      rw [List.take_of_length_le (by omega)] at hO
      go_wp2
      go_ret
      exact ⟨_, rfl, hO, hb⟩
end
end Go.Proofs.Ytcfjinpjijcheab
