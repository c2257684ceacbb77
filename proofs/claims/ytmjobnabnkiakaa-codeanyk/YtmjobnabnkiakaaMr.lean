/-
  'Rows': the program's.
-/
import Derived.Test.YtmjobnabnkiakaaCp
import Derived.Test.YtmjobnabnkiakaaRr
import Derived.Deep.RegionHeld3
namespace Go.Proofs.Ytmjobnabnkiakaa
open Go.RowKit
section
attribute [local irreducible] Calls fc cw rc rn bad
theorem rowsE_err (p q : Option Addr) (r c1 n c : Nat) (l : Nat → Nat) (f : Nat → Int) (w : World) (LA : Lm w (.slice p r c1) r l) (h : ¬ fc r l = 0 ∨ 255 < n) :
    Calls Try.prog 56 #[.slice p r c1, .slice q n c] w fun e w' => e = .returned (.tuple #[.slice none 0 0, .int .i64 (rc r l n f)]) ∧ Below w.heap.size w w' := by
  have F1 := faultE_any LA
  by_cases h1 : fc r l = 0
  · have h2 : 255 < n := by omega
    have S1 := (show Hid _ from fun w => sizeFault_big (n : Int) (by omega) w)
    rw [rc_large f h1 h2]
    rw [h1] at F1
    go_enter Try.func56, Try.ntmps56
    go_wp2_with (first
      | (go_at_call 69; refine F1.mono ?_; rintro e w' ⟨rfl, h⟩; obtain rfl := h.symm)
      | (go_at_call 63; refine (S1.out _).mono ?_; rintro e w' ⟨rfl, h⟩; obtain rfl := h.symm))
    go_ret2
    exact ⟨rfl, Below.refl _ _⟩
  · rw [rc_fault n f h1]
    have h2 : (fc r l != 0) = true := by simpa using h1
    go_enter Try.func56, Try.ntmps56
    go_wp2_with (first
      | (go_at_call 69; refine F1.mono ?_; rintro e w' ⟨rfl, h⟩; obtain rfl := h.symm))
    go_ret2
    exact ⟨rfl, Below.refl _ _⟩
end
theorem nrE_sv {w : World} {v : Value} {n : Nat} {f : Nat → BitVec 8} (h : NrE w v n f) : Sv w v n (clE f) (n) := h
section
attribute [local irreducible] Calls el Ov GmE fc cw rc rn bad NrE clE
set_option maxHeartbeats 8000000 in
set_option maxRecDepth 1000000 in
theorem rowsE_core (p q : Option Addr) (n c : Nat) (f : Nat → Int) (r c1 : Nat) (l : Nat → Nat) (N : Nat → Nat → BitVec 8) (w : World) (hn : n ≤ 255) (HF : Hid (fc r l = 0)) (NA : Hid (NmE w (.slice p r c1) r l N))
    (H0 : Hid (0 < n → ∃ b o, q = some ⟨b, o, none⟩ ∧ ∀ i, i < n → w.cell? ⟨b, o + i, none⟩ = some (.int .i64 (f i)))) :
    Calls Try.prog 56 #[.slice p r c1, .slice q n c] w fun e w' => ∃ v, e = .returned (.tuple #[v, .int .i64 (rc r l n f)]) ∧ NmE w' v (rn r l n f) (fun _ => cw r l) (fun i j => N (f i).toNat j) ∧ Below w.heap.size w w' := by
  have F1 := (show Hid _ from faultE_any (NmE.lm NA.out))
  rw [HF.out] at F1
  have hr1 : r ≤ 255 := (fc_zero HF.out).1
  have C1 := (show Hid _ from columnsE_any (NmE.lm NA.out) (by omega))
  have hc255 : cw r l ≤ 255 := cw_le HF.out
  go_enter Try.func56, Try.ntmps56
  go_wp2_with (first
    | (go_at_call 69; refine F1.out.mono ?_; rintro e w' ⟨rfl, h⟩; obtain rfl := h.symm)
    | (go_at_call 63; refine (sizeFault_ok n hn _).mono ?_; rintro e w' ⟨rfl, h⟩; obtain rfl := h.symm))
  go_loop [26] (fun i => ∃ k : Nat, k ≤ n ∧ i = .int .i64 k ∧ Hid (∀ i, i < k → bad r (f i) = false)) (fun i => n - (intOf i).toNat)
  case atStart => exact ⟨0, Nat.zero_le _, rfl, fun i hi => by omega⟩
  case round =>
    obtain ⟨k, hk, rfl, hG⟩ := hrel
    by_cases hlt : k < n
    · have j1 : (k : Int) < (n : Int) := by omega
      obtain ⟨b, o, eq0, H1⟩ := H0.out (by omega)
      subst eq0
      have g1 := H1 k hlt
      by_cases hbad : bad r (f k) = true
      · have HC : Hid (rc r l n f = 2) := rc_bad HF.out hn hlt hbad
        have HN : Hid (rn r l n f = 0) := rn_err (by rw [HC.out]; decide)
        have HE : Hid (f k < 0 ∨ (¬ f k < 0 ∧ (r : Int) ≤ f k)) := by
          show _ ∨ _
          unfold bad at hbad
          simp at hbad
          omega
        clear hbad H1
        rcases HE.out with e | ⟨e, e2⟩
        · go_wp2
          go_ret2
          exact ⟨_, by rw [HC.out]; rfl, by rw [HN.out]; exact NmE.nil _ _ _, Below.refl _ _⟩
        · go_wp2
          go_ret2
          exact ⟨_, by rw [HC.out]; rfl, by rw [HN.out]; exact NmE.nil _ _ _, Below.refl _ _⟩
      · have hbf : bad r (f k) = false := by simpa using hbad
        clear hbad H1
        obtain ⟨x, ex, hx⟩ := bad_false hbf
        have HG2 : Hid (∀ i, i < k + 1 → bad r (f i) = false) := fun i hi => by
          by_cases e : i = k
          · rw [e]; exact hbf
          · exact hG.out i (by omega)
        have e1 : ¬ f k < 0 := by omega
        have e2 : ¬ (r : Int) ≤ f k := by omega
        clear hbf ex
        go_wp2
        go_round
        case rel => exact ⟨k + 1, by omega, by go_num, HG2⟩
        case measure => simp [intOf]; omega
    · obtain rfl : k = n := by omega
      have HC : Hid (rc r l k f = 0) := rc_ok HF.out hn hG.out
      have HN : Hid (rn r l k f = k) := rn_ok HC.out
      go_wp2_with (first
        | (go_at_call 70; refine C1.out.mono ?_; rintro e w' ⟨rfl, h⟩; obtain rfl := h.symm)
        | (go_at_call 64; refine (blankxE k (cw r l) (by omega) (by omega) _).mono ?_; rintro e w1 ⟨B, rfl, hG1, hB, hb⟩))
      have hG0 : GmE w1 B k (cw r l) (fun i => B + 1 + i) (fun i j => if i < 0 then N (f i).toNat j else oE) := hG1.congr (fun i _ j _ => by rw [if_neg (by omega)])
      have HG0 := (show Hid _ from hG0)
      have HB0 := (show Hid _ from hb)
      clear hG1 hG0 hb
      go_loopw [46] (fun i wr => ∃ t : Nat, t ≤ k ∧ i = .int .i64 t ∧ GmE wr B k (cw r l) (fun i => B + 1 + i) (fun i j => if i < t then N (f i).toNat j else oE) ∧ Below w.heap.size w wr) (fun i _ => k - (intOf i).toNat)
      case atStart => exact ⟨0, Nat.zero_le _, rfl, HG0.out, HB0.out⟩
      case round =>
        clear HG0 HB0
        obtain ⟨t, ht, rfl, hG1, hb⟩ := hrel
        by_cases hlt2 : t < k
        · have j1 : (t : Int) < (k : Int) := by omega
          obtain ⟨b, o, eq0, H1⟩ := H0.out (by omega)
          subst eq0
          obtain ⟨x, ex, hx⟩ := bad_false (hG.out t hlt2)
          have g1 := cell_below (H1 t hlt2) hb
          rw [ex] at g1
          have e3 : (x : Int) < (r : Int) := by omega
          obtain ⟨rowsA, hSv, hRA⟩ := NA.out
          obtain ⟨bA, oA, cA, eA, hcA⟩ := hSv.cells (by omega)
          injection eA with eA _ eA2
          subst eA eA2
          have g2 := cell_below (hcA x hx) hb
          have g3 := hG1.out hlt2
          have hnr := NrE.below (hRA x hx) (hb.drew)
          rw [cw_row HF.out hx] at hnr
          have r2 : Hid (Sv wr.drew (rowsA x) (cw r l) (clE (N x)) (cw r l)) := nrE_sv hnr
          have hGd : Hid (GmE wr.drew B k (cw r l) (fun i => B + 1 + i) (fun i j => if i < t then N (f i).toNat j else oE)) := hG1.below (bdr _)
          have hOd := (show Hid _ from hGd.out.ov hlt2)
          have HE : Hid ((f t).toNat = x) := by show _ = _; rw [ex]; simp
          have KS := (show Hid (_ ∧ _) from ⟨cell_below g3 (bdr _), cell_below g2 (bdr _)⟩)
          have n1 : ¬ B = B + 1 + t := by omega
          have n2 : ¬ bA = B + 1 + t := by have := block_lt_of_cell (hcA x hx); simp only at this; omega
          have HB9 := (show Hid _ from hb.drew)
          clear ex hSv hRA hcA hnr hG1 hb H1
          go_wp2
          go_region_held3 (fun W => W.cell? ⟨B, t, none⟩ = some (.slice (some ⟨B + 1 + t, 0, none⟩) (cw r l) (cw r l)) ∧ W.cell? ⟨bA, oA + x, none⟩ = some (rowsA x)) (first | exact KH.out | exact KS.out | go_keep)
            (first | (refine step_copy_all rfl _ _ 69 69 rfl 73 Try.underlying69 1 (by kernel_rfl) (B + 1 + t) (cw r l) (cw r l) _ _ rfl rfl 73 _ (clE (N x)) (by omega) (by omega) hOd.out r2.out (clE_one _) ?_; intro w2 hO2 hB2; have KH := (show Hid (_ ∧ _) from ⟨hB2.cell KS.out.1 n1, hB2.cell KS.out.2 n2⟩)))
          all_goals
            go_wp2
            go_roundw
            case rel =>
              refine ⟨t + 1, by omega, by go_num, (GmE.but hGd.out hlt2 hB2 hO2).congr (fun i _ j _ => ?_), But.from HB9.out hB2 (by omega)⟩
              by_cases e : i = t
              · subst e; rw [if_pos rfl, if_pos (by omega), HE.out]
              · rw [if_neg e]
                by_cases e2 : i < t
                · rw [if_pos e2, if_pos (by omega)]
                · rw [if_neg e2, if_neg (by omega)]
            case measure => simp [intOf]; omega
        · obtain rfl : t = k := by omega
          go_wp2
          go_ret2
          have hG2 : GmE wr B t (cw r l) (fun i => B + 1 + i) (fun i j => N (f i).toNat j) := hG1.congr (fun i hi j hj => by rw [if_pos hi])
          exact ⟨_, by rw [HC.out]; rfl, by rw [HN.out]; exact GxE.nm (b := w.heap.size) ⟨B, _, rfl, hG2, hB, fun i hi => by omega⟩, hb⟩
end
theorem rowsE_any {w : World} {v1 v2 : Value} {r n : Nat} {l : Nat → Nat} {N : Nat → Nat → BitVec 8} {f : Nat → Int} (h1 : NmE w v1 r l N) (h2 : Jr w v2 n f) :
    Calls Try.prog 56 #[v1, v2] w fun e w' => ∃ v, e = .returned (.tuple #[v, .int .i64 (rc r l n f)]) ∧ NmE w' v (rn r l n f) (fun _ => cw r l) (fun i j => N (f i).toNat j) ∧ Below w.heap.size w w' := by
  obtain ⟨p, c1, e1⟩ := (show ∃ p c, v1 = .slice p r c from by obtain ⟨rows, h, _⟩ := h1; exact h.form)
  subst e1
  obtain ⟨q, c, rfl, h2⟩ := h2
  by_cases hf : fc r l = 0
  · by_cases hn : 255 < n
    · have hc : ¬ rc r l n f = 0 := by rw [rc_large f hf hn]; decide
      exact (rowsE_err p q r c1 n c l f w (NmE.lm h1) (.inr hn)).mono fun e w' ⟨he, hb⟩ => ⟨_, he, by rw [rn_err hc]; exact NmE.nil _ _ _, hb⟩
    · refine rowsE_core p q n c f r c1 l N w (by omega) hf h1 (fun h0 => ?_)
      rcases h2 with h2 | h2
      · omega
      · exact h2
  · have hc : ¬ rc r l n f = 0 := by rw [rc_fault n f hf]; exact hf
    exact (rowsE_err p q r c1 n c l f w (NmE.lm h1) (.inl hf)).mono fun e w' ⟨he, hb⟩ => ⟨_, he, by rw [rn_err hc]; exact NmE.nil _ _ _, hb⟩
section
attribute [local irreducible] Calls fc cw rc rn bad
end
theorem nrB_sv {w : World} {v : Value} {n : Nat} {f : Nat → Bool} (h : NrB w v n f) : Sv w v n (clB f) (n) := h
section
attribute [local irreducible] Calls el Ov fc cw rc rn bad NrB clB
end
section
attribute [local irreducible] Calls fc cw rc rn bad
end
theorem nrF_sv {w : World} {v : Value} {n : Nat} {f : Nat → (Bool × Bool)} (h : NrF w v n f) : Sv w v n (clF f) (n * 2) := h
section
attribute [local irreducible] Calls el Ov fc cw rc rn bad NrF clF
end
end Go.Proofs.Ytmjobnabnkiakaa
