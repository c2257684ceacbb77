/-
  The document's 'Product', whatever it is asked.
-/
import Derived.Test.YtgokkppojhokbaaRq
import Derived.Test.YtgokkppojhokbaaTn
import Derived.Test.YtgokkppojhokbaaMr
import Derived.Deep.RegionHeld3
namespace Go.Proofs.Ytgokkppojhokbaa
open Go.RowKit
def tn (r1 : Nat) (l1 : Nat → Nat) (r2 : Nat) (l2 : Nat → Nat) : Nat := if tc r1 l1 r2 l2 = 0 then r1 else 0
theorem tc_a {r1 : Nat} {l1 : Nat → Nat} (r2 : Nat) (l2 : Nat → Nat) (h : ¬ fc r1 l1 = 0) : tc r1 l1 r2 l2 = fc r1 l1 := by unfold tc; rw [if_pos h]
theorem tc_b {r1 : Nat} {l1 : Nat → Nat} {r2 : Nat} {l2 : Nat → Nat} (h : fc r1 l1 = 0) (h2 : ¬ fc r2 l2 = 0) : tc r1 l1 r2 l2 = fc r2 l2 := by unfold tc; rw [if_neg (by simp [h]), if_pos h2]
theorem tc_c {r1 : Nat} {l1 : Nat → Nat} {r2 : Nat} {l2 : Nat → Nat} (h : fc r1 l1 = 0) (h2 : fc r2 l2 = 0) (h3 : ¬ cw r1 l1 = r2) : tc r1 l1 r2 l2 = 31 := by unfold tc; rw [if_neg (by simp [h]), if_neg (by simp [h2]), if_pos h3]
theorem tc_ok {r1 : Nat} {l1 : Nat → Nat} {r2 : Nat} {l2 : Nat → Nat} (h : fc r1 l1 = 0) (h2 : fc r2 l2 = 0) (h3 : cw r1 l1 = r2) : tc r1 l1 r2 l2 = 0 := by unfold tc; rw [if_neg (by simp [h]), if_neg (by simp [h2]), if_neg (by simp [h3])]
theorem tn_err {r1 : Nat} {l1 : Nat → Nat} {r2 : Nat} {l2 : Nat → Nat} (h : ¬ tc r1 l1 r2 l2 = 0) : tn r1 l1 r2 l2 = 0 := by unfold tn; rw [if_neg h]
theorem tn_ok {r1 : Nat} {l1 : Nat → Nat} {r2 : Nat} {l2 : Nat → Nat} (h : tc r1 l1 r2 l2 = 0) : tn r1 l1 r2 l2 = r1 := by unfold tn; rw [if_pos h]
theorem tn_le (r1 : Nat) (l1 : Nat → Nat) (r2 : Nat) (l2 : Nat → Nat) : tn r1 l1 r2 l2 ≤ 255 := by
  by_cases h : tc r1 l1 r2 l2 = 0
  · rw [tn_ok h]
    by_cases h1 : fc r1 l1 = 0
    · exact (fc_zero h1).1
    · rw [tc_a r2 l2 h1] at h; exact absurd h h1
  · rw [tn_err h]; omega
theorem tn_cw {r1 : Nat} {l1 : Nat → Nat} {r2 : Nat} {l2 : Nat → Nat} {i : Nat} (h : i < tn r1 l1 r2 l2) : cw r2 l2 ≤ 255 := by
  by_cases h1 : tc r1 l1 r2 l2 = 0
  · by_cases h2 : fc r1 l1 = 0
    · by_cases h3 : fc r2 l2 = 0
      · unfold cw
        by_cases e : r2 = 0
        · rw [if_pos e]; omega
        · rw [if_neg e]; exact (fc_zero h3).2.1 0 (by omega)
      · rw [tc_b h2 h3] at h1; exact absurd h1 h3
    · rw [tc_a r2 l2 h2] at h1; exact absurd h1 h2
  · rw [tn_err h1] at h; omega
section
attribute [local irreducible] Calls fc cw tc
end
end Go.Proofs.Ytgokkppojhokbaa
/-
  'Times': the program's.
-/
namespace Go.Proofs.Ytgokkppojhokbaa
open Go.RowKit
/-- How many terms of the sum stand in the row i. -/
def cnt (k t r i : Nat) : Nat := if i < k then r else if i = k then t else 0
theorem cnt_zero (r i : Nat) : cnt 0 0 r i = 0 := by unfold cnt; rw [if_neg (by omega)]; by_cases h : i = 0 <;> simp [h]
theorem cnt_next (k r i : Nat) : cnt k r r i = cnt (k + 1) 0 r i := by
  unfold cnt
  by_cases h : i < k
  · rw [if_pos h, if_pos (by omega)]
  · rw [if_neg h]
    by_cases h2 : i = k
    · rw [if_pos h2, if_pos (by omega)]
    · rw [if_neg h2, if_neg (by omega)]; by_cases h3 : i = k + 1 <;> simp [h3]
theorem cnt_at (k t r : Nat) : cnt k t r k = t := by unfold cnt; rw [if_neg (Nat.lt_irrefl k), if_pos rfl]
theorem cnt_ne {k t u r i : Nat} (h : ¬ i = k) : cnt k t r i = cnt k u r i := by unfold cnt; rw [if_neg h, if_neg h]
theorem cnt_all {r n i : Nat} (h : i < n) : cnt n 0 r i = r := by unfold cnt; rw [if_pos h]
section
attribute [local irreducible] Calls fc cw tc
set_option maxHeartbeats 2000000 in
theorem timesE_err (p1 p2 : Option Addr) (r1 r2 c1 c2 : Nat) (l1 l2 : Nat → Nat) (w : World) (LA : Lm w (.slice p1 r1 c1) r1 l1) (LB : Lm w (.slice p2 r2 c2) r2 l2) (h : ¬ tc r1 l1 r2 l2 = 0) :
    Calls Try.prog 42 #[.slice p1 r1 c1, .slice p2 r2 c2] w fun e w' => e = .returned (.tuple #[.slice none 0 0, .int .i64 (tc r1 l1 r2 l2)]) ∧ w' = w := by
  have F1 := (show Hid _ from faultE_any LA)
  have F2 := (show Hid _ from faultE_any LB)
  have C1 := (show Hid _ from fun (hr : r1 ≤ 140737488355328) => columnsE_any LA hr)
  by_cases f1 : fc r1 l1 = 0
  · rw [f1] at F1
    by_cases f2 : fc r2 l2 = 0
    · rw [f2] at F2
      have f3 : ¬ cw r1 l1 = r2 := fun f3 => h (tc_ok f1 f2 f3)
      rw [tc_c f1 f2 f3]
      have f4 : ((cw r1 l1 : Int) != (r2 : Int)) = true := by simp; omega
      have hr : r1 ≤ 140737488355328 := by have := (fc_zero f1).1; omega
      clear LA LB h
      go_enter Try.func42, Try.ntmps42
      go_wp2_with (first
        | (go_at_call 55; refine F1.out.mono ?_; rintro e w' ⟨rfl, h⟩; obtain rfl := h.symm)
        | (go_at_call 55; refine F2.out.mono ?_; rintro e w' ⟨rfl, h⟩; obtain rfl := h.symm)
        | (go_at_call 56; refine (C1.out hr).mono ?_; rintro e w' ⟨rfl, h⟩; obtain rfl := h.symm))
      go_ret2
      exact ⟨rfl, rfl⟩
    · rw [tc_b f1 f2]
      have f5 : (fc r2 l2 != 0) = true := by simpa using f2
      clear LA LB h C1
      go_enter Try.func42, Try.ntmps42
      go_wp2_with (first
        | (go_at_call 55; refine F1.out.mono ?_; rintro e w' ⟨rfl, h⟩; obtain rfl := h.symm)
        | (go_at_call 55; refine F2.out.mono ?_; rintro e w' ⟨rfl, h⟩; obtain rfl := h.symm))
      go_ret2
      exact ⟨rfl, rfl⟩
  · rw [tc_a r2 l2 f1]
    have f5 : (fc r1 l1 != 0) = true := by simpa using f1
    clear LA LB h C1 F2
    go_enter Try.func42, Try.ntmps42
    go_wp2_with (first
      | (go_at_call 55; refine F1.out.mono ?_; rintro e w' ⟨rfl, h⟩; obtain rfl := h.symm))
    go_ret2
    exact ⟨rfl, rfl⟩
end
theorem nrE_un {w : World} {v : Value} {n : Nat} {f : Nat → BitVec 8} (h : NrE w v n f) : ∃ p c, v = .slice p n c ∧ (0 < n → ∃ b o, p = some ⟨b, o, none⟩ ∧ ∀ i, i < (n) → w.cell? ⟨b, o + i, none⟩ = some (clE f i)) := by
  obtain ⟨p, c, e, h⟩ := h
  refine ⟨p, c, e, fun h0 => ?_⟩
  rcases h with h | h
  · omega
  · exact h
section
attribute [local irreducible] Calls el Ov GmE fc cw tc tn NrE clE skk cnt
set_option maxHeartbeats 8000000 in
set_option maxRecDepth 1000000 in
theorem timesE_core (p1 p2 : Option Addr) (r1 r2 m c1 c2 : Nat) (l1 l2 : Nat → Nat) (P Q : Nat → Nat → BitVec 8) (w : World) (N1 : Hid (NmE w (.slice p1 r1 c1) r1 l1 P)) (N2 : Hid (NmE w (.slice p2 r2 c2) r2 l2 Q)) (f1 : Hid (fc r1 l1 = 0)) (f2 : Hid (fc r2 l2 = 0)) (fm : Hid (cw r1 l1 = r2)) (hm : Hid (cw r2 l2 = m)) :
    Calls Try.prog 42 #[.slice p1 r1 c1, .slice p2 r2 c2] w fun e w' => ∃ v, e = .returned (.tuple #[v, .int .i64 0]) ∧ GxE w.heap.size w' v r1 m (fun i j => skk plE oE (fun t => tiE (P i t) (Q t j)) r2) ∧ Below w.heap.size w w' := by
  have F1 := (show Hid _ from faultE_any (NmE.lm N1.out))
  rw [f1.out] at F1
  have F2 := (show Hid _ from faultE_any (NmE.lm N2.out))
  rw [f2.out] at F2
  have hr1 : r1 ≤ 255 := (fc_zero f1.out).1
  have hr2 : r2 ≤ 255 := (fc_zero f2.out).1
  have C1 := (show Hid _ from columnsE_any (NmE.lm N1.out) (by omega))
  rw [fm.out] at C1
  have C2 := (show Hid _ from columnsE_any (NmE.lm N2.out) (by omega))
  rw [hm.out] at C2
  have hm255 : m ≤ 255 := by
    have h3 := (fc_zero f2.out).2.1
    have h4 := hm.out
    unfold cw at h4
    by_cases e : r2 = 0
    · rw [if_pos e] at h4; omega
    · rw [if_neg e] at h4
      have := h3 0 (by omega); omega
  have HL1 : Hid (∀ i, i < r1 → l1 i = r2) := fun i hi => by
    have h3 := (fc_zero f1.out).2.2 i hi
    have h4 := fm.out
    unfold cw at h4
    rw [if_neg (by omega)] at h4
    omega
  have HL2 : Hid (∀ i, i < r2 → l2 i = m) := fun i hi => by
    have h3 := (fc_zero f2.out).2.2 i hi
    have h4 := hm.out
    unfold cw at h4
    rw [if_neg (by omega)] at h4
    omega
  go_enter Try.func42, Try.ntmps42
  go_wp2_with (first
    | (go_at_call 55; refine F1.out.mono ?_; rintro e w' ⟨rfl, h⟩; obtain rfl := h.symm)
    | (go_at_call 55; refine F2.out.mono ?_; rintro e w' ⟨rfl, h⟩; obtain rfl := h.symm)
    | (go_at_call 56; refine C1.out.mono ?_; rintro e w' ⟨rfl, h⟩; obtain rfl := h.symm)
    | (go_at_call 56; refine C2.out.mono ?_; rintro e w' ⟨rfl, h⟩; obtain rfl := h.symm)
    | (go_at_call 50; refine (blankxE r1 m (by omega) (by omega) _).mono ?_; rintro e w1 ⟨B, rfl, hG1, hB, hb⟩))
  have hG0 : GmE w1 B r1 m (fun i => B + 1 + i) (fun i j => skk plE oE (fun t => tiE (P i t) (Q t j)) (cnt 0 0 r2 i)) := hG1.congr (fun i _ j _ => by rw [cnt_zero, skk_zero])
  have HG0 := (show Hid _ from hG0)
  have HB0 := (show Hid _ from hb)
  clear hG1 hG0 hb F1 F2 C1 C2
  go_loopw [35] (fun i wr => ∃ k : Nat, k ≤ r1 ∧ i = .int .i64 k ∧ GmE wr B r1 m (fun i => B + 1 + i) (fun i j => skk plE oE (fun t => tiE (P i t) (Q t j)) (cnt k 0 r2 i)) ∧ Below w.heap.size w wr) (fun i _ => r1 - (intOf i).toNat)
  case atStart => exact ⟨0, Nat.zero_le _, rfl, HG0.out, HB0.out⟩
  case round =>
    clear HG0 HB0
    obtain ⟨k, hk, rfl, hG1, hb⟩ := hrel
    by_cases hlt : k < r1
    · have j1 : (k : Int) < (r1 : Int) := by omega
      obtain ⟨rowsA, hSv, hRA⟩ := N1.out
      obtain ⟨bA, oA, cA, eA, hcA⟩ := hSv.cells (by omega)
      injection eA with eA _ eA2
      subst eA eA2
      obtain ⟨pr, cr, er, hra⟩ := nrE_un (hRA k hlt)
      rw [HL1.out k hlt] at er hra
      have g0 := hcA k hlt
      rw [er] at g0
      have g1 := cell_below g0 hb
      have HRA := (show Hid _ from hra)
      have HG1 := (show Hid _ from hG1)
      have HB1 := (show Hid _ from hb)
      clear hSv hRA hcA er hra g0 hG1 hb
      go_wp2
      clear g1
      go_loopw [42] (fun i wq => ∃ t : Nat, t ≤ r2 ∧ i = .int .i64 t ∧ GmE wq B r1 m (fun i => B + 1 + i) (fun i j => skk plE oE (fun t => tiE (P i t) (Q t j)) (cnt k t r2 i)) ∧ Below w.heap.size w wq) (fun i _ => r2 - (intOf i).toNat)
      case atStart => exact ⟨0, Nat.zero_le _, rfl, HG1.out, HB1.out⟩
      case round =>
        clear HG1 HB1
        obtain ⟨t, ht, rfl, hG1, hb⟩ := hrel
        by_cases hltt : t < r2
        · have j2 : (t : Int) < (r2 : Int) := by omega
          obtain ⟨pa, oa, ep, hca⟩ := HRA.out (by omega)
          subst ep
          obtain ⟨rowsB, hSvB, hRB⟩ := N2.out
          obtain ⟨bZ, oZ, cB, eB, hcB⟩ := hSvB.cells (by omega)
          injection eB with eB _ eB2
          subst eB eB2
          have b0 := hcB t hltt
          have n2 : ¬ bZ = B + 1 + k := by have := block_lt_of_cell b0; simp only at this; omega
          have n1 : ¬ B = B + 1 + k := by omega
          have nrB := hRB t hltt
          rw [HL2.out t hltt] at nrB
          have NRB := (show Hid _ from nrB)
          have ga : wr.cell? ⟨pa, oa + t, none⟩ = some (.int .u8 (el (P k t))) := by have h := cell_below (hca t hltt) hb; unfold clE at h; exact h
          have hG2 := (show Hid _ from hG1)
          have hb2 := (show Hid _ from hb)
          clear hSvB hRB hcB hca nrB hG1 hb
          go_wp2
          clear ga
          have hGd : Hid (GmE wr.drew B r1 m (fun i => B + 1 + i) (fun i j => skk plE oE (fun t => tiE (P i t) (Q t j)) (cnt k t r2 i))) := hG2.out.below (bdr _)
          have hbd := (show Hid _ from hb2.out.drew)
          have hOd := (show Hid _ from hGd.out.ov hlt)
          have KS := (show Hid (_ ∧ _) from ⟨hGd.out.out hlt, cell_below b0 hbd.out⟩)
          clear b0 hG2 hb2
          go_region_held3 (fun W => W.cell? ⟨B, k, none⟩ = some (.slice (some ⟨B + 1 + k, 0, none⟩) m m) ∧ W.cell? ⟨bZ, oZ + t, none⟩ = some (rowsB t)) (first | exact KH.out | exact KS.out | go_keep)
            (first | (go_at_call 57; refine (addMulE_all (w0 := w) (x := P k t) (d := Q t) (by omega) (Nat.le_refl _) hOd.out NRB.out (by omega) hbd.out).mono ?_; rintro e w4 ⟨rfl, hO4, hB4⟩; have KH := (show Hid (_ ∧ _) from ⟨hB4.cell KS.out.1 n1, hB4.cell KS.out.2 n2⟩)))
          all_goals
            go_wp2
            go_roundw
            case rel =>
              refine ⟨t + 1, by omega, by go_num, (GmE.but hGd.out hlt hB4 hO4).congr (fun i _ j _ => ?_), But.from hbd.out hB4 (by omega)⟩
              by_cases e : i = k
              · subst e; rw [if_pos rfl, cnt_at, cnt_at, skk_succ]
              · rw [if_neg e, cnt_ne e]
            case measure => simp [intOf]; omega
        · obtain rfl : t = r2 := by omega
          have hG2 : GmE wr B r1 m (fun i => B + 1 + i) (fun i j => skk plE oE (fun u => tiE (P i u) (Q u j)) (cnt (k + 1) 0 t i)) := hG1.congr (fun i _ j _ => by rw [cnt_next])
          go_wp2
          exact ⟨⟨k + 1, by omega, by go_num, hG2, hb⟩, by simp [intOf]; omega⟩
    · obtain rfl : k = r1 := by omega
      go_wp2
      go_ret2
      have hG2 : GmE wr B k m (fun i => B + 1 + i) (fun i j => skk plE oE (fun t => tiE (P i t) (Q t j)) r2) := hG1.congr (fun i hi j hj => by rw [cnt_all hi])
      exact ⟨_, rfl, ⟨B, _, rfl, hG2, hB, fun i hi => by omega⟩, hb⟩
end
theorem timesE_new {w : World} {v1 v2 : Value} {r1 r2 : Nat} {l1 l2 : Nat → Nat} {P Q : Nat → Nat → BitVec 8} (h1 : NmE w v1 r1 l1 P) (h2 : NmE w v2 r2 l2 Q) (hc : tc r1 l1 r2 l2 = 0) :
    Calls Try.prog 42 #[v1, v2] w fun e w' => ∃ v, e = .returned (.tuple #[v, .int .i64 0]) ∧ GxE w.heap.size w' v r1 (cw r2 l2) (fun i j => skk plE oE (fun t => tiE (P i t) (Q t j)) r2) ∧ Below w.heap.size w w' := by
  obtain ⟨p1, c1, e1⟩ := (show ∃ p c, v1 = .slice p r1 c from by obtain ⟨rows, h, _⟩ := h1; exact h.form)
  subst e1
  obtain ⟨p2, c2, e2⟩ := (show ∃ p c, v2 = .slice p r2 c from by obtain ⟨rows, h, _⟩ := h2; exact h.form)
  subst e2
  have f1 : fc r1 l1 = 0 := by
    by_cases h : fc r1 l1 = 0
    · exact h
    · rw [tc_a r2 l2 h] at hc; exact absurd hc h
  have f2 : fc r2 l2 = 0 := by
    by_cases h : fc r2 l2 = 0
    · exact h
    · rw [tc_b f1 h] at hc; exact absurd hc h
  have f3 : cw r1 l1 = r2 := by
    by_cases h : cw r1 l1 = r2
    · exact h
    · rw [tc_c f1 f2 h] at hc; cases hc
  exact timesE_core p1 p2 r1 r2 (cw r2 l2) c1 c2 l1 l2 P Q w h1 h2 f1 f2 f3 rfl
theorem timesE_any {w : World} {v1 v2 : Value} {r1 r2 : Nat} {l1 l2 : Nat → Nat} {P Q : Nat → Nat → BitVec 8} (h1 : NmE w v1 r1 l1 P) (h2 : NmE w v2 r2 l2 Q) :
    Calls Try.prog 42 #[v1, v2] w fun e w' => ∃ v, e = .returned (.tuple #[v, .int .i64 (tc r1 l1 r2 l2)]) ∧ NmE w' v (tn r1 l1 r2 l2) (fun _ => cw r2 l2) (fun i j => skk plE oE (fun t => tiE (P i t) (Q t j)) r2) ∧ Below w.heap.size w w' := by
  by_cases hc : tc r1 l1 r2 l2 = 0
  · rw [hc, tn_ok hc]
    exact (timesE_new h1 h2 hc).mono fun e w' ⟨v, he, hg, hb⟩ => ⟨v, he, GxE.nm hg, hb⟩
  · obtain ⟨p1, c1, e1⟩ := (show ∃ p c, v1 = .slice p r1 c from by obtain ⟨rows, h, _⟩ := h1; exact h.form)
    subst e1
    obtain ⟨p2, c2, e2⟩ := (show ∃ p c, v2 = .slice p r2 c from by obtain ⟨rows, h, _⟩ := h2; exact h.form)
    subst e2
    exact (timesE_err p1 p2 r1 r2 c1 c2 l1 l2 w (NmE.lm h1) (NmE.lm h2) hc).mono fun e w' ⟨he, hw⟩ => ⟨_, he, by rw [tn_err hc]; exact NmE.nil _ _ _, by rw [hw]; exact Below.refl _ _⟩
section
attribute [local irreducible] Calls fc cw tc
end
theorem nrB_un {w : World} {v : Value} {n : Nat} {f : Nat → Bool} (h : NrB w v n f) : ∃ p c, v = .slice p n c ∧ (0 < n → ∃ b o, p = some ⟨b, o, none⟩ ∧ ∀ i, i < (n) → w.cell? ⟨b, o + i, none⟩ = some (clB f i)) := by
  obtain ⟨p, c, e, h⟩ := h
  refine ⟨p, c, e, fun h0 => ?_⟩
  rcases h with h | h
  · omega
  · exact h
section
attribute [local irreducible] Calls el Ov fc cw tc tn NrB clB skk cnt
end
section
attribute [local irreducible] Calls fc cw tc
end
theorem nrF_un {w : World} {v : Value} {n : Nat} {f : Nat → (Bool × Bool)} (h : NrF w v n f) : ∃ p c, v = .slice p n c ∧ (0 < n → ∃ b o, p = some ⟨b, o, none⟩ ∧ ∀ i, i < (n * 2) → w.cell? ⟨b, o + i, none⟩ = some (clF f i)) := by
  obtain ⟨p, c, e, h⟩ := h
  refine ⟨p, c, e, fun h0 => ?_⟩
  rcases h with h | h
  · omega
  · exact h
section
attribute [local irreducible] Calls el Ov fc cw tc tn NrF clF skk cnt
end
end Go.Proofs.Ytgokkppojhokbaa
