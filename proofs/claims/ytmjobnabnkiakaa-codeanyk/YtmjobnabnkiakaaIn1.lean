/-
  'Inverse', 'Rank' over the field of 256.
-/
import Derived.Test.YtmjobnabnkiakaaWd
import Derived.Test.YtmjobnabnkiakaaRd1
namespace Go.Proofs.Ytmjobnabnkiakaa
open Go.RowKit
theorem sq_zero {r : Nat} {l : Nat → Nat} (h : sq r l = 0) : fc r l = 0 ∧ cw r l = r := by
  unfold sq at h
  by_cases h1 : fc r l = 0
  · rw [if_neg (by simp [h1])] at h
    by_cases h2 : cw r l = r
    · exact ⟨h1, h2⟩
    · rw [if_pos h2] at h; cases h
  · rw [if_pos h1] at h; exact absurd h h1
section
attribute [local irreducible] Calls fc cw sq
theorem inverse_err (p1 : Option Addr) (r c1 : Nat) (l : Nat → Nat) (w : World) (LA : Lm w (.slice p1 r c1) r l) (h : ¬ sq r l = 0) :
    Calls Try.prog 53 #[.slice p1 r c1] w fun e w' => e = .returned (.tuple #[.slice none 0 0, .int .i64 (sq r l)]) ∧ w' = w := by
  have S1 := (show Hid _ from square_any LA)
  have f5 : (sq r l != 0) = true := by simpa using h
  clear LA h
  go_enter Try.func53, Try.ntmps53
  go_wp2_with (first
    | (go_at_call 65; refine S1.out.mono ?_; rintro e w' ⟨rfl, h⟩; obtain rfl := h.symm))
  go_ret2
  exact ⟨rfl, rfl⟩
end
theorem GmE.away {w w' : World} {B r l : Nat} {ρ : Nat → Nat} {N : Nat → Nat → BitVec 8} (h : GmE w B r l ρ N) {g : Nat} (hb : But g w w') (hB : B ≠ g) (hρ : ∀ i, i < r → ρ i ≠ g) : GmE w' B r l ρ N :=
  ⟨hb.ov (Gr.out h) hB, fun i hi => hb.ov (Gr.row h i hi) (hρ i hi), Gr.ne h, Gr.inj h⟩
theorem GmE.bo {w : World} {B r l : Nat} {ρ : Nat → Nat} {N : Nat → Nat → BitVec 8} (h : GmE w B r l ρ N) : B < w.heap.size := (Gr.out h).lt
/-- The matrix with the first k ones behind it. -/
def wid (P : Nat → Nat → BitVec 8) (r : Nat) (u : BitVec 8) (k i j : Nat) : BitVec 8 := if i < k ∧ j = r + i then u else if j < r then P i j else 0#8
theorem wid_zero (P : Nat → Nat → BitVec 8) (r : Nat) (u : BitVec 8) (i j : Nat) : (if j < r then P i j else 0#8) = wid P r u 0 i j := by unfold wid; rw [if_neg (show ¬ (i < 0 ∧ j = r + i) by omega)]
theorem wid_put (P : Nat → Nat → BitVec 8) (r : Nat) (u : BitVec 8) (k i j : Nat) : (if i = k then (if j = r + k then u else wid P r u k i j) else wid P r u k i j) = wid P r u (k + 1) i j := by
  unfold wid
  by_cases e : i = k
  · subst e
    rw [if_pos rfl]
    by_cases e2 : j = r + i
    · rw [if_pos e2, if_pos ⟨by omega, e2⟩]
    · rw [if_neg e2, if_neg (show ¬ (i < i ∧ j = r + i) from fun x => e2 x.2), if_neg (show ¬ (i < i + 1 ∧ j = r + i) from fun x => e2 x.2)]
  · rw [if_neg e]
    by_cases e2 : i < k ∧ j = r + i
    · rw [if_pos e2, if_pos ⟨by omega, e2.2⟩]
    · rw [if_neg e2, if_neg (show ¬ (i < k + 1 ∧ j = r + i) by omega)]
theorem wid_left {P : Nat → Nat → BitVec 8} {r : Nat} {u : BitVec 8} {k i j : Nat} (hj : j < r) : wid P r u k i j = P i j := by unfold wid; rw [if_neg (by omega), if_pos hj]
theorem wid_right {P : Nat → Nat → BitVec 8} {r : Nat} {i j : Nat} (hi : i < r) : wid P r 1#8 r i (r + j) = dl fdE i j := by
  unfold wid dl
  by_cases e : i = j
  · rw [if_pos ⟨hi, by omega⟩, if_pos e]; rfl
  · rw [if_neg (by omega), if_neg (by omega), if_neg e]; rfl
theorem wid_all {P : Nat → Nat → BitVec 8} {r d : Nat} {u : BitVec 8} {N E F : Nat → Nat → BitVec 8} {pv : Nat → Nat} (h : Ech fdE r r d (wid P r u r) N E F pv) (hd : d = r) (hu : (u = 1#8 ∧ ∃ i j, i < r ∧ j < r ∧ P i j ≠ 0#8) ∨ (u = 0#8 ∧ ∀ i, i < r → ∀ j, j < r → P i j = 0#8)) :
    (∀ i, i < r → ∀ j, j < r → mm fdE r (fun i j => N i (r + j)) P i j = dl fdE i j) ∧ ∀ i, i < r → ∀ j, j < r → mm fdE r P (fun i j => N i (r + j)) i j = dl fdE i j := by
  subst hd
  by_cases h0 : d = 0
  · subst h0; exact ⟨fun i hi => by omega, fun i hi => by omega⟩
  · rcases hu with ⟨rfl, _⟩ | ⟨rfl, hz⟩
    · exact h.inverse (fun i _ j hj => wid_left hj) (fun i hi j _ => wid_right hi)
    · exfalso
      have h1 := h.full (i := 0) (j := 0) (by omega) (by omega)
      rw [h.req.eq 0 (by omega), show mm fdE d E (wid P d 0#8 d) 0 0 = fdE.oo from sm_oo (fun t ht => by rw [wid_left (by omega), hz t ht 0 (by omega)]; exact ti_oo _)] at h1
      exact fdE.ee_ne h1.symm
section
attribute [local irreducible] Calls el Ov GmE fc cw sq NmE clE wid
set_option maxHeartbeats 8000000 in
set_option maxRecDepth 1000000 in
theorem inverse_core (p1 : Option Addr) (r c1 : Nat) (l : Nat → Nat) (P : Nat → Nat → BitVec 8) (w : World) (f1 : Hid (sq r l = 0)) (N1 : Hid (NmE w (.slice p1 r c1) r l P)) :
    Calls Try.prog 53 #[.slice p1 r c1] w fun e w' => (∃ v X, e = .returned (.tuple #[v, .int .i64 0]) ∧ GxE w.heap.size w' v r r X ∧ (∀ i, i < r → ∀ j, j < r → mm fdE r X P i j = dl fdE i j) ∧ (∀ i, i < r → ∀ j, j < r → mm fdE r P X i j = dl fdE i j) ∧ Below w.heap.size w w') ∨ (e = .returned (.tuple #[.slice none 0 0, .int .i64 32]) ∧ (∀ X : Nat → Nat → BitVec 8, ¬ (∀ i, i < r → ∀ j, j < r → mm fdE r X P i j = dl fdE i j)) ∧ Below w.heap.size w w') := by
  have S1 := (show Hid _ from square_any (NmE.lm N1.out))
  rw [f1.out] at S1
  have f2 := (sq_zero f1.out).1
  have f3 : Hid (cw r l = r) := (sq_zero f1.out).2
  have hr : r ≤ 255 := (fc_zero f2).1
  have HL : Hid (∀ i, i < r → l i ≤ 255) := (fc_zero f2).2.1
  have HLR : Hid (∀ i, i < r → l i = r) := fun i hi => by have h3 := (fc_zero f2).2.2 i hi; have h4 := f3.out; unfold cw at h4; rw [if_neg (by omega)] at h4; omega
  have F2 : Hid (fc r l = 0) := f2
  clear f2
  go_enter Try.func53, Try.ntmps53
  go_wp2_with (first
    | (go_at_call 65; refine S1.out.mono ?_; rintro e w' ⟨rfl, h⟩; obtain rfl := h.symm)
    | (go_at_call 66; refine (unit_core p1 r c1 l P w hr HL N1).mono ?_; rintro e w1 ⟨u, rfl, hu, hb1⟩; have HU := (show Hid _ from hu); clear hu)
    | (go_at_call 67; refine (widened_core p1 r c1 r l P w1 (by omega) F2 (NmE.below N1.out hb1)).mono ?_; rintro e w2 ⟨v2, rfl, ⟨B, ρ, e2, hG2, hB, hρ⟩, hb2⟩; subst e2))
  rw [f3.out] at hG2
  have HG0 : Hid (GmE w2 B r (r + r) ρ (wid P r u 0)) := hG2.congr (fun i _ j _ => wid_zero P r u i j)
  have HB0 := (show Hid _ from bt hb1 hb2)
  have hB2 : w.heap.size ≤ B := by have := hb1.size; omega
  have Hρ : Hid (∀ i, i < r → w.heap.size ≤ ρ i) := fun i hi => by have := hρ i hi; have := hb1.size; omega
  clear hG2 hb1 hb2 hρ hB S1
  go_loopw [27] (fun i wr => ∃ k : Nat, k ≤ r ∧ i = .int .i64 k ∧ GmE wr B r (r + r) ρ (wid P r u k) ∧ Below w.heap.size w wr) (fun i _ => r - (intOf i).toNat)
  case atStart => exact ⟨0, Nat.zero_le _, rfl, HG0.out, HB0.out⟩
  case round =>
    clear HG0 HB0
    obtain ⟨k, hk, rfl, hG, hb⟩ := hrel
    by_cases hlt : k < r
    · have j1 : (k : Int) < (r : Int) := by omega
      have e1 : wrap64 ((r : Int) + (k : Int)) = ((r + k : Nat) : Int) := by unfold wrap64; omega
      have j2 : ((r + k : Nat) : Int) < ((r + r : Nat) : Int) := by omega
      have g1 := hG.out hlt
      have g2 : wr.cell? ⟨ρ k, r + k, none⟩ = some (.int .u8 (el (wid P r u k k (r + k)))) := hG.cell hlt (by omega)
      have g3 := hG.frozen hlt (r + k)
      have hGp := hG.put hlt (j := r + k) (by omega) u rfl
      have HG2 : Hid (GmE (wr.setCell ⟨ρ k, r + k, none⟩ (.int .u8 (el u))) B r (r + r) ρ (wid P r u (k + 1))) := hGp.congr (fun i _ j _ => wid_put P r u k i j)
      have HB2 := (show Hid _ from hb.setCell (Hρ.out k hlt) (p := ⟨ρ k, r + k, none⟩) (.int .u8 (el u)))
      clear hGp hG hb
      go_wp2
      go_roundw
      case rel => exact ⟨k + 1, by omega, by go_num, HG2.out, HB2.out⟩
      case measure => simp [intOf]; omega
    · obtain rfl : k = r := by omega
      have hsz := hb.size
      have HUL : Hid ((u = 1#8 ∧ ∃ i j, i < k ∧ j < k ∧ P i j ≠ 0#8) ∨ (u = 0#8 ∧ ∀ i, i < k → ∀ j, j < k → P i j = 0#8)) := by
        rcases HU.out with ⟨h1, i, j, hi, hj, hp⟩ | ⟨h1, h2⟩
        · exact .inl ⟨h1, i, j, hi, by rw [HLR.out i hi] at hj; exact hj, hp⟩
        · exact .inr ⟨h1, fun i hi j hj => h2 i hi j (by rw [HLR.out i hi]; exact hj)⟩
      have RED := (show Hid _ from reduce_core B k (k + k) k w.heap.size ρ _ wr hr (by omega) (by omega) hG hsz hB2 Hρ)
      have HB := (show Hid _ from hb)
      clear hG hb HU
      go_wp2_with (first
        | (go_at_call 68; refine RED.out.mono ?_; rintro e w3 ⟨d, ρ', N, E, F, pv, rfl, hE, hG3, hρ3, hb3⟩; rcases Nat.lt_or_ge d k with hdk | hdk))
      · go_ret2
        exact .inr ⟨rfl, fun X hX => hE.few hdk (fun i _ j hj => wid_left hj) hX, HB.out.trans hb3⟩
      · have hdk2 : d = k := by have := hE.dr; omega
        have INV := (show Hid _ from wid_all hE hdk2 HUL.out)
        have HG3 := (show Hid _ from hG3)
        have HB3 := (show Hid _ from HB.out.trans hb3)
        have s3 : w.heap.size ≤ w3.heap.size := by have := hb3.size; omega
        clear hE hG3 hb3 RED HUL hρ3
        go_wp2_with (first
          | (go_at_call 64; refine (blankxE k k (by omega) (by omega) _).mono ?_; rintro e w4 ⟨B4, rfl, hG4, hB4, hb4⟩))
        have HW4 : Hid (GmE w4 B k (k + k) ρ' N) := HG3.out.below hb4
        have HI4 : Hid (GmE w4 B4 k k (fun i => B4 + 1 + i) (fun i j => if i < 0 then N i (k + j) else 0#8)) := hG4.congr (fun i _ j _ => by rw [if_neg (by omega)]; rfl)
        have HB4 : Hid (Below w.heap.size w w4) := HB3.out.trans (hb4.mono s3)
        have b4 : B < B4 := by have := HG3.out.bo; omega
        have p4 : Hid (∀ i, i < k → ρ' i < B4) := fun i hi => by have := HG3.out.bd hi; omega
        clear HG3 HB3 hG4 hb4
        go_loopw [49] (fun i wr => ∃ t : Nat, t ≤ k ∧ i = .int .i64 t ∧ GmE wr B k (k + k) ρ' N ∧ GmE wr B4 k k (fun i => B4 + 1 + i) (fun i j => if i < t then N i (k + j) else 0#8) ∧ Below w.heap.size w wr) (fun i _ => k - (intOf i).toNat)
        case atStart => exact ⟨0, Nat.zero_le _, rfl, HW4.out, HI4.out, HB4.out⟩
        case round =>
          clear HW4 HI4 HB4
          obtain ⟨t, ht, rfl, hW, hI, hb⟩ := hrel
          by_cases hlt2 : t < k
          · have j1 : (t : Int) < (k : Int) := by omega
            have j3 : (k : Int) ≤ ((k + k : Nat) : Int) := by omega
            have j4 : (0 : Int) ≤ (k : Int) := by omega
            have j5 : (k : Int) ≤ (k : Int) + (k : Int) := by omega
            have kn : ¬ k = 0 := by omega
            have g1 := hW.out hlt2
            have g2 := hI.out hlt2
            have HWd : Hid (GmE wr.drew B k (k + k) ρ' N) := hW.below (bdr _)
            have HId : Hid (GmE wr.drew B4 k k (fun i => B4 + 1 + i) (fun i j => if i < t then N i (k + j) else 0#8)) := hI.below (bdr _)
            have HOd := (show Hid _ from HId.out.ov hlt2)
            have HSv : Hid (Sv wr.drew (.slice (some ⟨ρ' t, k, none⟩) k k) k (clE (fun j => N t (k + j))) k) := ⟨_, _, rfl, .inr ⟨_, _, rfl, fun i hi => by have h := HWd.out.cell hlt2 (j := k + i) (by omega); rw [h]; unfold clE; rfl⟩⟩
            have KS := (show Hid _ from cell_below g2 (bdr _))
            have HBd := (show Hid _ from hb.drew)
            have n1 : ¬ B4 = B4 + 1 + t := by omega
            clear hW hI hb
            go_wp2
            go_region_law (refine step_copy_all rfl _ _ 69 69 rfl 73 Try.underlying69 1 (by kernel_rfl) (B4 + 1 + t) k k _ _ rfl rfl 73 _ (clE (fun j => N t (k + j))) (by omega) (by omega) HOd.out (by first | exact HSv.out | (simp; exact HSv.out)) (clE_one _) ?_; intro w5 hO5 hB5)
            all_goals
              go_wp2
              go_roundw
              case rel =>
                refine ⟨t + 1, by omega, by go_num, HWd.out.away hB5 (by omega) (fun i hi => by have := p4.out i hi; omega), (GmE.but (f := fun j => N t (k + j)) HId.out hlt2 hB5 hO5).congr (fun i _ j _ => ?_), But.from HBd.out hB5 (by omega)⟩
                by_cases e : i = t
                · subst e; rw [if_pos rfl, if_pos (by omega)]
                · rw [if_neg e]
                  by_cases e2 : i < t
                  · rw [if_pos e2, if_pos (by omega)]
                  · rw [if_neg e2, if_neg (by omega)]
              case measure => simp [intOf]; omega
          · obtain rfl : t = k := by omega
            go_wp2
            go_ret2
            have hI2 : GmE wr B4 t t (fun i => B4 + 1 + i) (fun i j => N i (t + j)) := hI.congr (fun i hi j _ => by rw [if_pos hi])
            exact .inl ⟨_, _, rfl, ⟨B4, _, rfl, hI2, by omega, fun i hi => by omega⟩, INV.out.1, INV.out.2, hb⟩
end
end Go.Proofs.Ytmjobnabnkiakaa
