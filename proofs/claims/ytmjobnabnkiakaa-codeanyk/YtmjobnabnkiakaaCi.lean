/-
  'data', 'Rebuild'.
-/
import Derived.Test.YtmjobnabnkiakaaCh
namespace Go.Proofs.Ytmjobnabnkiakaa
open Go.RowKit
theorem rows_fac {w : World} {v vP : Value} {k m : Nat} {F : Nat → Nat → BitVec 8} {pl : Nat → Nat} (hkm : k + m ≤ 255) (hm : 1 ≤ m) (h : NmE w v (k + m) (fun _ => k) F) (hP : Jr w vP k (fun j => (pl j : Nat))) (hp : ∀ i, i < k → pl i < k + m) :
    Calls Try.prog 56 #[v, vP] w fun e w' => ∃ v', e = .returned (.tuple #[v', .int .i64 0]) ∧ NmE w' v' k (fun _ => k) (fun i j => F (pl i) j) ∧ Below w.heap.size w w' := by
  have hf : fc (k + m) (fun _ => k) = 0 := fc_ok (by omega) (fun _ _ => by omega) (fun _ _ => rfl)
  have hc : rc (k + m) (fun _ => k) k (fun j => ((pl j : Nat) : Int)) = 0 := rc_ok hf (by omega) (fun i hi => by
    have := hp i hi
    unfold bad
    have e1 : decide (((pl i : Nat) : Int) < 0) = false := by simp
    have e2 : decide (((k + m : Nat) : Int) ≤ ((pl i : Nat) : Int)) = false := by simp; omega
    rw [e1, e2]; rfl)
  have hw : cw (k + m) (fun _ => k) = k := by unfold cw; rw [if_neg (by omega)]
  have h2 := rowsE_any h hP
  rw [hc, rn_ok hc, hw] at h2
  exact h2
theorem sv_row {w : World} {B r l : Nat} {ρ : Nat → Nat} {N : Nat → Nat → BitVec 8} (h : GmE w B r l ρ N) {i : Nat} (hi : i < r) : NrE w (.slice (some ⟨ρ i, 0, none⟩) l l) l (N i) := St.sv ((Gr.row h i hi).st l l)
section
attribute [local irreducible] Calls el Ov clE NmE NrE GmE Cd Fac mm skk tiE plE Jr
set_option maxHeartbeats 8000000 in
set_option maxRecDepth 1000000 in
theorem data_core {k m n q cP cT : Nat} {pP pT : Option Addr} {v : Value} {pl : Nat → Nat} {F T : Nat → Nat → BitVec 8} {w : World} (hk : 1 ≤ k) (hm : 1 ≤ m) (hkm : k + m ≤ 255) (hn : n ≤ 140737488355328) (hq : k ≤ q) (hq2 : q ≤ 255) (hC : Hid (Cd w v k m F)) (hF : Hid (Fac k F)) (hP : Hid (Jr w (.slice pP k cP) k (fun j => (pl j : Nat)))) (hp : Hid (∀ i, i < k → pl i < k + m)) (hi : Hid (∀ i, i < k → ∀ j, j < k → i ≠ j → pl i ≠ pl j)) (hT : Hid (NmE w (.slice pT q cT) q (fun _ => n) T)) :
    Calls Try.prog 40 #[v, .slice pP k cP, .slice pT q cT] w fun e w' => ∃ B ρ Z, e = .returned (.slice (some ⟨B, 0, none⟩) k k) ∧ Gr w' 37 5 B k n n ρ (fun j => clE (fun c => skk plE oE (fun t => tiE (Z j t) (T t c)) k)) ∧ (∀ i, i < k → ∀ j, j < k → mm fdE k Z (fun i j => F (pl i) j) i j = dl fdE i j) ∧ Below w.heap.size w w' := by
  obtain ⟨cb, pF, cF, ev, c1, c2, hcap, hNF⟩ := cd_open hC.out
  subst ev
  have hmk := makeY k (by omega)
  rw [Nat.mul_one] at hmk
  have RF := (show Hid _ from rows_fac hkm hm hNF hP.out hp.out)
  have HS := (show Hid _ from hF.out.has (p := pl) (fun i hi => by have := hp.out i hi; omega) hi.out)
  clear hNF
  go_enter Try.func40, Try.ntmps40
  go_wp2_with (first
    | (go_at_call 56; refine RF.out.mono ?_; rintro e w1 ⟨v1, rfl, hN1, hb1⟩; have c11 := cell_below c1 hb1)
    | (go_at_call 53; refine (inverse_ok hN1 (sq_con (by omega)) HS.out).mono ?_; rintro e w2 ⟨v2, Z, rfl, ⟨B2, ρ2, e2, hG2, hB2, hρ2⟩, hz1, hz2, hb2⟩; subst e2; have c12 := cell_below c11 hb2))
  have HG2 := (show Hid _ from hG2)
  have HZ1 := (show Hid _ from hz1)
  have HB2 := (show Hid _ from bt hb1 hb2)
  have HO0 : Hid (Ov (w2.alloc (.cells (Array.replicate k (.slice none 0 0)) 37)) 37 w2.heap.size (fun i => if i < 0 then .slice (some ⟨0, 0, none⟩) n n else .slice none 0 0) k) := (ov_new w2 37 (.slice none 0 0) k).congr (fun i _ => by rw [if_neg (by omega)])
  have HB0 : Hid (Below w2.heap.size w2 (w2.alloc (.cells (Array.replicate k (.slice none 0 0)) 37))) := (Below.refl _ _).alloc (Nat.le_refl _) _
  have HS0 : Hid (w2.heap.size < (w2.alloc (.cells (Array.replicate k (.slice none 0 0)) 37)).heap.size) := by show _ < _; simp
  clear hmk hG2 hz1 hz2 hb1 hb2 c1 c2 c11 c12 hN1 RF HS
  go_loopw [35] (fun i wr => ∃ (t : Nat) (ρ : Nat → Nat), t ≤ k ∧ i = .int .i64 t ∧ Ov wr 37 w2.heap.size (fun i => if i < t then .slice (some ⟨ρ i, 0, none⟩) n n else .slice none 0 0) k ∧ Hid (∀ i, i < t → Ov wr 5 (ρ i) (clE (fun c => skk plE oE (fun s => tiE (Z i s) (T s c)) k)) n) ∧ Hid (∀ i, i < t → w2.heap.size < ρ i ∧ ρ i < wr.heap.size) ∧ Hid (∀ i, i < t → ∀ j, j < t → ρ i = ρ j → i = j) ∧ Hid (w2.heap.size < wr.heap.size) ∧ Below w2.heap.size w2 wr) (fun i _ => k - (intOf i).toNat)
  case atStart => exact ⟨0, fun _ => 0, Nat.zero_le _, rfl, HO0.out, fun i hi => by omega, fun i hi => by omega, fun i hi => by omega, HS0, HB0.out⟩
  case round =>
    clear HO0 HB0 HS0
    obtain ⟨t, ρ, ht, rfl, hO, hR, hP2, hI, hS, hb⟩ := hrel
    by_cases hlt : t < k
    · have j1 : (t : Int) < (k : Int) := by omega
      have g1 := cell_below (HG2.out.out hlt) hb
      have SU := (show Hid _ from codeSum_core (some ⟨ρ2 t, 0, none⟩) pT k k q cT n (Z t) T wr hq (by omega) (by omega) hn (fun _ => ⟨_, _, rfl, fun i hi => by have h := cell_below (GmE.cell HG2.out hlt hi) hb; rw [Nat.zero_add]; exact h⟩) (NmE.below hT.out (bt HB2.out hb)))
      have hsz := hS.out
      have HO := (show Hid _ from hO)
      have HB := (show Hid _ from hb)
      clear hO hb
      go_wp2_with (go_at_call 42; refine SU.out.mono ?_; rintro e w3 ⟨g, rfl, hO3, hg3, hb3⟩; have hO1 := Ov.below HO.out hb3; have g3 := Ov.cell hO1 hlt; have g4 := Ov.frozen hO1 t)
      have hs3 := hb3.size
      have glt := hO3.lt
      go_roundw
      case rel =>
        refine ⟨t + 1, fun i => if i = t then g else ρ i, by omega, by go_num, (hO1.set hlt (.slice (some ⟨g, 0, none⟩) n n)).congr (fun i _ => ?_), fun i hi => ?_, fun i hi => ?_, fun i hi j hj => ?_, ?_, (bt HB.out hb3).setCell (Nat.le_refl _) _⟩
        · dsimp only
          by_cases e : i = t
          · rw [if_pos e, if_pos (by omega), if_pos e]
          · rw [if_neg e]
            by_cases e2 : i < t
            · rw [if_pos e2, if_pos (by omega), if_neg e]
            · rw [if_neg e2, if_neg (by omega)]
        · show Ov _ _ (if i = t then g else ρ i) _ _
          by_cases e : i = t
          · subst e; rw [if_pos rfl]; exact hO3.other (p := ⟨w2.heap.size, i, none⟩) (by show g ≠ w2.heap.size; omega) rfl
          · rw [if_neg e]; exact ((hR.out i (by omega)).below hb3).other (p := ⟨w2.heap.size, t, none⟩) (by show ρ i ≠ w2.heap.size; have := (hP2.out i (by omega)).1; omega) rfl
        · show w2.heap.size < (if i = t then g else ρ i) ∧ (if i = t then g else ρ i) < _
          rw [← size_set]
          by_cases e : i = t
          · rw [if_pos e]; omega
          · rw [if_neg e]; have := hP2.out i (by omega); omega
        · show (if i = t then g else ρ i) = (if j = t then g else ρ j) → i = j
          by_cases e : i = t
          · rw [if_pos e]
            by_cases e2 : j = t
            · intro _; omega
            · rw [if_neg e2]; have := hP2.out j (by omega); intro; omega
          · rw [if_neg e]
            by_cases e2 : j = t
            · rw [if_pos e2]; have := hP2.out i (by omega); intro; omega
            · rw [if_neg e2]; exact hI.out i (by omega) j (by omega)
        · show _ < _
          rw [← size_set]; omega
      case measure => simp [intOf]; omega
    · obtain rfl : t = k := by omega
      go_wp2
      go_ret
      exact ⟨_, ρ, Z, rfl, ⟨hO.congr (fun i hi => by rw [if_pos hi]), hR.out, fun i hi => by have := hP2.out i hi; omega, hI.out⟩, HZ1.out, bt HB2.out hb⟩
end
end Go.Proofs.Ytmjobnabnkiakaa
