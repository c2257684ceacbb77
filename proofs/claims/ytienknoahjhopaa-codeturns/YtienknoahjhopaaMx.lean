/-
  The code's 'Matrix'; the law's 'elems', 'equal'.
-/
import Derived.Test.YtienknoahjhopaaUn
namespace Go.Proofs.Ytienknoahjhopaa
open Go.RowKit
section
attribute [local irreducible] Calls el Ov clE NmE NrE Cd
set_option maxHeartbeats 16000000 in
set_option maxRecDepth 1000000 in
theorem matrix_core {w : World} {v : Value} {k m : Nat} {F : Nat → Nat → BitVec 8} (hk : 1 ≤ k) (hkm : k + m ≤ 255) (hC : Cd w v k m F) :
    Calls Try.prog 25 #[v] w fun e w' => ∃ B ρ, e = .returned (.slice (some ⟨B, 0, none⟩) (k + m) (k + m)) ∧ Gr w' 23 5 B (k + m) k k ρ (fun i => clE (F i)) ∧ w.heap.size ≤ B ∧ Below w.heap.size w w' := by
  have NO := (show Hid _ from none_ok hC hk)
  obtain ⟨cb, pF, cF, ev, q1, q2, _, hNF⟩ := cd_open hC
  subst ev
  obtain ⟨b2, o2, rows, e2, hc2, hrw⟩ := nm_at hNF (by omega)
  subst e2
  have HC2 := (show Hid _ from hc2)
  have HRW := (show Hid _ from hrw)
  clear hc2 hrw hNF hC
  have hk2 : k ≤ 255 := by omega
  obtain ⟨r, hre⟩ : ∃ r, k + m = r := ⟨_, rfl⟩
  rw [hre] at q2 HC2 HRW hkm ⊢
  have hm1 := makeY r (by omega)
  rw [Nat.mul_one] at hm1
  have HO0 : Hid (Ov (w.alloc (.cells (Array.replicate r (.slice none 0 0)) 23)) 23 w.heap.size (fun i => if i < 0 then .slice (some ⟨0, 0, none⟩) k k else .slice none 0 0) r) := (ov_new w 23 (.slice none 0 0) r).congr (fun i _ => by rw [if_neg (by omega)])
  have HB0 : Hid (Below w.heap.size w (w.alloc (.cells (Array.replicate r (.slice none 0 0)) 23))) := (Below.refl _ _).alloc (Nat.le_refl _) _
  have HS0 : Hid (w.heap.size < (w.alloc (.cells (Array.replicate r (.slice none 0 0)) 23)).heap.size) := by show _ < _; simp
  have q2a := cell_below q2 HB0.out
  clear hre
  go_enter Try.func25, Try.ntmps25
  go_wp2_with (go_at_call 30; refine NO.out.mono ?_; rintro e w' ⟨rfl, h⟩; obtain rfl := h.symm)
  clear hm1
  have hm2 := make_bytes k (by omega)
  go_loopw [21] (fun i wr => ∃ (t : Nat) (ρ : Nat → Nat), t ≤ r ∧ i = .int .i64 t ∧ Ov wr 23 w.heap.size (fun i => if i < t then .slice (some ⟨ρ i, 0, none⟩) k k else .slice none 0 0) r ∧ Hid (∀ i, i < t → Ov wr 5 (ρ i) (clE (F i)) k) ∧ Hid (∀ i, i < t → w.heap.size < ρ i ∧ ρ i < wr.heap.size) ∧ Hid (∀ i, i < t → ∀ j, j < t → ρ i = ρ j → i = j) ∧ Hid (w.heap.size < wr.heap.size) ∧ Below w.heap.size w wr) (fun i _ => r - (intOf i).toNat)
  case atStart => exact ⟨0, fun _ => 0, Nat.zero_le _, rfl, HO0.out, fun i hi => by omega, fun i hi => by omega, fun i hi => by omega, HS0, HB0.out⟩
  case round =>
    clear HO0 HB0 HS0 q2a
    obtain ⟨t, ρ, ht, rfl, hO, hR, hP, hI, hS, hb⟩ := hrel
    by_cases hlt : t < r
    · have j1 : (t : Int) < (r : Int) := by omega
      obtain ⟨pr, cr, er, hrc⟩ := nr_un (HRW.out t hlt)
      have g0 := HC2.out t hlt
      rw [er] at g0
      have g1 := cell_below g0 hb
      have B1 := (Below.refl wr.heap.size wr).alloc (Nat.le_refl _) (.cells (Array.replicate k (.int .u8 0)) 5)
      have hO1 := hO.below B1
      have g3 := hO1.cell hlt
      have g4 := hO1.frozen t
      have hsz := hS.out
      have hsz0 := hb.size
      have B2 := (Below.refl (wr.setCell ⟨w.heap.size, t, none⟩ (.slice (some ⟨wr.heap.size, 0, none⟩) k k)).heap.size (wr.setCell ⟨w.heap.size, t, none⟩ (.slice (some ⟨wr.heap.size, 0, none⟩) k k))).alloc (Nat.le_refl _) (.cells (Array.replicate k (.int .u8 0)) 5)
      obtain ⟨X, hX⟩ : ∃ X, X = (wr.setCell ⟨w.heap.size, t, none⟩ (.slice (some ⟨wr.heap.size, 0, none⟩) k k)).alloc (.cells (Array.replicate k (.int .u8 0)) 5) := ⟨_, rfl⟩
      have HO2 : Hid (Ov X 23 w.heap.size (fun i => if i = t then .slice (some ⟨wr.heap.size, 0, none⟩) k k else if i < t then .slice (some ⟨ρ i, 0, none⟩) k k else .slice none 0 0) r) := by rw [hX]; exact (hO.set hlt (.slice (some ⟨wr.heap.size, 0, none⟩) k k)).below B2
      have HN0 : Hid (Ov X 5 wr.heap.size (fun i => if i < 0 then clE (F t) i else .int .u8 0) k) := by
        rw [hX]
        have h := ov_new (wr.setCell ⟨w.heap.size, t, none⟩ (.slice (some ⟨wr.heap.size, 0, none⟩) k k)) 5 (.int .u8 0) k
        rw [← size_set] at h
        exact h.congr (fun i _ => by rw [if_neg (by omega)])
      have HBk : Hid (Below w.heap.size w X) := by rw [hX]; exact (hb.setCell (Nat.le_refl _) _).alloc (by rw [← size_set]; exact hb.size) _
      have HRk : Hid (∀ i, i < t → Ov X 5 (ρ i) (clE (F i)) k) := fun i hi => by rw [hX]; exact ((hR.out i hi).other (p := ⟨w.heap.size, t, none⟩) (by show ρ i ≠ w.heap.size; have := (hP.out i hi).1; omega) rfl).below B2
      have gx : X.cell? ⟨w.heap.size, t, none⟩ = some (.slice (some ⟨wr.heap.size, 0, none⟩) k k) := by
        have h := HO2.out.cell hlt
        rw [if_pos rfl] at h; exact h
      have HSZ : Hid (wr.heap.size < X.heap.size) := by rw [hX]; show _ < _; simp
      obtain ⟨bf, of, ef, hcf⟩ := hrc (by omega)
      subst ef
      have HCF : Hid (∀ c, c < k → X.cell? ⟨bf, of + c, none⟩ = some (.int .u8 (el (F t c)))) := fun c hc => cell_below (hcf c hc) HBk.out
      have hbf : bf < w.heap.size := block_lt_of_cell (hcf 0 (by omega))
      have HX : Hid (X = (wr.setCell ⟨w.heap.size, t, none⟩ (.slice (some ⟨wr.heap.size, 0, none⟩) k k)).alloc (.cells (Array.replicate k (.int .u8 0)) 5)) := hX
      clear er hO hO1 hb hR B1 B2 hrc hcf hX g0
      go_wp2
      rw [← HX.out]
      clear HX
      obtain ⟨G, hG⟩ : ∃ G, wr.heap.size = G := ⟨_, rfl⟩
      rw [hG] at HO2 HN0 gx HSZ hsz hsz0 hP
      have HW0 : Hid (wr.heap.size = G) := hG
      clear hG
      rw [HW0.out]
      go_loopw [34] (fun c wq => ∃ j : Nat, j ≤ k ∧ c = .int .i64 j ∧ Ov wq 5 G (fun i => if i < j then clE (F t) i else .int .u8 0) k ∧ But G X wq) (fun c _ => k - (intOf c).toNat)
      case atStart => exact ⟨0, Nat.zero_le _, rfl, HN0.out, But.refl _ _⟩
      case round =>
        obtain ⟨j, hj, rfl, hOq, hbu⟩ := hrel
        by_cases hjk : j < k
        · have j3 : (j : Int) < (k : Int) := by omega
          have f1 := hbu.cell (HCF.out j hjk) (by show bf ≠ G; omega)
          have f2 := hbu.cell gx (by show w.heap.size ≠ G; omega)
          have f3 := hOq.cell hjk
          have f4 := hOq.frozen j
          have HP := (show Hid _ from hOq.set hjk (.int .u8 (el (F t j))))
          have HBU := (show Hid _ from hbu.set j (.int .u8 (el (F t j))))
          clear hOq hbu
          go_wp2
          go_roundw
          case rel =>
            refine ⟨j + 1, by omega, by go_num, HP.out.congr (fun i _ => ?_), HBU.out⟩
            by_cases e : i = j
            · rw [if_pos e, if_pos (by omega), e]; unfold clE; rfl
            · rw [if_neg e]
              by_cases e2 : i < j
              · rw [if_pos e2, if_pos (by omega)]
              · rw [if_neg e2, if_neg (by omega)]
          case measure => simp [intOf]; omega
        · obtain rfl : j = k := by omega
          have hsz2 := hbu.sz
          have hsz3 := HSZ.out
          go_wp2
          go_roundw
          case rel =>
            refine ⟨t + 1, fun i => if i = t then G else ρ i, by omega, by go_num, (hbu.ov HO2.out (by omega)).congr (fun i _ => ?_), fun i hi => ?_, fun i hi => ?_, fun i hi i2 hi2 => ?_, ?_, But.from HBk.out hbu (by omega)⟩
            · dsimp only
              by_cases e : i = t
              · rw [if_pos e, if_pos (by omega), if_pos e]
              · rw [if_neg e]
                by_cases e2 : i < t
                · rw [if_pos e2, if_pos (by omega), if_neg e]
                · rw [if_neg e2, if_neg (by omega)]
            · show Ov _ _ (if i = t then G else ρ i) _ _
              by_cases e : i = t
              · rw [if_pos e, e]; exact hOq.congr (fun c hc => by rw [if_pos hc])
              · rw [if_neg e]; exact hbu.ov (HRk.out i (by omega)) (by have := (hP.out i (by omega)).2; omega)
            · show w.heap.size < (if i = t then G else ρ i) ∧ (if i = t then G else ρ i) < _
              by_cases e : i = t
              · rw [if_pos e]; omega
              · rw [if_neg e]; have := hP.out i (by omega); omega
            · show (if i = t then G else ρ i) = (if i2 = t then G else ρ i2) → i = i2
              by_cases e : i = t
              · rw [if_pos e]
                by_cases e2 : i2 = t
                · intro _; omega
                · rw [if_neg e2]; have := hP.out i2 (by omega); intro; omega
              · rw [if_neg e]
                by_cases e2 : i2 = t
                · rw [if_pos e2]; have := hP.out i (by omega); intro; omega
                · rw [if_neg e2]; exact hI.out i (by omega) i2 (by omega)
            · show _ < _
              omega
          case measure => simp [intOf]; omega
    · obtain rfl : t = r := by omega
      go_wp2
      go_ret
      exact ⟨_, ρ, rfl, ⟨hO.congr (fun i hi => by rw [if_pos hi]), hR.out, fun i hi => by have := hP.out i hi; omega, hI.out⟩, Nat.le_refl _, hb⟩
end
end Go.Proofs.Ytienknoahjhopaa
