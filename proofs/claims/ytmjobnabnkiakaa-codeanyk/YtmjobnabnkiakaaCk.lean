/-
  Rows as strings; 'Check'; 'same'.
-/
import Derived.Test.YtmjobnabnkiakaaCj
import Derived.Laws.IdiomStrings
import Derived.Deep.RegionHeld3
namespace Go.Proofs.Ytmjobnabnkiakaa
open Go.RowKit
/-- The row as a string's bytes. -/
def bys (f : Nat → BitVec 8) (n : Nat) : List UInt8 := (List.range n).map (fun i => UInt8.ofNat (f i).toNat)
def str (f : Nat → BitVec 8) (n : Nat) : ByteArray := ⟨(bys f n).toArray⟩
theorem bys_len (f : Nat → BitVec 8) (n : Nat) : (bys f n).length = n := by simp [bys]
theorem bys_at (f : Nat → BitVec 8) (n j : Nat) (hj : j < (bys f n).length) : ((bys f n)[j].toNat : Int) = el (f j) := by
  have e : (bys f n)[j] = UInt8.ofNat (f j).toNat := by simp [bys]
  have := (f j).isLt
  rw [e]
  unfold el
  simp
theorem str_congr {f g : Nat → BitVec 8} {n : Nat} (h : ∀ i, i < n → f i = g i) : str f n = str g n := by
  unfold str bys
  congr 2
  exact List.map_congr_left (fun i hi => by rw [h i (List.mem_range.1 hi)])
theorem und5 : Try.prog.underlying 5 = some (.int .u8) := Try.underlying5
theorem undS : Try.prog.underlying 9 = some .string := Try.underlying9
theorem conv_row {w : World} {v : Value} {n : Nat} {f : Nat → BitVec 8} (h : NrE w v n f) : (convert 37 9 v).run Try.prog w = .ok (.string (str f n)) w := by
  obtain ⟨p, c, rfl, h2⟩ := nr_un h
  clear h
  cases p with
  | none =>
    have h0 : n = 0 := by
      rcases Nat.eq_zero_or_pos n with h1 | h1
      · exact h1
      · obtain ⟨b, o, e, _⟩ := h2 h1; cases e
    subst h0
    rw [run_convert_bytes_string w 37 9 5 none 0 c Try.underlying37 und5 undS]
    simp [Conv.bytesToString, str, bys]
    first | rfl | skip
  | some a =>
    have hb : ∀ j (hj : j < (bys f n).length), w.cell? (a.add j) = some (.int .u8 ((bys f n)[j].toNat : Int)) := fun j hj => by
      have hjn : j < n := by rw [bys_len] at hj; exact hj
      obtain ⟨b, o, e, hc⟩ := h2 (by omega)
      injection e with e
      subst e
      rw [add_pl, hc j hjn, bys_at]
    have := run_convert_bytes_back (P := Try.prog) w 37 9 5 a c (bys f n) Try.underlying37 und5 undS hb
    rw [bys_len] at this
    exact this
section
attribute [local irreducible] Calls NrE str
set_option maxHeartbeats 4000000 in
set_option maxRecDepth 1000000 in
theorem equal_ok {w : World} {v1 v2 : Value} {n : Nat} {f : Nat → BitVec 8} (h1 : NrE w v1 n f) (h2 : NrE w v2 n f) : Calls Try.prog 41 #[v1, v2] w fun e w' => e = .returned (.bool true) ∧ w' = w := by
  have e1 := conv_row h1
  have e2 := conv_row h2
  clear h1 h2
  go_enter Try.func41, Try.ntmps41
  go_wp2
  go_ret
  exact ⟨rfl, rfl⟩
end
theorem nr_congr {w : World} {v : Value} {n : Nat} {f g : Nat → BitVec 8} (h : NrE w v n f) (e : ∀ i, i < n → f i = g i) : NrE w v n g := Sv.congr h (fun j hj => by unfold clE; rw [e j hj])
theorem ov_nr {w : World} {t : TypeId} {g n : Nat} {f : Nat → BitVec 8} (h : Ov w t g (clE f) n) : NrE w (.slice (some ⟨g, 0, none⟩) n n) n f := St.sv (h.st n n)
section
attribute [local irreducible] Calls el Ov clE NmE NrE Cd Fac mm skk tiE plE
set_option maxHeartbeats 8000000 in
set_option maxRecDepth 1000000 in
theorem check_core {w : World} {v vW : Value} {k m n : Nat} {F W : Nat → Nat → BitVec 8} (hk : 1 ≤ k) (hm : 1 ≤ m) (hkm : k + m ≤ 255) (hn : n ≤ 140737488355328) (hC : Hid (Cd w v k m F)) (hN : Hid (NmE w vW (k + m) (fun _ => n) W)) (hW : Hid (∀ i, k ≤ i → i < k + m → ∀ c, c < n → W i c = skk plE oE (fun j => tiE (F i j) (W j c)) k)) :
    Calls Try.prog 13 #[v, vW] w fun e w' => e = .returned (.tuple #[.bool true, .int .i64 0]) ∧ Below w.heap.size w w' := by
  obtain ⟨cb, pF, cF, ev, c1, c2, _, hNF⟩ := cd_open hC.out
  subst ev
  obtain ⟨bF, oF, rowsF, e2, hcF, hrF⟩ := nm_at hNF (by omega)
  subst e2
  obtain ⟨pW, cW, eW⟩ := nmE_form hN.out
  subst eW
  obtain ⟨bW, oW, rowsW, e3, hcW, hrW⟩ := nm_at hN.out (by omega)
  subst e3
  have HCF : Hid (∀ i, i < k + m → w.cell? ⟨bF, oF + i, none⟩ = some (rowsF i)) := hcF
  have HRF : Hid (∀ i, i < k + m → NrE w (rowsF i) k (F i)) := hrF
  have HCW : Hid (∀ i, i < k + m → w.cell? ⟨bW, oW + i, none⟩ = some (rowsW i)) := hcW
  have HRW : Hid (∀ i, i < k + m → NrE w (rowsW i) n (W i)) := hrW
  have NO := (show Hid _ from none_ok hC.out hk)
  have FO := (show Hid _ from fault_ok (some ⟨bW, oW, none⟩) (k + m) cW n w (by omega) (NmE.lm hN.out))
  rw [Int.natCast_add] at FO
  clear hNF hcF hrF hcW hrW
  go_enter Try.func13, Try.ntmps13
  go_wp2_with (first
    | (go_at_call 34; refine NO.out.mono ?_; rintro e w' ⟨rfl, h⟩; obtain rfl := h.symm)
    | (go_at_call 35; refine FO.out.mono ?_; rintro e w' ⟨rfl, h⟩; obtain rfl := h.symm))
  go_loopw [7] (fun i wr => ∃ t : Nat, k ≤ t ∧ t ≤ k + m ∧ i = .int .i64 t ∧ Below w.heap.size w wr) (fun i _ => k + m - (intOf i).toNat)
  case atStart => exact ⟨k, Nat.le_refl _, by omega, rfl, Below.refl _ _⟩
  case round =>
    obtain ⟨t, hkt, ht, rfl, hb⟩ := hrel
    by_cases hlt : t < k + m
    · have j1 : (t : Int) < (k : Int) + (m : Int) := by omega
      have hbd := (show Hid _ from hb.drew)
      obtain ⟨pr, cr, er, hra⟩ := nr_un (HRF.out t hlt)
      have f0 := HCF.out t hlt
      rw [er] at f0
      have g1 := cell_below (HCW.out t hlt) hb
      have g2 := cell_below c2 hb
      have g3 := cell_below f0 hb
      have KS := (show Hid (_ ∧ _ ∧ _) from ⟨cell_below (HCW.out t hlt) hbd.out, cell_below c2 hbd.out, cell_below f0 hbd.out⟩)
      have SU := (show Hid _ from codeSum_core pr (some ⟨bW, oW, none⟩) k cr (k + m) cW n (F t) W wr.drew (by omega) (by omega) (by omega) hn (fun h0 => by obtain ⟨b, o, e, h⟩ := hra h0; exact ⟨b, o, e, fun i hi => cell_below (h i hi) hbd.out⟩) (NmE.below hN.out hbd.out))
      have HRT := (show Hid _ from NrE.below (HRW.out t hlt) hbd.out)
      have HWT : Hid (∀ c, c < n → W t c = skk plE oE (fun j => tiE (F t j) (W j c)) k) := fun c hc => hW.out t hkt hlt c hc
      clear er hra hb
      go_wp2
      go_region_held3 (fun X => X.cell? ⟨bW, oW + t, none⟩ = some (rowsW t) ∧ X.cell? ⟨cb, 1, none⟩ = some (.slice (some ⟨bF, oF, none⟩) (k + m) cF) ∧ X.cell? ⟨bF, oF + t, none⟩ = some (.slice pr k cr)) (first | exact KH.out | exact KS.out | go_keep)
        (first
        | (go_at_call 42; refine SU.out.mono ?_; rintro e w3 ⟨g, rfl, hO3, hg3, hb3⟩; have KH := (show Hid (_ ∧ _ ∧ _) from ⟨cell_below KS.out.1 hb3, cell_below KS.out.2.1 hb3, cell_below KS.out.2.2 hb3⟩))
        | (go_at_call 41; refine (equal_ok (nr_congr (NrE.below HRT.out hb3) HWT.out) (ov_nr hO3)).mono ?_; rintro e w' ⟨rfl, h⟩; obtain rfl := h.symm))
      all_goals
        go_wp2
        go_roundw
        case rel => exact ⟨t + 1, by omega, by omega, by go_num, bt hbd.out hb3⟩
        case measure => simp [intOf]; omega
    · go_wp2
      go_ret2
      exact ⟨rfl, hb⟩
end
/-- A word is one. -/
theorem check_ok {w : World} {v vW : Value} {k m n : Nat} {F D : Nat → Nat → BitVec 8} (hk : 1 ≤ k) (hm : 1 ≤ m) (hkm : k + m ≤ 255) (hn : n ≤ 140737488355328) (hC : Cd w v k m F) (hF : Fac k F) (hN : NmE w vW (k + m) (fun _ => n) (mm fdE k F D)) :
    Calls Try.prog 13 #[v, vW] w fun e w' => e = .returned (.tuple #[.bool true, .int .i64 0]) ∧ Below w.heap.size w w' :=
  check_core hk hm hkm hn hC hN (fun i _ _ c _ => by
    rw [skk_mm (P := F) (Q := mm fdE k F D) (i := i) (j := c)]
    exact mm_congr (fun _ _ => rfl) (fun t ht => by rw [mm_congr (A' := dl fdE) (B' := D) (fun s hs => hF.id ht hs) (fun _ _ => rfl), mm_dl_l ht]))
end Go.Proofs.Ytmjobnabnkiakaa
