/-
  'same', whatever it answers.
-/
import Derived.Test.YtienknoahjhopaaCl
namespace Go.Proofs.Ytienknoahjhopaa
open Go.RowKit
theorem bytes_inj {a b : ByteArray} (h : a.toList = b.toList) : a = b := by
  rw [ByteArray.toList_eq, ByteArray.toList_eq] at h
  cases a; cases b
  simp at h
  rw [h]
theorem str_inj {f g : Nat → BitVec 8} {n m : Nat} (h : str f n = str g m) : n = m ∧ ∀ i, i < n → f i = g i := by
  unfold str at h
  injection h with h
  have h1 : bys f n = bys g m := by simpa using h
  have hl : n = m := by have := congrArg List.length h1; rw [bys_len, bys_len] at this; exact this
  subst hl
  refine ⟨rfl, fun i hi => ?_⟩
  have h2 : (bys f n)[i]? = (bys g n)[i]? := by rw [h1]
  unfold bys at h2
  rw [List.getElem?_map, List.getElem?_map, List.getElem?_range hi] at h2
  simp only [Option.map_some, Option.some.injEq] at h2
  have h3 := congrArg UInt8.toNat h2
  have := (f i).isLt
  have := (g i).isLt
  simp at h3
  apply BitVec.eq_of_toNat_eq
  omega
/-- Two lists of rows are alike at a place. -/
def Lke (L1 L2 : Nat → Nat) (A B : Nat → Nat → BitVec 8) (i : Nat) : Prop := L1 i = L2 i ∧ ∀ j, j < L1 i → A i j = B i j
theorem lke_str {L1 L2 : Nat → Nat} {A B : Nat → Nat → BitVec 8} {i : Nat} : Lke L1 L2 A B i ↔ str (A i) (L1 i) = str (B i) (L2 i) :=
  ⟨fun ⟨h1, h2⟩ => by rw [← h1]; exact str_congr h2, fun h => ⟨(str_inj h).1, (str_inj h).2⟩⟩
section
attribute [local irreducible] Calls NmE NrE str Lke
set_option maxHeartbeats 4000000 in
set_option maxRecDepth 1000000 in
theorem same_any (p q : Option Addr) (r c1 c2 : Nat) (L1 L2 : Nat → Nat) (A B : Nat → Nat → BitVec 8) (w : World) (hr : r ≤ 140737488355328) (H1 : Hid (NmE w (.slice p r c1) r L1 A)) (H2 : Hid (NmE w (.slice q r c2) r L2 B)) :
    Calls Try.prog 13 #[.slice p r c1, .slice q r c2] w fun e w' => ∃ b : Bool, e = .returned (.bool b) ∧ (b = true ↔ ∀ i, i < r → Lke L1 L2 A B i) ∧ Below w.heap.size w w' := by
  have e0 : ((r : Int) != (r : Int)) = false := by simp
  go_enter Try.func13, Try.ntmps13
  go_wp2
  go_loopw [5] (fun i wr => ∃ k : Nat, k ≤ r ∧ i = .int .i64 k ∧ Hid (∀ i, i < k → Lke L1 L2 A B i) ∧ Below w.heap.size w wr) (fun i _ => r - (intOf i).toNat)
  case atStart => exact ⟨0, Nat.zero_le _, rfl, fun i hi => by omega, Below.refl _ _⟩
  case round =>
    obtain ⟨k, hk, rfl, hA, hb⟩ := hrel
    by_cases hlt : k < r
    · have j1 : (k : Int) < (r : Int) := by omega
      obtain ⟨b1, o1, rows1, ep, hc1, hn1⟩ := nm_at H1.out (by omega)
      obtain ⟨b2, o2, rows2, eq, hc2, hn2⟩ := nm_at H2.out (by omega)
      subst ep eq
      have hbd := (show Hid _ from hb.drew)
      have g1 := cell_below (hc1 k hlt) hb
      have g2 := cell_below (hc2 k hlt) hb
      have e1 := conv_row (NrE.below (hn1 k hlt) hbd.out)
      have e2 := conv_row (NrE.below (hn2 k hlt) hbd.out)
      have KS := (show Hid (_ ∧ _ ∧ _ ∧ _) from ⟨cell_below (hc1 k hlt) hbd.out, cell_below (hc2 k hlt) hbd.out, e1, e2⟩)
      clear hc1 hc2 hn1 hn2
      by_cases hs : str (A k) (L1 k) = str (B k) (L2 k)
      · have HL : Hid (Lke L1 L2 A B k) := lke_str.2 hs
        have hs2 : ((str (A k) (L1 k)).toList == (str (B k) (L2 k)).toList) = true := by rw [hs]; simp
        go_wp2
        go_region_held3 (fun X => X.cell? ⟨b1, o1 + k, none⟩ = some (rows1 k) ∧ X.cell? ⟨b2, o2 + k, none⟩ = some (rows2 k) ∧ (convert 23 9 (rows1 k)).run Try.prog X = .ok (.string (str (A k) (L1 k))) X ∧ (convert 23 9 (rows2 k)).run Try.prog X = .ok (.string (str (B k) (L2 k))) X) (first | exact KS.out | go_keep) (fail)
        all_goals
          go_wp2
          go_roundw
          case rel => exact ⟨k + 1, by omega, by go_num, fun i hi => by
            by_cases e : i = k
            · subst e; exact HL.out
            · exact hA.out i (by omega), hbd.out⟩
          case measure => simp [intOf]; omega
      · have HL : Hid (¬ Lke L1 L2 A B k) := fun h => hs (lke_str.1 h)
        have hs2 : ((str (A k) (L1 k)).toList == (str (B k) (L2 k)).toList) = false := by
          rw [beq_eq_false_iff_ne]
          exact fun e => hs (bytes_inj e)
        go_wp2
        go_region_held3 (fun X => X.cell? ⟨b1, o1 + k, none⟩ = some (rows1 k) ∧ X.cell? ⟨b2, o2 + k, none⟩ = some (rows2 k) ∧ (convert 23 9 (rows1 k)).run Try.prog X = .ok (.string (str (A k) (L1 k))) X ∧ (convert 23 9 (rows2 k)).run Try.prog X = .ok (.string (str (B k) (L2 k))) X) (first | exact KS.out | go_keep) (fail)
        all_goals
          go_wp2
          go_ret
          exact ⟨_, rfl, ⟨fun h => (by cases h), fun h => absurd (h k hlt) HL.out⟩, hbd.out⟩
    · obtain rfl : k = r := by omega
      go_wp2
      go_ret
      exact ⟨_, rfl, ⟨fun _ => hA.out, fun _ => rfl⟩, hb⟩
end
end Go.Proofs.Ytienknoahjhopaa
