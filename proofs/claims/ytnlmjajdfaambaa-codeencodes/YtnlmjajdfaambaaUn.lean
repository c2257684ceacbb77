/-
  'unlike': at how many places two lists of rows part; two words that part, part at more than m places.
-/
import Derived.Test.YtnlmjajdfaambaaSg
import Derived.Test.YtnlmjajdfaambaaAw
namespace Go.Proofs.Ytnlmjajdfaambaa
open Go.RowKit
theorem nr_cut {w : World} {p : Option Addr} {n c q : Nat} {f : Nat → BitVec 8} (h : NrE w (.slice p n c) n f) (hq : q ≤ n) : NrE w (.slice p q c) q f := by
  obtain ⟨p', c', e, h⟩ := nr_un h
  injection e with e1 e2 e3
  subst e1 e3
  refine ⟨_, _, rfl, ?_⟩
  by_cases h0 : q = 0
  · exact .inl h0
  · obtain ⟨b, o, e, hc⟩ := h (by omega)
    exact .inr ⟨b, o, e, fun i hi => hc i (by omega)⟩
/-- One where two rows are alike, else nought. -/
def alk (L1 L2 : Nat → Nat) (A B : Nat → Nat → BitVec 8) (i : Nat) : Nat := if ((str (A i) (L1 i)).toList == (str (B i) (L2 i)).toList) = true then 1 else 0
theorem alk_pos {L1 L2 : Nat → Nat} {A B : Nat → Nat → BitVec 8} {i : Nat} : 0 < alk L1 L2 A B i ↔ Lke L1 L2 A B i := by
  unfold alk
  by_cases h : ((str (A i) (L1 i)).toList == (str (B i) (L2 i)).toList) = true
  · rw [if_pos h]
    exact ⟨fun _ => lke_str.2 (bytes_inj (beq_iff_eq.1 h)), fun _ => by omega⟩
  · rw [if_neg h]
    exact ⟨fun h1 => by omega, fun h1 => absurd (beq_iff_eq.2 (congrArg ByteArray.toList (lke_str.1 h1))) h⟩
section
attribute [local irreducible] Calls NmE NrE str Lke alk thr
set_option maxHeartbeats 4000000 in
set_option maxRecDepth 1000000 in
theorem unlike_core (p q : Option Addr) (r c1 c2 : Nat) (L1 L2 : Nat → Nat) (A B : Nat → Nat → BitVec 8) (w : World) (hr : r ≤ 140737488355328) (H1 : Hid (NmE w (.slice p r c1) r L1 A)) (H2 : Hid (NmE w (.slice q r c2) r L2 B)) :
    Calls Try.prog 27 #[.slice p r c1, .slice q r c2] w fun e w' => ∃ d : Nat, e = .returned (.int .i64 (d : Int)) ∧ d + (thr (alk L1 L2 A B) r).length = r ∧ Below w.heap.size w w' := by
  go_enter Try.func27, Try.ntmps27
  go_wp2
  go_loopw [5, 6] (fun d i wr => ∃ k n : Nat, k ≤ r ∧ i = .int .i64 k ∧ d = .int .i64 n ∧ n ≤ k ∧ Hid (n + (thr (alk L1 L2 A B) k).length = k) ∧ Below w.heap.size w wr) (fun _ i _ => r - (intOf i).toNat)
  case atStart => exact ⟨0, 0, Nat.zero_le _, rfl, rfl, Nat.le_refl _, (by unfold thr; rfl), Below.refl _ _⟩
  case round =>
    obtain ⟨k, n, hk, rfl, rfl, hnk, hA, hb⟩ := hrel
    by_cases hlt : k < r
    · have j1 : (k : Int) < (r : Int) := by omega
      obtain ⟨b1, o1, rows1, ep, hc1, hn1⟩ := nm_at H1.out (by omega)
      obtain ⟨b2, o2, rows2, eq, hc2, hn2⟩ := nm_at H2.out (by omega)
      subst ep eq
      have hbd := (show Hid _ from hb.drew)
      have g1 := cell_below (hc1 k hlt) hb
      have g2 := cell_below (hc2 k hlt) hb
      have e1 := conv_row (NrE.below (hn1 k hlt) hbd.out)
      have e2 := conv_row (NrE.below (hn2 k hlt) hbd.out)
      have KS := (show Hid (_ ∧ _ ∧ _ ∧ _) from ⟨cell_below (hc1 k hlt) hbd.out, cell_below (hc2 k hlt) hbd.out, e1, e2⟩)
      clear hc1 hc2 hn1 hn2
      by_cases hs : str (A k) (L1 k) = str (B k) (L2 k)
      · have HL : Hid (0 < alk L1 L2 A B k) := alk_pos.2 (lke_str.2 hs)
        have hs2 : ((str (A k) (L1 k)).toList == (str (B k) (L2 k)).toList) = true := by rw [hs]; simp
        go_wp2
        go_region_held3 (fun X => X.cell? ⟨b1, o1 + k, none⟩ = some (rows1 k) ∧ X.cell? ⟨b2, o2 + k, none⟩ = some (rows2 k) ∧ (convert 37 9 (rows1 k)).run Try.prog X = .ok (.string (str (A k) (L1 k))) X ∧ (convert 37 9 (rows2 k)).run Try.prog X = .ok (.string (str (B k) (L2 k))) X) (first | exact KS.out | go_keep) (fail)
        all_goals
          go_wp2
          go_roundw
          case rel => exact ⟨k + 1, n, by omega, by go_num, by go_num, by omega, (by show _ = _; rw [thr_pos HL.out, List.length_append]; have := hA.out; simp; omega), hbd.out⟩
          case measure => simp [intOf]; omega
      · have HL : Hid (¬ 0 < alk L1 L2 A B k) := fun h => hs (lke_str.1 (alk_pos.1 h))
        have hs2 : ((str (A k) (L1 k)).toList == (str (B k) (L2 k)).toList) = false := by
          rw [beq_eq_false_iff_ne]
          exact fun e => hs (bytes_inj e)
        go_wp2
        go_region_held3 (fun X => X.cell? ⟨b1, o1 + k, none⟩ = some (rows1 k) ∧ X.cell? ⟨b2, o2 + k, none⟩ = some (rows2 k) ∧ (convert 37 9 (rows1 k)).run Try.prog X = .ok (.string (str (A k) (L1 k))) X ∧ (convert 37 9 (rows2 k)).run Try.prog X = .ok (.string (str (B k) (L2 k))) X) (first | exact KS.out | go_keep) (fail)
        all_goals
          go_wp2
          go_roundw
          case rel => exact ⟨k + 1, n + 1, by omega, by go_num, by go_num, by omega, (by show _ = _; rw [thr_neg HL.out]; have := hA.out; omega), hbd.out⟩
          case measure => simp [intOf]; omega
    · obtain rfl : k = r := by omega
      go_wp2
      go_ret
      exact ⟨_, rfl, hA.out, hb⟩
end
/-- Two words that are alike at k places are of the same data. -/
theorem Fac.far {k m n : Nat} {F A B : Nat → Nat → BitVec 8} (h : Fac k F) (hkm : k + m ≤ 255) (hq : k ≤ (thr (alk (fun _ => n) (fun _ => n) (mm fdE k F A) (mm fdE k F B)) (k + m)).length) : ∀ i, i < k → Lke (fun _ => n) (fun _ => n) A B i := by
  intro i hi
  refine ⟨rfl, fun c hc => ?_⟩
  obtain ⟨Z, hz⟩ := h.has (p := pk (alk (fun _ => n) (fun _ => n) (mm fdE k F A) (mm fdE k F B)) (k + m)) (fun i hi => by have := (pk_mem (L := alk (fun _ => n) (fun _ => n) (mm fdE k F A) (mm fdE k F B)) (r := k + m) (t := i) (by omega)).1; omega) (fun i hi j hj hne => pk_ne (by omega) (by omega) hne)
  have key : ∀ D : Nat → Nat → BitVec 8, D i c = mm fdE k Z (fun t c => mm fdE k F D (pk (alk (fun _ => n) (fun _ => n) (mm fdE k F A) (mm fdE k F B)) (k + m) t) c) i c := fun D => by
    have e : mm fdE k Z (fun t c => mm fdE k F D (pk (alk (fun _ => n) (fun _ => n) (mm fdE k F A) (mm fdE k F B)) (k + m) t) c) i c = mm fdE k Z (mm fdE k (fun i j => F (pk (alk (fun _ => n) (fun _ => n) (mm fdE k F A) (mm fdE k F B)) (k + m) i) j) D) i c := mm_congr (fun _ _ => rfl) (fun _ _ => rfl)
    rw [e, ← mm_assoc, mm_congr (A' := dl fdE) (B' := D) (fun t ht => hz i hi t ht) (fun _ _ => rfl), mm_dl_l hi]
  rw [key A, key B]
  refine mm_congr (fun _ _ => rfl) (fun t ht => ?_)
  exact (alk_pos.1 (pk_mem (L := alk (fun _ => n) (fun _ => n) (mm fdE k F A) (mm fdE k F B)) (r := k + m) (t := t) (by omega)).2).2 c hc
end Go.Proofs.Ytnlmjajdfaambaa
