/-
  The document's own functions of layer 17: SameInts, Stale.
-/
import Derived.Test.YtefomnlgpldgnaaVd17
import Derived.Deep.DeepCutAuto
import Derived.BigQuiet
namespace Go.Proofs.Ytefomnlgpldgnaa
open Go.RowKit
theorem rn_at {w : World} {p : Option Addr} {n c : Nat} {L : List Nat} (h : Rn w (.slice p n c) L) : n = L.length ∧ (∀ i, i < n → ∃ b o, p = some ⟨b, o, none⟩ ∧ w.cell? ⟨b, o + i, none⟩ = some (.int .i64 (L.getD i 0 : Int))) := by
  obtain ⟨p', c', e, _, h⟩ := h
  injection e with e1 e2 e3
  subst e1 e2
  refine ⟨rfl, fun i hi => ?_⟩
  rcases h with h | ⟨b, o, e, h⟩
  · subst h; simp at hi
  · exact ⟨b, o, e, h i hi⟩
section
attribute [local irreducible] Calls
set_option maxHeartbeats 4000000 in
set_option maxRecDepth 1000000 in
theorem sameInts_core {w : World} {p1 p2 : Option Addr} {n c1 c2 : Nat} {z : Nat → Int} (hn : n ≤ 17592186044416) (h1 : ∀ i, i < n → ∃ b o, p1 = some ⟨b, o, none⟩ ∧ w.cell? ⟨b, o + i, none⟩ = some (.int .i64 (z i))) (h2 : ∀ i, i < n → ∃ b o, p2 = some ⟨b, o, none⟩ ∧ w.cell? ⟨b, o + i, none⟩ = some (.int .i64 (z i))) :
    Calls Try.prog 18 #[.slice p1 n c1, .slice p2 n c2] w fun e w' => e = .returned (.bool true) ∧ Below w.heap.size w w' := by
  have H1 := (show Hid _ from h1)
  have H2 := (show Hid _ from h2)
  have HN := (show Hid (n ≤ 17592186044416) from hn)
  have f0 : ((n : Int) != (n : Int)) = false := by simp
  clear h1 h2 hn
  go_enter Try.func18, Try.ntmps18
  go_wp2_with (fail)
  go_loopw [5] (fun i wr => ∃ t : Nat, t ≤ n ∧ i = .int .i64 (t : Int) ∧ Hid (Below w.heap.size w wr)) (fun i _ => n - (intOf i).toNat)
  case atStart => exact ⟨0, Nat.zero_le _, rfl, Below.refl _ _⟩
  case round =>
    obtain ⟨t, ht, rfl, hB⟩ := hrel
    by_cases hlt : t < n
    · have hi : (t : Int) < (n : Int) := by omega
      obtain ⟨b1, o1, rfl, g1⟩ := H1.out t hlt
      obtain ⟨b2, o2, rfl, g2⟩ := H2.out t hlt
      have k1 := cell_below g1 hB.out
      have k2 := cell_below g2 hB.out
      have WT := (show Hid (wrap64 ((t : Int) + 1) = ((t + 1 : Nat) : Int)) from by have := HN.out; show _ = _; unfold wrap64; omega)
      have HT := (show Hid (t < n) from hlt)
      generalize z t = zz at *
      have e0 : (zz != zz) = false := by simp
      clear g1 g2 hlt ht
      go_wp2_with (fail)
      go_quiet (fail)
      go_wp2_with (fail)
      go_roundw
      case rel => exact ⟨t + 1, HT.out, by first | rw [WT.out] | go_num, below_drewN hB.out _⟩
      case measure => first | (rw [WT.out]; exact meas_v17 HT.out) | exact meas_v17 HT.out
    · obtain rfl : t = n := by omega
      have hnn : ¬ ((t : Int) < (t : Int)) := by omega
      go_wp2_with (fail)
      go_ret
      exact ⟨rfl, hB.out⟩
end
theorem sameInts_any {w : World} {u v : Value} {L : List Nat} (h1 : Rn w u L) (h2 : Rn w v L) (hL : L.length ≤ 17592186044416) :
    Calls Try.prog 18 #[u, v] w fun e w' => e = .returned (.bool true) ∧ Below w.heap.size w w' := by
  obtain ⟨p1, c1, rfl, _, _⟩ := id h1
  obtain ⟨p2, c2, rfl, _, _⟩ := id h2
  exact sameInts_core hL (rn_at h1).2 (rn_at h2).2
/-- Is a place stale? -/
def stT (kv : Int) (k : Wg) (s : Sn) : Bool := if kv = 1 then othB k s else if kv = 2 then noneB s.kd else false
def stf (ss : Nat → Sn) (n : Nat) (kv : Int) (k : Wg) : List Nat := (List.range n).filter fun i => stT kv k (ss i)
theorem stf_stl (ss : Nat → Sn) (n : Nat) (kv : Int) (k : Wg) : stf ss n kv k = stl ss n kv k := by
  unfold stf stl stT pwO pwN
  by_cases h1 : kv = 1
  · simp [h1]
  · by_cases h2 : kv = 2
    · simp [h2]
    · simp [h1, h2]
theorem stf_succ (ss : Nat → Sn) (n : Nat) (kv : Int) (k : Wg) : stf ss (n + 1) kv k = stf ss n kv k ++ (if stT kv k (ss n) = true then [n] else []) := by
  unfold stf
  rw [List.range_succ, List.filter_append]
  congr 1
  by_cases h : stT kv k (ss n) = true <;> simp [h]
theorem stf_len (ss : Nat → Sn) (n : Nat) (kv : Int) (k : Wg) : (stf ss n kv k).length ≤ n := by
  unfold stf
  have := List.length_filter_le (fun i => stT kv k (ss i)) (List.range n)
  simpa using this
section
attribute [local irreducible] Calls GB On stf
end
end Go.Proofs.Ytefomnlgpldgnaa
