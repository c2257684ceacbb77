/-
  'unlike': at how many places two lists of rows part; two words that part, part at more than m places.
-/
import Derived.Test.YtienknoahjhopaaSg
import Derived.Test.YtienknoahjhopaaAw
namespace Go.Proofs.Ytienknoahjhopaa
open Go.RowKit
theorem nr_cut {w : World} {p : Option Addr} {n c q : Nat} {f : Nat → BitVec 8} (h : NrE w (.slice p n c) n f) (hq : q ≤ n) : NrE w (.slice p q c) q f := by
  obtain ⟨p', c', e, h⟩ := nr_un h
  injection e with e1 e2 e3
  subst e1 e3
  refine ⟨_, _, rfl, ?_⟩
  by_cases h0 : q = 0
  · exact .inl h0
  · obtain ⟨b, o, e, hc⟩ := h (by omega)
    exact .inr ⟨b, o, e, fun i hi => hc i (by omega)⟩
/-- One where two rows are alike, else nought. -/
def alk (L1 L2 : Nat → Nat) (A B : Nat → Nat → BitVec 8) (i : Nat) : Nat := if ((str (A i) (L1 i)).toList == (str (B i) (L2 i)).toList) = true then 1 else 0
theorem alk_pos {L1 L2 : Nat → Nat} {A B : Nat → Nat → BitVec 8} {i : Nat} : 0 < alk L1 L2 A B i ↔ Lke L1 L2 A B i := by
  unfold alk
  by_cases h : ((str (A i) (L1 i)).toList == (str (B i) (L2 i)).toList) = true
  · rw [if_pos h]
    exact ⟨fun _ => lke_str.2 (bytes_inj (beq_iff_eq.1 h)), fun _ => by omega⟩
  · rw [if_neg h]
    exact ⟨fun h1 => by omega, fun h1 => absurd (beq_iff_eq.2 (congrArg ByteArray.toList (lke_str.1 h1))) h⟩
section
attribute [local irreducible] Calls NmE NrE str Lke alk thr
end
/-- Two words that are alike at k places are of the same data. -/
theorem Fac.far {k m n : Nat} {F A B : Nat → Nat → BitVec 8} (h : Fac k F) (hkm : k + m ≤ 255) (hq : k ≤ (thr (alk (fun _ => n) (fun _ => n) (mm fdE k F A) (mm fdE k F B)) (k + m)).length) : ∀ i, i < k → Lke (fun _ => n) (fun _ => n) A B i := by
  intro i hi
  refine ⟨rfl, fun c hc => ?_⟩
  obtain ⟨Z, hz⟩ := h.has (p := pk (alk (fun _ => n) (fun _ => n) (mm fdE k F A) (mm fdE k F B)) (k + m)) (fun i hi => by have := (pk_mem (L := alk (fun _ => n) (fun _ => n) (mm fdE k F A) (mm fdE k F B)) (r := k + m) (t := i) (by omega)).1; omega) (fun i hi j hj hne => pk_ne (by omega) (by omega) hne)
  have key : ∀ D : Nat → Nat → BitVec 8, D i c = mm fdE k Z (fun t c => mm fdE k F D (pk (alk (fun _ => n) (fun _ => n) (mm fdE k F A) (mm fdE k F B)) (k + m) t) c) i c := fun D => by
    have e : mm fdE k Z (fun t c => mm fdE k F D (pk (alk (fun _ => n) (fun _ => n) (mm fdE k F A) (mm fdE k F B)) (k + m) t) c) i c = mm fdE k Z (mm fdE k (fun i j => F (pk (alk (fun _ => n) (fun _ => n) (mm fdE k F A) (mm fdE k F B)) (k + m) i) j) D) i c := mm_congr (fun _ _ => rfl) (fun _ _ => rfl)
    rw [e, ← mm_assoc, mm_congr (A' := dl fdE) (B' := D) (fun t ht => hz i hi t ht) (fun _ _ => rfl), mm_dl_l hi]
  rw [key A, key B]
  refine mm_congr (fun _ _ => rfl) (fun t ht => ?_)
  exact (alk_pos.1 (pk_mem (L := alk (fun _ => n) (fun _ => n) (mm fdE k F A) (mm fdE k F B)) (r := k + m) (t := t) (by omega)).2).2 c hc
end Go.Proofs.Ytienknoahjhopaa
