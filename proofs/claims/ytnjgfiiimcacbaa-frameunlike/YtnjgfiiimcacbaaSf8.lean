/-
  A shard that is handed in, opened.
-/
import Derived.Test.YtnjgfiiimcacbaaHf8
import Derived.Test.YtnjgfiiimcacbaaW8c
import Derived.Deep.Matrix
namespace Go.Proofs.Ytnjgfiiimcacbaa
open Go.ChangeShapes Go.WideShapes Go.ChangeAt Go.RowKit
theorem spot_no {w : World} {a : Addr} {v : Value} (h : w.cell? (a.add 0) = some v) : ∃ b o, a = ⟨b, o, none⟩ := by
  obtain ⟨b, off, spot⟩ := a
  have hs : spot = none := by simpa [Addr.add] using World.cell?_spot h
  subst hs
  exact ⟨b, off, rfl⟩
/-- The bytes of a row that is handed in. -/
def rowL (Z : List Int) (n : Nat) : List (BitVec 8) := (List.range n).map (fun j => BitVec.ofNat 8 (Z.getD j 0).toNat)
theorem rowL_len (Z : List Int) (n : Nat) : (rowL Z n).length = n := by unfold rowL; simp
theorem rowL_rd {w : World} {A : Option Addr} {len cap base : Nat} {Z : List Int} (hl : len ≤ cap) (hw : ∀ n ∈ Z, (Lit.int .u8 n).wf = true) (h0 : A = none → cap = 0) (hc : ∀ a', A = some a' → base ≤ a'.block ∧ ∀ c, c < cap → w.cell? (a'.add c) = some (.int .u8 (Z.getD c 0))) : Rd w A (rowL Z len) := by
  by_cases h : len = 0
  · subst h; exact .inl rfl
  · cases hA : A with
    | none => have := h0 hA; omega
    | some a =>
      obtain ⟨_, hcc⟩ := hc a hA
      obtain ⟨b, o, rfl⟩ := spot_no (hcc 0 (by omega))
      refine .inr ⟨b, o, rfl, fun i hi => ?_⟩
      rw [rowL_len] at hi
      rw [← add_pl, hcc i (by omega)]
      have hb : 0 ≤ Z.getD i 0 ∧ Z.getD i 0 < 256 := by
        rw [List.getD_eq_getElem?_getD]
        cases e : Z[i]? with
        | none => simp
        | some z =>
          have h1 := bounds_u8 (hw z (List.mem_of_getElem? e))
          exact ⟨h1.1, by have := h1.2; simp only [Option.getD_some]; omega⟩
      have e : (rowL Z len).getD i 0#8 = BitVec.ofNat 8 (Z.getD i 0).toNat := by unfold rowL; simp [List.getD, hi]
      rw [e]
      obtain ⟨z, hz⟩ : ∃ z, z = Z.getD i 0 := ⟨_, rfl⟩
      rw [← hz] at hb ⊢
      unfold el
      rw [BitVec.toNat_ofNat]
      congr 2
      omega
theorem rows_of {H : Type} {enc : TypeId × Value → H} {W : World} {n : Nat} {v : Value} {y : DataW H × List MemPlace} (h : DataW.trod enc Try.prog W 0 (fun _ => true) true n 29 [v] = some y) : ∃ (p : Option Addr) (n c : Nat) (bl : List (List (BitVec 8))), v = .slice p n c ∧ bl.length = n ∧ n ≤ c ∧ Rws W p bl := by
  rcases Go.Deep.open_int_rows Try.underlying29 Try.underlying32 Try.underlying5 (by kernel_rfl) (by kernel_rfl) h with ⟨hcs, _⟩ | ⟨a, len, cap, A, L, C, Z, hcs, _, hl, hm, hx, hrow⟩
  · simp at hcs
    subst hcs
    exact ⟨none, 0, 0, [], rfl, rfl, Nat.le_refl _, .inl rfl⟩
  · simp at hcs
    subst hcs
    refine ⟨some a, len, cap, (List.range len).map (fun r => rowL (Z r) (L r)), rfl, by simp, hl, ?_⟩
    by_cases h0 : len = 0
    · subst h0; exact .inl rfl
    · obtain ⟨b, o, rfl⟩ := spot_no (hrow 0 (by omega)).1
      refine .inr ⟨b, o, rfl, fun i hi => ?_⟩
      have hi' : i < len := by simpa using hi
      obtain ⟨h1, h2, _, _, h5, h6, h7⟩ := hrow i (by omega)
      have e : ((List.range len).map (fun r => rowL (Z r) (L r))).getD i [] = rowL (Z i) (L i) := by simp [List.getD, hi']
      rw [e, rowL_len]
      exact ⟨A i, C i, by rw [← add_pl]; exact h1, h2, rowL_rd h2 h5 h6 h7⟩
theorem shard_of {H : Type} {enc : TypeId × Value → H} {W : World} {n : Nat} {cs : List Value} {y : DataW H × List MemPlace}
    (h : DataW.trod enc Try.prog W 0 (fun _ => true) true n 31 cs = some y) : ∃ (hd : Hd) (p : Option Addr) (n c : Nat) (bl : List (List (BitVec 8))), hd.In ∧ hd.key.length ≤ 9223372036854775807 ∧ cs = (hd.sh (.slice p n c)).toList ∧ bl.length = n ∧ n ≤ c ∧ Rws W p bl := by
  obtain ⟨xs, m, _, _, hl, hlen, hf⟩ := DataW.trod_struct Try.underlying31 h
  have hl' : cs.length = 17 := hl.trans (by kernel_rfl)
  have n16 : Try.prog.cellsOf 28 = 16 := by kernel_rfl
  have n1 : Try.prog.cellsOf 29 = 1 := by kernel_rfl
  match xs, hlen with
  | [y0, y1], _ =>
    have f0 := hf 0 _ rfl
    have f1 := hf 1 _ rfl
    simp [n16, n1] at f0 f1
    obtain ⟨hd, h1, h2, h3⟩ := head_of f0
    have e1 : (cs.drop 16).take 1 = [cs.getD 16 undef] := by
      apply List.ext_getElem?
      intro i
      match i with
      | 0 => simp [List.getD, hl']
      | i + 1 => rw [List.getElem?_eq_none (by simp [hl']), List.getElem?_eq_none (by simp)]
    have f1' : DataW.trod enc Try.prog W 0 (fun _ => true) true m 29 [cs.getD 16 undef] = some y1 := by rw [← e1]; exact f1
    obtain ⟨p, n, c, bl, e, hbl, hc, hR⟩ := rows_of f1'
    refine ⟨hd, p, n, c, bl, h1, h2, ?_, hbl, hc, hR⟩
    have e0 : cs.take 16 = hd.cs.toList := by simpa using h3
    unfold Hd.sh
    rw [Array.toList_push, ← e0, ← e]
    have h5 := List.take_append_drop 16 cs
    have h6 : cs.drop 16 = [cs.getD 16 undef] := by rw [← e1, List.take_of_length_le (by simp [hl'])]
    rw [h6] at h5
    exact h5.symm
end Go.Proofs.Ytnjgfiiimcacbaa
