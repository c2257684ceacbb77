/-
  A head that is handed in, opened.
-/
import Derived.Test.YtfcjkaigmlfjnaaRows
import Derived.Test.YtfcjkaigmlfjnaaQ8
import Derived.WalkKit
import Derived.ProofKit
import Derived.SizedLaws
import Derived.OpenShut
import Derived.ShutString
import Derived.ChangeOld
import Derived.Below
import Derived.Test.YtfcjkaigmlfjnaaW8c
import Derived.Deep.Matrix
namespace Go.Proofs.Ytfcjkaigmlfjnaa
open Go.ChangeShapes Go.WideShapes Go.ChangeAt Go.RowKit
/-- A string's bytes. -/
def unb (s : ByteArray) : List (BitVec 8) := s.data.toList.map (fun u => BitVec.ofNat 8 u.toNat)
theorem unb_len (s : ByteArray) : (unb s).length = s.data.toList.length := by unfold unb; rw [List.length_map]
theorem bstr_unb (s : ByteArray) : bstr (unb s) = s := by
  unfold bstr us unb
  rw [List.map_map]
  have e : s.data.toList.map ((fun b : BitVec 8 => UInt8.ofNat b.toNat) ∘ fun u => BitVec.ofNat 8 u.toNat) = s.data.toList := by
    conv => rhs; rw [← List.map_id s.data.toList]
    apply List.map_congr_left
    intro u _
    show UInt8.ofNat (BitVec.ofNat 8 u.toNat).toNat = u
    rw [BitVec.toNat_ofNat]
    have := u.toNat_lt
    rw [Nat.mod_eq_of_lt (by omega)]
    simp
  rw [e]
theorem list16 {α : Type} {l : List α} (h : l.length = 16) : ∃ c0 c1 c2 c3 c4 c5 c6 c7 c8 c9 c10 c11 c12 c13 c14 c15, l = [c0, c1, c2, c3, c4, c5, c6, c7, c8, c9, c10, c11, c12, c13, c14, c15] := by
  match l, h with
  | [c0, c1, c2, c3, c4, c5, c6, c7, c8, c9, c10, c11, c12, c13, c14, c15], _ => exact ⟨c0, c1, c2, c3, c4, c5, c6, c7, c8, c9, c10, c11, c12, c13, c14, c15, rfl⟩
theorem i64_of {n : Int} (h : (Lit.int .i64 n).wf = true) : In64 n := ⟨(bounds_i64 h).1, by have := (bounds_i64 h).2; omega⟩
theorem u8_of {n : Int} (h : (Lit.int .u8 n).wf = true) : ∃ a : BitVec 8, n = el a := by
  obtain ⟨a, ha⟩ := el_of n (bounds_u8 h).1 (by have := (bounds_u8 h).2; omega)
  exact ⟨a, ha⟩
theorem head_of {H : Type} {enc : TypeId × Value → H} {w : World} {bs : Nat} {spare : Nat → Bool} {held : Bool} {n : Nat} {cs : List Value} {y : DataW H × List MemPlace}
    (h : DataW.trod enc Try.prog w bs spare held n 28 cs = some y) : ∃ hd : Hd, hd.In ∧ hd.key.length ≤ 9223372036854775807 ∧ cs = hd.cs.toList := by
  obtain ⟨xs, m, _, _, hl, hlen, hf⟩ := DataW.trod_struct Try.underlying28 h
  have hl' : cs.length = 16 := hl.trans (by kernel_rfl)
  obtain ⟨c0, c1, c2, c3, c4, c5, c6, c7, c8, c9, c10, c11, c12, c13, c14, c15, rfl⟩ := list16 hl'
  have n1 : Try.prog.cellsOf 5 = 1 := by kernel_rfl
  have n8 : Try.prog.cellsOf 22 = 8 := by kernel_rfl
  have n3 : Try.prog.cellsOf 24 = 3 := by kernel_rfl
  have n2 : Try.prog.cellsOf 26 = 2 := by kernel_rfl
  have ns : Try.prog.cellsOf 9 = 1 := by kernel_rfl
  have ni : Try.prog.cellsOf 3 = 1 := by kernel_rfl
  match xs, hlen with
  | [y0, y1, y2, y3, y4, y5], _ =>
    have f0 := hf 0 _ rfl
    have f1 := hf 1 _ rfl
    have f2 := hf 2 _ rfl
    have f3 := hf 3 _ rfl
    have f4 := hf 4 _ rfl
    have f5 := hf 5 _ rfl
    simp [n8, n3, n2, ns, ni] at f0 f1 f2 f3 f4 f5
    obtain ⟨zs, m0, _, _, _, hz, g⟩ := DataW.trod_array Try.underlying22 f0
    match zs, hz with
    | [z0, z1, z2, z3, z4, z5, z6, z7], _ =>
      have g0 := g 0 (by decide)
      have g1 := g 1 (by decide)
      have g2 := g 2 (by decide)
      have g3 := g 3 (by decide)
      have g4 := g 4 (by decide)
      have g5 := g 5 (by decide)
      have g6 := g 6 (by decide)
      have g7 := g 7 (by decide)
      simp [n1] at g0 g1 g2 g3 g4 g5 g6 g7
      obtain ⟨v0, e0, _, w0⟩ := DataW.trod_int Try.underlying5 g0
      obtain ⟨v1, e1, _, w1⟩ := DataW.trod_int Try.underlying5 g1
      obtain ⟨v2, e2, _, w2⟩ := DataW.trod_int Try.underlying5 g2
      obtain ⟨v3, e3, _, w3⟩ := DataW.trod_int Try.underlying5 g3
      obtain ⟨v4, e4, _, w4⟩ := DataW.trod_int Try.underlying5 g4
      obtain ⟨v5, e5, _, w5⟩ := DataW.trod_int Try.underlying5 g5
      obtain ⟨v6, e6, _, w6⟩ := DataW.trod_int Try.underlying5 g6
      obtain ⟨v7, e7, _, w7⟩ := DataW.trod_int Try.underlying5 g7
      obtain ⟨us, m1, _, _, _, hu, k⟩ := DataW.trod_struct Try.underlying24 f1
      match us, hu with
      | [u0, u1, u2], _ =>
        have k0 := k 0 _ rfl
        have k1 := k 1 _ rfl
        have k2 := k 2 _ rfl
        simp [ni] at k0 k1 k2
        obtain ⟨v8, e8, _, w8⟩ := DataW.trod_int Try.underlying3 k0
        obtain ⟨v9, e9, _, w9⟩ := DataW.trod_int Try.underlying3 k1
        obtain ⟨v10, e10, _, w10⟩ := DataW.trod_int Try.underlying3 k2
        obtain ⟨sk, e11, _, w11⟩ := DataW.trod_string Try.underlying9 f2
        obtain ⟨v12, e12, _, w12⟩ := DataW.trod_int Try.underlying3 f3
        obtain ⟨v13, e13, _, w13⟩ := DataW.trod_int Try.underlying3 f4
        obtain ⟨ts, m2, _, _, _, ht, q⟩ := DataW.trod_struct Try.underlying26 f5
        match ts, ht with
        | [t0, t1], _ =>
          have q0 := q 0 _ rfl
          have q1 := q 1 _ rfl
          simp [ni] at q0 q1
          obtain ⟨v14, e14, _, w14⟩ := DataW.trod_int Try.underlying3 q0
          obtain ⟨v15, e15, _, w15⟩ := DataW.trod_int Try.underlying3 q1
          simp only [List.cons.injEq, and_true] at e0 e1 e2 e3 e4 e5 e6 e7 e8 e9 e10 e11 e12 e13 e14 e15
          subst e0 e1 e2 e3 e4 e5 e6 e7 e8 e9 e10 e11 e12 e13 e14 e15
          obtain ⟨a0, rfl⟩ := u8_of w0
          obtain ⟨a1, rfl⟩ := u8_of w1
          obtain ⟨a2, rfl⟩ := u8_of w2
          obtain ⟨a3, rfl⟩ := u8_of w3
          obtain ⟨a4, rfl⟩ := u8_of w4
          obtain ⟨a5, rfl⟩ := u8_of w5
          obtain ⟨a6, rfl⟩ := u8_of w6
          obtain ⟨a7, rfl⟩ := u8_of w7
          refine ⟨⟨a0, a1, a2, a3, a4, a5, a6, a7, v8, v9, v10, unb sk, v12, v13, v14, v15⟩, ⟨i64_of w8, i64_of w9, i64_of w10, i64_of w12, i64_of w13, i64_of w14, i64_of w15⟩, ?_, ?_⟩
          · show (unb sk).length ≤ _
            rw [unb_len]; exact w11
          · unfold Hd.cs
            rw [bstr_unb]
end Go.Proofs.Ytfcjkaigmlfjnaa
/-
  A shard that is handed in, opened.
-/
namespace Go.Proofs.Ytfcjkaigmlfjnaa
open Go.ChangeShapes Go.WideShapes Go.ChangeAt Go.RowKit
theorem spot_no {w : World} {a : Addr} {v : Value} (h : w.cell? (a.add 0) = some v) : ∃ b o, a = ⟨b, o, none⟩ := by
  obtain ⟨b, off, spot⟩ := a
  have hs : spot = none := by simpa [Addr.add] using World.cell?_spot h
  subst hs
  exact ⟨b, off, rfl⟩
/-- The bytes of a row that is handed in. -/
def rowL (Z : List Int) (n : Nat) : List (BitVec 8) := (List.range n).map (fun j => BitVec.ofNat 8 (Z.getD j 0).toNat)
theorem rowL_len (Z : List Int) (n : Nat) : (rowL Z n).length = n := by unfold rowL; simp
theorem rowL_rd {w : World} {A : Option Addr} {len cap base : Nat} {Z : List Int} (hl : len ≤ cap) (hw : ∀ n ∈ Z, (Lit.int .u8 n).wf = true) (h0 : A = none → cap = 0) (hc : ∀ a', A = some a' → base ≤ a'.block ∧ ∀ c, c < cap → w.cell? (a'.add c) = some (.int .u8 (Z.getD c 0))) : Rd w A (rowL Z len) := by
  by_cases h : len = 0
  · subst h; exact .inl rfl
  · cases hA : A with
    | none => have := h0 hA; omega
    | some a =>
      obtain ⟨_, hcc⟩ := hc a hA
      obtain ⟨b, o, rfl⟩ := spot_no (hcc 0 (by omega))
      refine .inr ⟨b, o, rfl, fun i hi => ?_⟩
      rw [rowL_len] at hi
      rw [← add_pl, hcc i (by omega)]
      have hb : 0 ≤ Z.getD i 0 ∧ Z.getD i 0 < 256 := by
        rw [List.getD_eq_getElem?_getD]
        cases e : Z[i]? with
        | none => simp
        | some z =>
          have h1 := bounds_u8 (hw z (List.mem_of_getElem? e))
          exact ⟨h1.1, by have := h1.2; simp only [Option.getD_some]; omega⟩
      have e : (rowL Z len).getD i 0#8 = BitVec.ofNat 8 (Z.getD i 0).toNat := by unfold rowL; simp [List.getD, hi]
      rw [e]
      obtain ⟨z, hz⟩ : ∃ z, z = Z.getD i 0 := ⟨_, rfl⟩
      rw [← hz] at hb ⊢
      unfold el
      rw [BitVec.toNat_ofNat]
      congr 2
      omega
theorem rows_of {H : Type} {enc : TypeId × Value → H} {W : World} {n : Nat} {v : Value} {y : DataW H × List MemPlace} (h : DataW.trod enc Try.prog W 0 (fun _ => true) true n 29 [v] = some y) : ∃ (p : Option Addr) (n c : Nat) (bl : List (List (BitVec 8))), v = .slice p n c ∧ bl.length = n ∧ n ≤ c ∧ Rws W p bl := by
  rcases Go.Deep.open_int_rows Try.underlying29 Try.underlying35 Try.underlying5 (by kernel_rfl) (by kernel_rfl) h with ⟨hcs, _⟩ | ⟨a, len, cap, A, L, C, Z, hcs, _, hl, hm, hx, hrow⟩
  · simp at hcs
    subst hcs
    exact ⟨none, 0, 0, [], rfl, rfl, Nat.le_refl _, .inl rfl⟩
  · simp at hcs
    subst hcs
    refine ⟨some a, len, cap, (List.range len).map (fun r => rowL (Z r) (L r)), rfl, by simp, hl, ?_⟩
    by_cases h0 : len = 0
    · subst h0; exact .inl rfl
    · obtain ⟨b, o, rfl⟩ := spot_no (hrow 0 (by omega)).1
      refine .inr ⟨b, o, rfl, fun i hi => ?_⟩
      have hi' : i < len := by simpa using hi
      obtain ⟨h1, h2, _, _, h5, h6, h7⟩ := hrow i (by omega)
      have e : ((List.range len).map (fun r => rowL (Z r) (L r))).getD i [] = rowL (Z i) (L i) := by simp [List.getD, hi']
      rw [e, rowL_len]
      exact ⟨A i, C i, by rw [← add_pl]; exact h1, h2, rowL_rd h2 h5 h6 h7⟩
theorem shard_of {H : Type} {enc : TypeId × Value → H} {W : World} {n : Nat} {cs : List Value} {y : DataW H × List MemPlace}
    (h : DataW.trod enc Try.prog W 0 (fun _ => true) true n 31 cs = some y) : ∃ (hd : Hd) (p : Option Addr) (n c : Nat) (bl : List (List (BitVec 8))), hd.In ∧ hd.key.length ≤ 9223372036854775807 ∧ cs = (hd.sh (.slice p n c)).toList ∧ bl.length = n ∧ n ≤ c ∧ Rws W p bl := by
  obtain ⟨xs, m, _, _, hl, hlen, hf⟩ := DataW.trod_struct Try.underlying31 h
  have hl' : cs.length = 17 := hl.trans (by kernel_rfl)
  have n16 : Try.prog.cellsOf 28 = 16 := by kernel_rfl
  have n1 : Try.prog.cellsOf 29 = 1 := by kernel_rfl
  match xs, hlen with
  | [y0, y1], _ =>
    have f0 := hf 0 _ rfl
    have f1 := hf 1 _ rfl
    simp [n16, n1] at f0 f1
    obtain ⟨hd, h1, h2, h3⟩ := head_of f0
    have e1 : (cs.drop 16).take 1 = [cs.getD 16 undef] := by
      apply List.ext_getElem?
      intro i
      match i with
      | 0 => simp [List.getD, hl']
      | i + 1 => rw [List.getElem?_eq_none (by simp [hl']), List.getElem?_eq_none (by simp)]
    have f1' : DataW.trod enc Try.prog W 0 (fun _ => true) true m 29 [cs.getD 16 undef] = some y1 := by rw [← e1]; exact f1
    obtain ⟨p, n, c, bl, e, hbl, hc, hR⟩ := rows_of f1'
    refine ⟨hd, p, n, c, bl, h1, h2, ?_, hbl, hc, hR⟩
    have e0 : cs.take 16 = hd.cs.toList := by simpa using h3
    unfold Hd.sh
    rw [Array.toList_push, ← e0, ← e]
    have h5 := List.take_append_drop 16 cs
    have h6 : cs.drop 16 = [cs.getD 16 undef] := by rw [← e1, List.take_of_length_le (by simp [hl'])]
    rw [h6] at h5
    exact h5.symm
end Go.Proofs.Ytfcjkaigmlfjnaa
