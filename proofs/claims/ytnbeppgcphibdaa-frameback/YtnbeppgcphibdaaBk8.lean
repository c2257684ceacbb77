/-
  A head that is handed in, opened.
-/
import Derived.Test.YtnbeppgcphibdaaRows
import Derived.Test.YtnbeppgcphibdaaQ8
import Derived.WalkKit
import Derived.ProofKit
import Derived.SizedLaws
import Derived.OpenShut
import Derived.ShutString
import Derived.ChangeOld
import Derived.Below
import Derived.Test.YtnbeppgcphibdaaW8c
import Derived.Deep.Matrix
import Derived.Test.YtnbeppgcphibdaaQ8c
import Derived.Test.YtnbeppgcphibdaaSi8
import Derived.Test.YtnbeppgcphibdaaPz8
import Derived.Laws.CopyOwn
import Derived.Test.YtnbeppgcphibdaaKz
import Derived.Test.YtnbeppgcphibdaaAw8
import Derived.Test.YtnbeppgcphibdaaEn9
import Derived.Test.YtnbeppgcphibdaaSa8
namespace Go.Proofs.Ytnbeppgcphibdaa
open Go.ChangeShapes Go.WideShapes Go.ChangeAt Go.RowKit
/-- A string's bytes. -/
def unb (s : ByteArray) : List (BitVec 8) := s.data.toList.map (fun u => BitVec.ofNat 8 u.toNat)
theorem unb_len (s : ByteArray) : (unb s).length = s.data.toList.length := by unfold unb; rw [List.length_map]
theorem bstr_unb (s : ByteArray) : bstr (unb s) = s := by
  unfold bstr us unb
  rw [List.map_map]
  have e : s.data.toList.map ((fun b : BitVec 8 => UInt8.ofNat b.toNat) ∘ fun u => BitVec.ofNat 8 u.toNat) = s.data.toList := by
    conv => rhs; rw [← List.map_id s.data.toList]
    apply List.map_congr_left
    intro u _
    show UInt8.ofNat (BitVec.ofNat 8 u.toNat).toNat = u
    rw [BitVec.toNat_ofNat]
    have := u.toNat_lt
    rw [Nat.mod_eq_of_lt (by omega)]
    simp
  rw [e]
theorem list16 {α : Type} {l : List α} (h : l.length = 16) : ∃ c0 c1 c2 c3 c4 c5 c6 c7 c8 c9 c10 c11 c12 c13 c14 c15, l = [c0, c1, c2, c3, c4, c5, c6, c7, c8, c9, c10, c11, c12, c13, c14, c15] := by
  match l, h with
  | [c0, c1, c2, c3, c4, c5, c6, c7, c8, c9, c10, c11, c12, c13, c14, c15], _ => exact ⟨c0, c1, c2, c3, c4, c5, c6, c7, c8, c9, c10, c11, c12, c13, c14, c15, rfl⟩
theorem i64_of {n : Int} (h : (Lit.int .i64 n).wf = true) : In64 n := ⟨(bounds_i64 h).1, by have := (bounds_i64 h).2; omega⟩
theorem u8_of {n : Int} (h : (Lit.int .u8 n).wf = true) : ∃ a : BitVec 8, n = el a := by
  obtain ⟨a, ha⟩ := el_of n (bounds_u8 h).1 (by have := (bounds_u8 h).2; omega)
  exact ⟨a, ha⟩
theorem head_of {H : Type} {enc : TypeId × Value → H} {w : World} {bs : Nat} {spare : Nat → Bool} {held : Bool} {n : Nat} {cs : List Value} {y : DataW H × List MemPlace}
    (h : DataW.trod enc Try.prog w bs spare held n 28 cs = some y) : ∃ hd : Hd, hd.In ∧ hd.key.length ≤ 9223372036854775807 ∧ cs = hd.cs.toList := by
  obtain ⟨xs, m, _, _, hl, hlen, hf⟩ := DataW.trod_struct Try.underlying28 h
  have hl' : cs.length = 16 := hl.trans (by kernel_rfl)
  obtain ⟨c0, c1, c2, c3, c4, c5, c6, c7, c8, c9, c10, c11, c12, c13, c14, c15, rfl⟩ := list16 hl'
  have n1 : Try.prog.cellsOf 5 = 1 := by kernel_rfl
  have n8 : Try.prog.cellsOf 22 = 8 := by kernel_rfl
  have n3 : Try.prog.cellsOf 24 = 3 := by kernel_rfl
  have n2 : Try.prog.cellsOf 26 = 2 := by kernel_rfl
  have ns : Try.prog.cellsOf 9 = 1 := by kernel_rfl
  have ni : Try.prog.cellsOf 3 = 1 := by kernel_rfl
  match xs, hlen with
  | [y0, y1, y2, y3, y4, y5], _ =>
    have f0 := hf 0 _ rfl
    have f1 := hf 1 _ rfl
    have f2 := hf 2 _ rfl
    have f3 := hf 3 _ rfl
    have f4 := hf 4 _ rfl
    have f5 := hf 5 _ rfl
    simp [n8, n3, n2, ns, ni] at f0 f1 f2 f3 f4 f5
    obtain ⟨zs, m0, _, _, _, hz, g⟩ := DataW.trod_array Try.underlying22 f0
    match zs, hz with
    | [z0, z1, z2, z3, z4, z5, z6, z7], _ =>
      have g0 := g 0 (by decide)
      have g1 := g 1 (by decide)
      have g2 := g 2 (by decide)
      have g3 := g 3 (by decide)
      have g4 := g 4 (by decide)
      have g5 := g 5 (by decide)
      have g6 := g 6 (by decide)
      have g7 := g 7 (by decide)
      simp [n1] at g0 g1 g2 g3 g4 g5 g6 g7
      obtain ⟨v0, e0, _, w0⟩ := DataW.trod_int Try.underlying5 g0
      obtain ⟨v1, e1, _, w1⟩ := DataW.trod_int Try.underlying5 g1
      obtain ⟨v2, e2, _, w2⟩ := DataW.trod_int Try.underlying5 g2
      obtain ⟨v3, e3, _, w3⟩ := DataW.trod_int Try.underlying5 g3
      obtain ⟨v4, e4, _, w4⟩ := DataW.trod_int Try.underlying5 g4
      obtain ⟨v5, e5, _, w5⟩ := DataW.trod_int Try.underlying5 g5
      obtain ⟨v6, e6, _, w6⟩ := DataW.trod_int Try.underlying5 g6
      obtain ⟨v7, e7, _, w7⟩ := DataW.trod_int Try.underlying5 g7
      obtain ⟨us, m1, _, _, _, hu, k⟩ := DataW.trod_struct Try.underlying24 f1
      match us, hu with
      | [u0, u1, u2], _ =>
        have k0 := k 0 _ rfl
        have k1 := k 1 _ rfl
        have k2 := k 2 _ rfl
        simp [ni] at k0 k1 k2
        obtain ⟨v8, e8, _, w8⟩ := DataW.trod_int Try.underlying3 k0
        obtain ⟨v9, e9, _, w9⟩ := DataW.trod_int Try.underlying3 k1
        obtain ⟨v10, e10, _, w10⟩ := DataW.trod_int Try.underlying3 k2
        obtain ⟨sk, e11, _, w11⟩ := DataW.trod_string Try.underlying9 f2
        obtain ⟨v12, e12, _, w12⟩ := DataW.trod_int Try.underlying3 f3
        obtain ⟨v13, e13, _, w13⟩ := DataW.trod_int Try.underlying3 f4
        obtain ⟨ts, m2, _, _, _, ht, q⟩ := DataW.trod_struct Try.underlying26 f5
        match ts, ht with
        | [t0, t1], _ =>
          have q0 := q 0 _ rfl
          have q1 := q 1 _ rfl
          simp [ni] at q0 q1
          obtain ⟨v14, e14, _, w14⟩ := DataW.trod_int Try.underlying3 q0
          obtain ⟨v15, e15, _, w15⟩ := DataW.trod_int Try.underlying3 q1
          simp only [List.cons.injEq, and_true] at e0 e1 e2 e3 e4 e5 e6 e7 e8 e9 e10 e11 e12 e13 e14 e15
          subst e0 e1 e2 e3 e4 e5 e6 e7 e8 e9 e10 e11 e12 e13 e14 e15
          obtain ⟨a0, rfl⟩ := u8_of w0
          obtain ⟨a1, rfl⟩ := u8_of w1
          obtain ⟨a2, rfl⟩ := u8_of w2
          obtain ⟨a3, rfl⟩ := u8_of w3
          obtain ⟨a4, rfl⟩ := u8_of w4
          obtain ⟨a5, rfl⟩ := u8_of w5
          obtain ⟨a6, rfl⟩ := u8_of w6
          obtain ⟨a7, rfl⟩ := u8_of w7
          refine ⟨⟨a0, a1, a2, a3, a4, a5, a6, a7, v8, v9, v10, unb sk, v12, v13, v14, v15⟩, ⟨i64_of w8, i64_of w9, i64_of w10, i64_of w12, i64_of w13, i64_of w14, i64_of w15⟩, ?_, ?_⟩
          · show (unb sk).length ≤ _
            rw [unb_len]; exact w11
          · unfold Hd.cs
            rw [bstr_unb]
end Go.Proofs.Ytnbeppgcphibdaa
/-
  A shard that is handed in, opened.
-/
namespace Go.Proofs.Ytnbeppgcphibdaa
open Go.ChangeShapes Go.WideShapes Go.ChangeAt Go.RowKit
theorem spot_no {w : World} {a : Addr} {v : Value} (h : w.cell? (a.add 0) = some v) : ∃ b o, a = ⟨b, o, none⟩ := by
  obtain ⟨b, off, spot⟩ := a
  have hs : spot = none := by simpa [Addr.add] using World.cell?_spot h
  subst hs
  exact ⟨b, off, rfl⟩
/-- The bytes of a row that is handed in. -/
def rowL (Z : List Int) (n : Nat) : List (BitVec 8) := (List.range n).map (fun j => BitVec.ofNat 8 (Z.getD j 0).toNat)
theorem rowL_len (Z : List Int) (n : Nat) : (rowL Z n).length = n := by unfold rowL; simp
theorem rowL_rd {w : World} {A : Option Addr} {len cap base : Nat} {Z : List Int} (hl : len ≤ cap) (hw : ∀ n ∈ Z, (Lit.int .u8 n).wf = true) (h0 : A = none → cap = 0) (hc : ∀ a', A = some a' → base ≤ a'.block ∧ ∀ c, c < cap → w.cell? (a'.add c) = some (.int .u8 (Z.getD c 0))) : Rd w A (rowL Z len) := by
  by_cases h : len = 0
  · subst h; exact .inl rfl
  · cases hA : A with
    | none => have := h0 hA; omega
    | some a =>
      obtain ⟨_, hcc⟩ := hc a hA
      obtain ⟨b, o, rfl⟩ := spot_no (hcc 0 (by omega))
      refine .inr ⟨b, o, rfl, fun i hi => ?_⟩
      rw [rowL_len] at hi
      rw [← add_pl, hcc i (by omega)]
      have hb : 0 ≤ Z.getD i 0 ∧ Z.getD i 0 < 256 := by
        rw [List.getD_eq_getElem?_getD]
        cases e : Z[i]? with
        | none => simp
        | some z =>
          have h1 := bounds_u8 (hw z (List.mem_of_getElem? e))
          exact ⟨h1.1, by have := h1.2; simp only [Option.getD_some]; omega⟩
      have e : (rowL Z len).getD i 0#8 = BitVec.ofNat 8 (Z.getD i 0).toNat := by unfold rowL; simp [List.getD, hi]
      rw [e]
      obtain ⟨z, hz⟩ : ∃ z, z = Z.getD i 0 := ⟨_, rfl⟩
      rw [← hz] at hb ⊢
      unfold el
      rw [BitVec.toNat_ofNat]
      congr 2
      omega
theorem rows_of {H : Type} {enc : TypeId × Value → H} {W : World} {n : Nat} {v : Value} {y : DataW H × List MemPlace} (h : DataW.trod enc Try.prog W 0 (fun _ => true) true n 29 [v] = some y) : ∃ (p : Option Addr) (n c : Nat) (bl : List (List (BitVec 8))), v = .slice p n c ∧ bl.length = n ∧ n ≤ c ∧ Rws W p bl := by
  rcases Go.Deep.open_int_rows Try.underlying29 Try.underlying32 Try.underlying5 (by kernel_rfl) (by kernel_rfl) h with ⟨hcs, _⟩ | ⟨a, len, cap, A, L, C, Z, hcs, _, hl, hm, hx, hrow⟩
  · simp at hcs
    subst hcs
    exact ⟨none, 0, 0, [], rfl, rfl, Nat.le_refl _, .inl rfl⟩
  · simp at hcs
    subst hcs
    refine ⟨some a, len, cap, (List.range len).map (fun r => rowL (Z r) (L r)), rfl, by simp, hl, ?_⟩
    by_cases h0 : len = 0
    · subst h0; exact .inl rfl
    · obtain ⟨b, o, rfl⟩ := spot_no (hrow 0 (by omega)).1
      refine .inr ⟨b, o, rfl, fun i hi => ?_⟩
      have hi' : i < len := by simpa using hi
      obtain ⟨h1, h2, _, _, h5, h6, h7⟩ := hrow i (by omega)
      have e : ((List.range len).map (fun r => rowL (Z r) (L r))).getD i [] = rowL (Z i) (L i) := by simp [List.getD, hi']
      rw [e, rowL_len]
      exact ⟨A i, C i, by rw [← add_pl]; exact h1, h2, rowL_rd h2 h5 h6 h7⟩
theorem shard_of {H : Type} {enc : TypeId × Value → H} {W : World} {n : Nat} {cs : List Value} {y : DataW H × List MemPlace}
    (h : DataW.trod enc Try.prog W 0 (fun _ => true) true n 31 cs = some y) : ∃ (hd : Hd) (p : Option Addr) (n c : Nat) (bl : List (List (BitVec 8))), hd.In ∧ hd.key.length ≤ 9223372036854775807 ∧ cs = (hd.sh (.slice p n c)).toList ∧ bl.length = n ∧ n ≤ c ∧ Rws W p bl := by
  obtain ⟨xs, m, _, _, hl, hlen, hf⟩ := DataW.trod_struct Try.underlying31 h
  have hl' : cs.length = 17 := hl.trans (by kernel_rfl)
  have n16 : Try.prog.cellsOf 28 = 16 := by kernel_rfl
  have n1 : Try.prog.cellsOf 29 = 1 := by kernel_rfl
  match xs, hlen with
  | [y0, y1], _ =>
    have f0 := hf 0 _ rfl
    have f1 := hf 1 _ rfl
    simp [n16, n1] at f0 f1
    obtain ⟨hd, h1, h2, h3⟩ := head_of f0
    have e1 : (cs.drop 16).take 1 = [cs.getD 16 undef] := by
      apply List.ext_getElem?
      intro i
      match i with
      | 0 => simp [List.getD, hl']
      | i + 1 => rw [List.getElem?_eq_none (by simp [hl']), List.getElem?_eq_none (by simp)]
    have f1' : DataW.trod enc Try.prog W 0 (fun _ => true) true m 29 [cs.getD 16 undef] = some y1 := by rw [← e1]; exact f1
    obtain ⟨p, n, c, bl, e, hbl, hc, hR⟩ := rows_of f1'
    refine ⟨hd, p, n, c, bl, h1, h2, ?_, hbl, hc, hR⟩
    have e0 : cs.take 16 = hd.cs.toList := by simpa using h3
    unfold Hd.sh
    rw [Array.toList_push, ← e0, ← e]
    have h5 := List.take_append_drop 16 cs
    have h6 : cs.drop 16 = [cs.getD 16 undef] := by rw [← e1, List.take_of_length_le (by simp [hl'])]
    rw [h6] at h5
    exact h5.symm
end Go.Proofs.Ytnbeppgcphibdaa
/-
  The document's Fits, Sizes, Check, Length.
-/
namespace Go.Proofs.Ytnbeppgcphibdaa
open Go.RowKit
theorem bls_len (k s : Nat) (hs : 1 ≤ s) : ∀ f l, l ≤ f → (bls k s f l).length = (l + s - 1) / s := by
  intro f
  induction f with
  | zero =>
    intro l hl
    have : l = 0 := by omega
    subst this
    show 0 = _
    rw [Nat.div_eq_of_lt (by omega)]
  | succ f ih =>
    intro l hl
    unfold bls
    split
    · rename_i h; subst h; rw [Nat.div_eq_of_lt (by omega)]; rfl
    · rename_i h
      rw [List.length_cons, ih (l - s) (by omega)]
      by_cases hls : l ≤ s
      · rw [show l - s + s - 1 = s - 1 by omega, Nat.div_eq_of_lt (by omega)]
        have : (l + s - 1) / s = 1 := by
          rw [show l + s - 1 = (l - 1) + s by omega, Nat.add_div_right _ (by omega), Nat.div_eq_of_lt (by omega)]
        omega
      · rw [show l - s + s - 1 = l - 1 by omega, show l + s - 1 = (l - 1) + s by omega, Nat.add_div_right _ (by omega)]
theorem dvk (d k : Nat) (hk : 1 ≤ k) : ∃ q : Nat, (d : Int) / (k : Int) = (q : Int) ∧ q ≤ d ∧ (((q : Int) * (k : Int) < (d : Int) ∧ 0 ≤ (q : Int) * (k : Int) ∧ (d + k - 1) / k = q + 1) ∨ ((q : Int) * (k : Int) = (d : Int) ∧ (d + k - 1) / k = q)) := by
  refine ⟨d / k, by rw [Int.natCast_ediv], Nat.div_le_self _ _, ?_⟩
  have hd := Nat.div_add_mod d k
  have hm := Nat.mod_lt d hk
  have hle : d / k ≤ d := Nat.div_le_self _ _
  generalize d / k = q at hd hle ⊢
  generalize d % k = r at hd hm
  rw [← Int.natCast_mul]
  by_cases h0 : r = 0
  · refine .inr ⟨by rw [Nat.mul_comm]; omega, ?_⟩
    have : d + k - 1 = k * q + (k - 1) := by omega
    rw [this, Nat.mul_add_div (by omega), Nat.div_eq_of_lt (by omega), Nat.add_zero]
  · refine .inl ⟨by rw [Nat.mul_comm]; omega, by omega, ?_⟩
    have : d + k - 1 = k * (q + 1) + (r - 1) := by rw [Nat.mul_add]; omega
    rw [this, Nat.mul_add_div (by omega), Nat.div_eq_of_lt (by omega), Nat.add_zero]
theorem kbk (k b : Nat) (hk : 1 ≤ k) : (k * b + k - 1) / k = b := by
  have : k * b + k - 1 = k * b + (k - 1) := by omega
  rw [this, Nat.mul_add_div (by omega), Nat.div_eq_of_lt (by omega), Nat.add_zero]
theorem ShAt.grown {w w' : World} {o : Obj} {g base n : Nat} {k m b : Int} {v : Value} {xs : List Value} (hb : Below w.heap.size w (w.alloc o)) (hg : (w.alloc o).grownBy w' v.ownBlock) (ho : w.ownsRow base 3 1 v n xs) (H : ShAt w g k m b) : ShAt w' g k m b := by
  have H' := H.below hb
  unfold ShAt at H' ⊢
  rw [hg.block g (Hm.lt H') (fun e => ?_)]
  · exact H'
  · obtain ⟨cs, hcs⟩ := (own_lt (own_below ho hb) e.symm).2.2
    rw [H'] at hcs
    injection hcs with hcs
    injection hcs with _ hcs
    cases hcs
section
attribute [local irreducible] Calls el Hd.cs
set_option maxHeartbeats 1000000 in
set_option maxRecDepth 1000000 in
theorem rfits_any (k m b : Int) (hk : In64 k) (hm : In64 m) (w : World) :
    Calls Try.prog 34 #[.agg (shC k m b)] w fun e w' => e = .returned (.bool (shB k m b)) ∧ Below w.heap.size w w' := by
  unfold shC shB
  unfold In64 at hk hm
  have al : ∀ (W : World) (o : Obj), Below W.heap.size W (W.alloc o) := fun W o => (Below.refl _ _).alloc (Nat.le_refl _) o
  go_enter Try.func34, Try.ntmps34
  go_wp2
  all_goals (go_ret; refine ⟨?_, al _ _⟩; show Ending.returned (.bool _) = Ending.returned (.bool _); congr 2; rw [Bool.eq_iff_iff]; simp only [Bool.and_eq_true, decide_eq_true_eq, Bool.false_eq_true, false_iff]; omega)
set_option maxHeartbeats 4000000 in
set_option maxRecDepth 1000000 in
theorem rsizes_nat (k m b sz : Nat) (hsh : shp k m b) (hz : sz ≤ 1048576) (w : World) :
    Calls Try.prog 17 #[.agg (shC k m b), .int .i64 (sz : Int)] w fun e w' => ∃ v, e = .returned (.tuple #[v, .int .i64 (if (bls k (k * b) sz sz).length ≤ 4096 then 0 else 3)]) ∧ Oi w' w.heap.size v (if (bls k (k * b) sz sz).length ≤ 4096 then bls k (k * b) sz sz else []) ∧ Below w.heap.size w w' := by
  have al : ∀ (W : World) (o : Obj), Below W.heap.size W (W.alloc o) := fun W o => (Below.refl _ _).alloc (Nat.le_refl _) o
  have d1 := (shB_iff _ _ _).2 hsh
  have hk : 1 ≤ k ∧ k ≤ 255 := by unfold shp at hsh; omega
  have hb : 1 ≤ b ∧ b ≤ 65536 := by unfold shp at hsh; omega
  have FI := (show Hid _ from fun w => rfits_any k m b (by unfold In64; omega) (by unfold In64; unfold shp at hsh; omega) w)
  have HA := ShAt.new w k m b
  have kb : 1 ≤ k * b ∧ k * b ≤ 16711680 := ⟨Nat.mul_le_mul hk.1 hb.1, Nat.mul_le_mul hk.2 hb.2⟩
  have HI : Hid ((k : Int) * (b : Int) = ((k * b : Nat) : Int)) := by show _ = _; simp
  have kbi : 1 ≤ (k : Int) * (b : Int) ∧ (k : Int) * (b : Int) ≤ 16711680 := by rw [HI.out]; omega
  unfold shC at FI HA ⊢
  clear hsh
  go_enter Try.func17, Try.ntmps17
  go_wp2_with (go_at_call 34; refine (FI.out _).mono ?_; rintro e w1 ⟨rfl, hb1⟩; rw [d1]; have H1 := HA.below hb1)
  obtain ⟨x0, x1, x2⟩ := H1.cells
  have hbb := bt (al w (.cells #[.int .i64 (k : Int), .int .i64 (m : Int), .int .i64 (b : Int)] 24)) hb1
  clear x0 x1 x2 FI HA
  go_loopw [7, 8] (fun o i wr => ∃ (f l : Nat) (z : Int) (ys : List Nat), i = .int .i64 z ∧ (0 < z → z = l) ∧ (z ≤ 0 → l = 0) ∧ -16711680 ≤ z ∧ l ≤ f ∧ ys.length + f = sz ∧ ys ++ bls k (k * b) f l = bls k (k * b) sz sz ∧ Oi wr w.heap.size o ys ∧ ShAt wr w.heap.size k m b ∧ Below w.heap.size w wr) (fun _ i _ => (intOf i).toNat)
  case atStart => exact ⟨sz, sz, sz, [], rfl, fun _ => rfl, fun _ => by omega, by omega, Nat.le_refl _, by simp, rfl, Oi.nil _ _, H1, hbb⟩
  case round =>
    obtain ⟨f, l, z, ys, rfl, hz1, hz2, hz3, hlf, hyf, he, hO, hS, hb'⟩ := hrel
    have hsz := hb'.size
    by_cases hlt : 0 < z
    · have hzl := hz1 hlt
      subst hzl
      obtain ⟨c0, c1, c2⟩ := hS.cells
      obtain ⟨f, rfl⟩ : ∃ f', f = f' + 1 := ⟨f - 1, by omega⟩
      have hl0 : ¬ l = 0 := by omega
      have hst : bls k (k * b) (f + 1) l = (min l (k * b) + k - 1) / k :: bls k (k * b) f (l - k * b) := by
        show (if l = 0 then [] else _) = _
        rw [if_neg hl0]
      have i1 : (l : Int) ≤ 1048576 := by omega
      clear hl0 hz1 hz2
      rcases Nat.lt_or_ge (k * b) l with hls | hls
      · have hmn : min l (k * b) = k * b := Nat.min_eq_right (Nat.le_of_lt hls)
        have g1 : (k : Int) * (b : Int) < (l : Int) := by rw [HI.out]; omega
        have e1 : (k : Int) * (b : Int) / (k : Int) = (b : Int) := Int.mul_ediv_cancel_left _ (by omega)
        have e2 : (b : Int) * (k : Int) = (k : Int) * (b : Int) := Int.mul_comm _ _
        rw [hmn, kbk k b hk.1] at hst
        rw [hst, List.append_cons] at he
        clear hst hmn
        have rc := cell_of_row (wr.alloc (.cells #[.int .i64 (b : Int)] 3)) wr.heap.size 0 _ _ (0, 0) (heap_alloc_new wr _)
        go_wp2_with (at_builtin; refine wpList_api rfl (.tmp 54) (.tmp 56) rfl w.heap.size u7 ys rfl (hO.below (al _ _)) ⟨wr.heap.size, 0, none⟩ 1 _ rfl rc (by omega) (Nat.le_trans hsz (al _ _).size) ?_; intro v1 w2 ho1 hg1; have hS2 := ShAt.grown (al wr (.cells #[.int .i64 (b : Int)] 3)) hg1 hO hS; obtain ⟨y0, y1, y2⟩ := hS2.cells)
        go_roundw
        case rel =>
          refine ⟨f, l - k * b, _, _, rfl, fun h => ?_, fun h => ?_, ?_, by omega, by rw [List.length_append]; simp; omega, he, ho1, hS2, below_append (t := 3) (hb'.alloc hsz _) (Nat.le_trans hsz (al _ _).size) hg1 (hO.below (al _ _)) (Nat.le_refl _)⟩
          · have := HI.out; omega
          · have := HI.out; omega
          · omega
        case measure => have := kbi.1; simp [intOf]; omega
      · have hmn : min l (k * b) = l := Nat.min_eq_left hls
        have g1 : (l : Int) ≤ (k : Int) * (b : Int) := by rw [HI.out]; omega
        obtain ⟨q, e1, hq, dv⟩ := dvk l k hk.1
        rw [hmn] at hst
        rw [hst, List.append_cons] at he
        clear hst hmn
        rcases dv with ⟨dv1, dv2, dv3⟩ | ⟨dv1, dv3⟩
        · rw [dv3] at he
          clear dv3
          have rc := cell_of_row (wr.alloc (.cells #[.int .i64 ((q + 1 : Nat) : Int)] 3)) wr.heap.size 0 _ _ (0, 0) (heap_alloc_new wr _)
          go_wp2_with (at_builtin; refine wpList_api rfl (.tmp 54) (.tmp 56) rfl w.heap.size u7 ys rfl (hO.below (al _ _)) ⟨wr.heap.size, 0, none⟩ 1 _ rfl rc (by omega) (Nat.le_trans hsz (al _ _).size) ?_; intro v1 w2 ho1 hg1; have hS2 := ShAt.grown (al wr (.cells #[.int .i64 ((q + 1 : Nat) : Int)] 3)) hg1 hO hS; obtain ⟨y0, y1, y2⟩ := hS2.cells)
          go_roundw
          case rel =>
            refine ⟨f, l - k * b, _, _, rfl, fun h => ?_, fun h => ?_, ?_, by omega, by rw [List.length_append]; simp; omega, he, ho1, hS2, below_append (t := 3) (hb'.alloc hsz _) (Nat.le_trans hsz (al _ _).size) hg1 (hO.below (al _ _)) (Nat.le_refl _)⟩
            · have := HI.out; omega
            · have := HI.out; omega
            · omega
          case measure => have := kbi.1; simp [intOf]; omega
        · rw [dv3] at he
          clear dv3
          have rc := cell_of_row (wr.alloc (.cells #[.int .i64 (q : Int)] 3)) wr.heap.size 0 _ _ (0, 0) (heap_alloc_new wr _)
          go_wp2_with (at_builtin; refine wpList_api rfl (.tmp 54) (.tmp 56) rfl w.heap.size u7 ys rfl (hO.below (al _ _)) ⟨wr.heap.size, 0, none⟩ 1 _ rfl rc (by omega) (Nat.le_trans hsz (al _ _).size) ?_; intro v1 w2 ho1 hg1; have hS2 := ShAt.grown (al wr (.cells #[.int .i64 (q : Int)] 3)) hg1 hO hS; obtain ⟨y0, y1, y2⟩ := hS2.cells)
          go_roundw
          case rel =>
            refine ⟨f, l - k * b, _, _, rfl, fun h => ?_, fun h => ?_, ?_, by omega, by rw [List.length_append]; simp; omega, he, ho1, hS2, below_append (t := 3) (hb'.alloc hsz _) (Nat.le_trans hsz (al _ _).size) hg1 (hO.below (al _ _)) (Nat.le_refl _)⟩
            · have := HI.out; omega
            · have := HI.out; omega
            · omega
          case measure => have := kbi.1; simp [intOf]; omega
    · have hl0 := hz2 (by omega)
      subst hl0
      have hnil : bls k (k * b) f 0 = [] := by cases f <;> rfl
      rw [hnil, List.append_nil] at he
      subst he
      clear hnil
      obtain ⟨p, cap, rfl, hcap, hV⟩ := hO.rd
      by_cases h4 : (bls k (k * b) sz sz).length ≤ 4096
      · have h4' : ((bls k (k * b) sz sz).length : Int) ≤ 4096 := by omega
        go_wp2
        go_ret2
        exact ⟨_, rfl, hO, hb'⟩
      · have h4' : ¬ ((bls k (k * b) sz sz).length : Int) ≤ 4096 := by omega
        go_wp2
        go_ret2
        exact ⟨_, rfl, Oi.nil _ _, hb'⟩
set_option maxHeartbeats 1000000 in
set_option maxRecDepth 1000000 in
theorem rsizes_any (k m b sz : Int) (hk : In64 k) (hm : In64 m) (hz : In64 sz) (w : World) :
    Calls Try.prog 17 #[.agg (shC k m b), .int .i64 sz] w fun e w' => ∃ v, e = .returned (.tuple #[v, .int .i64 (szC k m b sz)]) ∧ Oi w' w.heap.size v (szL k m b sz) ∧ Below w.heap.size w w' := by
  have al : ∀ (W : World) (o : Obj), Below W.heap.size W (W.alloc o) := fun W o => (Below.refl _ _).alloc (Nat.le_refl _) o
  have FI := (show Hid _ from fun w => rfits_any k m b hk hm w)
  by_cases h1 : shp k m b
  · by_cases h2 : 0 ≤ sz ∧ sz ≤ 1048576
    · obtain ⟨K, M, B, Z, rfl, rfl, rfl, rfl, hK, hB, hZ⟩ : ∃ K M B Z : Nat, k = K ∧ m = M ∧ b = B ∧ sz = Z ∧ (1 ≤ K ∧ K ≤ 255) ∧ (1 ≤ B ∧ B ≤ 65536) ∧ Z ≤ 1048576 := by
        unfold shp at h1
        exact ⟨k.toNat, m.toNat, b.toNat, sz.toNat, by omega, by omega, by omega, by omega, by omega, by omega, by omega⟩
      have h := rsizes_nat K M B Z h1 hZ w
      have hkb : 1 ≤ K * B := Nat.mul_le_mul hK.1 hB.1
      have hlen : ((bls K (K * B) Z Z).length : Int) = cdv Z ((K : Int) * (B : Int)) := by
        rw [bls_len K (K * B) hkb Z Z (Nat.le_refl _)]
        unfold cdv
        rw [← Int.natCast_mul, Int.natCast_ediv]; congr 1; omega
      have e1 : szC K M B Z = if (bls K (K * B) Z Z).length ≤ 4096 then 0 else 3 := by
        unfold szC szE
        rw [if_neg (not_not_intro h1), if_neg (by omega)]
        by_cases h4 : (bls K (K * B) Z Z).length ≤ 4096
        · rw [if_pos h4, if_neg (by omega)]
        · rw [if_neg h4, if_pos (by omega)]
      have e2 : szL K M B Z = if (bls K (K * B) Z Z).length ≤ 4096 then bls K (K * B) Z Z else [] := by
        unfold szL
        rw [e1, ← Int.natCast_mul]
        simp only [Int.toNat_natCast]
        by_cases h4 : (bls K (K * B) Z Z).length ≤ 4096
        · rw [if_pos h4, if_pos h4, if_pos rfl]
        · rw [if_neg h4, if_neg h4, if_neg (by decide)]
      rw [e1, e2]
      exact h
    · have d1 := (shB_iff _ _ _).2 h1
      have e1 : szC k m b sz = if sz < 0 then 2 else 3 := by
        unfold szC szE
        rw [if_neg (not_not_intro h1)]
        by_cases h3 : sz < 0
        · rw [if_pos h3, if_pos h3]
        · rw [if_neg h3, if_neg h3, if_pos (by omega)]
      have e2 : szL k m b sz = [] := by
        unfold szL
        rw [e1, if_neg (by split <;> decide)]
      rw [e1, e2]
      unfold shC at FI ⊢
      clear e1 e2
      go_enter Try.func17, Try.ntmps17
      by_cases h3 : sz < 0
      · rw [if_pos h3]
        go_wp2_with (go_at_call 34; refine (FI.out _).mono ?_; rintro e w1 ⟨rfl, hb1⟩; rw [d1])
        go_ret2
        exact ⟨_, rfl, Oi.nil _ _, bt (al _ _) hb1⟩
      · rw [if_neg h3]
        have h4 : 1048576 < sz := by omega
        go_wp2_with (go_at_call 34; refine (FI.out _).mono ?_; rintro e w1 ⟨rfl, hb1⟩; rw [d1])
        go_ret2
        exact ⟨_, rfl, Oi.nil _ _, bt (al _ _) hb1⟩
  · have d1 : shB k m b = false := by
      cases e : shB k m b with
      | false => rfl
      | true => exact absurd ((shB_iff _ _ _).1 e) h1
    have e1 : szC k m b sz = 4 := by unfold szC; rw [if_pos h1]
    have e2 : szL k m b sz = [] := by unfold szL; rw [e1, if_neg (by decide)]
    rw [e1, e2]
    unfold shC at FI ⊢
    go_enter Try.func17, Try.ntmps17
    go_wp2_with (go_at_call 34; refine (FI.out _).mono ?_; rintro e w1 ⟨rfl, hb1⟩; rw [d1])
    go_ret2
    exact ⟨_, rfl, Oi.nil _ _, bt (al _ _) hb1⟩
end
end Go.Proofs.Ytnbeppgcphibdaa
/-
  The document's Check, Length.
-/
namespace Go.Proofs.Ytnbeppgcphibdaa
open Go.RowKit
section
attribute [local irreducible] Calls el Hd.cs
set_option maxHeartbeats 4000000 in
set_option maxRecDepth 1000000 in
theorem rcheck_any (h : Hd) (hi : h.In) (hy : h.key.length ≤ 9223372036854775807) (w : World) :
    Calls Try.prog 16 #[.agg h.cs] w fun e w' => e = .returned (.int .i64 (chk h)) ∧ Below w.heap.size w w' := by
  have al : ∀ (W : World) (o : Obj), Below W.heap.size W (W.alloc o) := fun W o => (Below.refl _ _).alloc (Nat.le_refl _) o
  have hl : (bstr h.key).size = h.key.length := by show (us h.key).toArray.size = _; simp [us]
  have FI := (show Hid _ from fun w => rfits_any h.k h.m h.b hi.k hi.m w)
  have SZ := (show Hid _ from fun w => rsizes_any h.k h.m h.b h.sz hi.k hi.m hi.sz w)
  have HA := HdAt.new w h
  obtain ⟨q8, q9, q10, q11, q12, q13, q14, q15⟩ := HA.cells
  obtain ⟨ik, im, ib, iz, ii, ie, ic⟩ := hi
  unfold In64 at ik im ib iz ii ie ic
  unfold shC at FI SZ
  by_cases h1 : shp h.k h.m h.b
  · have d1 := (shB_iff _ _ _).2 h1
    have e1 : szC h.k h.m h.b h.sz = szE h.k h.b h.sz := by unfold szC; rw [if_neg (not_not_intro h1)]
    rw [e1] at SZ
    have kk : 1 ≤ h.k ∧ h.k ≤ 255 ∧ 1 ≤ h.m ∧ h.m ≤ 255 := by unfold shp at h1; omega
    by_cases h2 : 1 ≤ h.key.length ∧ h.key.length ≤ 255
    · have g1 : ¬ (h.key.length : Int) < 1 := by omega
      have g2 : ¬ 255 < (h.key.length : Int) := by omega
      by_cases h3 : szE h.k h.b h.sz = 0
      · rw [h3] at SZ
        by_cases h4 : 0 ≤ h.ix ∧ h.ix ≤ h.k + h.m - 1
        · have g3 : ¬ h.ix < 0 := by omega
          have g4 : ¬ h.k + h.m ≤ h.ix := by omega
          by_cases h5 : 1 ≤ h.ep ∧ h.ep ≤ 4294967295
          · have g5 : ¬ h.ep < 1 := by omega
            have g6 : ¬ 4294967295 < h.ep := by omega
            by_cases h6 : 1 ≤ h.ct ∧ h.ct ≤ 4294967295
            · have g7 : ¬ h.ct < 1 := by omega
              have g8 : ¬ 4294967295 < h.ct := by omega
              have ec : chk h = 0 := by unfold chk; rw [if_neg (not_not_intro h1), if_neg (not_not_intro h2), if_neg (not_not_intro h3), if_neg (not_not_intro h4), if_neg (not_not_intro ⟨h5, h6⟩)]
              rw [ec]
              clear h1 h2 h3 h4 h5 h6 ec e1
              go_enter Try.func16, Try.ntmps16
              go_wp2_with (first | (go_at_call 34; refine (FI.out _).mono ?_; rintro e w1 ⟨rfl, hb1⟩; rw [d1]; have H1 := HA.below hb1; obtain ⟨q8, q9, q10, q11, q12, q13, q14, q15⟩ := H1.cells) | (go_at_call 17; refine (SZ.out _).mono ?_; rintro e w3 ⟨v, rfl, hO, hb3⟩; obtain ⟨z8, z9, z10, z11, z12, z13, z14, z15⟩ := (H1.below hb3).cells))
              all_goals go_ret
              all_goals exact ⟨rfl, bt (bt (al _ _) hb1) hb3⟩
            · have ec : chk h = 2 := by unfold chk; rw [if_neg (not_not_intro h1), if_neg (not_not_intro h2), if_neg (not_not_intro h3), if_neg (not_not_intro h4), if_pos (fun g => h6 g.2)]
              rw [ec]
              by_cases g7 : h.ct < 1
              · clear h1 h2 h3 h4 h5 h6 ec e1
                go_enter Try.func16, Try.ntmps16
                go_wp2_with (first | (go_at_call 34; refine (FI.out _).mono ?_; rintro e w1 ⟨rfl, hb1⟩; rw [d1]; have H1 := HA.below hb1; obtain ⟨q8, q9, q10, q11, q12, q13, q14, q15⟩ := H1.cells) | (go_at_call 17; refine (SZ.out _).mono ?_; rintro e w3 ⟨v, rfl, hO, hb3⟩; obtain ⟨z8, z9, z10, z11, z12, z13, z14, z15⟩ := (H1.below hb3).cells))
                all_goals go_ret
                all_goals exact ⟨rfl, bt (bt (al _ _) hb1) hb3⟩
              · have g8 : 4294967295 < h.ct := by omega
                clear h1 h2 h3 h4 h5 h6 ec e1
                go_enter Try.func16, Try.ntmps16
                go_wp2_with (first | (go_at_call 34; refine (FI.out _).mono ?_; rintro e w1 ⟨rfl, hb1⟩; rw [d1]; have H1 := HA.below hb1; obtain ⟨q8, q9, q10, q11, q12, q13, q14, q15⟩ := H1.cells) | (go_at_call 17; refine (SZ.out _).mono ?_; rintro e w3 ⟨v, rfl, hO, hb3⟩; obtain ⟨z8, z9, z10, z11, z12, z13, z14, z15⟩ := (H1.below hb3).cells))
                all_goals go_ret
                all_goals exact ⟨rfl, bt (bt (al _ _) hb1) hb3⟩
          · have ec : chk h = 2 := by unfold chk; rw [if_neg (not_not_intro h1), if_neg (not_not_intro h2), if_neg (not_not_intro h3), if_neg (not_not_intro h4), if_pos (fun g => h5 g.1)]
            rw [ec]
            by_cases g7 : h.ep < 1
            · clear h1 h2 h3 h4 h5 ec e1
              go_enter Try.func16, Try.ntmps16
              go_wp2_with (first | (go_at_call 34; refine (FI.out _).mono ?_; rintro e w1 ⟨rfl, hb1⟩; rw [d1]; have H1 := HA.below hb1; obtain ⟨q8, q9, q10, q11, q12, q13, q14, q15⟩ := H1.cells) | (go_at_call 17; refine (SZ.out _).mono ?_; rintro e w3 ⟨v, rfl, hO, hb3⟩; obtain ⟨z8, z9, z10, z11, z12, z13, z14, z15⟩ := (H1.below hb3).cells))
              all_goals go_ret
              all_goals exact ⟨rfl, bt (bt (al _ _) hb1) hb3⟩
            · have g8 : 4294967295 < h.ep := by omega
              clear h1 h2 h3 h4 h5 ec e1
              go_enter Try.func16, Try.ntmps16
              go_wp2_with (first | (go_at_call 34; refine (FI.out _).mono ?_; rintro e w1 ⟨rfl, hb1⟩; rw [d1]; have H1 := HA.below hb1; obtain ⟨q8, q9, q10, q11, q12, q13, q14, q15⟩ := H1.cells) | (go_at_call 17; refine (SZ.out _).mono ?_; rintro e w3 ⟨v, rfl, hO, hb3⟩; obtain ⟨z8, z9, z10, z11, z12, z13, z14, z15⟩ := (H1.below hb3).cells))
              all_goals go_ret
              all_goals exact ⟨rfl, bt (bt (al _ _) hb1) hb3⟩
        · have ec : chk h = 2 := by unfold chk; rw [if_neg (not_not_intro h1), if_neg (not_not_intro h2), if_neg (not_not_intro h3), if_pos h4]
          rw [ec]
          by_cases g3 : h.ix < 0
          · clear h1 h2 h3 h4 ec e1
            go_enter Try.func16, Try.ntmps16
            go_wp2_with (first | (go_at_call 34; refine (FI.out _).mono ?_; rintro e w1 ⟨rfl, hb1⟩; rw [d1]; have H1 := HA.below hb1; obtain ⟨q8, q9, q10, q11, q12, q13, q14, q15⟩ := H1.cells) | (go_at_call 17; refine (SZ.out _).mono ?_; rintro e w3 ⟨v, rfl, hO, hb3⟩; obtain ⟨z8, z9, z10, z11, z12, z13, z14, z15⟩ := (H1.below hb3).cells))
            all_goals go_ret
            all_goals exact ⟨rfl, bt (bt (al _ _) hb1) hb3⟩
          · have g4 : h.k + h.m ≤ h.ix := by omega
            clear h1 h2 h3 h4 ec e1
            go_enter Try.func16, Try.ntmps16
            go_wp2_with (first | (go_at_call 34; refine (FI.out _).mono ?_; rintro e w1 ⟨rfl, hb1⟩; rw [d1]; have H1 := HA.below hb1; obtain ⟨q8, q9, q10, q11, q12, q13, q14, q15⟩ := H1.cells) | (go_at_call 17; refine (SZ.out _).mono ?_; rintro e w3 ⟨v, rfl, hO, hb3⟩; obtain ⟨z8, z9, z10, z11, z12, z13, z14, z15⟩ := (H1.below hb3).cells))
            all_goals go_ret
            all_goals exact ⟨rfl, bt (bt (al _ _) hb1) hb3⟩
      · have ec : chk h = szE h.k h.b h.sz := by unfold chk; rw [if_neg (not_not_intro h1), if_neg (not_not_intro h2), if_pos h3]
        rw [ec]
        have hz := szE_bd h.k h.b h.sz
        generalize szE h.k h.b h.sz = z at h3 SZ hz ⊢
        clear h1 h2 ec e1
        go_enter Try.func16, Try.ntmps16
        go_wp2_with (first | (go_at_call 34; refine (FI.out _).mono ?_; rintro e w1 ⟨rfl, hb1⟩; rw [d1]; have H1 := HA.below hb1; obtain ⟨q8, q9, q10, q11, q12, q13, q14, q15⟩ := H1.cells) | (go_at_call 17; refine (SZ.out _).mono ?_; rintro e w3 ⟨v, rfl, hO, hb3⟩; obtain ⟨z8, z9, z10, z11, z12, z13, z14, z15⟩ := (H1.below hb3).cells))
        all_goals go_ret
        all_goals exact ⟨rfl, bt (bt (al _ _) hb1) hb3⟩
    · have ec : chk h = 90 := by unfold chk; rw [if_neg (not_not_intro h1), if_pos h2]
      rw [ec]
      by_cases g1 : (h.key.length : Int) < 1
      · clear h1 h2 ec e1
        go_enter Try.func16, Try.ntmps16
        go_wp2_with (first | (go_at_call 34; refine (FI.out _).mono ?_; rintro e w1 ⟨rfl, hb1⟩; rw [d1]; have H1 := HA.below hb1; obtain ⟨q8, q9, q10, q11, q12, q13, q14, q15⟩ := H1.cells) | (go_at_call 17; refine (SZ.out _).mono ?_; rintro e w3 ⟨v, rfl, hO, hb3⟩; obtain ⟨z8, z9, z10, z11, z12, z13, z14, z15⟩ := (H1.below hb3).cells))
        all_goals go_ret
        all_goals exact ⟨rfl, bt (al _ _) hb1⟩
      · have g2 : 255 < (h.key.length : Int) := by omega
        clear h1 h2 ec e1
        go_enter Try.func16, Try.ntmps16
        go_wp2_with (first | (go_at_call 34; refine (FI.out _).mono ?_; rintro e w1 ⟨rfl, hb1⟩; rw [d1]; have H1 := HA.below hb1; obtain ⟨q8, q9, q10, q11, q12, q13, q14, q15⟩ := H1.cells) | (go_at_call 17; refine (SZ.out _).mono ?_; rintro e w3 ⟨v, rfl, hO, hb3⟩; obtain ⟨z8, z9, z10, z11, z12, z13, z14, z15⟩ := (H1.below hb3).cells))
        all_goals go_ret
        all_goals exact ⟨rfl, bt (al _ _) hb1⟩
  · have d1 : shB h.k h.m h.b = false := by
      cases e : shB h.k h.m h.b with
      | false => rfl
      | true => exact absurd ((shB_iff _ _ _).1 e) h1
    have ec : chk h = 4 := by unfold chk; rw [if_pos h1]
    rw [ec]
    clear h1 ec
    go_enter Try.func16, Try.ntmps16
    go_wp2_with (first | (go_at_call 34; refine (FI.out _).mono ?_; rintro e w1 ⟨rfl, hb1⟩; rw [d1]; have H1 := HA.below hb1; obtain ⟨q8, q9, q10, q11, q12, q13, q14, q15⟩ := H1.cells) | (go_at_call 17; refine (SZ.out _).mono ?_; rintro e w3 ⟨v, rfl, hO, hb3⟩; obtain ⟨z8, z9, z10, z11, z12, z13, z14, z15⟩ := (H1.below hb3).cells))
    all_goals go_ret
    all_goals exact ⟨rfl, bt (al _ _) hb1⟩
end
end Go.Proofs.Ytnbeppgcphibdaa
/-
  The document's Length.
-/
namespace Go.Proofs.Ytnbeppgcphibdaa
open Go.RowKit
section
attribute [local irreducible] Calls el Hd.cs
end
end Go.Proofs.Ytnbeppgcphibdaa
/-
  The laws' fit: blocks of the right lengths.
-/
namespace Go.Proofs.Ytnbeppgcphibdaa
open Go.RowKit
/-- A block of l bytes, out of what there is. -/
def padT (l : Nat) (x : List (BitVec 8)) : List (BitVec 8) := x.take l ++ List.replicate (l - x.length) 0#8
theorem padT_len (l : Nat) (x : List (BitVec 8)) : (padT l x).length = l := by unfold padT; simp; omega
def fitB (L : List Nat) (bl : List (List (BitVec 8))) : List (List (BitVec 8)) := (List.range L.length).map (fun j => padT (L.getD j 0) (bl.getD j []))
theorem fitB_len (L : List Nat) (bl : List (List (BitVec 8))) : (fitB L bl).length = L.length := by unfold fitB; simp
theorem fitB_ls (L : List Nat) (bl : List (List (BitVec 8))) : (fitB L bl).map List.length = L := by
  apply List.ext_getElem?
  intro i
  unfold fitB
  by_cases hi : i < L.length
  · simp [hi, padT_len]
  · rw [List.getElem?_eq_none (by simp; omega), List.getElem?_eq_none (by omega)]
theorem fitB_take (L : List Nat) (bl : List (List (BitVec 8))) (t : Nat) (ht : t < L.length) : (fitB L bl).take (t + 1) = (fitB L bl).take t ++ [padT (L.getD t 0) (bl.getD t [])] := by
  rw [List.take_add_one]
  congr 1
  unfold fitB
  simp [ht]
theorem vs_map (xs : List (BitVec 8)) : vs (fn xs) xs.length = xs.map (fun b => Value.int .u8 (el b)) := by
  apply List.ext_getElem?
  intro i
  by_cases hi : i < xs.length
  · simp [vs, fn, hi]
  · rw [List.getElem?_eq_none (by rw [vs_len]; omega), List.getElem?_eq_none (by simp; omega)]
theorem Ow.of_row {w : World} {base g : Nat} {xs : List (BitVec 8)} (hg : base ≤ g) (h : w.heap[g]? = some (.cells (xs.map (fun b => Value.int .u8 (el b))).toArray 5)) (hl : xs.length ≤ 140737488355328) : Ow w base (.slice (some ⟨g, 0, none⟩) xs.length xs.length) xs := by
  unfold Ow
  rw [vs_map]
  refine ⟨by simp, .inr ⟨g, xs.length, _, rfl, hg, h, Nat.le_refl _, by unfold maxLen; omega, by simp, by rw [Nat.mul_one]; exact List.take_of_length_le (by simp)⟩⟩
theorem padT_row (l : Nat) (x : List (BitVec 8)) : (Array.replicate l (Value.int .u8 0)).toList.take 0 ++ ((x.take l).map (fun b => Value.int .u8 (el b)) ++ (Array.replicate l (Value.int .u8 0)).toList.drop (0 + ((x.take l).map (fun b => Value.int .u8 (el b))).length)) = (padT l x).map (fun b => Value.int .u8 (el b)) := by
  unfold padT
  rw [List.map_append]
  simp
  exact ⟨by omega, .inr rfl⟩
theorem padT_nil (l : Nat) : (padT l []).map (fun b => Value.int .u8 (el b)) = List.replicate l (Value.int .u8 0) := by
  unfold padT
  simp
  exact .inr rfl
theorem Ow.blank (w : World) (l : Nat) (hl : l ≤ 140737488355328) : Ow (w.alloc (.cells (Array.replicate l (.int .u8 0)) 5)) w.heap.size (.slice (some ⟨w.heap.size, 0, none⟩) l l) (padT l []) := by
  have h := Ow.of_row (w := w.alloc (.cells (Array.replicate l (.int .u8 0)) 5)) (base := w.heap.size) (g := w.heap.size) (xs := padT l []) (Nat.le_refl _) (by rw [padT_nil, ← List.toArray_replicate]; exact heap_alloc_new w _) (by rw [padT_len]; exact hl)
  rw [padT_len] at h
  exact h
theorem Turned.refl (g : Nat) (w : World) : Turned g w w := ⟨fun _ _ => rfl, fun _ _ h _ => h, rfl⟩
/-- copy(block, x) onto a new block. -/
theorem wpList_cpT {w : World} {ops : Array Oper} {rest : List Oper} {o : Oper} {a : Act} {Q : Exit → Act → World → Prop} (hgd : o.guard = none) (d s : Operand) (ho : o.op = .call { callee := .builtin .copy, args := #[d, s], argTypes := #[32, 32] })
    (g l : Nat) (hd : a.eval d = .slice (some ⟨g, 0, none⟩) l l) (p : Option Addr) (c : Nat) (x : List (BitVec 8)) (hs : a.eval s = .slice p x.length c) (hr : Rd w p x) (hg : w.heap[g]? = some (.cells (Array.replicate l (.int .u8 0)) 5)) (hl : l ≤ 140737488355328)
    (h : ∀ w', Ow w' g (.slice (some ⟨g, 0, none⟩) l l) (padT l x) → Turned g w w' → wpList Try.prog ops Q rest (a.put o.dst (goInt ((x.take l).length))) w') : wpList Try.prog ops Q (o :: rest) a w := by
  have hsz : (Try.prog.info? 5).map (·.size) = some 1 := by kernel_rfl
  rcases hr with e | ⟨b, off, e, hc⟩
  · subst e
    refine wpList_copy_nothing hgd d s 32 32 ho 5 Try.underlying32 hsz _ _ _ _ _ _ hd hs (Nat.min_eq_left (Nat.zero_le _)) ?_
    have h9 := h w ?_ (Turned.refl _ _)
    · simpa using h9
    have h1 := Ow.of_row (w := w) (base := g) (g := g) (xs := padT l []) (Nat.le_refl _) (by rw [padT_nil, List.toArray_replicate]; exact hg) (by rw [padT_len]; exact hl)
    rw [padT_len] at h1
    exact h1
  · subst e
    refine wpList_copy_own hgd d s 32 32 ho 5 Try.underlying32 hsz g 0 l l ⟨b, off, none⟩ x.length c hd hs (Array.replicate l (.int .u8 0)) 5 hg ((x.take l).map (fun b => Value.int .u8 (el b))) (by simp [Nat.min_comm]) (fun j v hv => ?_) (by simp; omega) (fun v hv => by obtain ⟨_, _, rfl⟩ := List.mem_map.1 hv; rfl) ?_
    · have hj : j < x.length := by
        rcases Nat.lt_or_ge j x.length with h | h
        · exact h
        · rw [List.getElem?_eq_none (by simp; omega)] at hv; cases hv
      rw [add_pl, hc j hj]
      rw [List.getElem?_map, List.getElem?_take] at hv
      split at hv
      · rw [List.getElem?_eq_getElem hj] at hv
        simp only [Option.map_some, Option.some.injEq] at hv
        rw [← hv]
        simp [List.getD, hj]
      · cases hv
    · rw [padT_row, List.length_map]
      refine h _ ?_ ⟨fun k hk => setRow_other w g k _ hk, fun B w0 hb hB => below_setRow hb hB _, by simp⟩
      have h1 := Ow.of_row (w := w.setRow g ((padT l x).map (fun b => Value.int .u8 (el b))).toArray) (base := g) (g := g) (xs := padT l x) (Nat.le_refl _) (setRow_heap w g _ _ _ _ hg) (by rw [padT_len]; exact hl)
      rw [padT_len] at h1
      exact h1
end Go.Proofs.Ytnbeppgcphibdaa
/-
  The laws' fit.
-/
namespace Go.Proofs.Ytnbeppgcphibdaa
open Go.RowKit
theorem al_sz (w : World) (o : Obj) : (w.alloc o).heap.size = w.heap.size + 1 := by simp
section
attribute [local irreducible] Calls el Hd.cs Hd.sh szC szL
set_option maxHeartbeats 8000000 in
set_option maxRecDepth 1000000 in
theorem fit8_no (h : Hd) (hi : h.In) (hy : h.key.length ≤ 9223372036854775807) (p : Option Addr) (n c : Nat) (w : World) (hc : chk h ≠ 0) :
    Calls Try.prog 5 #[.agg (h.sh (.slice p n c))] w fun e w' => e = .returned (.tuple #[.agg (h.sh (.slice p n c)), .bool false]) ∧ Below w.heap.size w w' := by
  have al : ∀ (W : World) (o : Obj), Below W.heap.size W (W.alloc o) := fun W o => (Below.refl _ _).alloc (Nat.le_refl _) o
  have H0 := (show Hid (SdAt (w.alloc (.cells (h.sh (.slice p n c)) 31)) w.heap.size h (.slice p n c)) from heap_alloc_new w _)
  have CK := (show Hid _ from fun W => rcheck_any h hi hy W)
  have hc' : (chk h != 0) = true := by simpa using hc
  obtain ⟨z, hz⟩ : ∃ z, z = chk h := ⟨_, rfl⟩
  rw [← hz] at CK hc'
  clear hz hc
  go_enter Try.func5, Try.ntmps5
  go_wp2_with (first
    | (refine wpList_loadIn rfl _ rfl w.heap.size rfl (SdAt.head (SdAt.below H0.out (al _ _))) ?_)
    | (go_at_call 16; refine (CK.out _).mono ?_; rintro e w1 ⟨rfl, hb1⟩; have H1 := (show Hid (SdAt w1 w.heap.size h (.slice p n c)) from SdAt.below (SdAt.below H0.out (al _ _)) hb1); have Z1 := (show Hid (SdAt w1 (w.heap.size + 1) hd0 (.slice none 0 0)) from by have h9 := SdAt.below (sz0 (heap_alloc_new (w.alloc (.cells (h.sh (.slice p n c)) 31)) _)) hb1; rw [al_sz] at h9; exact h9))
    | (refine wpList_ldS rfl _ rfl w.heap.size rfl H1.out ?_)
    | (refine wpList_stS h (.slice p n c) rfl rfl _ _ rfl rfl (w.heap.size + 1) rfl rfl Z1.out ?_; intro wB HB hTB))
  refine bodyPost_ret (v := .tuple #[.agg (h.sh (.slice p n c)), .bool false]) (res_sd rfl _ _ (w.heap.size + 1) h (.slice p n c) _ rfl rfl HB) rfl ⟨rfl, ?_⟩
  exact hTB.2.1 _ _ (bt (bt (al _ _) (al _ _)) hb1) (by omega)
set_option maxHeartbeats 16000000 in
set_option maxRecDepth 1000000 in
theorem fit8_ok (h : Hd) (hi : h.In) (ok : h.Ok) {w : World} {p : Option Addr} {bl : List (List (BitVec 8))} (HB : Rws w p bl) (n c : Nat) (hn : bl.length = n) :
    Calls Try.prog 5 #[.agg (h.sh (.slice p n c))] w fun e w' => ∃ v, e = .returned (.tuple #[.agg (h.sh v), .bool true]) ∧ Bl w' w.heap.size v (fitB h.ls bl) ∧ Below w.heap.size w w' := by
  have al : ∀ (W : World) (o : Obj), Below W.heap.size W (W.alloc o) := fun W o => (Below.refl _ _).alloc (Nat.le_refl _) o
  have H0 := (show Hid (SdAt (w.alloc (.cells (h.sh (.slice p n c)) 31)) w.heap.size h (.slice p n c)) from heap_alloc_new w _)
  have CK := (show Hid _ from fun W => rcheck_any h hi (by have := ok.y2; omega) W)
  rw [(chk_ok h).2 ok] at CK
  have SZ := (show Hid _ from fun W => rsizes_any h.k h.m h.b h.sz hi.k hi.m hi.sz W)
  obtain ⟨z1, z2⟩ := h.ls_eq ok
  rw [z1, z2] at SZ
  unfold shC at SZ
  have HBw := (show Hid (Rws w p bl) from HB)
  have hlb := h.ls_bd ok
  have hld := h.len_bd ok
  have hlen : h.len = 40 + h.key.length + tot h.ls := rfl
  obtain ⟨L, HLS⟩ : ∃ L, Hid (h.ls = L) := ⟨_, rfl⟩
  rw [HLS.out] at SZ hlb hlen ⊢
  have htot : Hid (tot L ≤ 140737488355328) := (by show _ ≤ _; omega)
  clear z1 z2 hld hlen HB
  go_enter Try.func5, Try.ntmps5
  go_wp2_with (first
    | (refine wpList_loadIn rfl _ rfl w.heap.size rfl (SdAt.head (SdAt.below H0.out (al _ _))) ?_)
    | (go_at_call 16; refine (CK.out _).mono ?_; rintro e w1 ⟨rfl, hb1⟩; have H1 := (show Hid (SdAt w1 w.heap.size h (.slice p n c)) from SdAt.below (SdAt.below H0.out (al _ _)) hb1); have Z1 := (show Hid (SdAt w1 (w.heap.size + 1) hd0 (.slice none 0 0)) from by have h9 := SdAt.below (sz0 (heap_alloc_new (w.alloc (.cells (h.sh (.slice p n c)) 31)) _)) hb1; rw [al_sz] at h9; exact h9); have hbw1 := (show Hid (Below w.heap.size w w1) from bt (bt (al _ _) (al _ _)) hb1); obtain ⟨q8, q9, q10, q11, q12, q13, q14, q15⟩ := (SdAt.head H1.out).cells; clear H0)
    | (go_at_call 17; refine (SZ.out _).mono ?_; rintro e w2 ⟨vL, rfl, hO2, hb2⟩; have hOL := (show Hid (Oi w2 w1.heap.size vL L) from hO2); obtain ⟨pL, cL, rfl, hcL, VL⟩ := hO2.rd; have V2 := (show Hid (Vr w2 pL (ic L)) from VL); have H2 := (show Hid (SdAt w2 w.heap.size h (.slice p n c)) from SdAt.below H1.out hb2); have Z2 := (show Hid (SdAt w2 (w.heap.size + 1) hd0 (.slice none 0 0)) from SdAt.below Z1.out hb2); have hbw2 := (show Hid (Below w.heap.size w w2) from bt hbw1.out hb2); clear H1 Z1 hO2 VL)
    | (refine wpList_loadIn rfl _ rfl w.heap.size rfl (SdAt.head H2.out) ?_)
    | (refine wpList_bdS rfl _ rfl rfl ?_)
    | (refine wpList_stS h (.slice none 0 0) rfl rfl _ _ rfl rfl w2.heap.size rfl rfl (sz0 (heap_alloc_new w2 _)) ?_; intro w4 H4 hT4))
  have B24 := (show Hid (Below w2.heap.size w2 w4) from hT4.2.1 _ _ (al w2 _) (Nat.le_refl _))
  have hbw4 := (show Hid (Below w.heap.size w w4) from bt hbw2.out B24.out)
  have SZ4 := (show Hid (w.heap.size + 1 < w2.heap.size ∧ w2.heap.size < w4.heap.size) from ⟨Hm.lt Z2.out, Hm.lt H4⟩)
  have hHL := (show Hid _ from HLS.out)
  clear CK SZ hT4 q8 q9 q10 q11 q12 q13 q14 q15 hb1 hb2
  go_loopw [8] (fun i wr => ∃ (t : Nat) (v : Value), t ≤ L.length ∧ i = .int .i64 (t : Int) ∧ SdAt wr w2.heap.size h v ∧ Bl wr w4.heap.size v ((fitB L bl).take t) ∧ w4.grownBy wr (some w2.heap.size)) (fun i _ => L.length - (intOf i).toNat)
  case atStart => exact ⟨0, .slice none 0 0, Nat.zero_le _, rfl, H4, Bl.nil _ _, grefl _ _⟩
  case round =>
    obtain ⟨t, v, ht, rfl, hSd, hBl, hgr⟩ := hrel
    have hbr : Below w2.heap.size w2 wr := B24.out.grown hgr B24.out.size (fun k hk => by injection hk with hk; omega)
    have hbwr := (show Hid (Below w.heap.size w wr) from bt hbw2.out hbr)
    have hsr := hgr.size
    by_cases hlt : t < L.length
    · obtain ⟨pb, po, ep, hc0'⟩ := V2.out.num t hlt
      subst ep
      have hc' := cell_below hc0' hbr
      have s16 := (SdAt.below H2.out hbr).last
      have hi : (t : Int) < (L.length : Int) := by omega
      obtain ⟨us, hOr, hul, hrows⟩ := hBl
      have hbl : ((fitB L bl).take t).length = t := by rw [List.length_take, fitB_len]; omega
      obtain ⟨q0, c0, hvq, hcq, _⟩ := hOr.rd
      rw [hul, hbl] at hvq hcq
      subst hvq
      have HRW := (show Hid (∀ i, i < ((fitB L bl).take t).length → Ow wr w4.heap.size (us.getD i (.slice none 0 0)) (((fitB L bl).take t).getD i [])) from hrows)
      have htk := tot_take L (t + 1)
      have hsc := tot_snoc L t hlt
      have FT0 := fitB_take L bl t hlt
      obtain ⟨z, hz⟩ : ∃ z, z = L.getD t 0 := ⟨_, rfl⟩
      rw [← hz] at hc' hsc FT0
      have hzb : z ≤ 140737488355328 := by have := htot.out; omega
      obtain ⟨x, hx⟩ : ∃ x, x = bl.getD t [] := ⟨_, rfl⟩
      rw [← hx] at FT0
      have FT := (show Hid _ from FT0)
      have mk := make_bytes z hzb wr
      have o16 := hSd.last
      have rc := fun W : World => cell_of_row (W.alloc (.cells #[.slice (some ⟨wr.heap.size, 0, none⟩) z z] 32)) W.heap.size 0 _ _ (0, 0) (heap_alloc_new W _)
      have AL := (show Hid (Below wr.heap.size wr (wr.alloc (.cells (Array.replicate z (.int .u8 0)) 5))) from al _ _)
      have s16a := cell_below s16 AL.out
      clear hrows htk hsc FT0 hz hc0'
      by_cases hin : t < n
      · have hin' : (t : Int) < (n : Int) := by omega
        obtain ⟨b1, o1, q1, c1, ep1, hc1, hle1, hRd1⟩ := Rws.row (Rws.below HBw.out hbwr.out) t (by omega)
        rw [← hx] at hc1 hle1 hRd1
        subst ep1
        have hc1a := cell_below hc1 AL.out
        have RX := (show Hid (Rd (wr.alloc (.cells (Array.replicate z (.int .u8 0)) 5)) q1 x) from hRd1.below AL.out)
        clear hc1 hRd1 hx
        go_wp2_with (first
          | (refine wpList_cpT rfl (.tmp 45) (.tmp 50) rfl wr.heap.size z rfl q1 c1 x rfl RX.out (heap_alloc_new wr _) hzb ?_; intro w6 hO6 hT6; have B6 := (show Hid (Below wr.heap.size wr w6) from hT6.2.1 _ _ AL.out (Nat.le_refl _)); have hO6' := (show Hid (Ow w6 w4.heap.size (.slice (some ⟨wr.heap.size, 0, none⟩) z z) (padT z x)) from hO6.mono hsr); have O7 := (show Hid (Or (w6.alloc (.cells #[.slice (some ⟨wr.heap.size, 0, none⟩) z z] 32)) w4.heap.size (.slice q0 t c0) us) from (hOr.below B6.out).below (al _ _)); have o16' := (SdAt.below hSd B6.out).last)
          | (at_builtin; refine wpList_apr rfl (.tmp 53) (.tmp 55) rfl w4.heap.size (.slice q0 t c0) us rfl O7.out ⟨w6.heap.size, 0, none⟩ 1 (.slice (some ⟨wr.heap.size, 0, none⟩) z z) rfl rfl (rc w6) (by omega) (Nat.le_trans (Nat.le_trans hsr B6.out.size) (al _ _).size) ?_; intro v8 w8 ho8 hg8; obtain ⟨p8, c8, hv8, hc8, _⟩ := ho8.rd; rw [List.length_append, hul, hbl, List.length_singleton] at hv8 hc8; subst hv8; have S8 := (show Hid (SdAt w8 w2.heap.size h (.slice q0 t c0)) from sd_or (SdAt.below (SdAt.below hSd B6.out) (al _ _)) O7.out hg8); have k8 := S8.out.last; have f8 := S8.out.frozen 16))
        go_roundw
        case rel =>
          have hd7 := bt B6.out (al w6 (.cells #[.slice (some ⟨wr.heap.size, 0, none⟩) z z] 32))
          have hB8 := Bl.push O7.out hul (fun i hi => (HRW.out i hi).below hd7) ((hO6'.out.below (al _ _))) ho8 hg8
          have hg9 := grown_or (grown_below hgr hd7) O7.out (Nat.le_refl _) hg8
          refine ⟨t + 1, .slice p8 (t + 1) c8, hlt, by go_num, S8.out.set _, ?_, gtrans hg9 (grown_set _ _ _ _)⟩
          rw [FT.out]
          exact hB8.young (grown_set _ _ _ _) (by have := SZ4.out; omega)
        case measure => simp [intOf]; omega
      · have hin' : ¬ (t : Int) < (n : Int) := by omega
        have hx0 : x = [] := by rw [hx]; simp [List.getD, List.getElem?_eq_none (show bl.length ≤ t by omega)]
        obtain ⟨w6, hw6⟩ : ∃ w6, w6 = wr.alloc (.cells (Array.replicate z (.int .u8 0)) 5) := ⟨_, rfl⟩
        have B6 := (show Hid (Below wr.heap.size wr w6) from by rw [hw6]; exact AL.out)
        have hO6' := (show Hid (Ow w6 w4.heap.size (.slice (some ⟨wr.heap.size, 0, none⟩) z z) (padT z x)) from by rw [hw6, hx0]; exact (Ow.blank wr z hzb).mono hsr)
        rw [← hw6] at mk s16a
        clear hw6 AL hx hx0
        have O7 := (show Hid (Or (w6.alloc (.cells #[.slice (some ⟨wr.heap.size, 0, none⟩) z z] 32)) w4.heap.size (.slice q0 t c0) us) from (hOr.below B6.out).below (al _ _))
        have o16' := (SdAt.below hSd B6.out).last
        go_wp2_with (first
          | (at_builtin; refine wpList_apr rfl (.tmp 53) (.tmp 55) rfl w4.heap.size (.slice q0 t c0) us rfl O7.out ⟨w6.heap.size, 0, none⟩ 1 (.slice (some ⟨wr.heap.size, 0, none⟩) z z) rfl rfl (rc w6) (by omega) (Nat.le_trans (Nat.le_trans hsr B6.out.size) (al _ _).size) ?_; intro v8 w8 ho8 hg8; obtain ⟨p8, c8, hv8, hc8, _⟩ := ho8.rd; rw [List.length_append, hul, hbl, List.length_singleton] at hv8 hc8; subst hv8; have S8 := (show Hid (SdAt w8 w2.heap.size h (.slice q0 t c0)) from sd_or (SdAt.below (SdAt.below hSd B6.out) (al _ _)) O7.out hg8); have k8 := S8.out.last; have f8 := S8.out.frozen 16))
        go_roundw
        case rel =>
          have hd7 := bt B6.out (al w6 (.cells #[.slice (some ⟨wr.heap.size, 0, none⟩) z z] 32))
          have hB8 := Bl.push O7.out hul (fun i hi => (HRW.out i hi).below hd7) ((hO6'.out.below (al _ _))) ho8 hg8
          have hg9 := grown_or (grown_below hgr hd7) O7.out (Nat.le_refl _) hg8
          refine ⟨t + 1, .slice p8 (t + 1) c8, hlt, by go_num, S8.out.set _, ?_, gtrans hg9 (grown_set _ _ _ _)⟩
          rw [FT.out]
          exact hB8.young (grown_set _ _ _ _) (by have := SZ4.out; omega)
        case measure => simp [intOf]; omega
    · obtain rfl : t = L.length := by omega
      rw [List.take_of_length_le (by rw [fitB_len]; exact Nat.le_refl _)] at hBl
      have ZR := SdAt.below Z2.out hbr
      obtain ⟨q0, c0, rfl, _, _⟩ := hBl.rws
      go_wp2_with (first
        | (refine wpList_ldS rfl _ rfl w2.heap.size rfl hSd ?_)
        | (refine wpList_stS h (.slice q0 (fitB L bl).length c0) rfl rfl _ _ rfl rfl (w.heap.size + 1) rfl rfl ZR ?_; intro wB HB hTB))
      refine bodyPost_ret (v := .tuple #[.agg (h.sh (.slice q0 (fitB L bl).length c0)), .bool true]) (res_sd rfl _ _ (w.heap.size + 1) h (.slice q0 (fitB L bl).length c0) _ rfl rfl HB) rfl ⟨_, rfl, ?_, hTB.2.1 _ _ hbwr.out (by omega)⟩
      exact (hBl.young hTB.grown (by have := SZ4.out; omega)).mono (by have := SZ4.out; omega)
end
end Go.Proofs.Ytnbeppgcphibdaa
/-
  append of a great row onto a row of the call's own: all that the model's own bound (what growing would ask for, at most 2^48 bytes) lets.
-/
namespace Go.Proofs.Ytnbeppgcphibdaa
open Go.RowKit
theorem grow_fits {need old : Nat} (h : old < need) (hn : need ≤ 211106232532992) : Builtin.nextslicecap need old ≤ 281474976710656 := by
  unfold Builtin.nextslicecap
  split
  · omega
  · split
    · omega
    · rw [growBy_four]
      repeat' split
      all_goals omega
theorem wpList_apB {w : World} {ops : Array Oper} {rest : List Oper} {o : Oper} {a : Act} {Q : Exit → Act → World → Prop} (hgd : o.guard = none) (s x : Operand) (ho : o.op = .call { callee := .builtin .append, args := #[s, x], argTypes := #[32, 32] })
    (base : Nat) (v : Value) (xs : List (BitVec 8)) (hs : a.eval s = v) (hown : Ow w base v xs) (h0 : 0 < xs.length) (ad : Option Addr) (n c : Nat) (ys : List (BitVec 8)) (hx : a.eval x = .slice ad n c) (hr : Rd w ad ys) (hn : ys.length = n) (hxl : xs.length ≤ 140737488355328) (hm : xs.length + n ≤ 211106232532992) (hbase : base ≤ w.heap.size)
    (h : ∀ v' w', Ow w' base v' (xs ++ ys) → w.grownBy w' v.ownBlock → wpList Try.prog ops Q rest (a.put o.dst v') w') : wpList Try.prog ops Q (o :: rest) a w := by
  by_cases hb : xs.length + n ≤ 140737488355328
  · exact wpList_apa hgd s x ho base v xs hs hown ad n c ys hx hr hn hb hbase fun v' w' h1 h2 _ => h v' w' h1 h2
  obtain ⟨i0, hi, hz0, hz1, hz2⟩ := info_parts info5
  subst hn
  rcases hr with e | ⟨b, off, rfl, hc⟩
  · subst e; simp at hb; omega
  have S := vs_src hc
  have hl : (vs (fn ys) ys.length).length = ys.length * i0.size := by rw [vs_len, hz1, Nat.mul_one]
  have hlx : (vs (fn xs) xs.length).length = xs.length * i0.size := by rw [vs_len, hz1, Nat.mul_one]
  have hall : (vs (fn xs) xs.length ++ vs (fn ys) ys.length).length = xs.length + ys.length := by rw [List.length_append, vs_len, vs_len]
  have fin : ∀ v' w', (Builtin.append_ #[32, 32] o.type #[v, .slice (some ⟨b, off, none⟩) ys.length c]).run Try.prog w = .ok v' w' → w'.ownsRow base 5 1 v' (xs.length + ys.length) (vs (fn xs) xs.length ++ vs (fn ys) ys.length) → w.grownBy w' v.ownBlock → wpList Try.prog ops Q (o :: rest) a w := by
    intro v' w' hr1 h1 h2
    refine wpList_plain hgd fun K hK => ?_
    unfold Oper.wp execOp
    simp only [ho, resolve, invoke, builtin, Sem.run_bind, Sem.run_pure, Result.andThen_ok, List.map_toArray, List.map_cons, List.map_nil, hs, hx, hr1]
    refine hK _ _ (h v' w' ?_ h2)
    unfold Ow
    rw [List.length_append, vs_fn_app]
    exact h1
  have hown' := hown
  unfold Ow at hown'
  rcases hown'.2 with ⟨_, e0⟩ | ⟨g, cap, cur, hv, hbg, hg, hnc, hcm, hcs, htake⟩
  · omega
  · subst hv
    by_cases hroom : xs.length + ys.length ≤ cap
    · have hr1 := run_append_room (P := Try.prog) w 32 o.type 5 i0 Try.underlying32 hi g xs.length cap cur hg ⟨b, off, none⟩ ys.length c _ hl S (vs_one _ _) hroom (by rw [hl, hz1, hcs]; omega)
      refine fin _ _ hr1 ⟨by rw [hall, Nat.mul_one], .inr ⟨g, cap, _, rfl, hbg, setRow_heap w g cur _ _ _ hg, hroom, hcm, ?_, ?_⟩⟩ ⟨rfl, rfl, rfl, by simp, fun k _ hk => setRow_other w g k _ (fun e => hk (by simp [Value.ownBlock, e]))⟩
      · simp only [List.size_toArray, List.length_append, List.length_take, List.length_drop, Array.length_toList, vs_len, hz1]
        omega
      · rw [hz1, htake, Nat.mul_one, ← hall]
        exact List.take_left
    · have hr1 := run_append_grow (P := Try.prog) w 32 o.type 5 i0 (.int .u8 0) Try.underlying32 hi hz0 ⟨g, 0, none⟩ xs.length cap _ hlx (hown'.cells (g := g) rfl) ⟨b, off, none⟩ ys.length c _ hl S (by omega) (by omega) (by rw [hz2, Nat.mul_one]; exact grow_fits (by omega) hm)
      have hge := grownCap_ge w (xs.length + ys.length) cap 5
      have hle := grownCap_le_maxLen w (xs.length + ys.length) cap 5 (by unfold maxLen; omega)
      refine fin _ _ hr1 ⟨by rw [hall, Nat.mul_one], .inr ⟨w.heap.size, _, _, rfl, hbase, heap_alloc_new w.drew _, hge, hle, ?_, ?_⟩⟩ ⟨rfl, rfl, rfl, by simp, fun k hk _ => heap_alloc_old w.drew _ (by simpa using hk)⟩
      · simp only [Array.size_append, List.size_toArray, size_zeroCells, vs_len]
        simp [Value.cells]
        omega
      · simp only [Array.toList_append, List.append_assoc, Nat.mul_one]
        rw [← List.append_assoc, ← hall]
        exact List.take_left
end Go.Proofs.Ytnbeppgcphibdaa
/-
  FrameBack: the walk.
-/
namespace Go.Proofs.Ytnbeppgcphibdaa
open Go.RowKit
theorem fit_may (h : Hd) (ok : h.Ok) (bl : List (List (BitVec 8))) : May h (fitB h.ls bl) := ⟨ok, fitB_ls _ _⟩
theorem en_may {h : Hd} {bl : List (List (BitVec 8))} (hm : May h bl) : enE h bl = 0 ∧ enL h bl = h.fm bl := by
  have e : enE h bl = 0 := by unfold enE; rw [if_neg (by rw [(chk_ok h).2 hm.1]; simp), if_pos hm.2]
  exact ⟨e, by unfold enL; rw [if_pos e]⟩
theorem en_no {h : Hd} (bl : List (List (BitVec 8))) (hc : chk h ≠ 0) : enE h bl = chk h := by unfold enE; rw [if_pos hc]
theorem fm_is {h : Hd} {bl : List (List (BitVec 8))} (hm : May h bl) : (h.fm bl).length = h.len := by rw [h.fm_len, hm.2]; rfl
theorem SdAt.run8 {w : World} {g : Nat} {h : Hd} {v : Value} (H : SdAt w g h v) : (loadVar 31 ⟨g, 0, none⟩).run Try.prog w = .ok (.agg (h.sh v)) w :=
  run_loadVar_in w g 31 (h.sh v) _ (fun j u hj => by unfold SdAt at H; rw [cell_of_row _ _ _ _ _ (0, 0) H]; simpa using hj) Try.underlying31 rfl sizeSd
theorem HdIn.run8 {w : World} {g : Nat} {h : Hd} (H : HdIn w g h) : (loadVar 28 ⟨g, 0, none⟩).run Try.prog w = .ok (.agg h.cs) w :=
  run_loadVar_in w g 28 h.cs _ H Try.underlying28 rfl sizeHd
theorem HdAt.hin8 {w : World} {g : Nat} {h : Hd} (H : HdAt w g h) : HdIn w g h := by
  intro j v hj
  unfold HdAt at H
  rw [cell_of_row w g j _ _ (0, 0) H, ← Array.getElem?_toList]; exact hj
/-- A shard, a head, read where a guard lets it. -/
theorem wpList_ldSg {w : World} {ops : Array Oper} {rest : List Oper} {o : Oper} {a : Act} {Q : Exit → Act → World → Prop} {h : Hd} {v : Value} (hw : Region.wanted o (yielded ops a.tmps) = true) (x : Operand) (ho : o.op = .load 31 x) (g : Nat) (hx : a.eval x = .pointer (some ⟨g, 0, none⟩)) (H : SdAt w g h v)
    (k : wpList Try.prog ops Q rest (a.put o.dst (.agg (h.sh v))) w) : wpList Try.prog ops Q (o :: rest) a w := by
  refine wpList_step fun K hK => ?_
  rw [if_pos hw]
  unfold Oper.wp execOp
  simp only [ho, hx, Instr.loadAt, Instr.sureAddr, Sem.run_bind, Sem.run_pure, Result.andThen_ok, H.run8]
  exact hK _ _ k
theorem wpList_ldHg {w : World} {ops : Array Oper} {rest : List Oper} {o : Oper} {a : Act} {Q : Exit → Act → World → Prop} {h : Hd} (hw : Region.wanted o (yielded ops a.tmps) = true) (x : Operand) (ho : o.op = .load 28 x) (g : Nat) (hx : a.eval x = .pointer (some ⟨g, 0, none⟩)) (H : HdIn w g h)
    (k : wpList Try.prog ops Q rest (a.put o.dst (.agg h.cs)) w) : wpList Try.prog ops Q (o :: rest) a w := by
  refine wpList_step fun K hK => ?_
  rw [if_pos hw]
  unfold Oper.wp execOp
  simp only [ho, hx, Instr.loadAt, Instr.sureAddr, Sem.run_bind, Sem.run_pure, Result.andThen_ok, H.run8]
  exact hK _ _ k
theorem Ow.empty (w : World) : Ow (w.alloc (.cells #[] 5)) w.heap.size (.slice (some ⟨w.heap.size, 0, none⟩) 0 0) [] := by
  have h := Ow.made w 0 (by omega)
  simpa using h
section
attribute [local irreducible] Calls el Hd.cs Hd.sh hq chk
set_option maxHeartbeats 16000000 in
set_option maxRecDepth 1000000 in
theorem frameBack_no (h : Hd) (hin : h.In) (hy : h.key.length ≤ 9223372036854775807) (a : Option Addr) (n c : Nat) (bl : List (List (BitVec 8))) (hb : bl.length = n) (u1 u2 : Value) (w : World) (hR : Rws w a bl) (hc : chk h ≠ 0) :
    Calls Try.prog 3 #[.agg (h.sh (.slice a n c)), u1, u2] w fun e w' => e = .returned (.bool true) ∧ Below w.heap.size w w' := by
  have al : ∀ (W : World) (o : Obj), Below W.heap.size W (W.alloc o) := fun W o => (Below.refl _ _).alloc (Nat.le_refl _) o
  have AW := (show Hid _ from awake_any)
  have S0 := (show Hid (SdAt (w.alloc (.cells (h.sh (.slice a n c)) 31)) w.heap.size h (.slice a n c)) from heap_alloc_new w _)
  have Q0 := (show Hid (Rws (w.alloc (.cells (h.sh (.slice a n c)) 31)) a bl) from Rws.below hR (al _ _))
  have B0 := (show Hid (Below w.heap.size w (w.alloc (.cells (h.sh (.slice a n c)) 31))) from al _ _)
  have LE := (show Hid _ from fun W => length_any h hin hy W)
  have CK := (show Hid _ from fun W => check_any h hin hy W)
  have FN := (show Hid _ from fun W => fit8_no h hin hy a n c W hc)
  have EN := (show Hid (∀ W : World, Rws W a bl → _) from fun W hW => encode_any h hin hy (w := W) (p := a) hW n c hb)
  rw [en_no bl hc] at EN
  rw [if_neg hc] at LE
  have NU := (show Hid _ from fun z W => num_any z W)
  have hc' : (chk h != 0) = true := by simpa using hc
  obtain ⟨z, hz⟩ : ∃ z, z = chk h := ⟨_, rfl⟩
  rw [← hz] at LE CK EN hc'
  clear hz hc hR
  go_enter Try.func3, Try.ntmps3
  go_wp2_with (first
    | (go_at_call 4; refine (AW.out _).mono ?_; rintro e w1 ⟨rfl, hb1⟩; have S1 := (show Hid (SdAt w1 w.heap.size h (.slice a n c)) from SdAt.below S0.out hb1); have Q1 := (show Hid (Rws w1 a bl) from Rws.below Q0.out hb1); have Bw1 := (show Hid (Below w.heap.size w w1) from bt B0.out hb1); clear S0 Q0 B0)
    | (refine wpList_ldS rfl _ rfl w.heap.size rfl S1.out ?_)
    | (go_at_call 5; refine (FN.out _).mono ?_; rintro e w2 ⟨rfl, hb2⟩)
    | (refine wpList_stS h (.slice a n c) rfl rfl _ _ rfl rfl w2.heap.size rfl rfl (sz0 (heap_alloc_new w2 _)) ?_; intro w3 H3 hT3; have B13 := (show Hid (Below w1.heap.size w1 w3) from bt hb2 (hT3.2.1 _ _ (al w2 _) (Nat.le_refl _))); have S3 := (show Hid (SdAt w3 w.heap.size h (.slice a n c)) from SdAt.below S1.out B13.out); have Q3 := (show Hid (Rws w3 a bl) from Rws.below Q1.out B13.out); clear S1 Q1 hT3 H3)
    | (refine wpList_ldS rfl _ rfl w.heap.size rfl S3.out ?_)
    | (go_at_call 6; refine (EN.out _ Q3.out).mono ?_; rintro e w4 ⟨v4, rfl, hO4, hb4⟩; have S4 := (show Hid (SdAt w4 w.heap.size h (.slice a n c)) from SdAt.below S3.out hb4); clear hO4)
    | (refine wpList_loadIn rfl _ rfl w.heap.size rfl (SdAt.head S4.out) ?_)
    | (go_at_call 7; refine (LE.out _).mono ?_; rintro e w5 ⟨rfl, hb5⟩; have S5 := (show Hid (SdAt w5 w.heap.size h (.slice a n c)) from SdAt.below S4.out hb5))
    | (go_at_call 8; refine (NU.out _ _).mono ?_; rintro e w9 ⟨rfl, h9⟩; obtain rfl := h9.symm)
    | (refine wpList_ldHg (by rfl) _ rfl w.heap.size rfl (SdAt.head S5.out) ?_)
    | (go_at_call 9; refine (CK.out _).mono ?_; rintro e w6 ⟨rfl, hb6⟩))
  go_ret
  exact ⟨rfl, bt (bt (bt (bt Bw1.out B13.out) hb4) hb5) hb6⟩
set_option maxHeartbeats 40000000 in
set_option maxRecDepth 1000000 in
theorem frameBack_ok (h : Hd) (hin : h.In) (hy : h.key.length ≤ 9223372036854775807) (a : Option Addr) (n c : Nat) (bl : List (List (BitVec 8))) (hb : bl.length = n) (pt : Option Addr) (nt ct : Nat) (xs : List (BitVec 8)) (hxs : xs.length = nt) (hnt : nt ≤ 140737488351232) (cut : Int) (w : World) (hR : Rws w a bl) (hT : Rd w pt xs) (ok : h.Ok) :
    Calls Try.prog 3 #[.agg (h.sh (.slice a n c)), .slice pt nt ct, .int .i64 cut] w fun e w' => e = .returned (.bool true) ∧ Below w.heap.size w w' := by
  have al : ∀ (W : World) (o : Obj), Below W.heap.size W (W.alloc o) := fun W o => (Below.refl _ _).alloc (Nat.le_refl _) o
  have AW := (show Hid _ from awake_any)
  have S0 := (show Hid (SdAt (w.alloc (.cells (h.sh (.slice a n c)) 31)) w.heap.size h (.slice a n c)) from heap_alloc_new w _)
  have Q0 := (show Hid (Rws (w.alloc (.cells (h.sh (.slice a n c)) 31)) a bl) from Rws.below hR (al _ _))
  have T0 := (show Hid (Rd (w.alloc (.cells (h.sh (.slice a n c)) 31)) pt xs) from Rd.below hT (al _ _))
  have B0 := (show Hid (Below w.heap.size w (w.alloc (.cells (h.sh (.slice a n c)) 31))) from al _ _)
  have LE := (show Hid _ from fun W => length_any h hin hy W)
  have CK := (show Hid _ from fun W => check_any h hin hy W)
  have hck := (chk_ok h).2 ok
  rw [if_pos hck, hck] at LE
  rw [hck] at CK
  have FO := (show Hid (∀ W : World, Rws W a bl → _) from fun W hW => fit8_ok h hin ok (w := W) (p := a) hW n c hb)
  have hm := fit_may h ok bl
  have hlb : (fitB h.ls bl).length ≤ 1099511627776 := by rw [fitB_len]; exact Nat.le_trans (h.ls_bd ok) (by decide)
  have hfl := fm_is hm
  have hld := h.len_bd ok
  have h40 : 40 ≤ h.len := by show 40 ≤ 40 + h.key.length + tot h.ls; omega
  have EN := (show Hid (∀ (W : World) (p : Option Addr) (d : Nat), Rws W p (fitB h.ls bl) → _) from fun W p d hW => encode_any h hin hy (w := W) (p := p) hW (fitB h.ls bl).length d rfl)
  rw [(en_may hm).1, (en_may hm).2] at EN
  have e1 := pS_fm h (fitB h.ls bl) hm
  have e2 := pH_form h ok (fitB h.ls bl) xs
  have e3 := sP_fm h (fitB h.ls bl) hm xs
  have e4 := fun m (h9 : m < h.len) => pS_cut h (fitB h.ls bl) hm m h9
  have e5 : 0 < nt → (pS (h.fm (fitB h.ls bl) ++ xs)).1 = 72 := fun h9 => by rw [pS_tail h (fitB h.ls bl) hm xs (by omega)]
  have SA := (show Hid (∀ (W : World) (p q : Option Addr) (d d' : Nat), Rws W p (fitB h.ls bl) → Rws W q (fitB h.ls bl) → _) from fun W p q d d' h1 h2 => same_any h h (w := W) h1 h2 (fitB h.ls bl).length d (fitB h.ls bl).length d' rfl rfl hlb)
  have hqq : hq h h = true := (hq_iff h h).2 rfl
  rw [hqq, decide_eq_true (rfl : fitB h.ls bl = fitB h.ls bl)] at SA
  have NH := fun W => neq_head h h W
  rw [hqq] at NH
  have NU := (show Hid _ from fun z W => num_any z W)
  generalize hf : h.fm (fitB h.ls bl) = f at *
  generalize hB : fitB h.ls bl = B at *
  generalize hL : h.len = len at *
  clear hf hB hL hR hT hm hck ok hqq
  have PA := (show Hid (∀ (W : World) (p : Option Addr) (d : Nat), Rd W p f → f.length ≤ d → _) from fun W p d h1 h2 => parse_any (w := W) (p := p) h1 f.length d rfl h2 (by omega))
  rw [e1] at PA
  have hfx : (f ++ xs).length = len + nt := by rw [List.length_append, hfl, hxs]
  have PH := (show Hid (∀ (W : World) (p : Option Addr) (d : Nat), Rd W p (f ++ xs) → len + nt ≤ d → _) from fun W p d h1 h2 => pHead_any rhd_ok (w := W) (p := p) h1 (len + nt) d hfx h2 (by omega))
  rw [e2] at PH
  have SP := (show Hid (∀ (W : World) (p : Option Addr) (d : Nat), Rd W p (f ++ xs) → len + nt ≤ d → _) from fun W p d h1 h2 => spoilt_any rhd_ok (w := W) (p := p) h1 (len + nt) d hfx h2 (by omega))
  rw [e3] at SP
  have PM := (show Hid (∀ (W : World) (p : Option Addr) (d : Nat), Rd W p (f ++ xs) → len + nt ≤ d → _) from fun W p d h1 h2 => parse_any (w := W) (p := p) h1 (len + nt) d hfx h2 (by omega))
  generalize (pS (f ++ xs)).2.1 = hd9 at *
  generalize (pS (f ++ xs)).2.2 = bl9 at *
  generalize (pS (f ++ xs)).1 = z9 at *
  have PC := (show Hid (∀ (W : World) (p : Option Addr) (d m : Nat), m < len → Rd W p f → m ≤ d → Calls Try.prog 10 #[.slice p m d] W fun e w' => ∃ v, e = .returned (.tuple #[.agg (hd0.sh v), .int .i64 70]) ∧ Bl w' W.heap.size v [] ∧ Below W.heap.size W w') from fun W p d m h0 h1 h2 => by
    have h9 := parse_any (w := W) (p := p) (Rd.take h1 m) m d (by rw [List.length_take]; omega) h2 (by omega)
    rw [e4 m h0] at h9
    exact h9)
  rw [hfl] at PA
  clear e1 e2 e3 e4 hlb hfx
  have HTA : (nt = 0) ∨ (0 < nt ∧ z9 = 72) := by
    rcases Nat.eq_zero_or_pos nt with k | k
    · exact .inl k
    · exact .inr ⟨k, e5 k⟩
  have wl : wrap64 ((len : Int) - 1) = (len : Int) - 1 := by clear PA PH SP PM PC EN FO SA NH NU LE CK AW; unfold wrap64; omega
  have nn : ((len : Int) != (len : Int)) = false := by simp
  clear e5
  go_enter Try.func3, Try.ntmps3
  go_wp2_with (first
    | (go_at_call 4; refine (AW.out _).mono ?_; rintro e w1 ⟨rfl, hb1⟩; have S1 := (show Hid (SdAt w1 w.heap.size h (.slice a n c)) from SdAt.below S0.out hb1); have Q1 := (show Hid (Rws w1 a bl) from Rws.below Q0.out hb1); have T1 := (show Hid (Rd w1 pt xs) from Rd.below T0.out hb1); have Bw1 := (show Hid (Below w.heap.size w w1) from bt B0.out hb1); clear S0 Q0 B0 T0)
    | (refine wpList_ldS rfl _ rfl w.heap.size rfl S1.out ?_)
    | (go_at_call 5; refine (FO.out _ Q1.out).mono ?_; rintro e w2 ⟨v2, rfl, hB2, hb2⟩; obtain ⟨q2, d2, rfl, _, hR2⟩ := hB2.rws; have R2 := (show Hid (Rws w2 q2 B) from hR2); clear hB2 hR2)
    | (refine wpList_stS h (.slice q2 B.length d2) rfl rfl _ _ rfl rfl w2.heap.size rfl rfl (sz0 (heap_alloc_new w2 _)) ?_; intro w3 H3 hT3; have B23 := hT3.2.1 _ _ (al w2 _) (Nat.le_refl _); have S3 := (show Hid (SdAt w3 w2.heap.size h (.slice q2 B.length d2)) from H3); have R3 := (show Hid (Rws w3 q2 B) from Rws.below R2.out B23); have T3 := (show Hid (Rd w3 pt xs) from Rd.below T1.out (bt hb2 B23)); have Bw3 := (show Hid (Below w.heap.size w w3) from bt (bt Bw1.out hb2) B23); clear S1 Q1 hT3 H3 R2 T1 Bw1 B23)
    | (refine wpList_ldS rfl _ rfl w2.heap.size rfl S3.out ?_)
    | (go_at_call 6; refine (EN.out _ _ _ R3.out).mono ?_; rintro e w4 ⟨v4, rfl, hO4, hb4⟩; obtain ⟨p4, c4, e9, hc4, hr4⟩ := hO4.rd; rw [hfl] at e9 hc4; subst e9; have F4 := (show Hid (Rd w4 p4 f) from hr4); have S4 := (show Hid (SdAt w4 w2.heap.size h (.slice q2 B.length d2)) from SdAt.below S3.out hb4); have R4 := (show Hid (Rws w4 q2 B) from Rws.below R3.out hb4); have T4 := (show Hid (Rd w4 pt xs) from Rd.below T3.out hb4); have Bw4 := (show Hid (Below w.heap.size w w4) from bt Bw3.out hb4); clear hO4 hr4 S3 R3 T3 Bw3)
    | (refine wpList_loadIn rfl _ rfl w2.heap.size rfl (SdAt.head S4.out) ?_)
    | (go_at_call 7; refine (LE.out _).mono ?_; rintro e w5 ⟨rfl, hb5⟩; have S5 := (show Hid (SdAt w5 w2.heap.size h (.slice q2 B.length d2)) from SdAt.below S4.out hb5); have F5 := (show Hid (Rd w5 p4 f) from Rd.below F4.out hb5); have R5 := (show Hid (Rws w5 q2 B) from Rws.below R4.out hb5); have T5 := (show Hid (Rd w5 pt xs) from Rd.below T4.out hb5); have Bw5 := (show Hid (Below w.heap.size w w5) from bt Bw4.out hb5); clear S4 F4 R4 T4 Bw4)
    | (go_at_call 8; refine (NU.out _ _).mono ?_; rintro e w99 ⟨rfl, h9⟩; obtain rfl := h9.symm)
    | (refine wpList_ldHg (by rfl) _ rfl w2.heap.size rfl (SdAt.head S5.out) ?_)
    | (go_at_call 9; refine (CK.out _).mono ?_; rintro e w6 ⟨rfl, hb6⟩; have S6 := (show Hid (SdAt w6 w2.heap.size h (.slice q2 B.length d2)) from SdAt.below S5.out hb6); have F6 := (show Hid (Rd w6 p4 f) from Rd.below F5.out hb6); have R6 := (show Hid (Rws w6 q2 B) from Rws.below R5.out hb6); have T6 := (show Hid (Rd w6 pt xs) from Rd.below T5.out hb6); have Bw6 := (show Hid (Below w.heap.size w w6) from bt Bw5.out hb6); clear S5 F5 R5 T5 Bw5)
    | (go_at_call 10; revert F6; intro F6; refine (PA.out _ _ _ F6.out hc4).mono ?_; rintro e w7 ⟨v7, rfl, hB7, hb7⟩; obtain ⟨q7, d7, rfl, _, hR7⟩ := hB7.rws; have V7 := (show Hid (Rws w7 q7 B) from hR7); clear hB7 hR7; have S7 := (show Hid (SdAt w7 w2.heap.size h (.slice q2 B.length d2)) from SdAt.below S6.out hb7); have F7 := (show Hid (Rd w7 p4 f) from Rd.below F6.out hb7); have R7 := (show Hid (Rws w7 q2 B) from Rws.below R6.out hb7); have T7 := (show Hid (Rd w7 pt xs) from Rd.below T6.out hb7); have Bw7 := (show Hid (Below w.heap.size w w7) from bt Bw6.out hb7); clear S6 F6 R6 T6 Bw6)
    | (refine wpList_stS h (.slice q7 B.length d7) rfl rfl _ _ rfl rfl w7.heap.size rfl rfl (sz0 (heap_alloc_new w7 _)) ?_; intro w8 H8 hT8; have B78 := hT8.2.1 _ _ (al w7 _) (Nat.le_refl _); have U8 := (show Hid (SdAt w8 w7.heap.size h (.slice q7 B.length d7)) from H8); have S8 := (show Hid (SdAt w8 w2.heap.size h (.slice q2 B.length d2)) from SdAt.below S7.out B78); have F8 := (show Hid (Rd w8 p4 f) from Rd.below F7.out B78); have R8 := (show Hid (Rws w8 q2 B) from Rws.below R7.out B78); have T8 := (show Hid (Rd w8 pt xs) from Rd.below T7.out B78); have Bw8 := (show Hid (Below w.heap.size w w8) from bt Bw7.out B78); have V8 := (show Hid (Rws w8 q7 B) from Rws.below V7.out B78); clear S7 F7 R7 T7 Bw7 V7; clear H8 hT8 B78)
    | (refine wpList_ldSg (by rfl) _ rfl w7.heap.size rfl U8.out ?_)
    | (refine wpList_ldSg (by rfl) _ rfl w2.heap.size rfl S8.out ?_)
    | (go_at_call 11; refine (SA.out _ _ _ _ _ V8.out R8.out).mono ?_; rintro e w9 ⟨rfl, hb9⟩; have S9 := (show Hid (SdAt w9 w2.heap.size h (.slice q2 B.length d2)) from SdAt.below S8.out hb9); have F9 := (show Hid (Rd w9 p4 f) from Rd.below F8.out hb9); have R9 := (show Hid (Rws w9 q2 B) from Rws.below R8.out hb9); have T9 := (show Hid (Rd w9 pt xs) from Rd.below T8.out hb9); have Bw9 := (show Hid (Below w.heap.size w w9) from bt Bw8.out hb9); clear S8 F8 R8 T8 Bw8; have O9 := (show Hid (Ow (w9.alloc (.cells #[] 5)) w9.heap.size (.slice (some ⟨w9.heap.size, 0, none⟩) 0 0) []) from Ow.empty w9); have F9a := (show Hid (Rd (w9.alloc (.cells #[] 5)) p4 f) from Rd.below F9.out (al _ _)); clear U8 V8)
    | (at_builtin; revert O9; intro O9; refine wpList_apa rfl (.tmp 111) (.tmp 112) rfl w9.heap.size _ [] rfl O9.out p4 len c4 f rfl F9a.out hfl (by rw [List.length_nil]; omega) (al _ _).size ?_; intro v10 w10 hO10 hg10 _; rw [List.nil_append] at hO10; have b910 := O9.out.below_append (al w9 _) (al w9 _).size hg10 (Nat.le_refl _); have O10 := (show Hid (Ow w10 w9.heap.size v10 f) from hO10); have T10 := (show Hid (Rd w10 pt xs) from Rd.below T9.out b910); have z910 := b910.size; clear O9 F9a hO10)
    | (at_builtin; revert O10; intro O10; refine wpList_apB rfl (.tmp 113) (.tmp 114) rfl w9.heap.size v10 f rfl O10.out (by omega) pt nt ct xs rfl T10.out hxs (by omega) (by omega) z910 ?_; intro v11 w11 hO11 hg11; have b911 := O10.out.below_append b910 z910 hg11 (Nat.le_refl _); obtain ⟨p11, c11, e11, hc11, hr11⟩ := hO11.rd; rw [List.length_append, hfl, hxs] at e11 hc11; subst e11; have M11 := (show Hid (Rd w11 p11 (f ++ xs)) from hr11); have S11 := (show Hid (SdAt w11 w2.heap.size h (.slice q2 B.length d2)) from SdAt.below S9.out b911); have F11 := (show Hid (Rd w11 p4 f) from Rd.below F9.out b911); have R11 := (show Hid (Rws w11 q2 B) from Rws.below R9.out b911); have T11 := (show Hid (Rd w11 pt xs) from Rd.below T9.out b911); have Bw11 := (show Hid (Below w.heap.size w w11) from bt Bw9.out b911); clear S9 F9 R9 T9 Bw9; clear O10 T10 hO11 hr11 hg11 b910 b911 z910)
    | (go_at_call 12; refine (PH.out _ _ _ M11.out hc11).mono ?_; rintro e w12 ⟨rfl, hb12⟩; have S12 := (show Hid (SdAt w12 w2.heap.size h (.slice q2 B.length d2)) from SdAt.below S11.out hb12); have F12 := (show Hid (Rd w12 p4 f) from Rd.below F11.out hb12); have R12 := (show Hid (Rws w12 q2 B) from Rws.below R11.out hb12); have T12 := (show Hid (Rd w12 pt xs) from Rd.below T11.out hb12); have Bw12 := (show Hid (Below w.heap.size w w12) from bt Bw11.out hb12); have M12 := (show Hid (Rd w12 p11 (f ++ xs)) from Rd.below M11.out hb12); clear S11 F11 R11 T11 Bw11 M11)
    | (refine wpList_stH h rfl _ _ rfl rfl w12.heap.size rfl rfl (hz0 (heap_alloc_new w12 _)) ?_; intro w13 H13 hT13; have B1213 := hT13.2.1 _ _ (al w12 _) (Nat.le_refl _); have G13 := (show Hid (HdAt w13 w12.heap.size h) from H13); have S13 := (show Hid (SdAt w13 w2.heap.size h (.slice q2 B.length d2)) from SdAt.below S12.out B1213); have F13 := (show Hid (Rd w13 p4 f) from Rd.below F12.out B1213); have R13 := (show Hid (Rws w13 q2 B) from Rws.below R12.out B1213); have T13 := (show Hid (Rd w13 pt xs) from Rd.below T12.out B1213); have Bw13 := (show Hid (Below w.heap.size w w13) from bt Bw12.out B1213); have M13 := (show Hid (Rd w13 p11 (f ++ xs)) from Rd.below M12.out B1213); clear S12 F12 R12 T12 Bw12 M12; clear H13 hT13 B1213)
    | (go_at_call 13; refine (SP.out _ _ _ M13.out hc11).mono ?_; rintro e w14 ⟨v14, rfl, hO14, hb14⟩; obtain ⟨p14, c14, rfl, _, _⟩ := hO14.rd; have S14 := (show Hid (SdAt w14 w2.heap.size h (.slice q2 B.length d2)) from SdAt.below S13.out hb14); have F14 := (show Hid (Rd w14 p4 f) from Rd.below F13.out hb14); have R14 := (show Hid (Rws w14 q2 B) from Rws.below R13.out hb14); have T14 := (show Hid (Rd w14 pt xs) from Rd.below T13.out hb14); have Bw14 := (show Hid (Below w.heap.size w w14) from bt Bw13.out hb14); have M14 := (show Hid (Rd w14 p11 (f ++ xs)) from Rd.below M13.out hb14); have G14 := (show Hid (HdAt w14 w12.heap.size h) from HdAt.below G13.out hb14); clear S13 F13 R13 T13 Bw13 M13 G13; clear hO14)
    | (refine wpList_ldHg (by rfl) _ rfl w12.heap.size rfl (HdAt.hin8 G14.out) ?_)
    | (refine wpList_ldHg (by rfl) _ rfl w2.heap.size rfl (SdAt.head S14.out) ?_)
    | (go_at_call 10; revert M14; intro M14; refine (PM.out _ _ _ M14.out hc11).mono ?_; rintro e w15 ⟨v15, rfl, hB15, hb15⟩; obtain ⟨q15, d15, rfl, _, _⟩ := hB15.rws; have S15 := (show Hid (SdAt w15 w2.heap.size h (.slice q2 B.length d2)) from SdAt.below S14.out hb15); have F15 := (show Hid (Rd w15 p4 f) from Rd.below F14.out hb15); have R15 := (show Hid (Rws w15 q2 B) from Rws.below R14.out hb15); have T15 := (show Hid (Rd w15 pt xs) from Rd.below T14.out hb15); have Bw15 := (show Hid (Below w.heap.size w w15) from bt Bw14.out hb15); clear S14 F14 R14 T14 Bw14; clear hB15 M14 G14)
    | (refine wpList_stS hd9 (.slice q15 bl9.length d15) rfl rfl _ _ rfl rfl w15.heap.size rfl rfl (sz0 (heap_alloc_new w15 _)) ?_; intro w16 H16 hT16; have B1516 := hT16.2.1 _ _ (al w15 _) (Nat.le_refl _); have S16 := (show Hid (SdAt w16 w2.heap.size h (.slice q2 B.length d2)) from SdAt.below S15.out B1516); have F16 := (show Hid (Rd w16 p4 f) from Rd.below F15.out B1516); have R16 := (show Hid (Rws w16 q2 B) from Rws.below R15.out B1516); have T16 := (show Hid (Rd w16 pt xs) from Rd.below T15.out B1516); have Bw16 := (show Hid (Below w.heap.size w w16) from bt Bw15.out B1516); clear S15 F15 R15 T15 Bw15; clear H16 hT16 B1516; rcases HTA with t1 | ⟨t1, t2⟩)
    | (go_at_call 10; revert F16; intro F16; refine (PC.out _ _ _ _ (by omega) F16.out (by omega)).mono ?_; rintro e w17 ⟨v17, rfl, hB17, hb17⟩; obtain ⟨q17, d17, rfl, _, _⟩ := hB17.rws; clear hB17)
    | (refine wpList_stS hd0 (.slice q17 0 d17) rfl rfl _ _ rfl rfl w17.heap.size rfl rfl (sz0 (heap_alloc_new w17 _)) ?_; intro w18 H18 hT18; have b18 := hT18.2.1 _ _ (al w17 _) (Nat.le_refl _)))
  all_goals
    go_ret
    exact ⟨rfl, bt (bt Bw16.out hb17) b18⟩
theorem frameBack_walk (h : Hd) (hin : h.In) (hy : h.key.length ≤ 9223372036854775807) (a : Option Addr) (n c : Nat) (bl : List (List (BitVec 8))) (hb : bl.length = n) (pt : Option Addr) (nt ct : Nat) (xs : List (BitVec 8)) (hxs : xs.length = nt) (hnt : nt ≤ 140737488351232) (cut : Int) (w : World) (hR : Rws w a bl) (hT : Rd w pt xs) :
    Calls Try.prog 3 #[.agg (h.sh (.slice a n c)), .slice pt nt ct, .int .i64 cut] w fun e w' => e = .returned (.bool true) ∧ Below w.heap.size w w' := by
  by_cases e : chk h = 0
  · exact frameBack_ok h hin hy a n c bl hb pt nt ct xs hxs hnt cut w hR hT ((chk_ok h).1 e)
  · exact frameBack_no h hin hy a n c bl hb _ _ w hR e
end
end Go.Proofs.Ytnbeppgcphibdaa
