/-
  A head that is handed in, opened.
-/
import Derived.Test.YtnjgfiiimcacbaaRows
import Derived.Test.YtnjgfiiimcacbaaQ8
import Derived.WalkKit
import Derived.ProofKit
import Derived.SizedLaws
import Derived.OpenShut
import Derived.ShutString
import Derived.ChangeOld
import Derived.Below
import Derived.Test.YtnjgfiiimcacbaaW8c
import Derived.Deep.Matrix
import Derived.Test.YtnjgfiiimcacbaaQ8c
import Derived.Test.YtnjgfiiimcacbaaSi8
import Derived.Test.YtnjgfiiimcacbaaPz8
import Derived.Laws.CopyOwn
import Derived.Test.YtnjgfiiimcacbaaAw8
import Derived.Test.YtnjgfiiimcacbaaEn9
import Derived.Test.YtnjgfiiimcacbaaSa8
import Derived.Deep.RegionHeld3
namespace Go.Proofs.Ytnjgfiiimcacbaa
open Go.ChangeShapes Go.WideShapes Go.ChangeAt Go.RowKit
/-- A string's bytes. -/
def unb (s : ByteArray) : List (BitVec 8) := s.data.toList.map (fun u => BitVec.ofNat 8 u.toNat)
theorem unb_len (s : ByteArray) : (unb s).length = s.data.toList.length := by unfold unb; rw [List.length_map]
theorem bstr_unb (s : ByteArray) : bstr (unb s) = s := by
  unfold bstr us unb
  rw [List.map_map]
  have e : s.data.toList.map ((fun b : BitVec 8 => UInt8.ofNat b.toNat) ∘ fun u => BitVec.ofNat 8 u.toNat) = s.data.toList := by
    conv => rhs; rw [← List.map_id s.data.toList]
    apply List.map_congr_left
    intro u _
    show UInt8.ofNat (BitVec.ofNat 8 u.toNat).toNat = u
    rw [BitVec.toNat_ofNat]
    have := u.toNat_lt
    rw [Nat.mod_eq_of_lt (by omega)]
    simp
  rw [e]
theorem list16 {α : Type} {l : List α} (h : l.length = 16) : ∃ c0 c1 c2 c3 c4 c5 c6 c7 c8 c9 c10 c11 c12 c13 c14 c15, l = [c0, c1, c2, c3, c4, c5, c6, c7, c8, c9, c10, c11, c12, c13, c14, c15] := by
  match l, h with
  | [c0, c1, c2, c3, c4, c5, c6, c7, c8, c9, c10, c11, c12, c13, c14, c15], _ => exact ⟨c0, c1, c2, c3, c4, c5, c6, c7, c8, c9, c10, c11, c12, c13, c14, c15, rfl⟩
theorem i64_of {n : Int} (h : (Lit.int .i64 n).wf = true) : In64 n := ⟨(bounds_i64 h).1, by have := (bounds_i64 h).2; omega⟩
theorem u8_of {n : Int} (h : (Lit.int .u8 n).wf = true) : ∃ a : BitVec 8, n = el a := by
  obtain ⟨a, ha⟩ := el_of n (bounds_u8 h).1 (by have := (bounds_u8 h).2; omega)
  exact ⟨a, ha⟩
theorem head_of {H : Type} {enc : TypeId × Value → H} {w : World} {bs : Nat} {spare : Nat → Bool} {held : Bool} {n : Nat} {cs : List Value} {y : DataW H × List MemPlace}
    (h : DataW.trod enc Try.prog w bs spare held n 28 cs = some y) : ∃ hd : Hd, hd.In ∧ hd.key.length ≤ 9223372036854775807 ∧ cs = hd.cs.toList := by
  obtain ⟨xs, m, _, _, hl, hlen, hf⟩ := DataW.trod_struct Try.underlying28 h
  have hl' : cs.length = 16 := hl.trans (by kernel_rfl)
  obtain ⟨c0, c1, c2, c3, c4, c5, c6, c7, c8, c9, c10, c11, c12, c13, c14, c15, rfl⟩ := list16 hl'
  have n1 : Try.prog.cellsOf 5 = 1 := by kernel_rfl
  have n8 : Try.prog.cellsOf 22 = 8 := by kernel_rfl
  have n3 : Try.prog.cellsOf 24 = 3 := by kernel_rfl
  have n2 : Try.prog.cellsOf 26 = 2 := by kernel_rfl
  have ns : Try.prog.cellsOf 9 = 1 := by kernel_rfl
  have ni : Try.prog.cellsOf 3 = 1 := by kernel_rfl
  match xs, hlen with
  | [y0, y1, y2, y3, y4, y5], _ =>
    have f0 := hf 0 _ rfl
    have f1 := hf 1 _ rfl
    have f2 := hf 2 _ rfl
    have f3 := hf 3 _ rfl
    have f4 := hf 4 _ rfl
    have f5 := hf 5 _ rfl
    simp [n8, n3, n2, ns, ni] at f0 f1 f2 f3 f4 f5
    obtain ⟨zs, m0, _, _, _, hz, g⟩ := DataW.trod_array Try.underlying22 f0
    match zs, hz with
    | [z0, z1, z2, z3, z4, z5, z6, z7], _ =>
      have g0 := g 0 (by decide)
      have g1 := g 1 (by decide)
      have g2 := g 2 (by decide)
      have g3 := g 3 (by decide)
      have g4 := g 4 (by decide)
      have g5 := g 5 (by decide)
      have g6 := g 6 (by decide)
      have g7 := g 7 (by decide)
      simp [n1] at g0 g1 g2 g3 g4 g5 g6 g7
      obtain ⟨v0, e0, _, w0⟩ := DataW.trod_int Try.underlying5 g0
      obtain ⟨v1, e1, _, w1⟩ := DataW.trod_int Try.underlying5 g1
      obtain ⟨v2, e2, _, w2⟩ := DataW.trod_int Try.underlying5 g2
      obtain ⟨v3, e3, _, w3⟩ := DataW.trod_int Try.underlying5 g3
      obtain ⟨v4, e4, _, w4⟩ := DataW.trod_int Try.underlying5 g4
      obtain ⟨v5, e5, _, w5⟩ := DataW.trod_int Try.underlying5 g5
      obtain ⟨v6, e6, _, w6⟩ := DataW.trod_int Try.underlying5 g6
      obtain ⟨v7, e7, _, w7⟩ := DataW.trod_int Try.underlying5 g7
      obtain ⟨us, m1, _, _, _, hu, k⟩ := DataW.trod_struct Try.underlying24 f1
      match us, hu with
      | [u0, u1, u2], _ =>
        have k0 := k 0 _ rfl
        have k1 := k 1 _ rfl
        have k2 := k 2 _ rfl
        simp [ni] at k0 k1 k2
        obtain ⟨v8, e8, _, w8⟩ := DataW.trod_int Try.underlying3 k0
        obtain ⟨v9, e9, _, w9⟩ := DataW.trod_int Try.underlying3 k1
        obtain ⟨v10, e10, _, w10⟩ := DataW.trod_int Try.underlying3 k2
        obtain ⟨sk, e11, _, w11⟩ := DataW.trod_string Try.underlying9 f2
        obtain ⟨v12, e12, _, w12⟩ := DataW.trod_int Try.underlying3 f3
        obtain ⟨v13, e13, _, w13⟩ := DataW.trod_int Try.underlying3 f4
        obtain ⟨ts, m2, _, _, _, ht, q⟩ := DataW.trod_struct Try.underlying26 f5
        match ts, ht with
        | [t0, t1], _ =>
          have q0 := q 0 _ rfl
          have q1 := q 1 _ rfl
          simp [ni] at q0 q1
          obtain ⟨v14, e14, _, w14⟩ := DataW.trod_int Try.underlying3 q0
          obtain ⟨v15, e15, _, w15⟩ := DataW.trod_int Try.underlying3 q1
          simp only [List.cons.injEq, and_true] at e0 e1 e2 e3 e4 e5 e6 e7 e8 e9 e10 e11 e12 e13 e14 e15
          subst e0 e1 e2 e3 e4 e5 e6 e7 e8 e9 e10 e11 e12 e13 e14 e15
          obtain ⟨a0, rfl⟩ := u8_of w0
          obtain ⟨a1, rfl⟩ := u8_of w1
          obtain ⟨a2, rfl⟩ := u8_of w2
          obtain ⟨a3, rfl⟩ := u8_of w3
          obtain ⟨a4, rfl⟩ := u8_of w4
          obtain ⟨a5, rfl⟩ := u8_of w5
          obtain ⟨a6, rfl⟩ := u8_of w6
          obtain ⟨a7, rfl⟩ := u8_of w7
          refine ⟨⟨a0, a1, a2, a3, a4, a5, a6, a7, v8, v9, v10, unb sk, v12, v13, v14, v15⟩, ⟨i64_of w8, i64_of w9, i64_of w10, i64_of w12, i64_of w13, i64_of w14, i64_of w15⟩, ?_, ?_⟩
          · show (unb sk).length ≤ _
            rw [unb_len]; exact w11
          · unfold Hd.cs
            rw [bstr_unb]
end Go.Proofs.Ytnjgfiiimcacbaa
/-
  A shard that is handed in, opened.
-/
namespace Go.Proofs.Ytnjgfiiimcacbaa
open Go.ChangeShapes Go.WideShapes Go.ChangeAt Go.RowKit
theorem spot_no {w : World} {a : Addr} {v : Value} (h : w.cell? (a.add 0) = some v) : ∃ b o, a = ⟨b, o, none⟩ := by
  obtain ⟨b, off, spot⟩ := a
  have hs : spot = none := by simpa [Addr.add] using World.cell?_spot h
  subst hs
  exact ⟨b, off, rfl⟩
/-- The bytes of a row that is handed in. -/
def rowL (Z : List Int) (n : Nat) : List (BitVec 8) := (List.range n).map (fun j => BitVec.ofNat 8 (Z.getD j 0).toNat)
theorem rowL_len (Z : List Int) (n : Nat) : (rowL Z n).length = n := by unfold rowL; simp
theorem rowL_rd {w : World} {A : Option Addr} {len cap base : Nat} {Z : List Int} (hl : len ≤ cap) (hw : ∀ n ∈ Z, (Lit.int .u8 n).wf = true) (h0 : A = none → cap = 0) (hc : ∀ a', A = some a' → base ≤ a'.block ∧ ∀ c, c < cap → w.cell? (a'.add c) = some (.int .u8 (Z.getD c 0))) : Rd w A (rowL Z len) := by
  by_cases h : len = 0
  · subst h; exact .inl rfl
  · cases hA : A with
    | none => have := h0 hA; omega
    | some a =>
      obtain ⟨_, hcc⟩ := hc a hA
      obtain ⟨b, o, rfl⟩ := spot_no (hcc 0 (by omega))
      refine .inr ⟨b, o, rfl, fun i hi => ?_⟩
      rw [rowL_len] at hi
      rw [← add_pl, hcc i (by omega)]
      have hb : 0 ≤ Z.getD i 0 ∧ Z.getD i 0 < 256 := by
        rw [List.getD_eq_getElem?_getD]
        cases e : Z[i]? with
        | none => simp
        | some z =>
          have h1 := bounds_u8 (hw z (List.mem_of_getElem? e))
          exact ⟨h1.1, by have := h1.2; simp only [Option.getD_some]; omega⟩
      have e : (rowL Z len).getD i 0#8 = BitVec.ofNat 8 (Z.getD i 0).toNat := by unfold rowL; simp [List.getD, hi]
      rw [e]
      obtain ⟨z, hz⟩ : ∃ z, z = Z.getD i 0 := ⟨_, rfl⟩
      rw [← hz] at hb ⊢
      unfold el
      rw [BitVec.toNat_ofNat]
      congr 2
      omega
theorem rows_of {H : Type} {enc : TypeId × Value → H} {W : World} {n : Nat} {v : Value} {y : DataW H × List MemPlace} (h : DataW.trod enc Try.prog W 0 (fun _ => true) true n 29 [v] = some y) : ∃ (p : Option Addr) (n c : Nat) (bl : List (List (BitVec 8))), v = .slice p n c ∧ bl.length = n ∧ n ≤ c ∧ Rws W p bl := by
  rcases Go.Deep.open_int_rows Try.underlying29 Try.underlying32 Try.underlying5 (by kernel_rfl) (by kernel_rfl) h with ⟨hcs, _⟩ | ⟨a, len, cap, A, L, C, Z, hcs, _, hl, hm, hx, hrow⟩
  · simp at hcs
    subst hcs
    exact ⟨none, 0, 0, [], rfl, rfl, Nat.le_refl _, .inl rfl⟩
  · simp at hcs
    subst hcs
    refine ⟨some a, len, cap, (List.range len).map (fun r => rowL (Z r) (L r)), rfl, by simp, hl, ?_⟩
    by_cases h0 : len = 0
    · subst h0; exact .inl rfl
    · obtain ⟨b, o, rfl⟩ := spot_no (hrow 0 (by omega)).1
      refine .inr ⟨b, o, rfl, fun i hi => ?_⟩
      have hi' : i < len := by simpa using hi
      obtain ⟨h1, h2, _, _, h5, h6, h7⟩ := hrow i (by omega)
      have e : ((List.range len).map (fun r => rowL (Z r) (L r))).getD i [] = rowL (Z i) (L i) := by simp [List.getD, hi']
      rw [e, rowL_len]
      exact ⟨A i, C i, by rw [← add_pl]; exact h1, h2, rowL_rd h2 h5 h6 h7⟩
theorem shard_of {H : Type} {enc : TypeId × Value → H} {W : World} {n : Nat} {cs : List Value} {y : DataW H × List MemPlace}
    (h : DataW.trod enc Try.prog W 0 (fun _ => true) true n 31 cs = some y) : ∃ (hd : Hd) (p : Option Addr) (n c : Nat) (bl : List (List (BitVec 8))), hd.In ∧ hd.key.length ≤ 9223372036854775807 ∧ cs = (hd.sh (.slice p n c)).toList ∧ bl.length = n ∧ n ≤ c ∧ Rws W p bl := by
  obtain ⟨xs, m, _, _, hl, hlen, hf⟩ := DataW.trod_struct Try.underlying31 h
  have hl' : cs.length = 17 := hl.trans (by kernel_rfl)
  have n16 : Try.prog.cellsOf 28 = 16 := by kernel_rfl
  have n1 : Try.prog.cellsOf 29 = 1 := by kernel_rfl
  match xs, hlen with
  | [y0, y1], _ =>
    have f0 := hf 0 _ rfl
    have f1 := hf 1 _ rfl
    simp [n16, n1] at f0 f1
    obtain ⟨hd, h1, h2, h3⟩ := head_of f0
    have e1 : (cs.drop 16).take 1 = [cs.getD 16 undef] := by
      apply List.ext_getElem?
      intro i
      match i with
      | 0 => simp [List.getD, hl']
      | i + 1 => rw [List.getElem?_eq_none (by simp [hl']), List.getElem?_eq_none (by simp)]
    have f1' : DataW.trod enc Try.prog W 0 (fun _ => true) true m 29 [cs.getD 16 undef] = some y1 := by rw [← e1]; exact f1
    obtain ⟨p, n, c, bl, e, hbl, hc, hR⟩ := rows_of f1'
    refine ⟨hd, p, n, c, bl, h1, h2, ?_, hbl, hc, hR⟩
    have e0 : cs.take 16 = hd.cs.toList := by simpa using h3
    unfold Hd.sh
    rw [Array.toList_push, ← e0, ← e]
    have h5 := List.take_append_drop 16 cs
    have h6 : cs.drop 16 = [cs.getD 16 undef] := by rw [← e1, List.take_of_length_le (by simp [hl'])]
    rw [h6] at h5
    exact h5.symm
end Go.Proofs.Ytnjgfiiimcacbaa
/-
  The document's Fits, Sizes, Check, Length.
-/
namespace Go.Proofs.Ytnjgfiiimcacbaa
open Go.RowKit
theorem bls_len (k s : Nat) (hs : 1 ≤ s) : ∀ f l, l ≤ f → (bls k s f l).length = (l + s - 1) / s := by
  intro f
  induction f with
  | zero =>
    intro l hl
    have : l = 0 := by omega
    subst this
    show 0 = _
    rw [Nat.div_eq_of_lt (by omega)]
  | succ f ih =>
    intro l hl
    unfold bls
    split
    · rename_i h; subst h; rw [Nat.div_eq_of_lt (by omega)]; rfl
    · rename_i h
      rw [List.length_cons, ih (l - s) (by omega)]
      by_cases hls : l ≤ s
      · rw [show l - s + s - 1 = s - 1 by omega, Nat.div_eq_of_lt (by omega)]
        have : (l + s - 1) / s = 1 := by
          rw [show l + s - 1 = (l - 1) + s by omega, Nat.add_div_right _ (by omega), Nat.div_eq_of_lt (by omega)]
        omega
      · rw [show l - s + s - 1 = l - 1 by omega, show l + s - 1 = (l - 1) + s by omega, Nat.add_div_right _ (by omega)]
theorem dvk (d k : Nat) (hk : 1 ≤ k) : ∃ q : Nat, (d : Int) / (k : Int) = (q : Int) ∧ q ≤ d ∧ (((q : Int) * (k : Int) < (d : Int) ∧ 0 ≤ (q : Int) * (k : Int) ∧ (d + k - 1) / k = q + 1) ∨ ((q : Int) * (k : Int) = (d : Int) ∧ (d + k - 1) / k = q)) := by
  refine ⟨d / k, by rw [Int.natCast_ediv], Nat.div_le_self _ _, ?_⟩
  have hd := Nat.div_add_mod d k
  have hm := Nat.mod_lt d hk
  have hle : d / k ≤ d := Nat.div_le_self _ _
  generalize d / k = q at hd hle ⊢
  generalize d % k = r at hd hm
  rw [← Int.natCast_mul]
  by_cases h0 : r = 0
  · refine .inr ⟨by rw [Nat.mul_comm]; omega, ?_⟩
    have : d + k - 1 = k * q + (k - 1) := by omega
    rw [this, Nat.mul_add_div (by omega), Nat.div_eq_of_lt (by omega), Nat.add_zero]
  · refine .inl ⟨by rw [Nat.mul_comm]; omega, by omega, ?_⟩
    have : d + k - 1 = k * (q + 1) + (r - 1) := by rw [Nat.mul_add]; omega
    rw [this, Nat.mul_add_div (by omega), Nat.div_eq_of_lt (by omega), Nat.add_zero]
theorem kbk (k b : Nat) (hk : 1 ≤ k) : (k * b + k - 1) / k = b := by
  have : k * b + k - 1 = k * b + (k - 1) := by omega
  rw [this, Nat.mul_add_div (by omega), Nat.div_eq_of_lt (by omega), Nat.add_zero]
theorem ShAt.grown {w w' : World} {o : Obj} {g base n : Nat} {k m b : Int} {v : Value} {xs : List Value} (hb : Below w.heap.size w (w.alloc o)) (hg : (w.alloc o).grownBy w' v.ownBlock) (ho : w.ownsRow base 3 1 v n xs) (H : ShAt w g k m b) : ShAt w' g k m b := by
  have H' := H.below hb
  unfold ShAt at H' ⊢
  rw [hg.block g (Hm.lt H') (fun e => ?_)]
  · exact H'
  · obtain ⟨cs, hcs⟩ := (own_lt (own_below ho hb) e.symm).2.2
    rw [H'] at hcs
    injection hcs with hcs
    injection hcs with _ hcs
    cases hcs
section
attribute [local irreducible] Calls el Hd.cs
set_option maxHeartbeats 1000000 in
set_option maxRecDepth 1000000 in
theorem rfits_any (k m b : Int) (hk : In64 k) (hm : In64 m) (w : World) :
    Calls Try.prog 37 #[.agg (shC k m b)] w fun e w' => e = .returned (.bool (shB k m b)) ∧ Below w.heap.size w w' := by
  unfold shC shB
  unfold In64 at hk hm
  have al : ∀ (W : World) (o : Obj), Below W.heap.size W (W.alloc o) := fun W o => (Below.refl _ _).alloc (Nat.le_refl _) o
  go_enter Try.func37, Try.ntmps37
  go_wp2
  all_goals (go_ret; refine ⟨?_, al _ _⟩; show Ending.returned (.bool _) = Ending.returned (.bool _); congr 2; rw [Bool.eq_iff_iff]; simp only [Bool.and_eq_true, decide_eq_true_eq, Bool.false_eq_true, false_iff]; omega)
set_option maxHeartbeats 4000000 in
set_option maxRecDepth 1000000 in
theorem rsizes_nat (k m b sz : Nat) (hsh : shp k m b) (hz : sz ≤ 1048576) (w : World) :
    Calls Try.prog 20 #[.agg (shC k m b), .int .i64 (sz : Int)] w fun e w' => ∃ v, e = .returned (.tuple #[v, .int .i64 (if (bls k (k * b) sz sz).length ≤ 4096 then 0 else 3)]) ∧ Oi w' w.heap.size v (if (bls k (k * b) sz sz).length ≤ 4096 then bls k (k * b) sz sz else []) ∧ Below w.heap.size w w' := by
  have al : ∀ (W : World) (o : Obj), Below W.heap.size W (W.alloc o) := fun W o => (Below.refl _ _).alloc (Nat.le_refl _) o
  have d1 := (shB_iff _ _ _).2 hsh
  have hk : 1 ≤ k ∧ k ≤ 255 := by unfold shp at hsh; omega
  have hb : 1 ≤ b ∧ b ≤ 65536 := by unfold shp at hsh; omega
  have FI := (show Hid _ from fun w => rfits_any k m b (by unfold In64; omega) (by unfold In64; unfold shp at hsh; omega) w)
  have HA := ShAt.new w k m b
  have kb : 1 ≤ k * b ∧ k * b ≤ 16711680 := ⟨Nat.mul_le_mul hk.1 hb.1, Nat.mul_le_mul hk.2 hb.2⟩
  have HI : Hid ((k : Int) * (b : Int) = ((k * b : Nat) : Int)) := by show _ = _; simp
  have kbi : 1 ≤ (k : Int) * (b : Int) ∧ (k : Int) * (b : Int) ≤ 16711680 := by rw [HI.out]; omega
  unfold shC at FI HA ⊢
  clear hsh
  go_enter Try.func20, Try.ntmps20
  go_wp2_with (go_at_call 37; refine (FI.out _).mono ?_; rintro e w1 ⟨rfl, hb1⟩; rw [d1]; have H1 := HA.below hb1)
  obtain ⟨x0, x1, x2⟩ := H1.cells
  have hbb := bt (al w (.cells #[.int .i64 (k : Int), .int .i64 (m : Int), .int .i64 (b : Int)] 24)) hb1
  clear x0 x1 x2 FI HA
  go_loopw [7, 8] (fun o i wr => ∃ (f l : Nat) (z : Int) (ys : List Nat), i = .int .i64 z ∧ (0 < z → z = l) ∧ (z ≤ 0 → l = 0) ∧ -16711680 ≤ z ∧ l ≤ f ∧ ys.length + f = sz ∧ ys ++ bls k (k * b) f l = bls k (k * b) sz sz ∧ Oi wr w.heap.size o ys ∧ ShAt wr w.heap.size k m b ∧ Below w.heap.size w wr) (fun _ i _ => (intOf i).toNat)
  case atStart => exact ⟨sz, sz, sz, [], rfl, fun _ => rfl, fun _ => by omega, by omega, Nat.le_refl _, by simp, rfl, Oi.nil _ _, H1, hbb⟩
  case round =>
    obtain ⟨f, l, z, ys, rfl, hz1, hz2, hz3, hlf, hyf, he, hO, hS, hb'⟩ := hrel
    have hsz := hb'.size
    by_cases hlt : 0 < z
    · have hzl := hz1 hlt
      subst hzl
      obtain ⟨c0, c1, c2⟩ := hS.cells
      obtain ⟨f, rfl⟩ : ∃ f', f = f' + 1 := ⟨f - 1, by omega⟩
      have hl0 : ¬ l = 0 := by omega
      have hst : bls k (k * b) (f + 1) l = (min l (k * b) + k - 1) / k :: bls k (k * b) f (l - k * b) := by
        show (if l = 0 then [] else _) = _
        rw [if_neg hl0]
      have i1 : (l : Int) ≤ 1048576 := by omega
      clear hl0 hz1 hz2
      rcases Nat.lt_or_ge (k * b) l with hls | hls
      · have hmn : min l (k * b) = k * b := Nat.min_eq_right (Nat.le_of_lt hls)
        have g1 : (k : Int) * (b : Int) < (l : Int) := by rw [HI.out]; omega
        have e1 : (k : Int) * (b : Int) / (k : Int) = (b : Int) := Int.mul_ediv_cancel_left _ (by omega)
        have e2 : (b : Int) * (k : Int) = (k : Int) * (b : Int) := Int.mul_comm _ _
        rw [hmn, kbk k b hk.1] at hst
        rw [hst, List.append_cons] at he
        clear hst hmn
        have rc := cell_of_row (wr.alloc (.cells #[.int .i64 (b : Int)] 3)) wr.heap.size 0 _ _ (0, 0) (heap_alloc_new wr _)
        go_wp2_with (at_builtin; refine wpList_api rfl (.tmp 54) (.tmp 56) rfl w.heap.size u7 ys rfl (hO.below (al _ _)) ⟨wr.heap.size, 0, none⟩ 1 _ rfl rc (by omega) (Nat.le_trans hsz (al _ _).size) ?_; intro v1 w2 ho1 hg1; have hS2 := ShAt.grown (al wr (.cells #[.int .i64 (b : Int)] 3)) hg1 hO hS; obtain ⟨y0, y1, y2⟩ := hS2.cells)
        go_roundw
        case rel =>
          refine ⟨f, l - k * b, _, _, rfl, fun h => ?_, fun h => ?_, ?_, by omega, by rw [List.length_append]; simp; omega, he, ho1, hS2, below_append (t := 3) (hb'.alloc hsz _) (Nat.le_trans hsz (al _ _).size) hg1 (hO.below (al _ _)) (Nat.le_refl _)⟩
          · have := HI.out; omega
          · have := HI.out; omega
          · omega
        case measure => have := kbi.1; simp [intOf]; omega
      · have hmn : min l (k * b) = l := Nat.min_eq_left hls
        have g1 : (l : Int) ≤ (k : Int) * (b : Int) := by rw [HI.out]; omega
        obtain ⟨q, e1, hq, dv⟩ := dvk l k hk.1
        rw [hmn] at hst
        rw [hst, List.append_cons] at he
        clear hst hmn
        rcases dv with ⟨dv1, dv2, dv3⟩ | ⟨dv1, dv3⟩
        · rw [dv3] at he
          clear dv3
          have rc := cell_of_row (wr.alloc (.cells #[.int .i64 ((q + 1 : Nat) : Int)] 3)) wr.heap.size 0 _ _ (0, 0) (heap_alloc_new wr _)
          go_wp2_with (at_builtin; refine wpList_api rfl (.tmp 54) (.tmp 56) rfl w.heap.size u7 ys rfl (hO.below (al _ _)) ⟨wr.heap.size, 0, none⟩ 1 _ rfl rc (by omega) (Nat.le_trans hsz (al _ _).size) ?_; intro v1 w2 ho1 hg1; have hS2 := ShAt.grown (al wr (.cells #[.int .i64 ((q + 1 : Nat) : Int)] 3)) hg1 hO hS; obtain ⟨y0, y1, y2⟩ := hS2.cells)
          go_roundw
          case rel =>
            refine ⟨f, l - k * b, _, _, rfl, fun h => ?_, fun h => ?_, ?_, by omega, by rw [List.length_append]; simp; omega, he, ho1, hS2, below_append (t := 3) (hb'.alloc hsz _) (Nat.le_trans hsz (al _ _).size) hg1 (hO.below (al _ _)) (Nat.le_refl _)⟩
            · have := HI.out; omega
            · have := HI.out; omega
            · omega
          case measure => have := kbi.1; simp [intOf]; omega
        · rw [dv3] at he
          clear dv3
          have rc := cell_of_row (wr.alloc (.cells #[.int .i64 (q : Int)] 3)) wr.heap.size 0 _ _ (0, 0) (heap_alloc_new wr _)
          go_wp2_with (at_builtin; refine wpList_api rfl (.tmp 54) (.tmp 56) rfl w.heap.size u7 ys rfl (hO.below (al _ _)) ⟨wr.heap.size, 0, none⟩ 1 _ rfl rc (by omega) (Nat.le_trans hsz (al _ _).size) ?_; intro v1 w2 ho1 hg1; have hS2 := ShAt.grown (al wr (.cells #[.int .i64 (q : Int)] 3)) hg1 hO hS; obtain ⟨y0, y1, y2⟩ := hS2.cells)
          go_roundw
          case rel =>
            refine ⟨f, l - k * b, _, _, rfl, fun h => ?_, fun h => ?_, ?_, by omega, by rw [List.length_append]; simp; omega, he, ho1, hS2, below_append (t := 3) (hb'.alloc hsz _) (Nat.le_trans hsz (al _ _).size) hg1 (hO.below (al _ _)) (Nat.le_refl _)⟩
            · have := HI.out; omega
            · have := HI.out; omega
            · omega
          case measure => have := kbi.1; simp [intOf]; omega
    · have hl0 := hz2 (by omega)
      subst hl0
      have hnil : bls k (k * b) f 0 = [] := by cases f <;> rfl
      rw [hnil, List.append_nil] at he
      subst he
      clear hnil
      obtain ⟨p, cap, rfl, hcap, hV⟩ := hO.rd
      by_cases h4 : (bls k (k * b) sz sz).length ≤ 4096
      · have h4' : ((bls k (k * b) sz sz).length : Int) ≤ 4096 := by omega
        go_wp2
        go_ret2
        exact ⟨_, rfl, hO, hb'⟩
      · have h4' : ¬ ((bls k (k * b) sz sz).length : Int) ≤ 4096 := by omega
        go_wp2
        go_ret2
        exact ⟨_, rfl, Oi.nil _ _, hb'⟩
set_option maxHeartbeats 1000000 in
set_option maxRecDepth 1000000 in
theorem rsizes_any (k m b sz : Int) (hk : In64 k) (hm : In64 m) (hz : In64 sz) (w : World) :
    Calls Try.prog 20 #[.agg (shC k m b), .int .i64 sz] w fun e w' => ∃ v, e = .returned (.tuple #[v, .int .i64 (szC k m b sz)]) ∧ Oi w' w.heap.size v (szL k m b sz) ∧ Below w.heap.size w w' := by
  have al : ∀ (W : World) (o : Obj), Below W.heap.size W (W.alloc o) := fun W o => (Below.refl _ _).alloc (Nat.le_refl _) o
  have FI := (show Hid _ from fun w => rfits_any k m b hk hm w)
  by_cases h1 : shp k m b
  · by_cases h2 : 0 ≤ sz ∧ sz ≤ 1048576
    · obtain ⟨K, M, B, Z, rfl, rfl, rfl, rfl, hK, hB, hZ⟩ : ∃ K M B Z : Nat, k = K ∧ m = M ∧ b = B ∧ sz = Z ∧ (1 ≤ K ∧ K ≤ 255) ∧ (1 ≤ B ∧ B ≤ 65536) ∧ Z ≤ 1048576 := by
        unfold shp at h1
        exact ⟨k.toNat, m.toNat, b.toNat, sz.toNat, by omega, by omega, by omega, by omega, by omega, by omega, by omega⟩
      have h := rsizes_nat K M B Z h1 hZ w
      have hkb : 1 ≤ K * B := Nat.mul_le_mul hK.1 hB.1
      have hlen : ((bls K (K * B) Z Z).length : Int) = cdv Z ((K : Int) * (B : Int)) := by
        rw [bls_len K (K * B) hkb Z Z (Nat.le_refl _)]
        unfold cdv
        rw [← Int.natCast_mul, Int.natCast_ediv]; congr 1; omega
      have e1 : szC K M B Z = if (bls K (K * B) Z Z).length ≤ 4096 then 0 else 3 := by
        unfold szC szE
        rw [if_neg (not_not_intro h1), if_neg (by omega)]
        by_cases h4 : (bls K (K * B) Z Z).length ≤ 4096
        · rw [if_pos h4, if_neg (by omega)]
        · rw [if_neg h4, if_pos (by omega)]
      have e2 : szL K M B Z = if (bls K (K * B) Z Z).length ≤ 4096 then bls K (K * B) Z Z else [] := by
        unfold szL
        rw [e1, ← Int.natCast_mul]
        simp only [Int.toNat_natCast]
        by_cases h4 : (bls K (K * B) Z Z).length ≤ 4096
        · rw [if_pos h4, if_pos h4, if_pos rfl]
        · rw [if_neg h4, if_neg h4, if_neg (by decide)]
      rw [e1, e2]
      exact h
    · have d1 := (shB_iff _ _ _).2 h1
      have e1 : szC k m b sz = if sz < 0 then 2 else 3 := by
        unfold szC szE
        rw [if_neg (not_not_intro h1)]
        by_cases h3 : sz < 0
        · rw [if_pos h3, if_pos h3]
        · rw [if_neg h3, if_neg h3, if_pos (by omega)]
      have e2 : szL k m b sz = [] := by
        unfold szL
        rw [e1, if_neg (by split <;> decide)]
      rw [e1, e2]
      unfold shC at FI ⊢
      clear e1 e2
      go_enter Try.func20, Try.ntmps20
      by_cases h3 : sz < 0
      · rw [if_pos h3]
        go_wp2_with (go_at_call 37; refine (FI.out _).mono ?_; rintro e w1 ⟨rfl, hb1⟩; rw [d1])
        go_ret2
        exact ⟨_, rfl, Oi.nil _ _, bt (al _ _) hb1⟩
      · rw [if_neg h3]
        have h4 : 1048576 < sz := by omega
        go_wp2_with (go_at_call 37; refine (FI.out _).mono ?_; rintro e w1 ⟨rfl, hb1⟩; rw [d1])
        go_ret2
        exact ⟨_, rfl, Oi.nil _ _, bt (al _ _) hb1⟩
  · have d1 : shB k m b = false := by
      cases e : shB k m b with
      | false => rfl
      | true => exact absurd ((shB_iff _ _ _).1 e) h1
    have e1 : szC k m b sz = 4 := by unfold szC; rw [if_pos h1]
    have e2 : szL k m b sz = [] := by unfold szL; rw [e1, if_neg (by decide)]
    rw [e1, e2]
    unfold shC at FI ⊢
    go_enter Try.func20, Try.ntmps20
    go_wp2_with (go_at_call 37; refine (FI.out _).mono ?_; rintro e w1 ⟨rfl, hb1⟩; rw [d1])
    go_ret2
    exact ⟨_, rfl, Oi.nil _ _, bt (al _ _) hb1⟩
end
end Go.Proofs.Ytnjgfiiimcacbaa
/-
  The document's Check, Length.
-/
namespace Go.Proofs.Ytnjgfiiimcacbaa
open Go.RowKit
section
attribute [local irreducible] Calls el Hd.cs
set_option maxHeartbeats 4000000 in
set_option maxRecDepth 1000000 in
theorem rcheck_any (h : Hd) (hi : h.In) (hy : h.key.length ≤ 9223372036854775807) (w : World) :
    Calls Try.prog 19 #[.agg h.cs] w fun e w' => e = .returned (.int .i64 (chk h)) ∧ Below w.heap.size w w' := by
  have al : ∀ (W : World) (o : Obj), Below W.heap.size W (W.alloc o) := fun W o => (Below.refl _ _).alloc (Nat.le_refl _) o
  have hl : (bstr h.key).size = h.key.length := by show (us h.key).toArray.size = _; simp [us]
  have FI := (show Hid _ from fun w => rfits_any h.k h.m h.b hi.k hi.m w)
  have SZ := (show Hid _ from fun w => rsizes_any h.k h.m h.b h.sz hi.k hi.m hi.sz w)
  have HA := HdAt.new w h
  obtain ⟨q8, q9, q10, q11, q12, q13, q14, q15⟩ := HA.cells
  obtain ⟨ik, im, ib, iz, ii, ie, ic⟩ := hi
  unfold In64 at ik im ib iz ii ie ic
  unfold shC at FI SZ
  by_cases h1 : shp h.k h.m h.b
  · have d1 := (shB_iff _ _ _).2 h1
    have e1 : szC h.k h.m h.b h.sz = szE h.k h.b h.sz := by unfold szC; rw [if_neg (not_not_intro h1)]
    rw [e1] at SZ
    have kk : 1 ≤ h.k ∧ h.k ≤ 255 ∧ 1 ≤ h.m ∧ h.m ≤ 255 := by unfold shp at h1; omega
    by_cases h2 : 1 ≤ h.key.length ∧ h.key.length ≤ 255
    · have g1 : ¬ (h.key.length : Int) < 1 := by omega
      have g2 : ¬ 255 < (h.key.length : Int) := by omega
      by_cases h3 : szE h.k h.b h.sz = 0
      · rw [h3] at SZ
        by_cases h4 : 0 ≤ h.ix ∧ h.ix ≤ h.k + h.m - 1
        · have g3 : ¬ h.ix < 0 := by omega
          have g4 : ¬ h.k + h.m ≤ h.ix := by omega
          by_cases h5 : 1 ≤ h.ep ∧ h.ep ≤ 4294967295
          · have g5 : ¬ h.ep < 1 := by omega
            have g6 : ¬ 4294967295 < h.ep := by omega
            by_cases h6 : 1 ≤ h.ct ∧ h.ct ≤ 4294967295
            · have g7 : ¬ h.ct < 1 := by omega
              have g8 : ¬ 4294967295 < h.ct := by omega
              have ec : chk h = 0 := by unfold chk; rw [if_neg (not_not_intro h1), if_neg (not_not_intro h2), if_neg (not_not_intro h3), if_neg (not_not_intro h4), if_neg (not_not_intro ⟨h5, h6⟩)]
              rw [ec]
              clear h1 h2 h3 h4 h5 h6 ec e1
              go_enter Try.func19, Try.ntmps19
              go_wp2_with (first | (go_at_call 37; refine (FI.out _).mono ?_; rintro e w1 ⟨rfl, hb1⟩; rw [d1]; have H1 := HA.below hb1; obtain ⟨q8, q9, q10, q11, q12, q13, q14, q15⟩ := H1.cells) | (go_at_call 20; refine (SZ.out _).mono ?_; rintro e w3 ⟨v, rfl, hO, hb3⟩; obtain ⟨z8, z9, z10, z11, z12, z13, z14, z15⟩ := (H1.below hb3).cells))
              all_goals go_ret
              all_goals exact ⟨rfl, bt (bt (al _ _) hb1) hb3⟩
            · have ec : chk h = 2 := by unfold chk; rw [if_neg (not_not_intro h1), if_neg (not_not_intro h2), if_neg (not_not_intro h3), if_neg (not_not_intro h4), if_pos (fun g => h6 g.2)]
              rw [ec]
              by_cases g7 : h.ct < 1
              · clear h1 h2 h3 h4 h5 h6 ec e1
                go_enter Try.func19, Try.ntmps19
                go_wp2_with (first | (go_at_call 37; refine (FI.out _).mono ?_; rintro e w1 ⟨rfl, hb1⟩; rw [d1]; have H1 := HA.below hb1; obtain ⟨q8, q9, q10, q11, q12, q13, q14, q15⟩ := H1.cells) | (go_at_call 20; refine (SZ.out _).mono ?_; rintro e w3 ⟨v, rfl, hO, hb3⟩; obtain ⟨z8, z9, z10, z11, z12, z13, z14, z15⟩ := (H1.below hb3).cells))
                all_goals go_ret
                all_goals exact ⟨rfl, bt (bt (al _ _) hb1) hb3⟩
              · have g8 : 4294967295 < h.ct := by omega
                clear h1 h2 h3 h4 h5 h6 ec e1
                go_enter Try.func19, Try.ntmps19
                go_wp2_with (first | (go_at_call 37; refine (FI.out _).mono ?_; rintro e w1 ⟨rfl, hb1⟩; rw [d1]; have H1 := HA.below hb1; obtain ⟨q8, q9, q10, q11, q12, q13, q14, q15⟩ := H1.cells) | (go_at_call 20; refine (SZ.out _).mono ?_; rintro e w3 ⟨v, rfl, hO, hb3⟩; obtain ⟨z8, z9, z10, z11, z12, z13, z14, z15⟩ := (H1.below hb3).cells))
                all_goals go_ret
                all_goals exact ⟨rfl, bt (bt (al _ _) hb1) hb3⟩
          · have ec : chk h = 2 := by unfold chk; rw [if_neg (not_not_intro h1), if_neg (not_not_intro h2), if_neg (not_not_intro h3), if_neg (not_not_intro h4), if_pos (fun g => h5 g.1)]
            rw [ec]
            by_cases g7 : h.ep < 1
            · clear h1 h2 h3 h4 h5 ec e1
              go_enter Try.func19, Try.ntmps19
              go_wp2_with (first | (go_at_call 37; refine (FI.out _).mono ?_; rintro e w1 ⟨rfl, hb1⟩; rw [d1]; have H1 := HA.below hb1; obtain ⟨q8, q9, q10, q11, q12, q13, q14, q15⟩ := H1.cells) | (go_at_call 20; refine (SZ.out _).mono ?_; rintro e w3 ⟨v, rfl, hO, hb3⟩; obtain ⟨z8, z9, z10, z11, z12, z13, z14, z15⟩ := (H1.below hb3).cells))
              all_goals go_ret
              all_goals exact ⟨rfl, bt (bt (al _ _) hb1) hb3⟩
            · have g8 : 4294967295 < h.ep := by omega
              clear h1 h2 h3 h4 h5 ec e1
              go_enter Try.func19, Try.ntmps19
              go_wp2_with (first | (go_at_call 37; refine (FI.out _).mono ?_; rintro e w1 ⟨rfl, hb1⟩; rw [d1]; have H1 := HA.below hb1; obtain ⟨q8, q9, q10, q11, q12, q13, q14, q15⟩ := H1.cells) | (go_at_call 20; refine (SZ.out _).mono ?_; rintro e w3 ⟨v, rfl, hO, hb3⟩; obtain ⟨z8, z9, z10, z11, z12, z13, z14, z15⟩ := (H1.below hb3).cells))
              all_goals go_ret
              all_goals exact ⟨rfl, bt (bt (al _ _) hb1) hb3⟩
        · have ec : chk h = 2 := by unfold chk; rw [if_neg (not_not_intro h1), if_neg (not_not_intro h2), if_neg (not_not_intro h3), if_pos h4]
          rw [ec]
          by_cases g3 : h.ix < 0
          · clear h1 h2 h3 h4 ec e1
            go_enter Try.func19, Try.ntmps19
            go_wp2_with (first | (go_at_call 37; refine (FI.out _).mono ?_; rintro e w1 ⟨rfl, hb1⟩; rw [d1]; have H1 := HA.below hb1; obtain ⟨q8, q9, q10, q11, q12, q13, q14, q15⟩ := H1.cells) | (go_at_call 20; refine (SZ.out _).mono ?_; rintro e w3 ⟨v, rfl, hO, hb3⟩; obtain ⟨z8, z9, z10, z11, z12, z13, z14, z15⟩ := (H1.below hb3).cells))
            all_goals go_ret
            all_goals exact ⟨rfl, bt (bt (al _ _) hb1) hb3⟩
          · have g4 : h.k + h.m ≤ h.ix := by omega
            clear h1 h2 h3 h4 ec e1
            go_enter Try.func19, Try.ntmps19
            go_wp2_with (first | (go_at_call 37; refine (FI.out _).mono ?_; rintro e w1 ⟨rfl, hb1⟩; rw [d1]; have H1 := HA.below hb1; obtain ⟨q8, q9, q10, q11, q12, q13, q14, q15⟩ := H1.cells) | (go_at_call 20; refine (SZ.out _).mono ?_; rintro e w3 ⟨v, rfl, hO, hb3⟩; obtain ⟨z8, z9, z10, z11, z12, z13, z14, z15⟩ := (H1.below hb3).cells))
            all_goals go_ret
            all_goals exact ⟨rfl, bt (bt (al _ _) hb1) hb3⟩
      · have ec : chk h = szE h.k h.b h.sz := by unfold chk; rw [if_neg (not_not_intro h1), if_neg (not_not_intro h2), if_pos h3]
        rw [ec]
        have hz := szE_bd h.k h.b h.sz
        generalize szE h.k h.b h.sz = z at h3 SZ hz ⊢
        clear h1 h2 ec e1
        go_enter Try.func19, Try.ntmps19
        go_wp2_with (first | (go_at_call 37; refine (FI.out _).mono ?_; rintro e w1 ⟨rfl, hb1⟩; rw [d1]; have H1 := HA.below hb1; obtain ⟨q8, q9, q10, q11, q12, q13, q14, q15⟩ := H1.cells) | (go_at_call 20; refine (SZ.out _).mono ?_; rintro e w3 ⟨v, rfl, hO, hb3⟩; obtain ⟨z8, z9, z10, z11, z12, z13, z14, z15⟩ := (H1.below hb3).cells))
        all_goals go_ret
        all_goals exact ⟨rfl, bt (bt (al _ _) hb1) hb3⟩
    · have ec : chk h = 90 := by unfold chk; rw [if_neg (not_not_intro h1), if_pos h2]
      rw [ec]
      by_cases g1 : (h.key.length : Int) < 1
      · clear h1 h2 ec e1
        go_enter Try.func19, Try.ntmps19
        go_wp2_with (first | (go_at_call 37; refine (FI.out _).mono ?_; rintro e w1 ⟨rfl, hb1⟩; rw [d1]; have H1 := HA.below hb1; obtain ⟨q8, q9, q10, q11, q12, q13, q14, q15⟩ := H1.cells) | (go_at_call 20; refine (SZ.out _).mono ?_; rintro e w3 ⟨v, rfl, hO, hb3⟩; obtain ⟨z8, z9, z10, z11, z12, z13, z14, z15⟩ := (H1.below hb3).cells))
        all_goals go_ret
        all_goals exact ⟨rfl, bt (al _ _) hb1⟩
      · have g2 : 255 < (h.key.length : Int) := by omega
        clear h1 h2 ec e1
        go_enter Try.func19, Try.ntmps19
        go_wp2_with (first | (go_at_call 37; refine (FI.out _).mono ?_; rintro e w1 ⟨rfl, hb1⟩; rw [d1]; have H1 := HA.below hb1; obtain ⟨q8, q9, q10, q11, q12, q13, q14, q15⟩ := H1.cells) | (go_at_call 20; refine (SZ.out _).mono ?_; rintro e w3 ⟨v, rfl, hO, hb3⟩; obtain ⟨z8, z9, z10, z11, z12, z13, z14, z15⟩ := (H1.below hb3).cells))
        all_goals go_ret
        all_goals exact ⟨rfl, bt (al _ _) hb1⟩
  · have d1 : shB h.k h.m h.b = false := by
      cases e : shB h.k h.m h.b with
      | false => rfl
      | true => exact absurd ((shB_iff _ _ _).1 e) h1
    have ec : chk h = 4 := by unfold chk; rw [if_pos h1]
    rw [ec]
    clear h1 ec
    go_enter Try.func19, Try.ntmps19
    go_wp2_with (first | (go_at_call 37; refine (FI.out _).mono ?_; rintro e w1 ⟨rfl, hb1⟩; rw [d1]; have H1 := HA.below hb1; obtain ⟨q8, q9, q10, q11, q12, q13, q14, q15⟩ := H1.cells) | (go_at_call 20; refine (SZ.out _).mono ?_; rintro e w3 ⟨v, rfl, hO, hb3⟩; obtain ⟨z8, z9, z10, z11, z12, z13, z14, z15⟩ := (H1.below hb3).cells))
    all_goals go_ret
    all_goals exact ⟨rfl, bt (al _ _) hb1⟩
end
end Go.Proofs.Ytnjgfiiimcacbaa
/-
  The document's Length.
-/
namespace Go.Proofs.Ytnjgfiiimcacbaa
open Go.RowKit
section
attribute [local irreducible] Calls el Hd.cs
end
end Go.Proofs.Ytnjgfiiimcacbaa
/-
  The laws' fit: blocks of the right lengths.
-/
namespace Go.Proofs.Ytnjgfiiimcacbaa
open Go.RowKit
/-- A block of l bytes, out of what there is. -/
def padT (l : Nat) (x : List (BitVec 8)) : List (BitVec 8) := x.take l ++ List.replicate (l - x.length) 0#8
theorem padT_len (l : Nat) (x : List (BitVec 8)) : (padT l x).length = l := by unfold padT; simp; omega
def fitB (L : List Nat) (bl : List (List (BitVec 8))) : List (List (BitVec 8)) := (List.range L.length).map (fun j => padT (L.getD j 0) (bl.getD j []))
theorem fitB_len (L : List Nat) (bl : List (List (BitVec 8))) : (fitB L bl).length = L.length := by unfold fitB; simp
theorem fitB_ls (L : List Nat) (bl : List (List (BitVec 8))) : (fitB L bl).map List.length = L := by
  apply List.ext_getElem?
  intro i
  unfold fitB
  by_cases hi : i < L.length
  · simp [hi, padT_len]
  · rw [List.getElem?_eq_none (by simp; omega), List.getElem?_eq_none (by omega)]
theorem fitB_take (L : List Nat) (bl : List (List (BitVec 8))) (t : Nat) (ht : t < L.length) : (fitB L bl).take (t + 1) = (fitB L bl).take t ++ [padT (L.getD t 0) (bl.getD t [])] := by
  rw [List.take_add_one]
  congr 1
  unfold fitB
  simp [ht]
theorem vs_map (xs : List (BitVec 8)) : vs (fn xs) xs.length = xs.map (fun b => Value.int .u8 (el b)) := by
  apply List.ext_getElem?
  intro i
  by_cases hi : i < xs.length
  · simp [vs, fn, hi]
  · rw [List.getElem?_eq_none (by rw [vs_len]; omega), List.getElem?_eq_none (by simp; omega)]
theorem Ow.of_row {w : World} {base g : Nat} {xs : List (BitVec 8)} (hg : base ≤ g) (h : w.heap[g]? = some (.cells (xs.map (fun b => Value.int .u8 (el b))).toArray 5)) (hl : xs.length ≤ 140737488355328) : Ow w base (.slice (some ⟨g, 0, none⟩) xs.length xs.length) xs := by
  unfold Ow
  rw [vs_map]
  refine ⟨by simp, .inr ⟨g, xs.length, _, rfl, hg, h, Nat.le_refl _, by unfold maxLen; omega, by simp, by rw [Nat.mul_one]; exact List.take_of_length_le (by simp)⟩⟩
theorem padT_row (l : Nat) (x : List (BitVec 8)) : (Array.replicate l (Value.int .u8 0)).toList.take 0 ++ ((x.take l).map (fun b => Value.int .u8 (el b)) ++ (Array.replicate l (Value.int .u8 0)).toList.drop (0 + ((x.take l).map (fun b => Value.int .u8 (el b))).length)) = (padT l x).map (fun b => Value.int .u8 (el b)) := by
  unfold padT
  rw [List.map_append]
  simp
  exact ⟨by omega, .inr rfl⟩
theorem padT_nil (l : Nat) : (padT l []).map (fun b => Value.int .u8 (el b)) = List.replicate l (Value.int .u8 0) := by
  unfold padT
  simp
  exact .inr rfl
theorem Ow.blank (w : World) (l : Nat) (hl : l ≤ 140737488355328) : Ow (w.alloc (.cells (Array.replicate l (.int .u8 0)) 5)) w.heap.size (.slice (some ⟨w.heap.size, 0, none⟩) l l) (padT l []) := by
  have h := Ow.of_row (w := w.alloc (.cells (Array.replicate l (.int .u8 0)) 5)) (base := w.heap.size) (g := w.heap.size) (xs := padT l []) (Nat.le_refl _) (by rw [padT_nil, ← List.toArray_replicate]; exact heap_alloc_new w _) (by rw [padT_len]; exact hl)
  rw [padT_len] at h
  exact h
theorem Turned.refl (g : Nat) (w : World) : Turned g w w := ⟨fun _ _ => rfl, fun _ _ h _ => h, rfl⟩
/-- copy(block, x) onto a new block. -/
theorem wpList_cpT {w : World} {ops : Array Oper} {rest : List Oper} {o : Oper} {a : Act} {Q : Exit → Act → World → Prop} (hgd : o.guard = none) (d s : Operand) (ho : o.op = .call { callee := .builtin .copy, args := #[d, s], argTypes := #[32, 32] })
    (g l : Nat) (hd : a.eval d = .slice (some ⟨g, 0, none⟩) l l) (p : Option Addr) (c : Nat) (x : List (BitVec 8)) (hs : a.eval s = .slice p x.length c) (hr : Rd w p x) (hg : w.heap[g]? = some (.cells (Array.replicate l (.int .u8 0)) 5)) (hl : l ≤ 140737488355328)
    (h : ∀ w', Ow w' g (.slice (some ⟨g, 0, none⟩) l l) (padT l x) → Turned g w w' → wpList Try.prog ops Q rest (a.put o.dst (goInt ((x.take l).length))) w') : wpList Try.prog ops Q (o :: rest) a w := by
  have hsz : (Try.prog.info? 5).map (·.size) = some 1 := by kernel_rfl
  rcases hr with e | ⟨b, off, e, hc⟩
  · subst e
    refine wpList_copy_nothing hgd d s 32 32 ho 5 Try.underlying32 hsz _ _ _ _ _ _ hd hs (Nat.min_eq_left (Nat.zero_le _)) ?_
    have h9 := h w ?_ (Turned.refl _ _)
    · simpa using h9
    have h1 := Ow.of_row (w := w) (base := g) (g := g) (xs := padT l []) (Nat.le_refl _) (by rw [padT_nil, List.toArray_replicate]; exact hg) (by rw [padT_len]; exact hl)
    rw [padT_len] at h1
    exact h1
  · subst e
    refine wpList_copy_own hgd d s 32 32 ho 5 Try.underlying32 hsz g 0 l l ⟨b, off, none⟩ x.length c hd hs (Array.replicate l (.int .u8 0)) 5 hg ((x.take l).map (fun b => Value.int .u8 (el b))) (by simp [Nat.min_comm]) (fun j v hv => ?_) (by simp; omega) (fun v hv => by obtain ⟨_, _, rfl⟩ := List.mem_map.1 hv; rfl) ?_
    · have hj : j < x.length := by
        rcases Nat.lt_or_ge j x.length with h | h
        · exact h
        · rw [List.getElem?_eq_none (by simp; omega)] at hv; cases hv
      rw [add_pl, hc j hj]
      rw [List.getElem?_map, List.getElem?_take] at hv
      split at hv
      · rw [List.getElem?_eq_getElem hj] at hv
        simp only [Option.map_some, Option.some.injEq] at hv
        rw [← hv]
        simp [List.getD, hj]
      · cases hv
    · rw [padT_row, List.length_map]
      refine h _ ?_ ⟨fun k hk => setRow_other w g k _ hk, fun B w0 hb hB => below_setRow hb hB _, by simp⟩
      have h1 := Ow.of_row (w := w.setRow g ((padT l x).map (fun b => Value.int .u8 (el b))).toArray) (base := g) (g := g) (xs := padT l x) (Nat.le_refl _) (setRow_heap w g _ _ _ _ hg) (by rw [padT_len]; exact hl)
      rw [padT_len] at h1
      exact h1
end Go.Proofs.Ytnjgfiiimcacbaa
/-
  The laws' fit.
-/
namespace Go.Proofs.Ytnjgfiiimcacbaa
open Go.RowKit
theorem al_sz (w : World) (o : Obj) : (w.alloc o).heap.size = w.heap.size + 1 := by simp
section
attribute [local irreducible] Calls el Hd.cs Hd.sh szC szL
set_option maxHeartbeats 8000000 in
set_option maxRecDepth 1000000 in
theorem fit8_no (h : Hd) (hi : h.In) (hy : h.key.length ≤ 9223372036854775807) (p : Option Addr) (n c : Nat) (w : World) (hc : chk h ≠ 0) :
    Calls Try.prog 7 #[.agg (h.sh (.slice p n c))] w fun e w' => e = .returned (.tuple #[.agg (h.sh (.slice p n c)), .bool false]) ∧ Below w.heap.size w w' := by
  have al : ∀ (W : World) (o : Obj), Below W.heap.size W (W.alloc o) := fun W o => (Below.refl _ _).alloc (Nat.le_refl _) o
  have H0 := (show Hid (SdAt (w.alloc (.cells (h.sh (.slice p n c)) 31)) w.heap.size h (.slice p n c)) from heap_alloc_new w _)
  have CK := (show Hid _ from fun W => rcheck_any h hi hy W)
  have hc' : (chk h != 0) = true := by simpa using hc
  obtain ⟨z, hz⟩ : ∃ z, z = chk h := ⟨_, rfl⟩
  rw [← hz] at CK hc'
  clear hz hc
  go_enter Try.func7, Try.ntmps7
  go_wp2_with (first
    | (refine wpList_loadIn rfl _ rfl w.heap.size rfl (SdAt.head (SdAt.below H0.out (al _ _))) ?_)
    | (go_at_call 19; refine (CK.out _).mono ?_; rintro e w1 ⟨rfl, hb1⟩; have H1 := (show Hid (SdAt w1 w.heap.size h (.slice p n c)) from SdAt.below (SdAt.below H0.out (al _ _)) hb1); have Z1 := (show Hid (SdAt w1 (w.heap.size + 1) hd0 (.slice none 0 0)) from by have h9 := SdAt.below (sz0 (heap_alloc_new (w.alloc (.cells (h.sh (.slice p n c)) 31)) _)) hb1; rw [al_sz] at h9; exact h9))
    | (refine wpList_ldS rfl _ rfl w.heap.size rfl H1.out ?_)
    | (refine wpList_stS h (.slice p n c) rfl rfl _ _ rfl rfl (w.heap.size + 1) rfl rfl Z1.out ?_; intro wB HB hTB))
  refine bodyPost_ret (v := .tuple #[.agg (h.sh (.slice p n c)), .bool false]) (res_sd rfl _ _ (w.heap.size + 1) h (.slice p n c) _ rfl rfl HB) rfl ⟨rfl, ?_⟩
  exact hTB.2.1 _ _ (bt (bt (al _ _) (al _ _)) hb1) (by omega)
set_option maxHeartbeats 16000000 in
set_option maxRecDepth 1000000 in
theorem fit8_ok (h : Hd) (hi : h.In) (ok : h.Ok) {w : World} {p : Option Addr} {bl : List (List (BitVec 8))} (HB : Rws w p bl) (n c : Nat) (hn : bl.length = n) :
    Calls Try.prog 7 #[.agg (h.sh (.slice p n c))] w fun e w' => ∃ v, e = .returned (.tuple #[.agg (h.sh v), .bool true]) ∧ Bl w' w.heap.size v (fitB h.ls bl) ∧ Below w.heap.size w w' := by
  have al : ∀ (W : World) (o : Obj), Below W.heap.size W (W.alloc o) := fun W o => (Below.refl _ _).alloc (Nat.le_refl _) o
  have H0 := (show Hid (SdAt (w.alloc (.cells (h.sh (.slice p n c)) 31)) w.heap.size h (.slice p n c)) from heap_alloc_new w _)
  have CK := (show Hid _ from fun W => rcheck_any h hi (by have := ok.y2; omega) W)
  rw [(chk_ok h).2 ok] at CK
  have SZ := (show Hid _ from fun W => rsizes_any h.k h.m h.b h.sz hi.k hi.m hi.sz W)
  obtain ⟨z1, z2⟩ := h.ls_eq ok
  rw [z1, z2] at SZ
  unfold shC at SZ
  have HBw := (show Hid (Rws w p bl) from HB)
  have hlb := h.ls_bd ok
  have hld := h.len_bd ok
  have hlen : h.len = 40 + h.key.length + tot h.ls := rfl
  obtain ⟨L, HLS⟩ : ∃ L, Hid (h.ls = L) := ⟨_, rfl⟩
  rw [HLS.out] at SZ hlb hlen ⊢
  have htot : Hid (tot L ≤ 140737488355328) := (by show _ ≤ _; omega)
  clear z1 z2 hld hlen HB
  go_enter Try.func7, Try.ntmps7
  go_wp2_with (first
    | (refine wpList_loadIn rfl _ rfl w.heap.size rfl (SdAt.head (SdAt.below H0.out (al _ _))) ?_)
    | (go_at_call 19; refine (CK.out _).mono ?_; rintro e w1 ⟨rfl, hb1⟩; have H1 := (show Hid (SdAt w1 w.heap.size h (.slice p n c)) from SdAt.below (SdAt.below H0.out (al _ _)) hb1); have Z1 := (show Hid (SdAt w1 (w.heap.size + 1) hd0 (.slice none 0 0)) from by have h9 := SdAt.below (sz0 (heap_alloc_new (w.alloc (.cells (h.sh (.slice p n c)) 31)) _)) hb1; rw [al_sz] at h9; exact h9); have hbw1 := (show Hid (Below w.heap.size w w1) from bt (bt (al _ _) (al _ _)) hb1); obtain ⟨q8, q9, q10, q11, q12, q13, q14, q15⟩ := (SdAt.head H1.out).cells; clear H0)
    | (go_at_call 20; refine (SZ.out _).mono ?_; rintro e w2 ⟨vL, rfl, hO2, hb2⟩; have hOL := (show Hid (Oi w2 w1.heap.size vL L) from hO2); obtain ⟨pL, cL, rfl, hcL, VL⟩ := hO2.rd; have V2 := (show Hid (Vr w2 pL (ic L)) from VL); have H2 := (show Hid (SdAt w2 w.heap.size h (.slice p n c)) from SdAt.below H1.out hb2); have Z2 := (show Hid (SdAt w2 (w.heap.size + 1) hd0 (.slice none 0 0)) from SdAt.below Z1.out hb2); have hbw2 := (show Hid (Below w.heap.size w w2) from bt hbw1.out hb2); clear H1 Z1 hO2 VL)
    | (refine wpList_loadIn rfl _ rfl w.heap.size rfl (SdAt.head H2.out) ?_)
    | (refine wpList_bdS rfl _ rfl rfl ?_)
    | (refine wpList_stS h (.slice none 0 0) rfl rfl _ _ rfl rfl w2.heap.size rfl rfl (sz0 (heap_alloc_new w2 _)) ?_; intro w4 H4 hT4))
  have B24 := (show Hid (Below w2.heap.size w2 w4) from hT4.2.1 _ _ (al w2 _) (Nat.le_refl _))
  have hbw4 := (show Hid (Below w.heap.size w w4) from bt hbw2.out B24.out)
  have SZ4 := (show Hid (w.heap.size + 1 < w2.heap.size ∧ w2.heap.size < w4.heap.size) from ⟨Hm.lt Z2.out, Hm.lt H4⟩)
  have hHL := (show Hid _ from HLS.out)
  clear CK SZ hT4 q8 q9 q10 q11 q12 q13 q14 q15 hb1 hb2
  go_loopw [8] (fun i wr => ∃ (t : Nat) (v : Value), t ≤ L.length ∧ i = .int .i64 (t : Int) ∧ SdAt wr w2.heap.size h v ∧ Bl wr w4.heap.size v ((fitB L bl).take t) ∧ w4.grownBy wr (some w2.heap.size)) (fun i _ => L.length - (intOf i).toNat)
  case atStart => exact ⟨0, .slice none 0 0, Nat.zero_le _, rfl, H4, Bl.nil _ _, grefl _ _⟩
  case round =>
    obtain ⟨t, v, ht, rfl, hSd, hBl, hgr⟩ := hrel
    have hbr : Below w2.heap.size w2 wr := B24.out.grown hgr B24.out.size (fun k hk => by injection hk with hk; omega)
    have hbwr := (show Hid (Below w.heap.size w wr) from bt hbw2.out hbr)
    have hsr := hgr.size
    by_cases hlt : t < L.length
    · obtain ⟨pb, po, ep, hc0'⟩ := V2.out.num t hlt
      subst ep
      have hc' := cell_below hc0' hbr
      have s16 := (SdAt.below H2.out hbr).last
      have hi : (t : Int) < (L.length : Int) := by omega
      obtain ⟨us, hOr, hul, hrows⟩ := hBl
      have hbl : ((fitB L bl).take t).length = t := by rw [List.length_take, fitB_len]; omega
      obtain ⟨q0, c0, hvq, hcq, _⟩ := hOr.rd
      rw [hul, hbl] at hvq hcq
      subst hvq
      have HRW := (show Hid (∀ i, i < ((fitB L bl).take t).length → Ow wr w4.heap.size (us.getD i (.slice none 0 0)) (((fitB L bl).take t).getD i [])) from hrows)
      have htk := tot_take L (t + 1)
      have hsc := tot_snoc L t hlt
      have FT0 := fitB_take L bl t hlt
      obtain ⟨z, hz⟩ : ∃ z, z = L.getD t 0 := ⟨_, rfl⟩
      rw [← hz] at hc' hsc FT0
      have hzb : z ≤ 140737488355328 := by have := htot.out; omega
      obtain ⟨x, hx⟩ : ∃ x, x = bl.getD t [] := ⟨_, rfl⟩
      rw [← hx] at FT0
      have FT := (show Hid _ from FT0)
      have mk := make_bytes z hzb wr
      have o16 := hSd.last
      have rc := fun W : World => cell_of_row (W.alloc (.cells #[.slice (some ⟨wr.heap.size, 0, none⟩) z z] 32)) W.heap.size 0 _ _ (0, 0) (heap_alloc_new W _)
      have AL := (show Hid (Below wr.heap.size wr (wr.alloc (.cells (Array.replicate z (.int .u8 0)) 5))) from al _ _)
      have s16a := cell_below s16 AL.out
      clear hrows htk hsc FT0 hz hc0'
      by_cases hin : t < n
      · have hin' : (t : Int) < (n : Int) := by omega
        obtain ⟨b1, o1, q1, c1, ep1, hc1, hle1, hRd1⟩ := Rws.row (Rws.below HBw.out hbwr.out) t (by omega)
        rw [← hx] at hc1 hle1 hRd1
        subst ep1
        have hc1a := cell_below hc1 AL.out
        have RX := (show Hid (Rd (wr.alloc (.cells (Array.replicate z (.int .u8 0)) 5)) q1 x) from hRd1.below AL.out)
        clear hc1 hRd1 hx
        go_wp2_with (first
          | (refine wpList_cpT rfl (.tmp 45) (.tmp 50) rfl wr.heap.size z rfl q1 c1 x rfl RX.out (heap_alloc_new wr _) hzb ?_; intro w6 hO6 hT6; have B6 := (show Hid (Below wr.heap.size wr w6) from hT6.2.1 _ _ AL.out (Nat.le_refl _)); have hO6' := (show Hid (Ow w6 w4.heap.size (.slice (some ⟨wr.heap.size, 0, none⟩) z z) (padT z x)) from hO6.mono hsr); have O7 := (show Hid (Or (w6.alloc (.cells #[.slice (some ⟨wr.heap.size, 0, none⟩) z z] 32)) w4.heap.size (.slice q0 t c0) us) from (hOr.below B6.out).below (al _ _)); have o16' := (SdAt.below hSd B6.out).last)
          | (at_builtin; refine wpList_apr rfl (.tmp 53) (.tmp 55) rfl w4.heap.size (.slice q0 t c0) us rfl O7.out ⟨w6.heap.size, 0, none⟩ 1 (.slice (some ⟨wr.heap.size, 0, none⟩) z z) rfl rfl (rc w6) (by omega) (Nat.le_trans (Nat.le_trans hsr B6.out.size) (al _ _).size) ?_; intro v8 w8 ho8 hg8; obtain ⟨p8, c8, hv8, hc8, _⟩ := ho8.rd; rw [List.length_append, hul, hbl, List.length_singleton] at hv8 hc8; subst hv8; have S8 := (show Hid (SdAt w8 w2.heap.size h (.slice q0 t c0)) from sd_or (SdAt.below (SdAt.below hSd B6.out) (al _ _)) O7.out hg8); have k8 := S8.out.last; have f8 := S8.out.frozen 16))
        go_roundw
        case rel =>
          have hd7 := bt B6.out (al w6 (.cells #[.slice (some ⟨wr.heap.size, 0, none⟩) z z] 32))
          have hB8 := Bl.push O7.out hul (fun i hi => (HRW.out i hi).below hd7) ((hO6'.out.below (al _ _))) ho8 hg8
          have hg9 := grown_or (grown_below hgr hd7) O7.out (Nat.le_refl _) hg8
          refine ⟨t + 1, .slice p8 (t + 1) c8, hlt, by go_num, S8.out.set _, ?_, gtrans hg9 (grown_set _ _ _ _)⟩
          rw [FT.out]
          exact hB8.young (grown_set _ _ _ _) (by have := SZ4.out; omega)
        case measure => simp [intOf]; omega
      · have hin' : ¬ (t : Int) < (n : Int) := by omega
        have hx0 : x = [] := by rw [hx]; simp [List.getD, List.getElem?_eq_none (show bl.length ≤ t by omega)]
        obtain ⟨w6, hw6⟩ : ∃ w6, w6 = wr.alloc (.cells (Array.replicate z (.int .u8 0)) 5) := ⟨_, rfl⟩
        have B6 := (show Hid (Below wr.heap.size wr w6) from by rw [hw6]; exact AL.out)
        have hO6' := (show Hid (Ow w6 w4.heap.size (.slice (some ⟨wr.heap.size, 0, none⟩) z z) (padT z x)) from by rw [hw6, hx0]; exact (Ow.blank wr z hzb).mono hsr)
        rw [← hw6] at mk s16a
        clear hw6 AL hx hx0
        have O7 := (show Hid (Or (w6.alloc (.cells #[.slice (some ⟨wr.heap.size, 0, none⟩) z z] 32)) w4.heap.size (.slice q0 t c0) us) from (hOr.below B6.out).below (al _ _))
        have o16' := (SdAt.below hSd B6.out).last
        go_wp2_with (first
          | (at_builtin; refine wpList_apr rfl (.tmp 53) (.tmp 55) rfl w4.heap.size (.slice q0 t c0) us rfl O7.out ⟨w6.heap.size, 0, none⟩ 1 (.slice (some ⟨wr.heap.size, 0, none⟩) z z) rfl rfl (rc w6) (by omega) (Nat.le_trans (Nat.le_trans hsr B6.out.size) (al _ _).size) ?_; intro v8 w8 ho8 hg8; obtain ⟨p8, c8, hv8, hc8, _⟩ := ho8.rd; rw [List.length_append, hul, hbl, List.length_singleton] at hv8 hc8; subst hv8; have S8 := (show Hid (SdAt w8 w2.heap.size h (.slice q0 t c0)) from sd_or (SdAt.below (SdAt.below hSd B6.out) (al _ _)) O7.out hg8); have k8 := S8.out.last; have f8 := S8.out.frozen 16))
        go_roundw
        case rel =>
          have hd7 := bt B6.out (al w6 (.cells #[.slice (some ⟨wr.heap.size, 0, none⟩) z z] 32))
          have hB8 := Bl.push O7.out hul (fun i hi => (HRW.out i hi).below hd7) ((hO6'.out.below (al _ _))) ho8 hg8
          have hg9 := grown_or (grown_below hgr hd7) O7.out (Nat.le_refl _) hg8
          refine ⟨t + 1, .slice p8 (t + 1) c8, hlt, by go_num, S8.out.set _, ?_, gtrans hg9 (grown_set _ _ _ _)⟩
          rw [FT.out]
          exact hB8.young (grown_set _ _ _ _) (by have := SZ4.out; omega)
        case measure => simp [intOf]; omega
    · obtain rfl : t = L.length := by omega
      rw [List.take_of_length_le (by rw [fitB_len]; exact Nat.le_refl _)] at hBl
      have ZR := SdAt.below Z2.out hbr
      obtain ⟨q0, c0, rfl, _, _⟩ := hBl.rws
      go_wp2_with (first
        | (refine wpList_ldS rfl _ rfl w2.heap.size rfl hSd ?_)
        | (refine wpList_stS h (.slice q0 (fitB L bl).length c0) rfl rfl _ _ rfl rfl (w.heap.size + 1) rfl rfl ZR ?_; intro wB HB hTB))
      refine bodyPost_ret (v := .tuple #[.agg (h.sh (.slice q0 (fitB L bl).length c0)), .bool true]) (res_sd rfl _ _ (w.heap.size + 1) h (.slice q0 (fitB L bl).length c0) _ rfl rfl HB) rfl ⟨_, rfl, ?_, hTB.2.1 _ _ hbwr.out (by omega)⟩
      exact (hBl.young hTB.grown (by have := SZ4.out; omega)).mono (by have := SZ4.out; omega)
end
end Go.Proofs.Ytnjgfiiimcacbaa
/-
  FrameUnlike: the walk.
-/
namespace Go.Proofs.Ytnjgfiiimcacbaa
open Go.RowKit
theorem fit_may (h : Hd) (ok : h.Ok) (bl : List (List (BitVec 8))) : May h (fitB h.ls bl) := ⟨ok, fitB_ls _ _⟩
theorem en_may {h : Hd} {bl : List (List (BitVec 8))} (hm : May h bl) : enE h bl = 0 ∧ enL h bl = h.fm bl := by
  have e : enE h bl = 0 := by unfold enE; rw [if_neg (by rw [(chk_ok h).2 hm.1]; simp), if_pos hm.2]
  exact ⟨e, by unfold enL; rw [if_pos e]⟩
theorem unlike_is {h g : Hd} {bl cl : List (List (BitVec 8))} (hm : May h bl) (hg : May g cl) : (decide (h.fm bl = g.fm cl) == (hq h g && decide (bl = cl))) = true := by
  by_cases e : h.fm bl = g.fm cl
  · obtain ⟨rfl, rfl⟩ := fm_inj hm hg e
    have : hq h h = true := (hq_iff h h).2 rfl
    simp [this]
  · have h1 : (hq h g && decide (bl = cl)) = false := by
      cases h2 : hq h g with
      | false => rfl
      | true =>
        obtain rfl := (hq_iff h g).1 h2
        have : bl ≠ cl := fun e2 => e (by rw [e2])
        simp [this]
    simp [e, h1]
section
attribute [local irreducible] Calls
theorem fit8_any (h : Hd) (hi : h.In) (hy : h.key.length ≤ 9223372036854775807) {w : World} {p : Option Addr} {bl : List (List (BitVec 8))} (HB : Rws w p bl) (n c : Nat) (hn : bl.length = n) :
    Calls Try.prog 7 #[.agg (h.sh (.slice p n c))] w fun e w' => ∃ v b, e = .returned (.tuple #[.agg (h.sh v), .bool b]) ∧ v.oneCell' = true ∧ Below w.heap.size w w' := by
  by_cases hc : chk h = 0
  · refine (fit8_ok h hi ((chk_ok h).1 hc) HB n c hn).mono ?_
    rintro e w' ⟨v, rfl, hB, hb⟩
    obtain ⟨p', c', rfl, _, _⟩ := hB.rws
    exact ⟨_, true, rfl, rfl, hb⟩
  · refine (fit8_no h hi hy p n c w hc).mono ?_
    rintro e w' ⟨rfl, hb⟩
    exact ⟨_, false, rfl, rfl, hb⟩
theorem takeH8 {P : Program} {ops : Array Oper} {Q : Exit → Act → World → Prop} {md : Region.Mode} {S : World → Prop} {i : Nat} {oi : Oper} {d : Option Tmp} {v : Value} {fuel : Nat} {listed : Array Bool} {a : Act} {w : World} (hi : ops[i]? = some oi) (hd : oi.dst = d)
    (hs : Region.noSelect ops = true) (hf : Region.free md ops listed i = true) (hr : (Region.ready md ops listed).contains i = true)
    (hQ : ∀ c a w, Q (.panic c) (a.put oi.dst v) w → Q (.panic c) a w) (hy : YieldsIf P ops S oi v a) (hS : S w)
    (h : wpAnyH P md ops Q S fuel (listed.setIfInBounds i true) (a.put d v) w) : wpAnyH P md ops Q S (fuel + 1) listed a w := by
  subst hd; exact wpAnyH_take hi hs hf hr hQ hy hS h
theorem SdAt.run8 {w : World} {g : Nat} {h : Hd} {v : Value} (H : SdAt w g h v) : (loadVar 31 ⟨g, 0, none⟩).run Try.prog w = .ok (.agg (h.sh v)) w :=
  run_loadVar_in w g 31 (h.sh v) _ (fun j u hj => by unfold SdAt at H; rw [cell_of_row _ _ _ _ _ (0, 0) H]; simpa using hj) Try.underlying31 rfl sizeSd
theorem ex_ldS8 {o : Oper} {a : Act} {X : World} {h : Hd} {v : Value} (x : Operand) (ho : o.op = .load 31 x) (g : Nat) (hx : a.eval x = .pointer (some ⟨g, 0, none⟩)) (H : SdAt X g h v) : (execOp a.eval o).run Try.prog X = .ok (.value (.agg (h.sh v))) X := by
  unfold execOp
  simp only [ho, hx, Instr.loadAt, Instr.sureAddr, Sem.run_bind, Sem.run_pure, Result.andThen_ok, H.run8]
attribute [local irreducible] el Hd.cs Hd.sh hq
set_option maxHeartbeats 16000000 in
set_option maxRecDepth 1000000 in
theorem frameUnlike_no0 (h0 : Hd) (hin0 : h0.In) (hy0 : h0.key.length ≤ 9223372036854775807) (a0 : Option Addr) (n0 c0 : Nat) (bl0 : List (List (BitVec 8))) (h1 : Hd) (hin1 : h1.In) (hy1 : h1.key.length ≤ 9223372036854775807) (a1 : Option Addr) (n1 c1 : Nat) (bl1 : List (List (BitVec 8))) (hb1 : bl1.length = n1) (w : World) (hR0 : Rws w a0 bl0) (hR1 : Rws w a1 bl1) (hc0 : chk h0 ≠ 0) :
    Calls Try.prog 4 #[.agg (h0.sh (.slice a0 n0 c0)), .agg (h1.sh (.slice a1 n1 c1))] w fun e w' => e = .returned (.bool true) ∧ Below w.heap.size w w' := by
  have al : ∀ (W : World) (o : Obj), Below W.heap.size W (W.alloc o) := fun W o => (Below.refl _ _).alloc (Nat.le_refl _) o
  have AW := (show Hid _ from awake_any)
  obtain ⟨W0, hW0⟩ : ∃ W0, W0 = (w.alloc (.cells (h0.sh (.slice a0 n0 c0)) 31)).alloc (.cells (h1.sh (.slice a1 n1 c1)) 31) := ⟨_, rfl⟩
  have B0 := (show Hid (Below w.heap.size w W0) from by rw [hW0]; exact bt (al _ _) (al _ _))
  have S00 := (show Hid (SdAt W0 w.heap.size h0 (.slice a0 n0 c0)) from by rw [hW0]; exact SdAt.below (heap_alloc_new w _) (al _ _))
  have S10 := (show Hid (SdAt W0 (w.heap.size + 1) h1 (.slice a1 n1 c1)) from by have h9 := heap_alloc_new (w.alloc (.cells (h0.sh (.slice a0 n0 c0)) 31)) (.cells (h1.sh (.slice a1 n1 c1)) 31); rw [al_sz] at h9; rw [hW0]; exact h9)
  have Q0 := (show Hid (Rws W0 a0 bl0) from Rws.below hR0 B0.out)
  have Q1 := (show Hid (Rws W0 a1 bl1) from Rws.below hR1 B0.out)
  have HW0 := (show Hid _ from hW0.symm)
  clear hW0 hR0 hR1
  go_enter Try.func4, Try.ntmps4
  go_wp2_with (first
    | (go_at_call 6; rw [HW0.out]; refine (AW.out W0).mono ?_; rintro e w1 ⟨rfl, hb1'⟩; have S01 := (show Hid (SdAt w1 w.heap.size h0 (.slice a0 n0 c0)) from SdAt.below S00.out hb1'); have S11 := (show Hid (SdAt w1 (w.heap.size + 1) h1 (.slice a1 n1 c1)) from SdAt.below S10.out hb1'); have Q01 := (show Hid (Rws w1 a0 bl0) from Rws.below Q0.out hb1'); have Q11 := (show Hid (Rws w1 a1 bl1) from Rws.below Q1.out hb1'); have Bw1 := (show Hid (Below w.heap.size w w1) from bt B0.out hb1'); clear S00 S10 Q0 Q1)
    | (refine wpList_ldS rfl _ rfl w.heap.size rfl S01.out ?_)
    | (go_at_call 7; revert S01; intro S01; refine (fit8_no h0 hin0 hy0 a0 n0 c0 w1 hc0).mono ?_; rintro e w2 ⟨rfl, hb2⟩; obtain ⟨v2, hv2⟩ : ∃ v2, v2 = Value.slice a0 n0 c0 := ⟨_, rfl⟩; rw [← hv2]; have ov2 : v2.oneCell' = true := (by rw [hv2]; rfl); clear hv2; clear S01)
    | (refine wpList_stS h0 v2 ov2 rfl _ _ rfl rfl w2.heap.size rfl rfl (sz0 (heap_alloc_new w2 _)) ?_; intro w3 H3 hT3; have B13 := (show Hid (Below w1.heap.size w1 w3) from bt hb2 (hT3.2.1 _ _ (al w2 _) (Nat.le_refl _))); have B23 := (show Hid (Below w2.heap.size w2 w3) from hT3.2.1 _ _ (al w2 _) (Nat.le_refl _)); have S13 := (show Hid (SdAt w3 (w.heap.size + 1) h1 (.slice a1 n1 c1)) from SdAt.below S11.out B13.out); have Q13 := (show Hid (Rws w3 a1 bl1) from Rws.below Q11.out B13.out); have H3' := (show Hid (SdAt w3 w2.heap.size h0 v2) from H3); clear hT3 S11 Q11 H3)
    | (refine wpList_ldS rfl _ rfl (w.heap.size + 1) rfl S13.out ?_)
    | (go_at_call 7; revert S13; intro S13; refine (fit8_any h1 hin1 hy1 Q13.out n1 c1 hb1).mono ?_; rintro e w4 ⟨v4, b4, rfl, ov4, hb4⟩; clear S13)
    | (refine wpList_stS h1 v4 ov4 rfl _ _ rfl rfl w4.heap.size rfl rfl (sz0 (heap_alloc_new w4 _)) ?_; intro w5 H5 hT5; have B45 := (show Hid (Below w4.heap.size w4 w5) from hT5.2.1 _ _ (al w4 _) (Nat.le_refl _)); have H5' := (show Hid (SdAt w5 w4.heap.size h1 v4) from H5); have H35 := (show Hid (SdAt w5 w2.heap.size h0 v2) from SdAt.below (SdAt.below H3'.out hb4) B45.out); have Bw5 := (show Hid (Below w.heap.size w w5) from bt (bt (bt Bw1.out B13.out) hb4) B45.out); clear hT5 H5))
  go_ret
  exact ⟨rfl, Bw5.out⟩
set_option maxHeartbeats 16000000 in
set_option maxRecDepth 1000000 in
theorem frameUnlike_no1 (h0 : Hd) (hin0 : h0.In) (a0 : Option Addr) (n0 c0 : Nat) (bl0 : List (List (BitVec 8))) (hb0 : bl0.length = n0) (h1 : Hd) (hin1 : h1.In) (hy1 : h1.key.length ≤ 9223372036854775807) (a1 : Option Addr) (n1 c1 : Nat) (bl1 : List (List (BitVec 8))) (w : World) (hR0 : Rws w a0 bl0) (hR1 : Rws w a1 bl1) (ok0 : h0.Ok) (hc1 : chk h1 ≠ 0) :
    Calls Try.prog 4 #[.agg (h0.sh (.slice a0 n0 c0)), .agg (h1.sh (.slice a1 n1 c1))] w fun e w' => e = .returned (.bool true) ∧ Below w.heap.size w w' := by
  have al : ∀ (W : World) (o : Obj), Below W.heap.size W (W.alloc o) := fun W o => (Below.refl _ _).alloc (Nat.le_refl _) o
  have AW := (show Hid _ from awake_any)
  obtain ⟨W0, hW0⟩ : ∃ W0, W0 = (w.alloc (.cells (h0.sh (.slice a0 n0 c0)) 31)).alloc (.cells (h1.sh (.slice a1 n1 c1)) 31) := ⟨_, rfl⟩
  have B0 := (show Hid (Below w.heap.size w W0) from by rw [hW0]; exact bt (al _ _) (al _ _))
  have S00 := (show Hid (SdAt W0 w.heap.size h0 (.slice a0 n0 c0)) from by rw [hW0]; exact SdAt.below (heap_alloc_new w _) (al _ _))
  have S10 := (show Hid (SdAt W0 (w.heap.size + 1) h1 (.slice a1 n1 c1)) from by have h9 := heap_alloc_new (w.alloc (.cells (h0.sh (.slice a0 n0 c0)) 31)) (.cells (h1.sh (.slice a1 n1 c1)) 31); rw [al_sz] at h9; rw [hW0]; exact h9)
  have Q0 := (show Hid (Rws W0 a0 bl0) from Rws.below hR0 B0.out)
  have Q1 := (show Hid (Rws W0 a1 bl1) from Rws.below hR1 B0.out)
  have HW0 := (show Hid _ from hW0.symm)
  clear hW0 hR0 hR1
  go_enter Try.func4, Try.ntmps4
  go_wp2_with (first
    | (go_at_call 6; rw [HW0.out]; refine (AW.out W0).mono ?_; rintro e w1 ⟨rfl, hb1'⟩; have S01 := (show Hid (SdAt w1 w.heap.size h0 (.slice a0 n0 c0)) from SdAt.below S00.out hb1'); have S11 := (show Hid (SdAt w1 (w.heap.size + 1) h1 (.slice a1 n1 c1)) from SdAt.below S10.out hb1'); have Q01 := (show Hid (Rws w1 a0 bl0) from Rws.below Q0.out hb1'); have Q11 := (show Hid (Rws w1 a1 bl1) from Rws.below Q1.out hb1'); have Bw1 := (show Hid (Below w.heap.size w w1) from bt B0.out hb1'); clear S00 S10 Q0 Q1)
    | (refine wpList_ldS rfl _ rfl w.heap.size rfl S01.out ?_)
    | (go_at_call 7; revert S01; intro S01; refine (fit8_ok h0 hin0 ok0 Q01.out n0 c0 hb0).mono ?_; rintro e w2 ⟨v2, rfl, hB2, hb2⟩; have L2 := (show Hid (Bl w2 w1.heap.size v2 (fitB h0.ls bl0)) from hB2); clear hB2; have ov2 : v2.oneCell' = true := (by obtain ⟨_, _, e9, _, _⟩ := L2.out.rws; rw [e9]; rfl); clear S01)
    | (refine wpList_stS h0 v2 ov2 rfl _ _ rfl rfl w2.heap.size rfl rfl (sz0 (heap_alloc_new w2 _)) ?_; intro w3 H3 hT3; have B13 := (show Hid (Below w1.heap.size w1 w3) from bt hb2 (hT3.2.1 _ _ (al w2 _) (Nat.le_refl _))); have B23 := (show Hid (Below w2.heap.size w2 w3) from hT3.2.1 _ _ (al w2 _) (Nat.le_refl _)); have S13 := (show Hid (SdAt w3 (w.heap.size + 1) h1 (.slice a1 n1 c1)) from SdAt.below S11.out B13.out); have Q13 := (show Hid (Rws w3 a1 bl1) from Rws.below Q11.out B13.out); have H3' := (show Hid (SdAt w3 w2.heap.size h0 v2) from H3); clear hT3 S11 Q11 H3)
    | (refine wpList_ldS rfl _ rfl (w.heap.size + 1) rfl S13.out ?_)
    | (go_at_call 7; revert S13; intro S13; refine (fit8_no h1 hin1 hy1 a1 n1 c1 w3 hc1).mono ?_; rintro e w4 ⟨rfl, hb4⟩; obtain ⟨v4, hv4⟩ : ∃ v4, v4 = Value.slice a1 n1 c1 := ⟨_, rfl⟩; rw [← hv4]; have ov4 : v4.oneCell' = true := (by rw [hv4]; rfl); clear hv4; clear S13)
    | (refine wpList_stS h1 v4 ov4 rfl _ _ rfl rfl w4.heap.size rfl rfl (sz0 (heap_alloc_new w4 _)) ?_; intro w5 H5 hT5; have B45 := (show Hid (Below w4.heap.size w4 w5) from hT5.2.1 _ _ (al w4 _) (Nat.le_refl _)); have H5' := (show Hid (SdAt w5 w4.heap.size h1 v4) from H5); have H35 := (show Hid (SdAt w5 w2.heap.size h0 v2) from SdAt.below (SdAt.below H3'.out hb4) B45.out); have Bw5 := (show Hid (Below w.heap.size w w5) from bt (bt (bt Bw1.out B13.out) hb4) B45.out); clear hT5 H5))
  go_ret
  exact ⟨rfl, Bw5.out⟩
set_option maxHeartbeats 16000000 in
set_option maxRecDepth 1000000 in
theorem frameUnlike_ok (h0 : Hd) (hin0 : h0.In) (hy0 : h0.key.length ≤ 9223372036854775807) (a0 : Option Addr) (n0 c0 : Nat) (bl0 : List (List (BitVec 8))) (hb0 : bl0.length = n0) (h1 : Hd) (hin1 : h1.In) (hy1 : h1.key.length ≤ 9223372036854775807) (a1 : Option Addr) (n1 c1 : Nat) (bl1 : List (List (BitVec 8))) (hb1 : bl1.length = n1) (w : World) (hR0 : Rws w a0 bl0) (hR1 : Rws w a1 bl1) (ok0 : h0.Ok) (ok1 : h1.Ok) :
    Calls Try.prog 4 #[.agg (h0.sh (.slice a0 n0 c0)), .agg (h1.sh (.slice a1 n1 c1))] w fun e w' => e = .returned (.bool true) ∧ Below w.heap.size w w' := by
  have al : ∀ (W : World) (o : Obj), Below W.heap.size W (W.alloc o) := fun W o => (Below.refl _ _).alloc (Nat.le_refl _) o
  have AW := (show Hid _ from awake_any)
  obtain ⟨W0, hW0⟩ : ∃ W0, W0 = (w.alloc (.cells (h0.sh (.slice a0 n0 c0)) 31)).alloc (.cells (h1.sh (.slice a1 n1 c1)) 31) := ⟨_, rfl⟩
  have B0 := (show Hid (Below w.heap.size w W0) from by rw [hW0]; exact bt (al _ _) (al _ _))
  have S00 := (show Hid (SdAt W0 w.heap.size h0 (.slice a0 n0 c0)) from by rw [hW0]; exact SdAt.below (heap_alloc_new w _) (al _ _))
  have S10 := (show Hid (SdAt W0 (w.heap.size + 1) h1 (.slice a1 n1 c1)) from by have h9 := heap_alloc_new (w.alloc (.cells (h0.sh (.slice a0 n0 c0)) 31)) (.cells (h1.sh (.slice a1 n1 c1)) 31); rw [al_sz] at h9; rw [hW0]; exact h9)
  have Q0 := (show Hid (Rws W0 a0 bl0) from Rws.below hR0 B0.out)
  have Q1 := (show Hid (Rws W0 a1 bl1) from Rws.below hR1 B0.out)
  have HW0 := (show Hid _ from hW0.symm)
  clear hW0 hR0 hR1
  go_enter Try.func4, Try.ntmps4
  go_wp2_with (first
    | (go_at_call 6; rw [HW0.out]; refine (AW.out W0).mono ?_; rintro e w1 ⟨rfl, hb1'⟩; have S01 := (show Hid (SdAt w1 w.heap.size h0 (.slice a0 n0 c0)) from SdAt.below S00.out hb1'); have S11 := (show Hid (SdAt w1 (w.heap.size + 1) h1 (.slice a1 n1 c1)) from SdAt.below S10.out hb1'); have Q01 := (show Hid (Rws w1 a0 bl0) from Rws.below Q0.out hb1'); have Q11 := (show Hid (Rws w1 a1 bl1) from Rws.below Q1.out hb1'); have Bw1 := (show Hid (Below w.heap.size w w1) from bt B0.out hb1'); clear S00 S10 Q0 Q1)
    | (refine wpList_ldS rfl _ rfl w.heap.size rfl S01.out ?_)
    | (go_at_call 7; revert S01; intro S01; refine (fit8_ok h0 hin0 ok0 Q01.out n0 c0 hb0).mono ?_; rintro e w2 ⟨v2, rfl, hB2, hb2⟩; have L2 := (show Hid (Bl w2 w1.heap.size v2 (fitB h0.ls bl0)) from hB2); clear hB2; have ov2 : v2.oneCell' = true := (by obtain ⟨_, _, e9, _, _⟩ := L2.out.rws; rw [e9]; rfl); clear S01)
    | (refine wpList_stS h0 v2 ov2 rfl _ _ rfl rfl w2.heap.size rfl rfl (sz0 (heap_alloc_new w2 _)) ?_; intro w3 H3 hT3; have B13 := (show Hid (Below w1.heap.size w1 w3) from bt hb2 (hT3.2.1 _ _ (al w2 _) (Nat.le_refl _))); have B23 := (show Hid (Below w2.heap.size w2 w3) from hT3.2.1 _ _ (al w2 _) (Nat.le_refl _)); have S13 := (show Hid (SdAt w3 (w.heap.size + 1) h1 (.slice a1 n1 c1)) from SdAt.below S11.out B13.out); have Q13 := (show Hid (Rws w3 a1 bl1) from Rws.below Q11.out B13.out); have H3' := (show Hid (SdAt w3 w2.heap.size h0 v2) from H3); clear hT3 S11 Q11 H3)
    | (refine wpList_ldS rfl _ rfl (w.heap.size + 1) rfl S13.out ?_)
    | (go_at_call 7; revert S13; intro S13; refine (fit8_ok h1 hin1 ok1 Q13.out n1 c1 hb1).mono ?_; rintro e w4 ⟨v4, rfl, hB4, hb4⟩; have L4 := (show Hid (Bl w4 w3.heap.size v4 (fitB h1.ls bl1)) from hB4); clear hB4; have ov4 : v4.oneCell' = true := (by obtain ⟨_, _, e9, _, _⟩ := L4.out.rws; rw [e9]; rfl); clear S13)
    | (refine wpList_stS h1 v4 ov4 rfl _ _ rfl rfl w4.heap.size rfl rfl (sz0 (heap_alloc_new w4 _)) ?_; intro w5 H5 hT5; have B45 := (show Hid (Below w4.heap.size w4 w5) from hT5.2.1 _ _ (al w4 _) (Nat.le_refl _)); have H5' := (show Hid (SdAt w5 w4.heap.size h1 v4) from H5); have H35 := (show Hid (SdAt w5 w2.heap.size h0 v2) from SdAt.below (SdAt.below H3'.out hb4) B45.out); have Bw5 := (show Hid (Below w.heap.size w w5) from bt (bt (bt Bw1.out B13.out) hb4) B45.out); clear hT5 H5)
    | (refine wpList_ldS rfl _ rfl w2.heap.size rfl H35.out ?_)
    | (go_at_call 8; revert H35; intro H35; obtain ⟨q0, d0, e0, hd0, r0⟩ := L2.out.rws; have V2 := (show Hid _ from e0); rw [e0]; have R05 := (show Hid (Rws w5 q0 (fitB h0.ls bl0)) from Rws.below (Rws.below (Rws.below r0 B23.out) hb4) B45.out); refine (encode_any h0 hin0 hy0 R05.out _ d0 rfl).mono ?_; rintro e w6 ⟨v6, rfl, hO6, hb6⟩; rw [(en_may (fit_may h0 ok0 bl0)).2] at hO6; rw [(en_may (fit_may h0 ok0 bl0)).1]; obtain ⟨p6, c6, e6, hc6, hr6⟩ := hO6.rd; rw [e6]; have R6 := (show Hid (Rd w6 p6 (h0.fm (fitB h0.ls bl0))) from hr6); have H56 := (show Hid (SdAt w6 w4.heap.size h1 v4) from SdAt.below H5'.out hb6); have H36 := (show Hid (SdAt w6 w2.heap.size h0 v2) from SdAt.below H35.out hb6); clear H35 H5' e0 hO6 hr6 r0)
    | (refine wpList_ldS rfl _ rfl w4.heap.size rfl H56.out ?_)
    | (go_at_call 8; revert H56; intro H56; obtain ⟨q1, d1, e1, hd1, r1⟩ := L4.out.rws; have V4 := (show Hid _ from e1); rw [e1]; have R16 := (show Hid (Rws w6 q1 (fitB h1.ls bl1)) from Rws.below (Rws.below r1 B45.out) hb6); refine (encode_any h1 hin1 hy1 R16.out _ d1 rfl).mono ?_; rintro e w7 ⟨v7, rfl, hO7, hb7⟩; rw [(en_may (fit_may h1 ok1 bl1)).2] at hO7; rw [(en_may (fit_may h1 ok1 bl1)).1]; obtain ⟨p7, c7, e7, hc7, hr7⟩ := hO7.rd; rw [e7]; have R7 := (show Hid (Rd w7 p7 (h1.fm (fitB h1.ls bl1))) from hr7); clear e1 hO7 hr7 r1))
  have eV2 := V2.out
  have eV4 := V4.out
  subst eV2 eV4
  have B7d := (show Hid (Below w7.heap.size w7 w7.drew) from (Below.refl _ _).drew)
  have R05d := (show Hid (Rws w7.drew q0 (fitB h0.ls bl0)) from Rws.below (Rws.below R05.out hb6) (bt hb7 B7d.out))
  have R16d := (show Hid (Rws w7.drew q1 (fitB h1.ls bl1)) from Rws.below R16.out (bt hb7 B7d.out))
  have R6d := (show Hid (Rd w7.drew p6 (h0.fm (fitB h0.ls bl0))) from Rd.below R6.out (bt hb7 B7d.out))
  have R7d := (show Hid (Rd w7.drew p7 (h1.fm (fitB h1.ls bl1))) from Rd.below R7.out B7d.out)
  have H3d := (show Hid (SdAt w7.drew w2.heap.size h0 (.slice q0 (fitB h0.ls bl0).length d0)) from SdAt.below H36.out (bt hb7 B7d.out))
  have H5d := (show Hid (SdAt w7.drew w4.heap.size h1 (.slice q1 (fitB h1.ls bl1).length d1)) from SdAt.below H56.out (bt hb7 B7d.out))
  have hlb0 : (fitB h0.ls bl0).length ≤ 1099511627776 := by rw [fitB_len]; exact Nat.le_trans (h0.ls_bd ok0) (by decide)
  have SA := (show Hid _ from same_any h0 h1 R05d.out R16d.out _ d0 _ d1 rfl rfl hlb0)
  have UL := unlike_is (fit_may h0 ok0 bl0) (fit_may h1 ok1 bl1)
  have BQ := bstr_beq (h0.fm (fitB h0.ls bl0)) (h1.fm (fitB h1.ls bl1))
  obtain ⟨P, hP1, hP2⟩ : ∃ P : Bool, decide (h0.fm (fitB h0.ls bl0) = h1.fm (fitB h1.ls bl1)) = P ∧ (hq h0 h1 && decide (fitB h0.ls bl0 = fitB h1.ls bl1)) = P := ⟨_, rfl, (beq_iff_eq.1 UL).symm⟩
  rw [hP2] at SA
  rw [hP1] at BQ
  have NU := (show Hid _ from num_any 0)
  have Bw7 := (show Hid (Below w.heap.size w w7) from bt (bt Bw5.out hb6) hb7)
  have ppe : (P == P) = true := by simp
  clear UL hP1 hP2 V2 V4 hlb0
  generalize h0.fm (fitB h0.ls bl0) = f0 at *
  generalize h1.fm (fitB h1.ls bl1) = f1 at *
  generalize (fitB h0.ls bl0).length = m0 at *
  generalize (fitB h1.ls bl1).length = m1 at *
  refine wp_region_held_drew (S := fun X => (convert 32 9 (.slice p6 f0.length c6)).run Try.prog X = .ok (.string (bstr f0)) X ∧ (convert 32 9 (.slice p7 f1.length c7)).run Try.prog X = .ok (.string (bstr f1)) X ∧ SdAt X w2.heap.size h0 (.slice q0 m0 d0) ∧ SdAt X w4.heap.size h1 (.slice q1 m1 d1)) (by kernel_rfl) ⟨conv_rd R6d.out f0.length c6 rfl, conv_rd R7d.out f1.length c7 rfl, H3d.out, H5d.out⟩ (fun hHeld => ?_)
  refine takeH8 (i := 0) (d := some 43) (v := ?v0) rfl rfl (by kernel_rfl) (by kernel_rfl) (by kernel_rfl) (fun _ _ _ h => h) (Or.inl ⟨by rfl, ?hy0⟩) hHeld ?rest0
  case hy0 => intro X hSw; (try dsimp only at hSw); go_simp <;> with_reducible rfl
  try simp only [Act.put, List.setIfInBounds_toArray, List.set_cons_zero, List.set_cons_succ]
  refine wpAnyH_ready (rs := [1]) (by kernel_rfl) (by simp) ?_
  refine AllReadyH.cons (o := { dst := some 44, op := Op.call { callee := Callee.value (Operand.func 10), args := #[Operand.tmp 43], argTypes := #[36] }, type := 3, pos := "outright.go:281", after := #[{ on := 0, ground := Ground.data }], guard := none }) rfl (fun Kq hKq => ?_) AllReadyH.nil
  go_simp
  refine (NU.out _).mono ?_
  rintro e w8 ⟨rfl, h⟩
  subst h
  refine hKq.out _ _ hHeld (fun _ => ?_)
  clear hKq Kq
  try simp only [Act.put, List.setIfInBounds_toArray, List.set_cons_zero, List.set_cons_succ]
  refine takeH8 (i := 2) (d := some 45) (v := ?v2) rfl rfl (by kernel_rfl) (by kernel_rfl) (by kernel_rfl) (fun _ _ _ h => h) (Or.inl ⟨by rfl, ?hy2⟩) hHeld ?rest2
  case hy2 => intro X hSw; (try dsimp only at hSw); go_simp <;> with_reducible rfl
  try simp only [Act.put, List.setIfInBounds_toArray, List.set_cons_zero, List.set_cons_succ]
  refine takeH8 (i := 3) (d := some 46) (v := ?v3) rfl rfl (by kernel_rfl) (by kernel_rfl) (by kernel_rfl) (fun _ _ _ h => h) (Or.inl ⟨by rfl, ?hy3⟩) hHeld ?rest3
  case hy3 => intro X hSw; (try dsimp only at hSw); go_simp <;> with_reducible rfl
  try simp only [Act.put, List.setIfInBounds_toArray, List.set_cons_zero, List.set_cons_succ]
  refine takeH8 (i := 4) (d := some 47) (v := ?v4) rfl rfl (by kernel_rfl) (by kernel_rfl) (by kernel_rfl) (fun _ _ _ h => h) (Or.inl ⟨by rfl, ?hy4⟩) hHeld ?rest4
  case hy4 => intro X hSw; (try dsimp only at hSw); go_simp <;> with_reducible rfl
  try simp only [Act.put, List.setIfInBounds_toArray, List.set_cons_zero, List.set_cons_succ]
  refine wpAnyH_ready (rs := [5]) (by kernel_rfl) (by simp) ?_
  refine AllReadyH.cons (o := { dst := some 48, op := Op.call { callee := Callee.value (Operand.func 10), args := #[Operand.tmp 47], argTypes := #[36] }, type := 3, pos := "outright.go:281", after := #[{ on := 4, ground := Ground.data }, { on := 3, ground := Ground.chain }, { on := 3, ground := Ground.guard }], guard := some (3, true) }) rfl (fun Kq hKq => ?_) AllReadyH.nil
  go_simp
  refine (NU.out _).mono ?_
  rintro e w8 ⟨rfl, h⟩
  subst h
  refine hKq.out _ _ hHeld (fun _ => ?_)
  clear hKq Kq
  try simp only [Act.put, List.setIfInBounds_toArray, List.set_cons_zero, List.set_cons_succ]
  refine takeH8 (i := 6) (d := some 49) (v := ?v6) rfl rfl (by kernel_rfl) (by kernel_rfl) (by kernel_rfl) (fun _ _ _ h => h) (Or.inl ⟨by rfl, ?hy6⟩) hHeld ?rest6
  case hy6 => intro X hSw; (try dsimp only at hSw); go_simp <;> with_reducible rfl
  try simp only [Act.put, List.setIfInBounds_toArray, List.set_cons_zero, List.set_cons_succ]
  refine takeH8 (i := 7) (d := some 50) (v := ?v7) rfl rfl (by kernel_rfl) (by kernel_rfl) (by kernel_rfl) (fun _ _ _ h => h) (Or.inl ⟨by rfl, ?hy7⟩) hHeld ?rest7
  case hy7 => intro X hSw; (try dsimp only at hSw); go_simp <;> with_reducible rfl
  try simp only [Act.put, List.setIfInBounds_toArray, List.set_cons_zero, List.set_cons_succ]
  refine takeH8 (i := 8) (d := some 51) (v := ?v8) rfl rfl (by kernel_rfl) (by kernel_rfl) (by kernel_rfl) (fun _ _ _ h => h) (Or.inl ⟨by rfl, ?hy8⟩) hHeld ?rest8
  case hy8 => intro X hSw; (try dsimp only at hSw); go_simp <;> with_reducible rfl
  try simp only [Act.put, List.setIfInBounds_toArray, List.set_cons_zero, List.set_cons_succ]
  refine takeH8 (i := 9) (d := some 52) (v := ?v9) rfl rfl (by kernel_rfl) (by kernel_rfl) (by kernel_rfl) (fun _ _ _ h => h) (Or.inl ⟨by rfl, ?hy9⟩) hHeld ?rest9
  case hy9 => intro X hSw; (try dsimp only at hSw); go_simp <;> with_reducible rfl
  try simp only [Act.put, List.setIfInBounds_toArray, List.set_cons_zero, List.set_cons_succ]
  refine takeH8 (i := 10) (d := some 53) (v := .string (bstr f0)) rfl rfl (by kernel_rfl) (by kernel_rfl) (by kernel_rfl) (fun _ _ _ h => h) (Or.inl ⟨by rfl, ?hy10⟩) hHeld ?rest10
  case hy10 => intro X hSw; obtain ⟨g1, g2, _, _⟩ := hSw; go_simp
  try simp only [Act.put, List.setIfInBounds_toArray, List.set_cons_zero, List.set_cons_succ]
  refine takeH8 (i := 11) (d := some 54) (v := ?v11) rfl rfl (by kernel_rfl) (by kernel_rfl) (by kernel_rfl) (fun _ _ _ h => h) (Or.inl ⟨by rfl, ?hy11⟩) hHeld ?rest11
  case hy11 => intro X hSw; (try dsimp only at hSw); go_simp <;> with_reducible rfl
  try simp only [Act.put, List.setIfInBounds_toArray, List.set_cons_zero, List.set_cons_succ]
  refine takeH8 (i := 12) (d := some 55) (v := .string (bstr f1)) rfl rfl (by kernel_rfl) (by kernel_rfl) (by kernel_rfl) (fun _ _ _ h => h) (Or.inl ⟨by rfl, ?hy12⟩) hHeld ?rest12
  case hy12 => intro X hSw; obtain ⟨g1, g2, _, _⟩ := hSw; go_simp
  try simp only [Act.put, List.setIfInBounds_toArray, List.set_cons_zero, List.set_cons_succ]
  refine takeH8 (i := 13) (d := some 56) (v := ?v13) rfl rfl (by kernel_rfl) (by kernel_rfl) (by kernel_rfl) (fun _ _ _ h => h) (Or.inl ⟨by rfl, ?hy13⟩) hHeld ?rest13
  case hy13 => intro X hSw; (try dsimp only at hSw); go_simp <;> with_reducible rfl
  try simp only [Act.put, List.setIfInBounds_toArray, List.set_cons_zero, List.set_cons_succ]
  refine takeH8 (i := 14) (d := some 57) (v := .agg (h0.sh (.slice q0 m0 d0))) rfl rfl (by kernel_rfl) (by kernel_rfl) (by kernel_rfl) (fun _ _ _ h => h) (Or.inl ⟨by rfl, ?hy14⟩) hHeld ?rest14
  case hy14 => intro X hSw; exact ex_ldS8 _ rfl w2.heap.size rfl hSw.2.2.1
  try simp only [Act.put, List.setIfInBounds_toArray, List.set_cons_zero, List.set_cons_succ]
  refine takeH8 (i := 15) (d := some 58) (v := .agg (h1.sh (.slice q1 m1 d1))) rfl rfl (by kernel_rfl) (by kernel_rfl) (by kernel_rfl) (fun _ _ _ h => h) (Or.inl ⟨by rfl, ?hy15⟩) hHeld ?rest15
  case hy15 => intro X hSw; exact ex_ldS8 _ rfl w4.heap.size rfl hSw.2.2.2
  try simp only [Act.put, List.setIfInBounds_toArray, List.set_cons_zero, List.set_cons_succ]
  refine wpAnyH_ready (rs := [16]) (by kernel_rfl) (by simp) ?_
  refine AllReadyH.cons (o := { dst := some 59, op := Op.call { callee := Callee.value (Operand.func 13), args := #[Operand.tmp 57, Operand.tmp 58], argTypes := #[31, 31] }, type := 4, pos := "outright.go:281", after := #[{ on := 14, ground := Ground.data }, { on := 15, ground := Ground.data }, { on := 8, ground := Ground.chain }, { on := 8, ground := Ground.guard }], guard := some (8, true) }) rfl (fun Kq hKq => ?_) AllReadyH.nil
  go_simp
  refine SA.out.mono ?_
  rintro e w9 ⟨rfl, hb9⟩
  refine hKq.out _ _ ⟨conv_rd (Rd.below R6d.out hb9) f0.length c6 rfl, conv_rd (Rd.below R7d.out hb9) f1.length c7 rfl, SdAt.below H3d.out hb9, SdAt.below H5d.out hb9⟩ (fun hHeld9 => ?_)
  clear hKq Kq
  try simp only [Act.put, List.setIfInBounds_toArray, List.set_cons_zero, List.set_cons_succ]
  refine takeH8 (i := 17) (d := some 60) (v := ?v17) rfl rfl (by kernel_rfl) (by kernel_rfl) (by kernel_rfl) (fun _ _ _ h => h) (Or.inl ⟨by rfl, ?hy17⟩) hHeld9 ?rest17
  case hy17 => intro X hSw; (try dsimp only at hSw); go_simp <;> with_reducible rfl
  try simp only [Act.put, List.setIfInBounds_toArray, List.set_cons_zero, List.set_cons_succ]
  refine takeH8 (i := 18) (d := some 61) (v := ?v18) rfl rfl (by kernel_rfl) (by kernel_rfl) (by kernel_rfl) (fun _ _ _ h => h) (Or.inl ⟨by rfl, ?hy18⟩) hHeld9 ?rest18
  case hy18 => intro X hSw; (try dsimp only at hSw); go_simp <;> with_reducible rfl
  try simp only [Act.put, List.setIfInBounds_toArray, List.set_cons_zero, List.set_cons_succ]
  refine takeH8 (i := 19) (d := some 4) (v := ?v19) rfl rfl (by kernel_rfl) (by kernel_rfl) (by kernel_rfl) (fun _ _ _ h => h) (Or.inl ⟨by rfl, ?hy19⟩) hHeld9 ?rest19
  case hy19 => intro X hSw; (try dsimp only at hSw); go_simp <;> with_reducible rfl
  try simp only [Act.put, List.setIfInBounds_toArray, List.set_cons_zero, List.set_cons_succ]
  refine wpAnyH_done (by kernel_rfl) ?_ _
  go_wp2
  go_ret
  exact ⟨rfl, bt (bt Bw7.out B7d.out) hb9⟩
theorem frameUnlike_walk (h0 : Hd) (hin0 : h0.In) (hy0 : h0.key.length ≤ 9223372036854775807) (a0 : Option Addr) (n0 c0 : Nat) (bl0 : List (List (BitVec 8))) (hb0 : bl0.length = n0) (h1 : Hd) (hin1 : h1.In) (hy1 : h1.key.length ≤ 9223372036854775807) (a1 : Option Addr) (n1 c1 : Nat) (bl1 : List (List (BitVec 8))) (hb1 : bl1.length = n1) (w : World) (hR0 : Rws w a0 bl0) (hR1 : Rws w a1 bl1) :
    Calls Try.prog 4 #[.agg (h0.sh (.slice a0 n0 c0)), .agg (h1.sh (.slice a1 n1 c1))] w fun e w' => e = .returned (.bool true) ∧ Below w.heap.size w w' := by
  by_cases e0 : chk h0 = 0
  · by_cases e1 : chk h1 = 0
    · exact frameUnlike_ok h0 hin0 hy0 a0 n0 c0 bl0 hb0 h1 hin1 hy1 a1 n1 c1 bl1 hb1 w hR0 hR1 ((chk_ok h0).1 e0) ((chk_ok h1).1 e1)
    · exact frameUnlike_no1 h0 hin0 a0 n0 c0 bl0 hb0 h1 hin1 hy1 a1 n1 c1 bl1 w hR0 hR1 ((chk_ok h0).1 e0) e1
  · exact frameUnlike_no0 h0 hin0 hy0 a0 n0 c0 bl0 h1 hin1 hy1 a1 n1 c1 bl1 hb1 w hR0 hR1 e0
end
end Go.Proofs.Ytnjgfiiimcacbaa
