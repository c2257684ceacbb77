/-
  What the laws of votes are handed, opened: places, a verdict, a shape.
-/
import Derived.Test.YtefomnlgpldgnaaRows
import Derived.Test.YtefomnlgpldgnaaHf8
import Derived.Test.YtefomnlgpldgnaaVr17
import Derived.Deep.Matrix
import Derived.Deep.Slices
import Derived.SizedLaws
namespace Go.Proofs.Ytefomnlgpldgnaa
open Go.ChangeShapes Go.WideShapes Go.ChangeAt Go.RowKit
theorem spot_no {w : World} {a : Addr} {v : Value} (h : w.cell? (a.add 0) = some v) : ∃ b o, a = ⟨b, o, none⟩ := by
  obtain ⟨b, off, spot⟩ := a
  have hs : spot = none := by simpa [Addr.add] using World.cell?_spot h
  subst hs
  exact ⟨b, off, rfl⟩
/-- The bytes of a row that is handed in. -/
def rowL (Z : List Int) (n : Nat) : List (BitVec 8) := (List.range n).map (fun j => BitVec.ofNat 8 (Z.getD j 0).toNat)
theorem rowL_len (Z : List Int) (n : Nat) : (rowL Z n).length = n := by unfold rowL; simp
theorem rowL_rd {w : World} {A : Option Addr} {len cap base : Nat} {Z : List Int} (hl : len ≤ cap) (hw : ∀ n ∈ Z, (Lit.int .u8 n).wf = true) (h0 : A = none → cap = 0) (hc : ∀ a', A = some a' → base ≤ a'.block ∧ ∀ c, c < cap → w.cell? (a'.add c) = some (.int .u8 (Z.getD c 0))) : Rd w A (rowL Z len) := by
  by_cases h : len = 0
  · subst h; exact .inl rfl
  · cases hA : A with
    | none => have := h0 hA; omega
    | some a =>
      obtain ⟨_, hcc⟩ := hc a hA
      obtain ⟨b, o, rfl⟩ := spot_no (hcc 0 (by omega))
      refine .inr ⟨b, o, rfl, fun i hi => ?_⟩
      rw [rowL_len] at hi
      rw [← add_pl, hcc i (by omega)]
      have hb : 0 ≤ Z.getD i 0 ∧ Z.getD i 0 < 256 := by
        rw [List.getD_eq_getElem?_getD]
        cases e : Z[i]? with
        | none => simp
        | some z =>
          have h1 := bounds_u8 (hw z (List.mem_of_getElem? e))
          exact ⟨h1.1, by have := h1.2; simp only [Option.getD_some]; omega⟩
      have e : (rowL Z len).getD i 0#8 = BitVec.ofNat 8 (Z.getD i 0).toNat := by unfold rowL; simp [List.getD, hi]
      rw [e]
      obtain ⟨z, hz⟩ : ∃ z, z = Z.getD i 0 := ⟨_, rfl⟩
      rw [← hz] at hb ⊢
      unfold el
      rw [BitVec.toNat_ofNat]
      congr 2
      omega
theorem weights_in {H : Type} {P : Program} {e : TypeId} {d : DataW H} : ∀ {l : List (DataW H)}, d ∈ l → ∀ n ∈ d.weights P e, n ∈ DataW.weightsAll P e l
  | x :: l, hd, n, hn => by
    simp only [DataW.weightsAll, List.mem_append]
    rcases List.mem_cons.1 hd with rfl | h
    · exact .inl hn
    · exact .inr (weights_in h n hn)
theorem rows_ofW {H : Type} {enc : TypeId × Value → H} {W : World} {n : Nat} {v : Value} {y : DataW H × List MemPlace} (h : DataW.trod enc Try.prog W 0 (fun _ => true) true n 34 [v] = some y)
    (hb : ∀ g ∈ y.1.weights Try.prog 34, g ≤ reachBytes) : ∃ (p : Option Addr) (n c : Nat) (bl : List (List (BitVec 8))), v = .slice p n c ∧ bl.length = n ∧ n ≤ c ∧ n ≤ 5864062014634 ∧ (∀ t, (bl.getD t []).length ≤ 140737488351232) ∧ Rws W p bl := by
  rcases Go.Deep.open_int_rows Try.underlying34 Try.underlying72 Try.underlying5 (by kernel_rfl) (by kernel_rfl) h with ⟨hcs, _⟩ | ⟨a, len, cap, A, L, C, Z, hcs, _, hl, hm, hx, hrow⟩
  · simp at hcs
    subst hcs
    exact ⟨none, 0, 0, [], rfl, rfl, Nat.le_refl _, by omega, fun t => by simp, .inl rfl⟩
  · simp at hcs
    subst hcs
    rw [hx] at hb
    have b24 : Try.prog.bytesOf 72 = 24 := by kernel_rfl
    have b1 : Try.prog.bytesOf 5 = 1 := by kernel_rfl
    have hlen := hb ((len + (cap - len)) * Try.prog.bytesOf 72) (by simp [DataW.weights, Try.underlying34])
    rw [b24] at hlen
    simp only [reachBytes] at hlen
    have hL : ∀ r, r < len → L r ≤ 140737488351232 := by
      intro r hr
      obtain ⟨_, h2, _, h4, _, h6, _⟩ := hrow r (by omega)
      cases hA : A r with
      | none => have := h6 hA; omega
      | some a' =>
        have hq := hb (((lits (H := H) .u8 ((Z r).take (L r))).length + (lits (H := H) .u8 ((Z r).drop (L r))).length) * Try.prog.bytesOf 5) (by
          simp only [DataW.weights, Try.underlying34, List.mem_cons, List.mem_append]
          refine .inr (.inl (weights_in (List.mem_map.mpr ⟨r, List.mem_range.mpr hr, rfl⟩) _ ?_))
          rw [hA]
          simp [Go.Deep.intRow, DataW.weights, Try.underlying72])
        rw [b1] at hq
        simp only [reachBytes, lits, List.length_map, List.length_take, List.length_drop] at hq
        omega
    refine ⟨some a, len, cap, (List.range len).map (fun r => rowL (Z r) (L r)), rfl, by simp, hl, by omega, ?_, ?_⟩
    · intro t
      by_cases ht : t < len
      · have e : ((List.range len).map (fun r => rowL (Z r) (L r))).getD t [] = rowL (Z t) (L t) := by simp [List.getD, ht]
        rw [e, rowL_len]
        exact hL t ht
      · rw [List.getD_eq_getElem?_getD, List.getElem?_eq_none (by simp; omega)]
        simp
    · by_cases h0 : len = 0
      · subst h0; exact .inl rfl
      · obtain ⟨b, o, rfl⟩ := spot_no (hrow 0 (by omega)).1
        refine .inr ⟨b, o, rfl, fun i hi => ?_⟩
        have hi' : i < len := by simpa using hi
        obtain ⟨h1, h2, _, _, h5, h6, h7⟩ := hrow i (by omega)
        have e : ((List.range len).map (fun r => rowL (Z r) (L r))).getD i [] = rowL (Z i) (L i) := by simp [List.getD, hi']
        rw [e, rowL_len]
        exact ⟨A i, C i, by rw [← add_pl]; exact h1, h2, rowL_rd h2 h5 h6 h7⟩
theorem list19 {α : Type} {l : List α} (h : l.length = 19) : ∃ c0 c1 c2 c3 c4 c5 c6 c7 c8 c9 c10 c11 c12 c13 c14 c15 c16 c17 c18, l = [c0, c1, c2, c3, c4, c5, c6, c7, c8, c9, c10, c11, c12, c13, c14, c15, c16, c17, c18] := by
  match l, h with
  | [c0, c1, c2, c3, c4, c5, c6, c7, c8, c9, c10, c11, c12, c13, c14, c15, c16, c17, c18], _ => exact ⟨c0, c1, c2, c3, c4, c5, c6, c7, c8, c9, c10, c11, c12, c13, c14, c15, c16, c17, c18, rfl⟩
theorem list5 {α : Type} {l : List α} (h : l.length = 5) : ∃ c0 c1 c2 c3 c4, l = [c0, c1, c2, c3, c4] := by
  match l, h with
  | [c0, c1, c2, c3, c4], _ => exact ⟨c0, c1, c2, c3, c4, rfl⟩
theorem list3 {α : Type} {l : List α} (h : l.length = 3) : ∃ c0 c1 c2, l = [c0, c1, c2] := by
  match l, h with
  | [c0, c1, c2], _ => exact ⟨c0, c1, c2, rfl⟩
theorem sn_ofW {H : Type} {enc : TypeId × Value → H} {W : World} {n : Nat} {cs : List Value} {y : DataW H × List MemPlace}
    (h : DataW.trod enc Try.prog W 0 (fun _ => true) true n 39 cs = some y) (hb : ∀ g ∈ y.1.weights Try.prog 39, g ≤ reachBytes) : ∃ (s : Sn) (bl : List (List (BitVec 8))), cs = s.cs.toList ∧ s.hd.In ∧ ∃ p c, s.bv = .slice p bl.length c ∧ bl.length ≤ c ∧ bl.length ≤ 5864062014634 ∧ (∀ t, (bl.getD t []).length ≤ 140737488351232) ∧ Rws W p bl := by
  obtain ⟨xs, m, _, hy, hl, hlen, hf⟩ := DataW.trod_struct Try.underlying39 h
  have hl' : cs.length = 19 := hl.trans (by kernel_rfl)
  obtain ⟨c0, c1, c2, c3, c4, c5, c6, c7, c8, c9, c10, c11, c12, c13, c14, c15, c16, c17, c18, rfl⟩ := list19 hl'
  have n1 : Try.prog.cellsOf 3 = 1 := by kernel_rfl
  have n17 : Try.prog.cellsOf 36 = 17 := by kernel_rfl
  have ne : Try.prog.cellsOf 37 = 1 := by kernel_rfl
  have n16 : Try.prog.cellsOf 33 = 16 := by kernel_rfl
  have nr : Try.prog.cellsOf 34 = 1 := by kernel_rfl
  match xs, hlen with
  | [y0, y1, y2], _ =>
    have f0 := hf 0 _ rfl
    have f1 := hf 1 _ rfl
    have f2 := hf 2 _ rfl
    simp [n1, n17, ne] at f0 f1 f2
    obtain ⟨kd, e0, _, _⟩ := DataW.trod_int Try.underlying3 f0
    obtain ⟨er, e2, _, _⟩ := DataW.trod_int Try.underlying37 f2
    have hb1 : ∀ g ∈ y1.1.weights Try.prog 36, g ≤ reachBytes := by
      intro g hg
      refine hb g ?_
      rw [hy]
      simp only [List.map_cons, List.map_nil, DataW.weights, Try.underlying39]
      exact DataW.weights_mem_each (j := 1) rfl rfl g hg
    obtain ⟨xs', m', _, hy', hl2, hlen', hf'⟩ := DataW.trod_struct Try.underlying36 f1
    match xs', hlen' with
    | [z0, z1], _ =>
      have g0 := hf' 0 _ rfl
      have g1 := hf' 1 _ rfl
      simp [n16, nr] at g0 g1
      have hb2 : ∀ g ∈ z1.1.weights Try.prog 34, g ≤ reachBytes := by
        intro g hg
        refine hb1 g ?_
        rw [hy']
        simp only [List.map_cons, List.map_nil, DataW.weights, Try.underlying36]
        exact DataW.weights_mem_each (j := 1) rfl rfl g hg
      obtain ⟨hd, hin, _, hcs⟩ := head_of g0
      obtain ⟨p, nb, c, bl, ev, hbl, hc, hN, hx, hR⟩ := rows_ofW g1 hb2
      subst hbl
      refine ⟨⟨kd, hd, .slice p bl.length c, er⟩, bl, ?_, hin, p, c, rfl, hc, hN, hx, hR⟩
      unfold Hd.cs at hcs
      simp only [List.cons.injEq, and_true] at e0 e2 hcs
      unfold Sn.cs
      simp only [e0, e2, ev, hcs]
/-- Places that are handed in. -/
theorem seens_ofW {H : Type} {enc : TypeId × Value → H} {W : World} {n : Nat} {v : Value} {y : DataW H × List MemPlace} (h : DataW.trod enc Try.prog W 0 (fun _ => true) true n 24 [v] = some y)
    (hb : ∀ g ∈ y.1.weights Try.prog 24, g ≤ reachBytes) : ∃ (p : Option Addr) (n c : Nat) (ss : Nat → Sn) (bl : Nat → List (List (BitVec 8))), v = .slice p n c ∧ SnL W p n ss ∧ Bls W n ss bl ∧ n ≤ 1172812402926 ∧ ∀ i, i < n → (ss i).hd.In := by
  rcases Go.Deep.open_slice Try.underlying24 h with ⟨hcs, _⟩ | ⟨a, len, cap, m, n, D, Pl, hcs, hba, hl, hm, hmm, hx, hrow⟩
  · simp at hcs
    subst hcs
    exact ⟨none, 0, 0, fun _ => sn0, fun _ => [], rfl, .inl rfl, fun i hi => absurd hi (Nat.not_lt_zero _), by decide, fun i hi => absurd hi (Nat.not_lt_zero _)⟩
  · simp at hcs
    subst hcs
    simp only [if_true] at hmm
    subst hmm
    have hx1 : y.1 = _ := congrArg Prod.fst hx
    rw [hx1] at hb
    have b120 : Try.prog.bytesOf 39 = 120 := by kernel_rfl
    have hlen := hb ((len + (m - len)) * Try.prog.bytesOf 39) (by simp [DataW.weights, Try.underlying24])
    rw [b120] at hlen
    simp only [reachBytes] at hlen
    have each : ∀ i, i < len → ∃ q : Sn × List (List (BitVec 8)), (∀ j u, q.1.cs.toList[j]? = some u → W.cell? (a.add (i * 19 + j)) = some u) ∧ q.1.hd.In ∧ ∃ p c, q.1.bv = .slice p q.2.length c ∧ q.2.length ≤ c ∧ q.2.length ≤ 5864062014634 ∧ (∀ t, (q.2.getD t []).length ≤ 140737488351232) ∧ Rws W p q.2 := by
      intro i hi
      obtain ⟨cs', h1, h2⟩ := hrow i (by omega)
      rw [show Try.prog.cellsOf 39 = 19 by kernel_rfl] at h1
      obtain ⟨_, hlen', hcell⟩ := World.cells?_some h1
      have hbi : ∀ g ∈ (D i).weights Try.prog 39, g ≤ reachBytes := fun g hg => hb g (by
        simp only [DataW.weights, Try.underlying24, List.mem_cons, List.mem_append]
        exact .inr (.inl (weights_in (List.mem_map.mpr ⟨i, List.mem_range.mpr hi, rfl⟩) _ hg)))
      obtain ⟨s, bl, hcs', hin, hrest⟩ := sn_ofW h2 hbi
      refine ⟨(s, bl), fun j u hj => ?_, hin, hrest⟩
      have hj19 : j < 19 := by
        rcases Nat.lt_or_ge j 19 with h | h
        · exact h
        · rw [List.getElem?_eq_none (by exact h)] at hj; cases hj
      have e := hcell j hj19
      rw [Go.Deep.add_add] at e
      rw [e, hcs']
      exact hj
    haveI : Inhabited (Sn × List (List (BitVec 8))) := ⟨(sn0, [])⟩
    obtain ⟨Q, hQ⟩ := Go.Deep.choose_lt each
    refine ⟨some a, len, m, fun i => (Q i).1, fun i => (Q i).2, rfl, ?_, fun i hi => (hQ i hi).2.2, by omega, fun i hi => (hQ i hi).2.1⟩
    by_cases h0 : len = 0
    · exact .inl h0
    · have hc0 := (hQ 0 (by omega)).1 0 _ rfl
      rw [Nat.zero_mul, Nat.zero_add] at hc0
      obtain ⟨b, o, rfl⟩ := spot_no hc0
      refine .inr ⟨b, o, rfl, fun i hi j u hj => ?_⟩
      have := (hQ i hi).1 j u hj
      rw [add_pl] at this
      rw [Nat.add_assoc]; exact this
theorem vd_ofW {H : Type} {enc : TypeId × Value → H} {W : World} {n : Nat} {cs : List Value} {y : DataW H × List MemPlace}
    (h : DataW.trod enc Try.prog W 0 (fun _ => true) true n 42 cs = some y) (hb : ∀ g ∈ y.1.weights Try.prog 42, g ≤ reachBytes) : ∃ (kv : Int) (k : Wg) (p : Option Addr) (n c : Nat) (zs : List Int), cs = (vdC kv k (.slice p n c)).toList ∧ zs.length = n ∧ n ≤ 17592186043904 ∧ Rz W p zs := by
  obtain ⟨xs, m, _, hy, hl, hlen, hf⟩ := DataW.trod_struct Try.underlying42 h
  have hl' : cs.length = 5 := hl.trans (by kernel_rfl)
  have n1 : Try.prog.cellsOf 3 = 1 := by kernel_rfl
  have n2 : Try.prog.cellsOf 31 = 2 := by kernel_rfl
  have nl : Try.prog.cellsOf 25 = 1 := by kernel_rfl
  obtain ⟨c0, c1, c2, c3, c4, rfl⟩ := list5 hl'
  match xs, hlen with
  | [y0, y1, y2, y3], _ =>
    have f0 := hf 0 _ rfl
    have f1 := hf 1 _ rfl
    have f2 := hf 2 _ rfl
    have f3 := hf 3 _ rfl
    simp [n1, n2, nl] at f0 f1 f2 f3
    obtain ⟨kv, e0, _, _⟩ := DataW.trod_int Try.underlying3 f0
    obtain ⟨k3, e3, _, _⟩ := DataW.trod_int Try.underlying3 f2
    obtain ⟨ts, m2, _, _, _, ht, q⟩ := DataW.trod_struct Try.underlying31 f1
    match ts, ht with
    | [t0, t1], _ =>
      have q0 := q 0 _ rfl
      have q1 := q 1 _ rfl
      simp [n1] at q0 q1
      obtain ⟨k1, e1, _, _⟩ := DataW.trod_int Try.underlying3 q0
      obtain ⟨k2, e2, _, _⟩ := DataW.trod_int Try.underlying3 q1
      simp only [List.cons.injEq, and_true] at e0 e1 e2 e3
      subst e0 e1 e2 e3
      have hb3 : ∀ g ∈ y3.1.weights Try.prog 25, g ≤ reachBytes := by
        intro g hg
        refine hb g ?_
        rw [hy]
        simp only [List.map_cons, List.map_nil, DataW.weights, Try.underlying42]
        exact DataW.weights_mem_each (j := 3) rfl rfl g hg
      rcases open_ints Try.underlying25 Try.underlying3 (by kernel_rfl) f3 with ⟨hcs, hx⟩ | ⟨x, l, c, zs, hcs, _, hl, hm, hz, hx, hcell, hwz⟩
      · simp at hcs
        subst hcs
        exact ⟨kv, (k1, k2, k3), none, 0, 0, [], rfl, rfl, by decide, .inl rfl⟩
      · simp at hcs
        subst hcs
        simp only [if_true] at hz
        have hx1 : y3.1 = _ := congrArg Prod.fst hx
        rw [hx1] at hb3
        have hw := hb3 _ (by simp only [DataW.weights, Try.underlying25]; exact List.mem_cons_self ..)
        rw [show Try.prog.bytesOf 3 = 8 by kernel_rfl] at hw
        simp only [lits, List.length_map, List.length_take, List.length_drop, reachBytes] at hw
        refine ⟨kv, (k1, k2, k3), some x, l, c, zs.take l, rfl, by rw [List.length_take]; omega, by omega, ?_⟩
        by_cases h0 : l = 0
        · left; rw [h0]; rfl
        · obtain ⟨b, o, rfl⟩ := spot_no (hcell 0 (by omega))
          refine .inr ⟨b, o, rfl, fun i hi => ?_⟩
          rw [List.length_take] at hi
          have := hcell i (by omega)
          rw [add_pl] at this
          rw [this]
          simp [List.getD, show i < l by omega]
theorem shape_ofW {H : Type} {enc : TypeId × Value → H} {W : World} {n : Nat} {cs : List Value} {y : DataW H × List MemPlace}
    (h : DataW.trod enc Try.prog W 0 (fun _ => true) true n 23 cs = some y) : ∃ k m b : Int, cs = (shC k m b).toList ∧ In64 k ∧ In64 m ∧ In64 b := by
  obtain ⟨xs, m, _, hy, hl, hlen, hf⟩ := DataW.trod_struct Try.underlying23 h
  have hl' : cs.length = 3 := hl.trans (by kernel_rfl)
  have n1 : Try.prog.cellsOf 3 = 1 := by kernel_rfl
  obtain ⟨c0, c1, c2, rfl⟩ := list3 hl'
  match xs, hlen with
  | [y0, y1, y2], _ =>
    have f0 := hf 0 _ rfl
    have f1 := hf 1 _ rfl
    have f2 := hf 2 _ rfl
    simp [n1] at f0 f1 f2
    obtain ⟨k0, e0, _, w0⟩ := DataW.trod_int Try.underlying3 f0
    obtain ⟨k1, e1, _, w1⟩ := DataW.trod_int Try.underlying3 f1
    obtain ⟨k2, e2, _, w2⟩ := DataW.trod_int Try.underlying3 f2
    simp only [List.cons.injEq, and_true] at e0 e1 e2
    subst e0 e1 e2
    exact ⟨k0, k1, k2, rfl, i64_of w0, i64_of w1, i64_of w2⟩
end Go.Proofs.Ytefomnlgpldgnaa
