/-
  What DriveKeeps and its like are handed, opened.
-/
import Derived.Test.YtaddgmbglhdfdaaRows
import Derived.Test.YtaddgmbglhdfdaaKt11
import Derived.WalkKit
import Derived.ProofKit
import Derived.SizedLaws
import Derived.OpenShut
import Derived.ShutString
import Derived.Deep.Slices
import Derived.Deep.Matrix
import Derived.Deep.Grids
import Derived.ChangeOld
import Derived.Below
namespace Go.Proofs.Ytaddgmbglhdfdaa
open Go.ChangeShapes Go.WideShapes Go.ChangeAt Go.RowKit
theorem spot_no {w : World} {a : Addr} {v : Value} (h : w.cell? (a.add 0) = some v) : ∃ b o, a = ⟨b, o, none⟩ := by
  obtain ⟨b, off, spot⟩ := a
  have hs : spot = none := by simpa [Addr.add] using World.cell?_spot h
  subst hs
  exact ⟨b, off, rfl⟩
theorem bulk_lits {H : Type} : ∀ (zs : List Int), zs.length ≤ Rows.uptoBulkAll (zs.map fun z => (DataW.lit (.int .u8 z) : DataW H))
  | [] => Nat.zero_le _
  | z :: zs => by
    have := bulk_lits (H := H) zs
    simp only [List.map_cons, Rows.uptoBulkAll, Rows.uptoBulk, List.length_cons]
    omega
/-- A row of bytes that is handed in. -/
theorem bytes_tx {H : Type} {enc : TypeId × Value → H} {W : World} {n : Nat} {v : Value} {y : DataW H × List MemPlace} (h : DataW.trod enc Try.prog W 0 (fun _ => true) true n 26 [v] = some y) : ∃ (p : Option Addr) (c : Nat) (d : Tx), v = .slice p d.length c ∧ Rx W p d ∧ d.length ≤ Rows.uptoBulk y.1 ∧ d.length ≤ c := by
  rcases open_ints Try.underlying26 Try.underlying5 (by kernel_rfl) h with ⟨hcs, hx⟩ | ⟨x, l, c, zs, hcs, _, hl, hm, hz, hx, hcell, hwz⟩
  · simp at hcs
    subst hcs
    exact ⟨none, 0, [], rfl, .inl rfl, Nat.zero_le _, Nat.le_refl _⟩
  · simp at hcs
    subst hcs
    simp only [if_true] at hz
    refine ⟨some x, c, (zs.take l).map (fun z => UInt8.ofNat z.toNat), ?_, ?_, ?_, by rw [List.length_map, List.length_take]; omega⟩
    · have : ((zs.take l).map (fun z => UInt8.ofNat z.toNat)).length = l := by rw [List.length_map, List.length_take]; omega
      rw [this]
    · by_cases h0 : l = 0
      · left; rw [h0]; rfl
      · obtain ⟨b, o, rfl⟩ := spot_no (hcell 0 (by omega))
        refine .inr ⟨b, o, rfl, fun i hi => ?_⟩
        rw [List.length_map, List.length_take] at hi
        rw [← add_pl, hcell i (by omega)]
        have hiz : i < zs.length := by omega
        have hb := bounds_u8 (hwz zs[i] (List.getElem_mem _))
        simp only [List.getD_eq_getElem?_getD, List.getElem?_map, List.getElem?_take, List.getElem?_eq_getElem hiz, if_pos (show i < l by omega), Option.map_some, Option.getD_some]
        unfold u8v
        rw [UInt8.toNat_ofNat']
        congr 2
        omega
    · have hx1 : y.1 = _ := congrArg Prod.fst hx
      rw [hx1]
      simp only [Rows.uptoBulk]
      have := bulk_lits (H := H) (zs.take l)
      rw [List.length_map]
      simp only [lits] at *
      omega
theorem sum_le {α H : Type} (f : α → Nat) (g : α → DataW H) : ∀ l : List α, (∀ a ∈ l, f a ≤ Rows.uptoBulk (g a)) → (l.map f).sum ≤ Rows.uptoBulkAll (l.map g)
  | [], _ => Nat.zero_le _
  | a :: l, h => by
    have h1 := h a (by simp)
    have h2 := sum_le f g l (fun b hb => h b (by simp [hb]))
    simp only [List.map_cons, List.sum_cons, Rows.uptoBulkAll]
    omega
theorem sum_len {α : Type} (f : α → Nat) : ∀ l : List α, l.length ≤ (l.map fun i => 1 + f i).sum
  | [] => Nat.le_refl _
  | a :: l => by
    have := sum_len f l
    simp only [List.map_cons, List.sum_cons, List.length_cons]
    omega
theorem bulk_mem {α H : Type} (g : α → DataW H) : ∀ (l : List α) (a : α), a ∈ l → Rows.uptoBulk (g a) ≤ Rows.uptoBulkAll (l.map g)
  | b :: l, a, h => by
    simp only [List.map_cons, Rows.uptoBulkAll]
    rcases List.mem_cons.1 h with rfl | h
    · omega
    · have := bulk_mem g l a h
      omega
theorem bulk_ints {H : Type} {k : IntKind} : ∀ (zs : List Int), zs.length ≤ Rows.uptoBulkAll (zs.map fun z => (DataW.lit (.int k z) : DataW H))
  | [] => Nat.zero_le _
  | z :: zs => by
    have := bulk_ints (H := H) (k := k) zs
    simp only [List.map_cons, Rows.uptoBulkAll, Rows.uptoBulk, List.length_cons]
    omega
theorem bulk_bools {H : Type} (B : Nat → Bool) : ∀ (l : List Nat), l.length ≤ Rows.uptoBulkAll (l.map fun i => (DataW.lit (.bool (B i)) : DataW H))
  | [] => Nat.zero_le _
  | z :: zs => by
    have := bulk_bools (H := H) B zs
    simp only [List.map_cons, Rows.uptoBulkAll, Rows.uptoBulk, List.length_cons]
    omega
/-- A row of numbers that is handed in. -/
theorem ils_of {H : Type} {enc : TypeId × Value → H} {W : World} {n : Nat} {v : Value} {y : DataW H × List MemPlace} (h : DataW.trod enc Try.prog W 0 (fun _ => true) true n 28 [v] = some y) : ∃ (p : Option Addr) (n c : Nat) (d : List Int), v = .slice p n c ∧ d.length = n ∧ Ils W p d ∧ n ≤ Rows.uptoBulk y.1 ∧ (p = none → n = 0 ∧ c = 0) := by
  rcases open_ints Try.underlying28 Try.underlying3 (by kernel_rfl) h with ⟨hcs, hx⟩ | ⟨x, l, c, zs, hcs, _, hl, hm, hz, hx, hcell, hwz⟩
  · simp at hcs
    subst hcs
    exact ⟨none, 0, 0, [], rfl, rfl, fun i hi => absurd hi (Nat.not_lt_zero _), Nat.zero_le _, fun _ => ⟨rfl, rfl⟩⟩
  · simp at hcs
    subst hcs
    simp only [if_true] at hz
    have htl : (zs.take l).length = l := by rw [List.length_take]; omega
    refine ⟨some x, l, c, zs.take l, rfl, htl, fun i hi => ?_, ?_, fun e => by cases e⟩
    · rw [htl] at hi
      obtain ⟨b, o, rfl⟩ := spot_no (hcell 0 (by omega))
      refine ⟨b, o, rfl, ?_⟩
      rw [← add_pl, hcell i (by omega)]
      have hiz : i < zs.length := by omega
      simp [hiz, hi]
    · have hx1 : y.1 = _ := congrArg Prod.fst hx
      rw [hx1]
      simp only [Rows.uptoBulk]
      have := bulk_ints (H := H) (k := .i64) (zs.take l)
      rw [htl] at this
      simp only [lits] at *
      omega
/-- A row of truths that is handed in. -/
theorem bls_of {H : Type} {enc : TypeId × Value → H} {W : World} {n : Nat} {v : Value} {y : DataW H × List MemPlace} (h : DataW.trod enc Try.prog W 0 (fun _ => true) true n 27 [v] = some y) : ∃ (p : Option Addr) (n c : Nat) (d : List Bool), v = .slice p n c ∧ d.length = n ∧ Bls W p d ∧ n ≤ Rows.uptoBulk y.1 ∧ (p = none → n = 0 ∧ c = 0) := by
  rcases Go.Deep.open_bools Try.underlying27 Try.underlying4 (by kernel_rfl) h with ⟨hcs, hx⟩ | ⟨x, l, c, B, hcs, _, hl, hm, hx, hcell⟩
  · simp at hcs
    subst hcs
    exact ⟨none, 0, 0, [], rfl, rfl, fun i hi => absurd hi (Nat.not_lt_zero _), Nat.zero_le _, fun _ => ⟨rfl, rfl⟩⟩
  · simp at hcs
    subst hcs
    refine ⟨some x, l, c, (List.range l).map B, rfl, by simp, fun i hi => ?_, ?_, fun e => by cases e⟩
    · have hi' : i < l := by simpa using hi
      obtain ⟨b, o, rfl⟩ := spot_no (hcell 0 (by omega))
      refine ⟨b, o, rfl, ?_⟩
      rw [← add_pl, hcell i (by omega)]
      simp [hi']
    · have hx1 : y.1 = _ := congrArg Prod.fst hx
      rw [hx1]
      have := bulk_bools (H := H) B (List.range l)
      simp only [Go.Deep.boolRow, Rows.uptoBulk]
      rw [List.length_range] at this
      omega
theorem list7 {α : Type} {l : List α} (h : l.length = 7) : ∃ c0 c1 c2 c3 c4 c5 c6, l = [c0, c1, c2, c3, c4, c5, c6] := by
  match l, h with
  | [c0, c1, c2, c3, c4, c5, c6], _ => exact ⟨c0, c1, c2, c3, c4, c5, c6, rfl⟩
/-- An act that is handed in. -/
theorem act_of {H : Type} {enc : TypeId × Value → H} {W : World} {n : Nat} {cs : List Value} {y : DataW H × List MemPlace} (h : DataW.trod enc Try.prog W 0 (fun _ => true) true n 46 cs = some y) (hb : Rows.uptoBulk y.1 ≤ 1048576) : ∃ a : Atp, cs = (a.2.1.v a.1).toList ∧ AcAt W a.2.1 a.2.2 ∧ aez a ≤ Rows.uptoBulk y.1 := by
  obtain ⟨xs, m, _, hy, hl, hlen, hf⟩ := DataW.trod_struct Try.underlying46 h
  have hl' : cs.length = 7 := hl.trans (by kernel_rfl)
  obtain ⟨c0, c1, c2, c3, c4, c5, c6, rfl⟩ := list7 hl'
  have ns : Try.prog.cellsOf 9 = 1 := by kernel_rfl
  have ni : Try.prog.cellsOf 3 = 1 := by kernel_rfl
  have nb : Try.prog.cellsOf 26 = 1 := by kernel_rfl
  have nf : Try.prog.cellsOf 30 = 2 := by kernel_rfl
  match xs, hlen with
  | [y0, y1, y2, y3, y4, y5], _ =>
    have f0 := hf 0 _ rfl
    have f1 := hf 1 _ rfl
    have f2 := hf 2 _ rfl
    have f3 := hf 3 _ rfl
    have f4 := hf 4 _ rfl
    have f5 := hf 5 _ rfl
    simp [ns, ni, nb, nf] at f0 f1 f2 f3 f4 f5
    obtain ⟨k, e0, x0, _⟩ := DataW.trod_int Try.underlying3 f0
    obtain ⟨s1, e1, x1, _⟩ := DataW.trod_string Try.underlying9 f1
    obtain ⟨s2, e2, x2, _⟩ := DataW.trod_string Try.underlying9 f2
    obtain ⟨a3, e3, x3, _⟩ := DataW.trod_int Try.underlying3 f3
    obtain ⟨p4, q4, d, e4, hd, hbd, hcap⟩ := bytes_tx f4
    obtain ⟨zs, m9, _, hy5, _, hzl, hg⟩ := DataW.trod_struct Try.underlying30 f5
    match zs, hzl with
    | [z0, z1], _ =>
      have nd : Try.prog.cellsOf 27 = 1 := by kernel_rfl
      have nc : Try.prog.cellsOf 28 = 1 := by kernel_rfl
      have g0 := hg 0 _ rfl
      have g1 := hg 1 _ rfl
      simp [nd, nc] at g0 g1
      have hy1 : y.1 = _ := congrArg Prod.fst hy
      have hy51 : y5.1 = _ := congrArg Prod.fst hy5
      rw [hy1] at hb ⊢
      simp only [List.map_cons, List.map_nil, Rows.uptoBulk, Rows.uptoBulkAll, hy51, x1, x2] at hb ⊢
      obtain ⟨qd, nqd, cqd, dirs, e5, hdl, hbd2, hnd, hdn⟩ := bls_of g0
      obtain ⟨qc, nqc, cqc, cuts, e6, hcl, hbc, hnc, hcn⟩ := ils_of g1
      simp only [List.cons.injEq, and_true] at e0 e1 e2 e3
      subst e0 e1 e2 e3 e4 e5 e6
      refine ⟨(k, ⟨s1.data.toList, s2.data.toList, a3, p4, d.length, q4, qd, nqd, cqd, qc, nqc, cqc⟩, ⟨d, dirs, cuts⟩), ?_, ?_, ?_⟩
      · simp only [Ac.v, ← enc_back]
      · exact ⟨hd, rfl, hbd2, hdl, hbc, hcl, by show s1.data.toList.length ≤ _; omega, by show s2.data.toList.length ≤ _; omega, by show d.length ≤ _; omega, by show nqd ≤ _; omega, by show nqc ≤ _; omega⟩
      · show 2 + d.length + dirs.length ≤ _
        omega
/-- A script that is handed in. -/
theorem acts_of {H : Type} {enc : TypeId × Value → H} {W : World} {n : Nat} {v : Value} {y : DataW H × List MemPlace} (h : DataW.trod enc Try.prog W 0 (fun _ => true) true n 25 [v] = some y) (hb : Rows.uptoBulk y.1 ≤ 1048576) : ∃ (p : Option Addr) (c : Nat) (L : List Atp), v = .slice p L.length c ∧ AcsAt W p L ∧ aesz L ≤ 1048576 ∧ L.length ≤ 1048576 := by
  rcases Go.Deep.open_slice Try.underlying25 h with ⟨hcs, _⟩ | ⟨a, len, cap, m, n, D, Pl, hcs, hba, hl, hm, hmm, hx, hrow⟩
  · simp at hcs
    subst hcs
    exact ⟨none, 0, [], rfl, fun i hi => absurd hi (Nat.not_lt_zero _), by decide, by decide⟩
  · simp at hcs
    subst hcs
    simp only [if_true] at hmm
    subst hmm
    have hx1 : y.1 = _ := congrArg Prod.fst hx
    rw [hx1] at hb
    simp only [Rows.uptoBulk] at hb
    have hD : ∀ i, i < len → Rows.uptoBulk (D i) ≤ 1048576 := fun i hi => by
      have := bulk_mem D (List.range len) i (List.mem_range.2 hi)
      omega
    have each : ∀ i, i < len → ∃ q : Atp, (∀ j, j < 7 → W.cell? (a.add (i * 7 + j)) = (q.2.1.v q.1)[j]?) ∧ AcAt W q.2.1 q.2.2 ∧ aez q ≤ Rows.uptoBulk (D i) := by
      intro i hi
      obtain ⟨cs', h1, h2⟩ := hrow i (by omega)
      rw [show Try.prog.cellsOf 46 = 7 by kernel_rfl] at h1
      obtain ⟨_, hlen', hcell⟩ := World.cells?_some h1
      obtain ⟨q, hcs', hA, hz⟩ := act_of h2 (hD i hi)
      refine ⟨q, fun j hj => ?_, hA, hz⟩
      have e := hcell j hj
      rw [Go.Deep.add_add] at e
      rw [e, hcs']
      simp
    haveI : Inhabited Atp := ⟨(0, ⟨[], [], 0, none, 0, 0, none, 0, 0, none, 0, 0⟩, ⟨[], [], []⟩)⟩
    obtain ⟨Q, hQ⟩ := Go.Deep.choose_lt each
    have hsum := sum_le (fun i => aez (Q i)) D (List.range len) (fun i hi => (hQ i (List.mem_range.1 hi)).2.2)
    have hez : aesz ((List.range len).map Q) = ((List.range len).map fun i => aez (Q i)).sum := by unfold aesz; rw [List.map_map]; rfl
    have hlen : len ≤ ((List.range len).map fun i => aez (Q i)).sum := by
      have h9 := sum_len (fun i => 1 + (Q i).2.2.d.length + (Q i).2.2.dirs.length) (List.range len)
      rw [List.length_range] at h9
      have e : ((List.range len).map fun i => 1 + (1 + (Q i).2.2.d.length + (Q i).2.2.dirs.length)) = (List.range len).map fun i => aez (Q i) := by
        apply List.map_congr_left
        intro i _
        show 1 + (1 + (Q i).2.2.d.length + (Q i).2.2.dirs.length) = 2 + (Q i).2.2.d.length + (Q i).2.2.dirs.length
        omega
      rw [e] at h9
      exact h9
    refine ⟨some a, m, (List.range len).map Q, by simp, fun i hi => ?_, by omega, by simp; omega⟩
    have hi' : i < len := by simpa using hi
    obtain ⟨hc, hA, hz⟩ := hQ i hi'
    obtain ⟨b, o, rfl⟩ := spot_no (v := .int .i64 (Q 0).1) (by have := (hQ 0 (by omega)).1 0 (by decide); rw [Nat.zero_mul] at this; exact this)
    have hcc : ∀ j, j < 7 → W.cell? ⟨b, o + i * 7 + j, none⟩ = ((Q i).2.1.v (Q i).1)[j]? := fun j hj => by
      have := hc j hj
      rw [add_pl, ← Nat.add_assoc] at this
      exact this
    have e : ((List.range len).map Q)[i] = Q i := by simp
    rw [e]
    exact ⟨b, o, rfl, ⟨hcc 0 (by decide), hcc 1 (by decide), hcc 2 (by decide), hcc 3 (by decide), hcc 4 (by decide), hcc 5 (by decide), hcc 6 (by decide)⟩, hA⟩
set_option maxRecDepth 100000 in
/-- Files that are handed in. -/
theorem files_of {H : Type} {enc : TypeId × Value → H} {W : World} {n : Nat} {v : Value} {y : DataW H × List MemPlace} (h : DataW.trod enc Try.prog W 0 (fun _ => true) true n 22 [v] = some y) (hb : Rows.uptoBulk y.1 ≤ 1048576) : ∃ (p : Option Addr) (k c : Nat) (nm dt : Nat → Tx), v = .slice p k c ∧ FlIn W p nm dt k ∧ fsz (fls nm dt k) ≤ 1048576 ∧ (∀ i, i < k → (nm i).length ≤ 134217728) ∧ k ≤ 134217728 := by
  rcases Go.Deep.open_slice Try.underlying22 h with ⟨hcs, _⟩ | ⟨a, len, cap, m, n, D, Pl, hcs, hba, hl, hm, hmm, hx, hrow⟩
  · simp at hcs
    subst hcs
    exact ⟨none, 0, 0, fun _ => [], fun _ => [], rfl, fun i hi => absurd hi (Nat.not_lt_zero _), by decide, fun i hi => absurd hi (Nat.not_lt_zero _), by decide⟩
  · simp at hcs
    subst hcs
    simp only [if_true] at hmm
    subst hmm
    have hx1 : y.1 = _ := congrArg Prod.fst hx
    rw [hx1] at hb
    simp only [Rows.uptoBulk] at hb
    have hD : ∀ i, i < len → Rows.uptoBulk (D i) ≤ 1048576 := fun i hi => by
      have := bulk_mem D (List.range len) i (List.mem_range.2 hi)
      omega
    have each : ∀ i, i < len → ∃ q : Tx × Tx × Option Addr × Nat, W.cell? (a.add (i * 2)) = some (encStr q.1) ∧ W.cell? (a.add (i * 2 + 1)) = some (.slice q.2.2.1 q.2.1.length q.2.2.2) ∧ Rx W q.2.2.1 q.2.1 ∧ 1 + q.2.1.length + q.1.length ≤ Rows.uptoBulk (D i) := by
      intro i hi
      obtain ⟨cs', h1, h2⟩ := hrow i (by omega)
      rw [show Try.prog.cellsOf 63 = 2 by kernel_rfl] at h1
      obtain ⟨_, hlen', hcell⟩ := World.cells?_some h1
      obtain ⟨xs, m9, _, hy, hl9, hlen9, hf⟩ := DataW.trod_struct Try.underlying63 h2
      have ns : Try.prog.cellsOf 9 = 1 := by kernel_rfl
      have nb : Try.prog.cellsOf 26 = 1 := by kernel_rfl
      have hl' : cs'.length = 2 := hl9.trans (by kernel_rfl)
      match xs, hlen9, cs', hl' with
      | [y0, y1], _, [c0, c1], _ =>
        have f0 := hf 0 _ rfl
        have f1 := hf 1 _ rfl
        simp [ns, nb] at f0 f1
        obtain ⟨s1, e1, x1, _⟩ := DataW.trod_string Try.underlying9 f0
        obtain ⟨p4, q4, d, e4, hd, hbd, hcap⟩ := bytes_tx f1
        have k0 := hcell 0 (by decide)
        have k1 := hcell 1 (by decide)
        rw [Go.Deep.add_add] at k0 k1
        simp only [List.cons.injEq, and_true] at e1
        subst e1 e4
        refine ⟨(s1.data.toList, d, p4, q4), ?_, ?_, hd, ?_⟩
        · rw [Nat.add_zero] at k0
          rw [k0]
          simp [← enc_back]
        · rw [k1]
          simp
        · have hy1 : D i = _ := congrArg Prod.fst hy
          rw [hy1]
          simp only [List.map_cons, List.map_nil, Rows.uptoBulk, Rows.uptoBulkAll, x1]
          show 1 + d.length + s1.data.toList.length ≤ _
          omega
    haveI : Inhabited (Tx × Tx × Option Addr × Nat) := ⟨([], [], none, 0)⟩
    obtain ⟨Q, hQ⟩ := Go.Deep.choose_lt each
    have hsum := sum_le (fun i => 1 + (Q i).2.1.length) D (List.range len) (fun i hi => by have := (hQ i (List.mem_range.1 hi)).2.2.2; omega)
    have hez : fsz (fls (fun i => (Q i).1) (fun i => (Q i).2.1) len) = ((List.range len).map fun i => 1 + (Q i).2.1.length).sum := by unfold fsz fls; rw [List.map_map]; rfl
    have hlen : len ≤ ((List.range len).map fun i => 1 + (Q i).2.1.length).sum := by
      have h9 := sum_len (fun i => (Q i).2.1.length) (List.range len)
      rw [List.length_range] at h9
      exact h9
    refine ⟨some a, len, m, fun i => (Q i).1, fun i => (Q i).2.1, rfl, fun i hi => ?_, by omega, fun i hi => ?_, by omega⟩
    · obtain ⟨h1, h2, h3, _⟩ := hQ i hi
      obtain ⟨b, o, rfl⟩ := spot_no (v := encStr (Q 0).1) (by have := (hQ 0 (by omega)).1; rw [Nat.zero_mul] at this; exact this)
      rw [add_pl] at h1 h2
      exact ⟨b, o, (Q i).2.2.1, (Q i).2.2.2, rfl, h1, by rw [Nat.add_assoc]; exact h2, h3⟩
    · have h1 := (hQ i hi).2.2.2
      have h2 := hD i hi
      show (Q i).1.length ≤ _
      omega
theorem list9 {α : Type} {l : List α} (h : l.length = 9) : ∃ c0 c1 c2 c3 c4 c5 c6 c7 c8, l = [c0, c1, c2, c3, c4, c5, c6, c7, c8] := by
  match l, h with
  | [c0, c1, c2, c3, c4, c5, c6, c7, c8], _ => exact ⟨c0, c1, c2, c3, c4, c5, c6, c7, c8, rfl⟩
set_option maxRecDepth 100000 in
theorem keep_of {H : Type} {enc : TypeId × Value → H} {W : World} {n : Nat} {cs : List Value} {y : DataW H × List MemPlace} (h : DataW.trod enc Try.prog W 0 (fun _ => true) true n 32 cs = some y) (hb : Rows.uptoBulk y.1 ≤ 1048576) :
    ∃ (how room : Int) (p : Option Addr) (k c : Nat) (nm' dt : Nat → Tx) (pa : Option Addr) (ca : Nat) (LA : List Atp) (nm : Tx) (pd : Option Addr) (cd : Nat) (d : Tx) (pm : Option Addr) (cm : Nat) (LM : List Atp) (qd : Option Addr) (cq : Nat) (dirs : List Bool) (qc : Option Addr) (cc : Nat) (cuts : List Int), cs = (kpC how room (.slice p k c) (.slice pa LA.length ca) nm (.slice pd d.length cd) (.slice pm LM.length cm) (.slice qd dirs.length cq) (.slice qc cuts.length cc)).toList ∧ KeepAt W p k nm' dt pa LA nm pd d pm LM qd dirs qc cuts := by
  obtain ⟨xs, m, _, hy, hl, hlen, hf⟩ := DataW.trod_struct Try.underlying32 h
  have hl' : cs.length = 9 := hl.trans (by kernel_rfl)
  obtain ⟨c0, c1, c2, c3, c4, c5, c6, c7, c8, rfl⟩ := list9 hl'
  have n0 : Try.prog.cellsOf 24 = 3 := by kernel_rfl
  have n1 : Try.prog.cellsOf 25 = 1 := by kernel_rfl
  have ns : Try.prog.cellsOf 9 = 1 := by kernel_rfl
  have ni : Try.prog.cellsOf 3 = 1 := by kernel_rfl
  have nb : Try.prog.cellsOf 26 = 1 := by kernel_rfl
  have nf : Try.prog.cellsOf 30 = 2 := by kernel_rfl
  have nF : Try.prog.cellsOf 22 = 1 := by kernel_rfl
  have nd : Try.prog.cellsOf 27 = 1 := by kernel_rfl
  have nc : Try.prog.cellsOf 28 = 1 := by kernel_rfl
  match xs, hlen with
  | [y0, y1, y2, y3, y4, y5], _ =>
    have f0 := hf 0 _ rfl
    have f1 := hf 1 _ rfl
    have f2 := hf 2 _ rfl
    have f3 := hf 3 _ rfl
    have f4 := hf 4 _ rfl
    have f5 := hf 5 _ rfl
    simp [n0, n1, ns, nb, nf] at f0 f1 f2 f3 f4 f5
    obtain ⟨ts, m8, _, hy0, _, htl, hs⟩ := DataW.trod_struct Try.underlying24 f0
    obtain ⟨zs, m9, _, hy5, _, hzl, hg⟩ := DataW.trod_struct Try.underlying30 f5
    match ts, htl, zs, hzl with
    | [t0, t1, t2], _, [z0, z1], _ =>
      have s0 := hs 0 _ rfl
      have s1 := hs 1 _ rfl
      have s2 := hs 2 _ rfl
      simp [ni, nF] at s0 s1 s2
      have g0 := hg 0 _ rfl
      have g1 := hg 1 _ rfl
      simp [nd, nc] at g0 g1
      have hy1 : y.1 = _ := congrArg Prod.fst hy
      have hy01 : y0.1 = _ := congrArg Prod.fst hy0
      have hy51 : y5.1 = _ := congrArg Prod.fst hy5
      rw [hy1] at hb
      simp only [List.map_cons, List.map_nil, Rows.uptoBulk, Rows.uptoBulkAll, hy51, hy01] at hb
      obtain ⟨how, e0, _, _⟩ := DataW.trod_int Try.underlying3 s0
      obtain ⟨room, e1, _, _⟩ := DataW.trod_int Try.underlying3 s1
      obtain ⟨p, k, c, nm', dt, e2, hfl, hfz, hfx, hfn⟩ := files_of s2 (by omega)
      obtain ⟨pa, ca, LA, e3, hac, haz, han⟩ := acts_of f1 (by omega)
      obtain ⟨s4, e4, x4, _⟩ := DataW.trod_string Try.underlying9 f2
      obtain ⟨pd, cd, d, e5, hd, hbd, hcap⟩ := bytes_tx f3
      obtain ⟨pm, cm, LM, e6, hmc, hmz, hmn⟩ := acts_of f4 (by omega)
      obtain ⟨qd, nqd, cq, dirs, e7, hdl, hbq, hnq, hdn⟩ := bls_of g0
      obtain ⟨qc, nqc, cc, cuts, e8, hcl, hiq, hnc, hcn⟩ := ils_of g1
      simp only [List.cons.injEq, and_true] at e0 e1 e4
      subst e0 e1 e2 e3 e4 e5 e6 e7 e8 hdl hcl
      simp only [Rows.uptoBulk, x4] at hb
      refine ⟨how, room, p, k, c, nm', dt, pa, ca, LA, s4.data.toList, pd, cd, d, pm, cm, LM, qd, cq, dirs, qc, cc, cuts, ?_, ⟨hfl, hfz, hfx, hfn, hac, by omega, han, ?_, hd, by omega, hmc, by omega, hmn, hbq, by omega, hiq, by omega, fun b o e h0 => ?_⟩⟩
      · simp only [kpC, ← enc_back]
      · have : s4.data.toList.length ≤ 1048576 := by omega
        exact this
      · obtain ⟨b', o', e', hc⟩ := hiq 0 h0
        rw [e] at e'
        injection e' with e'
        injection e' with e1 e2
        subst e1
        exact block_lt_of_cell hc
end Go.Proofs.Ytaddgmbglhdfdaa
