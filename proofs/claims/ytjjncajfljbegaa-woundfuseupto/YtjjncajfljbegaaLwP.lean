/-
  A Job that is handed in, opened.
-/
import Derived.Test.YtjjncajfljbegaaLwO
import Derived.Test.YtjjncajfljbegaaLwH
import Derived.Deep.Grids
namespace Go.Proofs.Ytjjncajfljbegaa
open Go.ChangeShapes Go.WideShapes Go.ChangeAt Go.RowKit
theorem bulk_ints {H : Type} {k : IntKind} : ∀ (zs : List Int), zs.length ≤ Rows.uptoBulkAll (zs.map fun z => (DataW.lit (.int k z) : DataW H))
  | [] => Nat.zero_le _
  | z :: zs => by
    have := bulk_ints (H := H) (k := k) zs
    simp only [List.map_cons, Rows.uptoBulkAll, Rows.uptoBulk, List.length_cons]
    omega
theorem bulk_bools {H : Type} (B : Nat → Bool) : ∀ (l : List Nat), l.length ≤ Rows.uptoBulkAll (l.map fun i => (DataW.lit (.bool (B i)) : DataW H))
  | [] => Nat.zero_le _
  | z :: zs => by
    have := bulk_bools (H := H) B zs
    simp only [List.map_cons, Rows.uptoBulkAll, Rows.uptoBulk, List.length_cons]
    omega
/-- A row of numbers that is handed in. -/
theorem ils_of {H : Type} {enc : TypeId × Value → H} {W : World} {n : Nat} {v : Value} {y : DataW H × List MemPlace} (h : DataW.trod enc Try.prog W 0 (fun _ => true) true n 32 [v] = some y) : ∃ (p : Option Addr) (n c : Nat) (d : List Int), v = .slice p n c ∧ d.length = n ∧ Ils W p d ∧ n ≤ Rows.uptoBulk y.1 ∧ (p = none → n = 0 ∧ c = 0) := by
  rcases open_ints Try.underlying32 Try.underlying3 (by kernel_rfl) h with ⟨hcs, hx⟩ | ⟨x, l, c, zs, hcs, _, hl, hm, hz, hx, hcell, hwz⟩
  · simp at hcs
    subst hcs
    exact ⟨none, 0, 0, [], rfl, rfl, fun i hi => absurd hi (Nat.not_lt_zero _), Nat.zero_le _, fun _ => ⟨rfl, rfl⟩⟩
  · simp at hcs
    subst hcs
    simp only [if_true] at hz
    have htl : (zs.take l).length = l := by rw [List.length_take]; omega
    refine ⟨some x, l, c, zs.take l, rfl, htl, fun i hi => ?_, ?_, fun e => by cases e⟩
    · rw [htl] at hi
      obtain ⟨b, o, rfl⟩ := spot_no (hcell 0 (by omega))
      refine ⟨b, o, rfl, ?_⟩
      rw [← add_pl, hcell i (by omega)]
      have hiz : i < zs.length := by omega
      simp [hiz, hi]
    · have hx1 : y.1 = _ := congrArg Prod.fst hx
      rw [hx1]
      simp only [Rows.uptoBulk]
      have := bulk_ints (H := H) (k := .i64) (zs.take l)
      rw [htl] at this
      simp only [lits] at *
      omega
/-- A row of truths that is handed in. -/
theorem bls_of {H : Type} {enc : TypeId × Value → H} {W : World} {n : Nat} {v : Value} {y : DataW H × List MemPlace} (h : DataW.trod enc Try.prog W 0 (fun _ => true) true n 31 [v] = some y) : ∃ (p : Option Addr) (n c : Nat) (d : List Bool), v = .slice p n c ∧ d.length = n ∧ Bls W p d ∧ n ≤ Rows.uptoBulk y.1 ∧ (p = none → n = 0 ∧ c = 0) := by
  rcases Go.Deep.open_bools Try.underlying31 Try.underlying4 (by kernel_rfl) h with ⟨hcs, hx⟩ | ⟨x, l, c, B, hcs, _, hl, hm, hx, hcell⟩
  · simp at hcs
    subst hcs
    exact ⟨none, 0, 0, [], rfl, rfl, fun i hi => absurd hi (Nat.not_lt_zero _), Nat.zero_le _, fun _ => ⟨rfl, rfl⟩⟩
  · simp at hcs
    subst hcs
    refine ⟨some x, l, c, (List.range l).map B, rfl, by simp, fun i hi => ?_, ?_, fun e => by cases e⟩
    · have hi' : i < l := by simpa using hi
      obtain ⟨b, o, rfl⟩ := spot_no (hcell 0 (by omega))
      refine ⟨b, o, rfl, ?_⟩
      rw [← add_pl, hcell i (by omega)]
      simp [hi']
    · have hx1 : y.1 = _ := congrArg Prod.fst hx
      rw [hx1]
      have := bulk_bools (H := H) B (List.range l)
      simp only [Go.Deep.boolRow, Rows.uptoBulk]
      rw [List.length_range] at this
      omega
theorem list7 {α : Type} {l : List α} (h : l.length = 7) : ∃ c0 c1 c2 c3 c4 c5 c6, l = [c0, c1, c2, c3, c4, c5, c6] := by
  match l, h with
  | [c0, c1, c2, c3, c4, c5, c6], _ => exact ⟨c0, c1, c2, c3, c4, c5, c6, rfl⟩
theorem job_of {H : Type} {enc : TypeId × Value → H} {W : World} {n : Nat} {cs : List Value} {y : DataW H × List MemPlace} (h : DataW.trod enc Try.prog W 0 (fun _ => true) true n 51 cs = some y) (hb : Rows.uptoBulk y.1 ≤ 1048576) :
    ∃ (rm : Int) (pa : Option Addr) (na cpa : Nat) (LA : List Stp) (pb : Option Addr) (nb cpb : Nat) (LB : List Stp) (cl ins : Int) (qd : Option Addr) (nqd cqd : Nat) (dirs : List Bool) (qc : Option Addr) (nqc cqc : Nat) (cuts : List Int), cs = [.int .i64 rm, .slice pa na cpa, .slice pb nb cpb, .int .i64 cl, .int .i64 ins, .slice qd nqd cqd, .slice qc nqc cqc] ∧ LA.length = na ∧ LB.length = nb ∧ dirs.length = nqd ∧ cuts.length = nqc ∧ ScAt W pa LA ∧ ScAt W pb LB ∧ Bls W qd dirs ∧ Ils W qc cuts ∧ (qd = none → nqd = 0 ∧ cqd = 0) ∧ (qc = none → nqc = 0 ∧ cqc = 0) ∧ tot LA ≤ 10000000 ∧ tot LB ≤ 10000000 ∧ na ≤ 10000000 ∧ nb ≤ 10000000 ∧ nqd ≤ 10000000 ∧ nqc ≤ 10000000 ∧ (-9223372036854775808 ≤ cl ∧ cl ≤ 9223372036854775807) ∧ (-9223372036854775808 ≤ ins ∧ ins ≤ 9223372036854775807) := by
  obtain ⟨xs, m, _, hy, hl, hlen, hf⟩ := DataW.trod_struct Try.underlying51 h
  have hl' : cs.length = 7 := hl.trans (by kernel_rfl)
  obtain ⟨c0, c1, c2, c3, c4, c5, c6, rfl⟩ := list7 hl'
  have ni : Try.prog.cellsOf 3 = 1 := by kernel_rfl
  have nt : Try.prog.cellsOf 22 = 1 := by kernel_rfl
  have nf : Try.prog.cellsOf 34 = 2 := by kernel_rfl
  match xs, hlen with
  | [y0, y1, y2, y3, y4, y5], _ =>
    have f0 := hf 0 _ rfl
    have f1 := hf 1 _ rfl
    have f2 := hf 2 _ rfl
    have f3 := hf 3 _ rfl
    have f4 := hf 4 _ rfl
    have f5 := hf 5 _ rfl
    simp [ni, nt, nf] at f0 f1 f2 f3 f4 f5
    obtain ⟨rm, e0, _, _⟩ := DataW.trod_int Try.underlying3 f0
    obtain ⟨cl, e3, _, w3⟩ := DataW.trod_int Try.underlying3 f3
    obtain ⟨ins, e4, _, w4⟩ := DataW.trod_int Try.underlying3 f4
    obtain ⟨zs, m9, _, hy5, _, hzl, hg⟩ := DataW.trod_struct Try.underlying34 f5
    match zs, hzl with
    | [z0, z1], _ =>
      have nd : Try.prog.cellsOf 31 = 1 := by kernel_rfl
      have nc : Try.prog.cellsOf 32 = 1 := by kernel_rfl
      have g0 := hg 0 _ rfl
      have g1 := hg 1 _ rfl
      simp [nd, nc] at g0 g1
      have hy1 : y.1 = _ := congrArg Prod.fst hy
      have hy51 : y5.1 = _ := congrArg Prod.fst hy5
      rw [hy1] at hb
      simp only [List.map_cons, List.map_nil, Rows.uptoBulk, Rows.uptoBulkAll, hy51] at hb
      obtain ⟨pa, na, cpa, LA, e1, hla, hSa, hta, hna⟩ := script_of f1 (by omega)
      obtain ⟨pb, nb, cpb, LB, e2, hlb, hSb, htb, hnb⟩ := script_of f2 (by omega)
      obtain ⟨qd, nqd, cqd, dirs, e5, hdl, hbd, hnd, hdn⟩ := bls_of g0
      obtain ⟨qc, nqc, cqc, cuts, e6, hcl, hbc, hnc, hcn⟩ := ils_of g1
      simp only [List.cons.injEq, and_true] at e0 e3 e4
      subst e0 e1 e2 e3 e4 e5 e6
      have b3 := bounds_i64 w3
      have b4 := bounds_i64 w4
      exact ⟨rm, pa, na, cpa, LA, pb, nb, cpb, LB, cl, ins, qd, nqd, cqd, dirs, qc, nqc, cqc, cuts, rfl, hla, hlb, hdl, hcl, hSa, hSb, hbd, hbc, hdn, hcn, by omega, by omega, by omega, by omega, by omega, by omega, by omega, by omega⟩
end Go.Proofs.Ytjjncajfljbegaa
