/-
  What the laws of wound are handed, opened.
-/
import Derived.Test.YtjjncajfljbegaaRows
import Derived.Test.YtjjncajfljbegaaLwF
import Derived.WalkKit
import Derived.ProofKit
import Derived.SizedLaws
import Derived.OpenShut
import Derived.ShutString
import Derived.Deep.Slices
import Derived.Deep.Matrix
import Derived.ChangeOld
import Derived.Below
namespace Go.Proofs.Ytjjncajfljbegaa
open Go.ChangeShapes Go.WideShapes Go.ChangeAt Go.RowKit
theorem spot_no {w : World} {a : Addr} {v : Value} (h : w.cell? (a.add 0) = some v) : ∃ b o, a = ⟨b, o, none⟩ := by
  obtain ⟨b, off, spot⟩ := a
  have hs : spot = none := by simpa [Addr.add] using World.cell?_spot h
  subst hs
  exact ⟨b, off, rfl⟩
theorem bulk_lits {H : Type} : ∀ (zs : List Int), zs.length ≤ Rows.uptoBulkAll (zs.map fun z => (DataW.lit (.int .u8 z) : DataW H))
  | [] => Nat.zero_le _
  | z :: zs => by
    have := bulk_lits (H := H) zs
    simp only [List.map_cons, Rows.uptoBulkAll, Rows.uptoBulk, List.length_cons]
    omega
/-- A row of bytes that is handed in. -/
theorem bytes_tx {H : Type} {enc : TypeId × Value → H} {W : World} {n : Nat} {v : Value} {y : DataW H × List MemPlace} (h : DataW.trod enc Try.prog W 0 (fun _ => true) true n 29 [v] = some y) : ∃ (p : Option Addr) (c : Nat) (d : Tx), v = .slice p d.length c ∧ Rx W p d ∧ d.length ≤ Rows.uptoBulk y.1 ∧ d.length ≤ c := by
  rcases open_ints Try.underlying29 Try.underlying5 (by kernel_rfl) h with ⟨hcs, hx⟩ | ⟨x, l, c, zs, hcs, _, hl, hm, hz, hx, hcell, hwz⟩
  · simp at hcs
    subst hcs
    exact ⟨none, 0, [], rfl, .inl rfl, Nat.zero_le _, Nat.le_refl _⟩
  · simp at hcs
    subst hcs
    simp only [if_true] at hz
    refine ⟨some x, c, (zs.take l).map (fun z => UInt8.ofNat z.toNat), ?_, ?_, ?_, by rw [List.length_map, List.length_take]; omega⟩
    · have : ((zs.take l).map (fun z => UInt8.ofNat z.toNat)).length = l := by rw [List.length_map, List.length_take]; omega
      rw [this]
    · by_cases h0 : l = 0
      · left; rw [h0]; rfl
      · obtain ⟨b, o, rfl⟩ := spot_no (hcell 0 (by omega))
        refine .inr ⟨b, o, rfl, fun i hi => ?_⟩
        rw [List.length_map, List.length_take] at hi
        rw [← add_pl, hcell i (by omega)]
        have hiz : i < zs.length := by omega
        have hb := bounds_u8 (hwz zs[i] (List.getElem_mem _))
        simp only [List.getD_eq_getElem?_getD, List.getElem?_map, List.getElem?_take, List.getElem?_eq_getElem hiz, if_pos (show i < l by omega), Option.map_some, Option.getD_some]
        unfold u8v
        rw [UInt8.toNat_ofNat']
        congr 2
        omega
    · have hx1 : y.1 = _ := congrArg Prod.fst hx
      rw [hx1]
      simp only [Rows.uptoBulk]
      have := bulk_lits (H := H) (zs.take l)
      rw [List.length_map]
      simp only [lits] at *
      omega
theorem slc_of {H : Type} {enc : TypeId × Value → H} {W : World} {n : Nat} {v : Value} {t e : TypeId} {y : DataW H × List MemPlace} (ht : Try.prog.underlying t = some (.slice e)) (h : DataW.trod enc Try.prog W 0 (fun _ => true) true n t [v] = some y) : ∃ (p : Option Addr) (n c : Nat), v = .slice p n c := by
  rcases Go.Deep.open_slice ht h with ⟨hcs, _⟩ | ⟨a, len, cap, m, n, D, Pl, hcs, _⟩
  · simp at hcs; exact ⟨_, _, _, hcs⟩
  · simp at hcs; exact ⟨_, _, _, hcs⟩
theorem list11 {α : Type} {l : List α} (h : l.length = 11) : ∃ c0 c1 c2 c3 c4 c5 c6 c7 c8 c9 c10, l = [c0, c1, c2, c3, c4, c5, c6, c7, c8, c9, c10] := by
  match l, h with
  | [c0, c1, c2, c3, c4, c5, c6, c7, c8, c9, c10], _ => exact ⟨c0, c1, c2, c3, c4, c5, c6, c7, c8, c9, c10, rfl⟩
theorem step_of {H : Type} {enc : TypeId × Value → H} {W : World} {n : Nat} {cs : List Value} {y : DataW H × List MemPlace} (h : DataW.trod enc Try.prog W 0 (fun _ => true) true n 36 cs = some y) : ∃ (k : Int) (s : Sp) (d : Tx), cs = (s.v k).toList ∧ Rx W s.pd d ∧ d.length = s.nd ∧ s.x.length + s.y.length + 1 + d.length ≤ Rows.uptoBulk y.1 ∧ s.nd ≤ s.cd := by
  obtain ⟨xs, m, _, hy, hl, hlen, hf⟩ := DataW.trod_struct Try.underlying36 h
  have hl' : cs.length = 11 := hl.trans (by kernel_rfl)
  obtain ⟨c0, c1, c2, c3, c4, c5, c6, c7, c8, c9, c10, rfl⟩ := list11 hl'
  have ns : Try.prog.cellsOf 9 = 1 := by kernel_rfl
  have ni : Try.prog.cellsOf 3 = 1 := by kernel_rfl
  have nb : Try.prog.cellsOf 29 = 1 := by kernel_rfl
  have no : Try.prog.cellsOf 4 = 1 := by kernel_rfl
  have np : Try.prog.cellsOf 30 = 1 := by kernel_rfl
  have nf : Try.prog.cellsOf 34 = 2 := by kernel_rfl
  match xs, hlen with
  | [y0, y1, y2, y3, y4, y5, y6, y7, y8, y9], _ =>
    have f0 := hf 0 _ rfl
    have f1 := hf 1 _ rfl
    have f2 := hf 2 _ rfl
    have f3 := hf 3 _ rfl
    have f4 := hf 4 _ rfl
    have f5 := hf 5 _ rfl
    have f6 := hf 6 _ rfl
    have f7 := hf 7 _ rfl
    have f8 := hf 8 _ rfl
    have f9 := hf 9 _ rfl
    simp [ns, ni, nb, no, np, nf] at f0 f1 f2 f3 f4 f5 f6 f7 f8 f9
    obtain ⟨k, e0, x0, _⟩ := DataW.trod_int Try.underlying3 f0
    obtain ⟨s1, e1, x1, _⟩ := DataW.trod_string Try.underlying9 f1
    obtain ⟨s2, e2, x2, _⟩ := DataW.trod_string Try.underlying9 f2
    obtain ⟨p3, q3, d, e3, hd, hb, hcap⟩ := bytes_tx f3
    obtain ⟨a4, e4, x4, _⟩ := DataW.trod_int Try.underlying3 f4
    obtain ⟨a5, e5, x5, _⟩ := DataW.trod_int Try.underlying3 f5
    obtain ⟨a6, e6, x6, _⟩ := DataW.trod_int Try.underlying3 f6
    obtain ⟨b7, e7, x7⟩ := DataW.trod_bool Try.underlying4 f7
    obtain ⟨p8, n8, q8, e8⟩ := slc_of Try.underlying30 f8
    obtain ⟨zs, m9, _, _, _, hzl, hg⟩ := DataW.trod_struct Try.underlying34 f9
    match zs, hzl with
    | [z0, z1], _ =>
      have nd : Try.prog.cellsOf 31 = 1 := by kernel_rfl
      have nc : Try.prog.cellsOf 32 = 1 := by kernel_rfl
      have g0 := hg 0 _ rfl
      have g1 := hg 1 _ rfl
      simp [nd, nc] at g0 g1
      obtain ⟨p9, n9, q9, e9⟩ := slc_of Try.underlying31 g0
      obtain ⟨p10, n10, q10, e10⟩ := slc_of Try.underlying32 g1
      simp only [List.cons.injEq, and_true] at e0 e1 e2 e4 e5 e6 e7
      subst e0 e1 e2 e3 e4 e5 e6 e7 e8 e9 e10
      refine ⟨k, ⟨s1.data.toList, s2.data.toList, p3, d.length, q3, a4, a5, a6, b7, p8, n8, q8, p9, n9, q9, p10, n10, q10⟩, d, ?_, hd, rfl, ?_, hcap⟩
      · simp only [Sp.v, ← enc_back]
      · have hy1 : y.1 = _ := congrArg Prod.fst hy
        rw [hy1]
        simp only [List.map_cons, List.map_nil, Rows.uptoBulk, Rows.uptoBulkAll, x1, x2]
        omega
theorem sum_le {α H : Type} (f : α → Nat) (g : α → DataW H) : ∀ l : List α, (∀ a ∈ l, f a ≤ Rows.uptoBulk (g a)) → (l.map f).sum ≤ Rows.uptoBulkAll (l.map g)
  | [], _ => Nat.zero_le _
  | a :: l, h => by
    have h1 := h a (by simp)
    have h2 := sum_le f g l (fun b hb => h b (by simp [hb]))
    simp only [List.map_cons, List.sum_cons, Rows.uptoBulkAll]
    omega
theorem sum_len {α : Type} (f : α → Nat) : ∀ l : List α, l.length ≤ (l.map fun i => 1 + f i).sum
  | [] => Nat.le_refl _
  | a :: l => by
    have := sum_len f l
    simp only [List.map_cons, List.sum_cons, List.length_cons]
    omega
theorem bulk_mem {α H : Type} (g : α → DataW H) : ∀ (l : List α) (a : α), a ∈ l → Rows.uptoBulk (g a) ≤ Rows.uptoBulkAll (l.map g)
  | b :: l, a, h => by
    simp only [List.map_cons, Rows.uptoBulkAll]
    rcases List.mem_cons.1 h with rfl | h
    · omega
    · have := bulk_mem g l a h
      omega
/-- A script that is handed in. -/
theorem script_of {H : Type} {enc : TypeId × Value → H} {W : World} {n : Nat} {v : Value} {y : DataW H × List MemPlace} (h : DataW.trod enc Try.prog W 0 (fun _ => true) true n 22 [v] = some y) (hb : Rows.uptoBulk y.1 ≤ 1048576) : ∃ (p : Option Addr) (n c : Nat) (L : List Stp), v = .slice p n c ∧ L.length = n ∧ ScAt W p L ∧ tot L ≤ 1048576 ∧ n ≤ 1048576 := by
  rcases Go.Deep.open_slice Try.underlying22 h with ⟨hcs, _⟩ | ⟨a, len, cap, m, n, D, Pl, hcs, hba, hl, hm, hmm, hx, hrow⟩
  · simp at hcs
    subst hcs
    exact ⟨none, 0, 0, [], rfl, rfl, fun i hi => absurd hi (Nat.not_lt_zero _), by decide, by decide⟩
  · simp at hcs
    subst hcs
    simp only [if_true] at hmm
    subst hmm
    have hx1 : y.1 = _ := congrArg Prod.fst hx
    rw [hx1] at hb
    simp only [Rows.uptoBulk] at hb
    have each : ∀ i, i < len → ∃ q : Stp, (∀ j, j < 11 → W.cell? (a.add (i * 11 + j)) = (q.2.1.v q.1)[j]?) ∧ Rx W q.2.1.pd q.2.2 ∧ q.2.2.length = q.2.1.nd ∧ q.2.1.x.length + q.2.1.y.length + 1 + q.2.2.length ≤ Rows.uptoBulk (D i) ∧ q.2.1.nd ≤ q.2.1.cd := by
      intro i hi
      obtain ⟨cs', h1, h2⟩ := hrow i (by omega)
      rw [show Try.prog.cellsOf 36 = 11 by kernel_rfl] at h1
      obtain ⟨_, hlen', hcell⟩ := World.cells?_some h1
      obtain ⟨k, s, d, hcs', hr, hdl, hbk⟩ := step_of h2
      refine ⟨(k, s, d), fun j hj => ?_, hr, hdl, hbk⟩
      have e := hcell j hj
      rw [Go.Deep.add_add] at e
      rw [e, hcs']
      simp
    haveI : Inhabited Stp := ⟨(0, ⟨[], [], none, 0, 0, 0, 0, 0, false, none, 0, 0, none, 0, 0, none, 0, 0⟩, [])⟩
    obtain ⟨Q, hQ⟩ := Go.Deep.choose_lt each
    have hsum := sum_le (fun i => 1 + (Q i).2.2.length) D (List.range len) (fun i hi => by have := (hQ i (List.mem_range.1 hi)).2.2.2.1; omega)
    have htot : tot ((List.range len).map Q) ≤ 1048576 := by
      unfold tot
      rw [List.map_map]
      have : ((List.range len).map ((fun s : Stp => 1 + s.2.2.length) ∘ Q)).sum = ((List.range len).map fun i => 1 + (Q i).2.2.length).sum := rfl
      omega
    have hlen : len ≤ ((List.range len).map fun i => 1 + (Q i).2.2.length).sum := by
      have := sum_len (fun i => (Q i).2.2.length) (List.range len)
      simpa using this
    refine ⟨some a, len, m, (List.range len).map Q, rfl, by simp, fun i hi => ?_, htot, by omega⟩
    have hi' : i < len := by simpa using hi
    obtain ⟨hc, hr, hdl, hbk, hcap⟩ := hQ i hi'
    have hD : Rows.uptoBulk (D i) ≤ 1048576 := by
      have := bulk_mem D (List.range len) i (List.mem_range.2 hi')
      omega
    obtain ⟨b, o, rfl⟩ := spot_no (v := .int .i64 (Q 0).1) (by have := (hQ 0 (by omega)).1 0 (by decide); rw [Nat.zero_mul] at this; exact this)
    have hcc : ∀ j, j < 11 → W.cell? ⟨b, o + i * 11 + j, none⟩ = ((Q i).2.1.v (Q i).1)[j]? := fun j hj => by
      have := hc j hj
      rw [add_pl, ← Nat.add_assoc] at this
      exact this
    have e : ((List.range len).map Q)[i] = Q i := by simp
    rw [e]
    refine ⟨b, o, rfl, ⟨hcc 0 (by decide), hcc 1 (by decide), hcc 2 (by decide), hcc 3 (by decide), hcc 4 (by decide), hcc 5 (by decide), hcc 6 (by decide), hcc 7 (by decide), hcc 8 (by decide), hcc 9 (by decide), hcc 10 (by decide)⟩, hr, hdl, by omega, by omega, hcap⟩
end Go.Proofs.Ytjjncajfljbegaa
