/-
  A proof of Rows.CodecBackUptoSaid: the frame for a list of things, after the guide's shell writer; the walk by hand.
-/
import Derived.Test.YtmcbeikgdcgdcaaRows
import Derived.Test.YtmcbeikgdcgdcaaBkW
import Derived.Deep.CondSized
import Derived.JoinedCond
import Derived.Deep.Slices
import Derived.Deep.Matrix
import Derived.SizedLaws
import Derived.SliceStrings
import Derived.WalkKit
import Derived.ProofKit
import Derived.OpenShut
import Derived.ShutString
import Derived.ChangeOld
import Derived.Below
namespace Go.Proofs.Ytmcbeikgdcgdcaa.codecBack
open Go.ChangeShapes Go.WideShapes Go.ChangeAt Go.RowKit
set_option linter.unusedVariables false

theorem own : ownKnob Try.prog.godebug = none := by kernel_rfl
theorem laidOut : laidOutB Try.prog = true := by kernel_rfl
theorem bulk_one {H : Type} (d : DataW H) : 1 ≤ Rows.uptoBulk d := by
  cases d with
  | lit l => cases l <;> simp [Rows.uptoBulk]
  | _ => simp [Rows.uptoBulk]
theorem bulk_len {H : Type} (l : List (DataW H)) : l.length ≤ Rows.uptoBulkAll l := by
  induction l with
  | nil => simp
  | cons d l ih => have := bulk_one d; simp only [Rows.uptoBulkAll, List.length_cons]; omega
theorem bulk_app {H : Type} (a b : List (DataW H)) : Rows.uptoBulkAll (a ++ b) = Rows.uptoBulkAll a + Rows.uptoBulkAll b := by
  induction a with
  | nil => simp [Rows.uptoBulkAll]
  | cons d a ih => simp only [List.cons_append, Rows.uptoBulkAll, ih]; omega
/-- The bytes of a row that was read. -/
def rowOf (L : Nat) (Z : List Int) : List (BitVec 8) := (Z.take L).map fun z => BitVec.ofNat 8 z.toNat
theorem rowOf_len (L : Nat) (Z : List Int) (h : L ≤ Z.length) : (rowOf L Z).length = L := by simp [rowOf]; omega
theorem spot_none {w : World} {a : Addr} {v : Value} (h : w.cell? (a.add 0) = some v) : ∃ b o, a = ⟨b, o, none⟩ := by
  obtain ⟨b, off, spot⟩ := a
  have hs : spot = none := by simpa [Addr.add] using World.cell?_spot h
  subst hs
  exact ⟨b, off, rfl⟩
theorem rd_of {w : World} {p : Option Addr} {L C : Nat} {Z : List Int} (hl : L ≤ C) (hz : Z.length = C) (hw : ∀ n ∈ Z, (Lit.int .u8 n).wf = true) (hn : p = none → C = 0) (hc : ∀ a', p = some a' → ∀ c, c < C → w.cell? (a'.add c) = some (.int .u8 (Z.getD c 0))) : Rd w p (rowOf L Z) := by
  by_cases h0 : L = 0
  · left; unfold rowOf; rw [h0]; rfl
  · cases p with
    | none => have := hn rfl; omega
    | some a =>
      obtain ⟨b, o, rfl⟩ := spot_none (hc a rfl 0 (by omega))
      refine .inr ⟨b, o, rfl, fun i hi => ?_⟩
      have hi' : i < L := by rw [rowOf_len L Z (by omega)] at hi; exact hi
      have h1 := hc _ rfl i (by omega)
      rw [add_pl] at h1
      rw [h1]
      congr 2
      have h3 : i < Z.length := by omega
      have hb := bounds_u8 (hw _ (List.getElem_mem h3))
      have h2 : (rowOf L Z).getD i 0#8 = BitVec.ofNat 8 (Z[i]).toNat := by
        unfold rowOf
        simp [List.getD, List.getElem?_take_of_lt hi', List.getElem?_eq_getElem h3]
      rw [h2]
      have h4 : Z.getD i 0 = Z[i] := by simp [List.getD, List.getElem?_eq_getElem h3]
      rw [h4]
      unfold el
      rw [BitVec.toNat_ofNat]
      omega

/-- A string's bytes. -/
def unb (s : ByteArray) : List (BitVec 8) := s.data.toList.map (fun u => BitVec.ofNat 8 u.toNat)
theorem unb_len (s : ByteArray) : (unb s).length = s.data.toList.length := by unfold unb; rw [List.length_map]
theorem bstr_unb (s : ByteArray) : bstr (unb s) = s := by
  unfold bstr us unb
  rw [List.map_map]
  have e : s.data.toList.map ((fun b : BitVec 8 => UInt8.ofNat b.toNat) ∘ fun u => BitVec.ofNat 8 u.toNat) = s.data.toList := by
    conv => rhs; rw [← List.map_id s.data.toList]
    apply List.map_congr_left
    intro u _
    show UInt8.ofNat (BitVec.ofNat 8 u.toNat).toNat = u
    rw [BitVec.toNat_ofNat]
    have := u.toNat_lt
    rw [Nat.mod_eq_of_lt (by omega)]
    simp
  rw [e]
theorem tz_strs {H : Type} (ss : List ByteArray) : tz (ss.map unb) ≤ 10 * Rows.uptoBulkAll (strs ss : List (DataW H)) := by
  induction ss with
  | nil => exact Nat.zero_le _
  | cons s ss ih =>
    unfold tz strs at *
    rw [List.map_cons, List.map_cons, List.sum_cons, List.map_cons]
    simp only [Rows.uptoBulkAll, Rows.uptoBulk]
    rw [unb_len]
    omega
theorem rs_of {w : World} {p : Option Addr} {L : Nat} {ss : List ByteArray} (hl : L ≤ ss.length) (hc : ∀ a', p = some a' → ∀ i, i < ss.length → w.cell? (a'.add i) = some (.string (ss.getD i ByteArray.empty))) (hn : p = none → L = 0) : Rs' w p ((ss.take L).map unb) ∧ ((ss.take L).map unb).length = L := by
  have hlen : ((ss.take L).map unb).length = L := by rw [List.length_map, List.length_take]; omega
  refine ⟨?_, hlen⟩
  by_cases h0 : L = 0
  · subst h0; exact .inl rfl
  · cases p with
    | none => exact absurd (hn rfl) h0
    | some a =>
      have h1 := hc a rfl 0 (by omega)
      obtain ⟨b, o, rfl⟩ := spot_none h1
      refine .inr ⟨b, o, rfl, fun i hi => ?_⟩
      rw [hlen] at hi
      have h2 := hc _ rfl i (by omega)
      rw [add_pl] at h2
      rw [h2]
      congr 2
      have e : ((ss.take L).map unb).getD i [] = unb (ss.getD i ByteArray.empty) := by
        have h3 : i < ss.length := by omega
        simp [List.getD, List.getElem?_take_of_lt hi, List.getElem?_eq_getElem h3]
      rw [e, bstr_unb]
theorem eth_len (t : Th) : (eth t).length ≤ 30 + t.B.length + tz t.T := by
  unfold eth
  have h1 := sb_len 9 t.U
  have h2 := sb_len 9 (zg t.S).toNat
  have h3 := bl_len t.B
  have h4 := sb_len 9 t.T.length
  have h5 := tl_len t.T
  split
  all_goals first | (rw [lb_len]; omega) | (rw [List.length_append]; omega) | omega
theorem fa_bulk {H : Type} (g : Nat → List (BitVec 8)) (D : Nat → DataW H) (n : Nat) (h : ∀ i, i < n → (g i).length ≤ 40 * Rows.uptoBulk (D i)) : (fa g 0 n).length ≤ 40 * Rows.uptoBulkAll ((List.range n).map D) := by
  induction n with
  | zero => exact Nat.zero_le _
  | succ n ih =>
    rw [fa_snoc, Nat.zero_add, List.range_succ, List.map_append, bulk_app, List.length_append]
    have h1 := ih (fun i hi => h i (by omega))
    have h2 := h n (by omega)
    have e : Rows.uptoBulkAll [D n] = Rows.uptoBulk (D n) := by simp [Rows.uptoBulkAll]
    simp only [List.map_cons, List.map_nil]
    rw [e]; omega
structure Q1 where
  kk : Int
  t : Th
  pB : Option Addr
  pT : Option Addr
  cB : Nat
  cT : Nat
set_option maxRecDepth 100000 in
set_option maxHeartbeats 4000000 in
theorem lifted (os : Os) (started : os.Started) (H : Type) (enc : TypeId × Value → H) (F : Stop.Interp) :
    ReturnsInHanded {} Try.checked os 6 .any ((Rows.OpenSpec.upto Rows.codecBackSpec).pre6 enc Try.prog Try.f6 Rows.codecBackUptoRow.domain false) (((Rows.OpenSpec.upto Rows.codecBackSpec).at F).post enc Try.prog Try.f6 false true false false) := by
  refine returnsInHanded_of_cond_sized (C := Try.checked) (s := Rows.OpenSpec.upto Rows.codecBackSpec) (k := Rows.uptoSmall) rfl own started (by kernel_rfl) Try.func6
    (OpenSpec.witness (enc := enc) (C := Try.checked) (s := Rows.OpenSpec.upto Rows.codecBackSpec) (k := Rows.uptoSmall) rfl false ⟨#[], #[.slice none 0 0, .int .i64 0], []⟩ 8 (by kernel_rfl) (by kernel_rfl) (by kernel_rfl) (x := ([.nil, .lit (.int .i64 0)], [], [])) (by kernel_rfl) rfl (by kernel_rfl)) ?_
  intro W base args ds gs before hval0 hW hcnd hk hsz0 _
  have hbk : Rows.uptoBulkAll (ds ++ gs) ≤ 1048576 := of_decide_eq_true hk
  clear hk hsz0
  have hval : ∀ (j : Nat) t v, Try.f6.params[j]? = some t → args[j]? = some v → Value.okWide Try.prog W .any base t v := hval0
  have hW' := hW
  obtain ⟨p, q, hA0, hV, rfl, hfz, hnd⟩ := hW
  have hA : DataW.TrodAll enc Try.prog W 0 (fun _ => true) true Try.f6.params.toList args.toList ds p := hA0
  rw [Try.params6] at hA hval
  obtain ⟨v0, vs0, d0, ds0, p0, q0, hargs, rfl, rfl, h0, r0⟩ := trodAll_cons hA
  obtain ⟨v1, vs1, d1, ds1, p1, q1, rfl, rfl, rfl, h1, r1⟩ := trodAll_cons r0
  obtain ⟨rfl, rfl, rfl⟩ := trodAll_nil r1
  obtain rfl : args = #[v0, v1] := by cases args; simp_all
  obtain ⟨rfl, rfl⟩ := trodVars_none hV
  obtain ⟨a0, len0, cap0, rfl⟩ := okWide_slice Try.underlying76 (hval 0 76 v0 rfl rfl)
  obtain ⟨a1, rfl, rfl, rfl, w1⟩ := open_int Try.underlying3 (hval 1 3 v1 rfl rfl) h1
  have k0 := h0
  have lt0 : ∀ x ∈ p0, x.block < W.heap.size := by obtain ⟨m, hm⟩ := k0; exact DataW.trod_lt m _ _ _ hm
  obtain ⟨Q, hm, ht, H1⟩ : ∃ (Q : Nat → Q1), len0 ≤ 1048576 ∧ (fa (fun i => eth (Q i).t) 0 len0).length ≤ 1000000000 ∧ Ths W a0 len0 (fun i => (Q i).kk) (fun i => (Q i).t) (fun i => (Q i).pB) (fun i => (Q i).pT) (fun i => (Q i).cB) (fun i => (Q i).cT) := by
    obtain ⟨fuel, hf⟩ := h0
    have hb0 : Rows.uptoBulk d0 ≤ 1048576 := by
      simp only [List.append_nil, Rows.uptoBulkAll] at hbk
      omega
    rcases Go.Deep.open_slice Try.underlying76 hf with ⟨hcs, _⟩ | ⟨a, len, cap, m, n, D, Pl, hcs, hba, hl, hm, hmm, hx, hrow⟩
    · simp [Value.cells] at hcs
      obtain ⟨rfl, rfl, rfl⟩ := hcs
      exact ⟨fun _ => ⟨0, ⟨0, 0, 0, [], []⟩, none, none, 0, 0⟩, by omega, Nat.zero_le _, fun i hi => by omega⟩
    · simp [Value.cells] at hcs
      obtain ⟨rfl, rfl, rfl⟩ := hcs
      simp only [if_true] at hmm
      subst hmm
      simp only [Prod.mk.injEq] at hx
      rw [hx.1] at hb0
      simp only [Rows.uptoBulk] at hb0
      have hlen := bulk_len ((List.range len0).map D)
      simp only [List.length_map, List.length_range] at hlen
      have each : ∀ i, i < len0 → ∃ q : Q1, W.cell? (a.add (i * 5)) = some (.int .i64 q.kk) ∧ W.cell? (a.add (i * 5 + 1)) = some (.int .u64 (q.t.U : Int)) ∧ W.cell? (a.add (i * 5 + 2)) = some (.int .i64 q.t.S) ∧ W.cell? (a.add (i * 5 + 3)) = some (.slice q.pB q.t.B.length q.cB) ∧ W.cell? (a.add (i * 5 + 4)) = some (.slice q.pT q.t.T.length q.cT) ∧ (Rows.uptoBulk (D i) ≤ 1048576 → Tin W q.kk q.t q.pB q.pT) ∧ (eth q.t).length ≤ 40 * Rows.uptoBulk (D i) := by
        intro i hi
        obtain ⟨cs', h1, h2⟩ := hrow i (by omega)
        rw [show Try.prog.cellsOf 80 = 5 by kernel_rfl] at h1
        obtain ⟨_, hlen', hcell⟩ := World.cells?_some h1
        obtain ⟨xs, k, hk, hxy, _, hxl, hf'⟩ := DataW.trod_struct Try.underlying80 h2
        match xs, hxl, cs', hlen' with
        | [y0, y1, y2, y3, y4], _, [w0, w1, w2, w3, w4], _ =>
          have g0 := hf' 0 _ rfl
          have g1 := hf' 1 _ rfl
          have g2 := hf' 2 _ rfl
          have g3 := hf' 3 _ rfl
          have g4 := hf' 4 _ rfl
          have c1 : Try.prog.cellsOf 3 = 1 := by kernel_rfl
          have c2 : Try.prog.cellsOf 23 = 1 := by kernel_rfl
          have c3 : Try.prog.cellsOf 2 = 1 := by kernel_rfl
          have c4 : Try.prog.cellsOf 22 = 1 := by kernel_rfl
          have c5 : Try.prog.cellsOf 24 = 1 := by kernel_rfl
          simp [c1, c2, c3, c4, c5] at g0 g1 g2 g3 g4
          have e0 := hcell 0 (by omega)
          have e1 := hcell 1 (by omega)
          have e2 := hcell 2 (by omega)
          have e3 := hcell 3 (by omega)
          have e4 := hcell 4 (by omega)
          rw [Go.Deep.add_add] at e0 e1 e2 e3 e4
          simp at e0 e1 e2 e3 e4
          obtain ⟨n0, f0, _, _⟩ := DataW.trod_int Try.underlying3 g0
          injection f0 with f0
          obtain ⟨n1, f1, _, b1⟩ := DataW.trod_int Try.underlying23 g1
          injection f1 with f1
          obtain ⟨n2, f2, _, b2⟩ := DataW.trod_int Try.underlying2 g2
          injection f2 with f2
          have bu := Go.bounds_u64 b1
          obtain ⟨u, rfl⟩ := Int.eq_ofNat_of_zero_le bu.1
          have bs := Go.bounds_i64 b2
          simp only [Prod.mk.injEq] at hxy
          have hbD : Rows.uptoBulk y3.1 + Rows.uptoBulk y4.1 + 3 ≤ Rows.uptoBulk (D i) := by
            rw [hxy.1]
            simp only [List.map_cons, List.map_nil, Rows.uptoBulk, Rows.uptoBulkAll]
            have := bulk_one y0.1
            have := bulk_one y1.1
            have := bulk_one y2.1
            omega
          have hB : ∃ (pB : Option Addr) (B : List (BitVec 8)) (cB : Nat), w3 = .slice pB B.length cB ∧ Rd W pB B ∧ B.length ≤ Rows.uptoBulk y3.1 := by
            rcases open_ints Try.underlying22 Try.underlying5 (by kernel_rfl) g3 with ⟨f3, _⟩ | ⟨x, l, c, zs, f3, _, hl3, hm3, hz3, hx3, hcell3, hwz3⟩
            · injection f3 with f3
              exact ⟨none, [], 0, f3, .inl rfl, Nat.zero_le _⟩
            · injection f3 with f3
              simp only [if_true] at hz3
              refine ⟨some x, rowOf l zs, c, by rw [rowOf_len _ _ (by omega)]; exact f3, rd_of hl3 hz3 hwz3 (fun ha => (by cases ha)) (fun a' ha z hz => ?_), ?_⟩
              · cases ha
                exact hcell3 z (by rw [hz3]; exact hz)
              · rw [rowOf_len _ _ (by omega), hx3]
                simp only [Rows.uptoBulk]
                have h3 := bulk_len (lits .u8 (zs.take l) : List (DataW H))
                simp only [lits, List.length_map, List.length_take] at h3
                simp only [lits]
                omega
          have hT : ∃ (pT : Option Addr) (T : List (List (BitVec 8))) (cT : Nat), w4 = .slice pT T.length cT ∧ Rs' W pT T ∧ tz T ≤ 10 * Rows.uptoBulk y4.1 := by
            rcases open_strings Try.underlying24 Try.underlying9 (by kernel_rfl) g4 with ⟨f4, _⟩ | ⟨x, l, c, ss, f4, _, hl4, hm4, hz4, hx4, hcell4, _⟩
            · injection f4 with f4
              exact ⟨none, [], 0, f4, .inl rfl, Nat.zero_le _⟩
            · injection f4 with f4
              simp only [if_true] at hz4
              obtain ⟨q1, q2⟩ := rs_of (p := some x) (L := l) (ss := ss) (by omega) (fun a' ha i hi => (by cases ha; exact hcell4 i hi)) (fun ha => (by cases ha))
              refine ⟨some x, (ss.take l).map unb, c, by rw [q2]; exact f4, q1, ?_⟩
              rw [hx4]
              simp only [Rows.uptoBulk]
              have := tz_strs (H := H) (ss.take l)
              omega
          obtain ⟨pB, B, cB, rfl, hrB, hlB⟩ := hB
          obtain ⟨pT, T, cT, rfl, hrT, hlT⟩ := hT
          have km := Int.emod_nonneg n0 (by omega : (9 : Int) ≠ 0)
          refine ⟨⟨n0, ⟨(n0 % 9).toNat, u, n2, B, T⟩, pB, pT, cB, cT⟩, by rw [e0, f0], by rw [e1, f1], by rw [e2, f2], by rw [e3], by rw [e4], fun hs => ⟨(Int.toNat_of_nonneg km).symm, by show u < _; omega, bs, hrB, by show B.length ≤ _; omega, hrT, by show tz T ≤ _; omega⟩, ?_⟩
          have := eth_len ⟨(n0 % 9).toNat, u, n2, B, T⟩
          have h5 : B.length ≤ Rows.uptoBulk y3.1 := hlB
          have h6 : tz T ≤ 10 * Rows.uptoBulk y4.1 := hlT
          have h7 : (eth ⟨(n0 % 9).toNat, u, n2, B, T⟩).length ≤ 30 + B.length + tz T := this
          show (eth ⟨(n0 % 9).toNat, u, n2, B, T⟩).length ≤ _
          omega
      have : Inhabited Q1 := ⟨⟨0, ⟨0, 0, 0, [], []⟩, none, none, 0, 0⟩⟩
      obtain ⟨Q, hQ⟩ := Go.Deep.choose_lt each
      have hbr := fa_bulk (H := H) (fun i => eth (Q i).t) D len0 (fun i hi => (hQ i hi).2.2.2.2.2.2)
      have one : ∀ i, i < len0 → Rows.uptoBulk (D i) ≤ Rows.uptoBulkAll ((List.range len0).map D) := by
        intro i hi
        have hs : List.range len0 = List.range i ++ ([i] ++ (List.range len0).drop (i + 1)) := by
          conv => lhs; rw [← List.take_append_drop i (List.range len0)]
          congr 1
          · rw [List.take_range]; congr 1; omega
          · rw [List.drop_eq_getElem_cons (by simpa using hi)]; simp
        rw [hs, List.map_append, List.map_append, bulk_app, bulk_app]
        simp only [List.map_cons, List.map_nil, Rows.uptoBulkAll]
        omega
      refine ⟨Q, by omega, by omega, fun i hi => ?_⟩
      obtain ⟨h1, h2, h3, h4, h5, h6, _⟩ := hQ i hi
      obtain ⟨z1, _⟩ := hQ 0 (by omega)
      obtain ⟨b, o, rfl⟩ := spot_none (by simpa using z1)
      rw [add_pl] at h1 h2 h3 h4 h5
      have := one i hi
      exact ⟨h6 (by omega), b, o, rfl, h1, by rw [Nat.add_assoc]; exact h2, by rw [Nat.add_assoc]; exact h3, by rw [Nat.add_assoc]; exact h4, by rw [Nat.add_assoc]; exact h5⟩
  clear hA0 hval0
  refine (codecBack_walk W a0 len0 cap0 a1 _ _ _ _ _ _ hm H1 ht).mono fun e W' ⟨he, bel⟩ => ?_
  subst he
  exact ⟨_, rfl, _, _, _, [], _, [], hW', trodAll_mk1 (shut_bool Try.underlying4 _), (trodAll_cons_mk (Below.trod laidOut (by kernel_rfl) (of_decide_eq_true (by kernel_rfl)) k0 bel lt0) (trodAll_cons_mk (shut_int Try.underlying3 w1) trodAll_mk0)), rfl, bel.frame _, fun h => by cases h⟩

theorem over : Rows.codecBackUptoRow.holds Try.pinned (Rows.OpenSpec.upto Rows.codecBackSpec) :=
  OpenClaim.holds_of_cond 6 Try.f6 rfl rfl rfl rfl rfl rfl rfl ⟨rfl, rfl, rfl, rfl, rfl⟩ rfl rfl rfl rfl rfl (by kernel_rfl) Try.func6 (by kernel_rfl)
    (of_decide_eq_true (by kernel_rfl)) (by unfold Func.isWrapper; first | (rw [if_pos (by decide +kernel)]; kernel_rfl) | (rw [if_neg (by decide +kernel)]; exact ⟨rfl, rfl⟩))
    (fun os started H enc _ F => lifted os started H enc F)

end Go.Proofs.Ytmcbeikgdcgdcaa.codecBack
namespace Go.Proofs.Ytmcbeikgdcgdcaa
/-- THE STATEMENT. -/
theorem codecBack_upto : Rows.CodecBackUptoSaid := codecBack.over
#print axioms codecBack_upto
end Go.Proofs.Ytmcbeikgdcgdcaa
