/-
  The walk of WoundFuse.
-/
import Derived.Test.YtjjncajfljbegaaLwK
namespace Go.Proofs.Ytjjncajfljbegaa
open Go.RowKit Go.Maps Go.Sort
theorem Eqd.own {W Y Z : World} {wb db tb m : Nat} {g g' : Gt} (h : Eqd W wb db tb m g Y) (hk : ∀ σ F, Kw Y wb db none g (.map []) σ F → Kw Z wb db none g' (.map []) σ F) (hT : Tn (· = wb) Y Z) : Eqd W wb db tb m g' Z := by
  obtain ⟨σ, F, G, h1, h2⟩ := h
  exact ⟨σ, F, G, h1.own (hk σ F h1.K) hT, h2⟩
theorem Eqd.set {W Y : World} {wb db tb m : Nat} {g g' : Gt} {f : Nat} {args : Array Value} (h : Eqd W wb db tb m g Y) (C : WAt Y wb (some ⟨db, 0, none⟩) none g → Calls Try.prog f args Y fun e Z => (∃ v, e = .returned v) ∧ WAt Z wb (some ⟨db, 0, none⟩) none g' ∧ Tn (· = wb) Y Z) : Calls Try.prog f args Y fun e Z => (∃ v, e = .returned v) ∧ Eqd W wb db tb m g' Z := by
  obtain ⟨σ, F, G, h1, h2⟩ := h
  refine (C h1.K.1).mono ?_
  rintro e Z ⟨e1, h3, h4⟩
  exact ⟨e1, σ, F, G, h1.own (kw_own h1.K.2.2.1 h1.K.2.2.2.1 (fun b e => by cases e) h3 (.inl ⟨rfl, rfl⟩) h4).1 h4, h2⟩
theorem PR.eqd {W Y : World} {wb db tb : Nat} (h : PR W wb db tb 0 0 Y) (hw : W.heap.size ≤ wb) : Eqd W wb db tb 0 ⟨false, false, 0, 0, false, 0, 0, 0⟩ Y := by
  obtain ⟨⟨σ, F, G, rc, h1, h2, h3, h4, h5, h6, h7, h8, h9⟩, hb⟩ := h
  have : rc = 0 := by omega
  subst this
  exact ⟨σ, F, G, ⟨h1, h2, h3, h4, h5, h6, hw, hb⟩, h7⟩
/-- The wound's state in the round of the fuse. -/
def Gf (cl ins : Int) (na k : Nat) (g : Gt) : Prop := ((cl < 0 ∨ (k : Int) ≤ cl) → g = ⟨false, false, (na : Int) + k, k, true, 0, cl, ins⟩) ∧ ((0 ≤ cl ∧ cl < (k : Int)) → g = ⟨true, false, (na : Int) + cl + 1, cl + 1, true, 0, cl, ins⟩)
theorem Gf.zero (cl ins : Int) (na : Nat) : Gf cl ins na 0 ⟨false, false, (na : Int), 0, true, 0, cl, ins⟩ := ⟨fun _ => by simp, fun h => by omega⟩
theorem Gf.live {cl ins : Int} {na k : Nat} (h : cl < 0 ∨ (k : Int) < cl) : Gf cl ins na (k + 1) ⟨false, false, (na : Int) + k + 1, (k : Int) + 1, true, 0, cl, ins⟩ := ⟨fun _ => by simp [Int.add_assoc], fun h => by omega⟩
theorem Gf.burnt (ins : Int) (na k : Nat) : Gf (k : Int) ins na (k + 1) ⟨true, false, (na : Int) + k + 1, (k : Int) + 1, true, 0, (k : Int), ins⟩ := ⟨fun h => by omega, fun _ => rfl⟩
theorem Gf.off {cl ins : Int} {na k : Nat} (h : 0 ≤ cl ∧ cl < (k : Int)) : Gf cl ins na (k + 1) ⟨true, false, (na : Int) + cl + 1, cl + 1, true, 0, cl, ins⟩ := ⟨fun h => by omega, fun _ => rfl⟩
theorem Gf.ends {cl ins : Int} {na k : Nat} {g : Gt} (h : Gf cl ins na k g) (hn : na ≤ 10000000) (hk : k ≤ 10000000) : g.th = true ∧ g.ro = 0 ∧ g.offl = false ∧ Gok ⟨false, false, g.calls, 0, false, 0, 0, 0⟩ := by
  by_cases hc : cl < 0 ∨ (k : Int) ≤ cl
  · rw [h.1 hc]
    exact ⟨rfl, rfl, rfl, by simp; omega, by simp; omega, by simp, by simp⟩
  · rw [h.2 (by omega)]
    exact ⟨rfl, rfl, rfl, by simp; omega, by simp; omega, by simp, by simp⟩
theorem take_none {d : Tx} {nd : Nat} {ins : Int} (hl : d.length = nd) (h : min (max 0 ins) (nd : Int) ≤ 0) : d.take (max ins 0).toNat = [] := by
  by_cases h0 : nd = 0
  · have : d = [] := List.length_eq_zero_iff.1 (by omega)
    rw [this]
    simp
  · have : (max ins 0).toNat = 0 := by omega
    rw [this]
    rfl
theorem two_blocks {w : World} {q1 q2 : Nat} {u0 u1 u2 u3 u4 u5 a0 a1 a2 a3 a4 a5 a6 a7 a8 a9 a10 : Value} {t1 t2 : TypeId} (h2 : w.heap[q2]? = some (.cells #[u0, u1, u2, u3, u4, u5] t2 (0, 0))) (h1 : w.heap[q1]? = some (.cells #[a0, a1, a2, a3, a4, a5, a6, a7, a8, a9, a10] t1 (0, 0))) : w.cell? ⟨q2, 0, none⟩ = some u0 ∧ w.cell? ⟨q2, 1, none⟩ = some u1 ∧ w.cell? ⟨q2, 2, none⟩ = some u2 ∧ w.cell? ⟨q2, 3, none⟩ = some u3 ∧ w.cell? ⟨q2, 4, none⟩ = some u4 ∧ w.cell? ⟨q2, 5, none⟩ = some u5 ∧ w.cell? ⟨q1, 0, none⟩ = some a0 ∧ w.cell? ⟨q1, 1, none⟩ = some a1 ∧ w.cell? ⟨q1, 2, none⟩ = some a2 ∧ w.cell? ⟨q1, 3, none⟩ = some a3 ∧ w.cell? ⟨q1, 4, none⟩ = some a4 ∧ w.cell? ⟨q1, 5, none⟩ = some a5 ∧ w.cell? ⟨q1, 6, none⟩ = some a6 ∧ w.cell? ⟨q1, 7, none⟩ = some a7 ∧ w.cell? ⟨q1, 8, none⟩ = some a8 ∧ w.cell? ⟨q1, 9, none⟩ = some a9 ∧ w.cell? ⟨q1, 10, none⟩ = some a10 := by
  refine ⟨?_, ?_, ?_, ?_, ?_, ?_, ?_, ?_, ?_, ?_, ?_, ?_, ?_, ?_, ?_, ?_, ?_⟩
  all_goals first
    | (rw [cell_of_row w q2 _ _ _ _ h2]; rfl)
    | (rw [cell_of_row w q1 _ _ _ _ h1]; rfl)
section
attribute [local irreducible] Calls
set_option maxHeartbeats 8000000 in
set_option maxRecDepth 1000000 in
theorem woundFuse_walk (rm : Int) (pa : Option Addr) (na cpa : Nat) (LA : List Stp) (hla : LA.length = na) (pb : Option Addr) (nb cpb : Nat) (LB : List Stp) (hlb : LB.length = nb) (cl ins : Int) (qd : Option Addr) (nqd cqd : Nat) (dirs : List Bool) (hdl : dirs.length = nqd) (qc : Option Addr) (nqc cqc : Nat) (cuts : List Int) (hcl : cuts.length = nqc) (w : World) (hSa : ScAt w pa LA) (hSb : ScAt w pb LB) (hbd : Bls w qd dirs) (hbc : Ils w qc cuts) (hdn : qd = none → nqd = 0 ∧ cqd = 0) (hcn : qc = none → nqc = 0 ∧ cqc = 0) (hta : tot LA ≤ 10000000) (htb : tot LB ≤ 10000000) (hna : na ≤ 10000000) (hnb : nb ≤ 10000000) (hnd : nqd ≤ 10000000) (hnc : nqc ≤ 10000000) (hwc : -9223372036854775808 ≤ cl ∧ cl ≤ 9223372036854775807) (hwi : -9223372036854775808 ≤ ins ∧ ins ≤ 9223372036854775807) : Calls Try.prog 4 #[.agg #[.int .i64 rm, .slice pa na cpa, .slice pb nb cpb, .int .i64 cl, .int .i64 ins, .slice qd nqd cqd, .slice qc nqc cqc]] w fun e w' => e = .returned (.bool true) ∧ Below w.heap.size w w' := by
  have RB := rmz_bd rm
  have RO := (show Hid _ from fun w => room_any rm w)
  have NE := (show Hid _ from fun w => new_any (rmz rm) (by omega) w)
  have bW := alb w (.cells #[.int .i64 rm, .slice pa na cpa, .slice pb nb cpb, .int .i64 cl, .int .i64 ins, .slice qd nqd cqd, .slice qc nqc cqc] 51)
  have hbox := heap_alloc_new w (.cells #[.int .i64 rm, .slice pa na cpa, .slice pb nb cpb, .int .i64 cl, .int .i64 ins, .slice qd nqd cqd, .slice qc nqc cqc] 51)
  have hsW : (w.alloc (.cells #[.int .i64 rm, .slice pa na cpa, .slice pb nb cpb, .int .i64 cl, .int .i64 ins, .slice qd nqd cqd, .slice qc nqc cqc] 51)).heap.size = w.heap.size + 1 := by simp
  have ST := (show Hid _ from PR.start (w.alloc (.cells #[.int .i64 rm, .slice pa na cpa, .slice pb nb cpb, .int .i64 cl, .int .i64 ins, .slice qd nqd cqd, .slice qc nqc cqc] 51)) (rmz rm))
  have SA := (show Hid (∀ i (h : i < LA.length), _) from fun i h => hSa i h)
  have SB := (show Hid (∀ i (h : i < LB.length), _) from fun i h => hSb i h)
  obtain ⟨W, hW⟩ : ∃ W, W = w.alloc (.cells #[.int .i64 rm, .slice pa na cpa, .slice pb nb cpb, .int .i64 cl, .int .i64 ins, .slice qd nqd cqd, .slice qc nqc cqc] 51) := ⟨_, rfl⟩
  rw [← hW] at bW hbox hsW
  have HBX := (show Hid (∀ Y, Below W.heap.size W Y → Y.cell? ⟨w.heap.size, 0, none⟩ = some (.int .i64 rm) ∧ Y.cell? ⟨w.heap.size, 1, none⟩ = some (.slice pa na cpa) ∧ Y.cell? ⟨w.heap.size, 2, none⟩ = some (.slice pb nb cpb) ∧ Y.cell? ⟨w.heap.size, 3, none⟩ = some (.int .i64 cl) ∧ Y.cell? ⟨w.heap.size, 4, none⟩ = some (.int .i64 ins) ∧ Y.cell? ⟨w.heap.size, 5, none⟩ = some (.slice qd nqd cqd) ∧ Y.cell? ⟨w.heap.size, 6, none⟩ = some (.slice qc nqc cqc)) from fun Y hY => by
    have h9 := (hY.block w.heap.size (blt hbox)).trans hbox
    refine ⟨?_, ?_, ?_, ?_, ?_, ?_, ?_⟩ <;> rw [cell_of_row Y w.heap.size _ _ _ _ h9] <;> rfl)
  have HBW := (show Hid (_ ∧ _) from ⟨bW, hsW⟩)
  have HL := (show Hid (_ ∧ _) from ⟨hla, hlb⟩)
  have HT := (show Hid (_ ∧ _) from ⟨hta, htb⟩)
  have HF := (show Hid (Bls w qd dirs ∧ Ils w qc cuts ∧ (qd = none → nqd = 0 ∧ cqd = 0) ∧ (qc = none → nqc = 0 ∧ cqc = 0) ∧ dirs.length = nqd ∧ cuts.length = nqc) from ⟨hbd, hbc, hdn, hcn, hdl, hcl⟩)
  have HW := (show Hid _ from hW)
  have HWF := (show Hid (_ ∧ _) from ⟨hwc, hwi⟩)
  generalize rmz rm = r at *
  clear hSa hSb hbd hbc hdn hcn hta htb hla hlb hdl hcl bW hbox hsW hW RB hwc hwi
  go_enter Try.func4, Try.ntmps4
  go_wp2_with (first
    | (go_at_call 8; refine (RO.out _).mono ?_; rintro e w1 ⟨rfl, h⟩; obtain rfl := h)
    | (go_at_call 7; refine (NE.out _).mono ?_; rintro e w2 ⟨rfl, rfl⟩)
    | (go_at_call 9; refine (wnew_any _ _).mono ?_; rintro e w3 ⟨rfl, rfl⟩)
    | (go_at_call 10; refine (known_any _).mono ?_; rintro e w4 ⟨rfl, hb4⟩; have H4 := (show Hid (Eqd W (w.heap.size + 3) (w.heap.size + 1) (w.heap.size + 2) 0 ⟨false, false, 0, 0, false, 0, 0, 0⟩ w4) from (by have h9 := (ST.out w4 (by simpa using hb4)); rw [← HW.out] at h9; have h8 := h9.eqd (by omega); rw [HBW.out.2] at h8; exact h8)); clear hb4 ST))
  clear RO NE
  go_loopw [6] (fun i wr => ∃ k : Nat, k ≤ na ∧ i = .int .i64 k ∧ Hid (Eqd W (w.heap.size + 3) (w.heap.size + 1) (w.heap.size + 2) (tot (LA.take k)) ⟨false, false, (k : Int), (k : Int), false, 0, 0, 0⟩ wr)) (fun i _ => na - (intOf i).toNat)
  case atStart => exact ⟨0, Nat.zero_le _, rfl, H4.out⟩
  case round =>
    obtain ⟨k, hk, rfl, hR⟩ := hrel
    have j1 := (HBX.out wr hR.out.bl).2.1
    by_cases hlt : k < na
    · have hi : (k : Int) < (na : Int) := by omega
      have hkL : k < LA.length := by have := HL.out.1; omega
      obtain ⟨b, o, hp, hE, hRx, hln, hx, hy, hcap⟩ := SA.out k hkL
      subst hp
      have htk := tot_take LA k hkL
      have htl := Nat.le_trans (tot_le LA (k + 1)) HT.out.1
      generalize LA[k] = st at *
      obtain ⟨kd, ⟨x, y, pd, nd, cd, a1, b1, c1, ye, pp, np, cp, pq, nq, cq, pr, nr, cr⟩, d⟩ := st
      dsimp only at hE hRx hln hx hy htk hcap
      have SO := (show Hid (∀ Y, Below W.heap.size W Y → Y.cell? ⟨w.heap.size, 1, none⟩ = some (.slice (some ⟨b, o, none⟩) na cpa) ∧ Y.cell? ⟨b, o + k * 11, none⟩ = some (.int .i64 kd) ∧ Y.cell? ⟨b, o + k * 11 + 1, none⟩ = some (encStr x) ∧ Y.cell? ⟨b, o + k * 11 + 2, none⟩ = some (encStr y) ∧ Y.cell? ⟨b, o + k * 11 + 3, none⟩ = some (.slice pd nd cd) ∧ Y.cell? ⟨b, o + k * 11 + 4, none⟩ = some (.int .i64 a1) ∧ Y.cell? ⟨b, o + k * 11 + 5, none⟩ = some (.int .i64 b1) ∧ Y.cell? ⟨b, o + k * 11 + 6, none⟩ = some (.int .i64 c1) ∧ Y.cell? ⟨b, o + k * 11 + 7, none⟩ = some (.bool ye) ∧ Y.cell? ⟨b, o + k * 11 + 8, none⟩ = some (.slice pp np cp) ∧ Y.cell? ⟨b, o + k * 11 + 9, none⟩ = some (.slice pq nq cq) ∧ Y.cell? ⟨b, o + k * 11 + 10, none⟩ = some (.slice pr nr cr)) from fun Y hY => ⟨(HBX.out Y hY).2.1, ((hE.below HBW.out.1).below hY).c⟩)
      have DT := (show Hid (∀ Y, Below W.heap.size W Y → Dt W Y ⟨x, y, pd, nd, cd, a1, b1, c1, ye, pp, np, cp, pq, nq, cq, pr, nr, cr⟩ d) from fun Y hY => ⟨(hRx.below HBW.out.1).below hY, fun a e hd => by have := rx_at hRx e hd; have := HBW.out.2; omega, hln, by show nd ≤ _; omega, hx, hy⟩)
      have CA := (show Hid _ from fun w => call_any kd ⟨x, y, pd, nd, cd, a1, b1, c1, ye, pp, np, cp, pq, nq, cq, pr, nr, cr⟩ w)
      have HC := (show Hid (1 ≤ cll kd ∧ cll kd ≤ 8) from cll_bd kd)
      have HK := (show Hid (tot (LA.take k) ≤ 10000000 ∧ tot (LA.take k) + 1 + d.length = tot (LA.take (k + 1)) ∧ d.length = nd ∧ nd ≤ 10000000 ∧ nd ≤ cd) from ⟨by omega, htk.symm, hln, by omega, hcap⟩)
      generalize cll kd = kc at *
      clear hkL hE hRx hln hx hy htk htl hcap
      have E0 := (show Hid (Eqd W (w.heap.size + 3) (w.heap.size + 1) (w.heap.size + 2) (tot (LA.take k)) ⟨false, false, (k : Int), (k : Int), false, 0, 0, 0⟩ wr.drew) from hR.out.below (bdr wr))
      go_wp2
      have KS := (show Hid (wr.drew.cell? ⟨w.heap.size, 1, none⟩ = some (.slice (some ⟨b, o, none⟩) na cpa) ∧ wr.drew.cell? ⟨b, o + k * 11, none⟩ = some (.int .i64 kd) ∧ wr.drew.cell? ⟨b, o + k * 11 + 1, none⟩ = some (encStr x) ∧ wr.drew.cell? ⟨b, o + k * 11 + 2, none⟩ = some (encStr y) ∧ wr.drew.cell? ⟨b, o + k * 11 + 3, none⟩ = some (.slice pd nd cd) ∧ wr.drew.cell? ⟨b, o + k * 11 + 4, none⟩ = some (.int .i64 a1) ∧ wr.drew.cell? ⟨b, o + k * 11 + 5, none⟩ = some (.int .i64 b1) ∧ wr.drew.cell? ⟨b, o + k * 11 + 6, none⟩ = some (.int .i64 c1) ∧ wr.drew.cell? ⟨b, o + k * 11 + 7, none⟩ = some (.bool ye) ∧ wr.drew.cell? ⟨b, o + k * 11 + 8, none⟩ = some (.slice pp np cp) ∧ wr.drew.cell? ⟨b, o + k * 11 + 9, none⟩ = some (.slice pq nq cq) ∧ wr.drew.cell? ⟨b, o + k * 11 + 10, none⟩ = some (.slice pr nr cr)) from SO.out _ E0.out.bl)
      clear j1
      go_region_held3 (fun Y => Y.cell? ⟨w.heap.size, 1, none⟩ = some (.slice (some ⟨b, o, none⟩) na cpa) ∧ Y.cell? ⟨b, o + k * 11, none⟩ = some (.int .i64 kd) ∧ Y.cell? ⟨b, o + k * 11 + 1, none⟩ = some (encStr x) ∧ Y.cell? ⟨b, o + k * 11 + 2, none⟩ = some (encStr y) ∧ Y.cell? ⟨b, o + k * 11 + 3, none⟩ = some (.slice pd nd cd) ∧ Y.cell? ⟨b, o + k * 11 + 4, none⟩ = some (.int .i64 a1) ∧ Y.cell? ⟨b, o + k * 11 + 5, none⟩ = some (.int .i64 b1) ∧ Y.cell? ⟨b, o + k * 11 + 6, none⟩ = some (.int .i64 c1) ∧ Y.cell? ⟨b, o + k * 11 + 7, none⟩ = some (.bool ye) ∧ Y.cell? ⟨b, o + k * 11 + 8, none⟩ = some (.slice pp np cp) ∧ Y.cell? ⟨b, o + k * 11 + 9, none⟩ = some (.slice pq nq cq) ∧ Y.cell? ⟨b, o + k * 11 + 10, none⟩ = some (.slice pr nr cr)) (first | exact KS.out | exact KT.out | exact KU.out | exact KV.out | exact KX.out | exact KY.out)
        (first
          | (go_at_call 11; refine (CA.out _).mono ?_; rintro e w3 ⟨h3, hb3⟩; obtain rfl : e = .returned (.agg #[.int .i64 kc, encStr x, encStr y, .slice pd nd cd, .int .i64 a1, .int .i64 b1, .int .i64 c1, .bool ye, .slice pp np cp, .slice pq nq cq, .slice pr nr cr]) := h3; have V2 := (show Hid (Hv _ _ _ _ _ _ _ _ _ _ _ _) from V1.out.below hb3); have KV := (show Hid (_ ∧ _) from SO.out _ V2.out.bl); clear V1 hb3)
          | (go_at_call 11; refine (CA.out _).mono ?_; rintro e w1 ⟨h1, hb1⟩; obtain rfl : e = .returned (.agg #[.int .i64 kc, encStr x, encStr y, .slice pd nd cd, .int .i64 a1, .int .i64 b1, .int .i64 c1, .bool ye, .slice pp np cp, .slice pq nq cq, .slice pr nr cr]) := h1; have E1 := (show Hid (Eqd _ _ _ _ _ _ _) from E0.out.below hb1); have KT := (show Hid (_ ∧ _) from SO.out _ E1.out.bl); clear E0 hb1)
          | (go_at_call 14; refine (E1.out.hurt ⟨by simp, by simp; omega, by simp, by simp; omega⟩ (by have := HK.out.1; omega) (DT.out _ E1.out.bl) kc HC.out).mono ?_; rintro e w2 ⟨v1, rfl, h2⟩; have V1 := (show Hid (Hv _ _ _ _ _ _ _ _ _ _ _ _) from h2); have KU := (show Hid (_ ∧ _) from SO.out _ h2.bl); clear h2 E1)
          | (go_at_call 15; refine (V2.out.plain (by rw [ahd_plain]) (by have := HK.out.1; omega) HC.out).mono ?_; rintro e w4 ⟨u1, an, rfl, h4, _⟩; have B4 := (show Hid (Bv _ _ _ _ _ _ _ _ _ _) from h4); have KX := (show Hid (_ ∧ _) from SO.out _ h4.E.bl); clear h4 V2)
          | (go_at_call 13; refine B4.out.alike.mono ?_; rintro e w5 ⟨rfl, h5, _⟩; rw [ahd_plain] at h5; have E5 := (show Hid (Eqd _ _ _ _ _ _ _) from h5); have KY := (show Hid (_ ∧ _) from SO.out _ h5.bl); clear h5 B4))
      go_wp2
      refine ⟨⟨k + 1, by omega, by go_num, ?_⟩, by simp [intOf]; omega⟩
      show Eqd _ _ _ _ _ _ _
      rw [← HK.out.2.1]
      exact E5.out
    · obtain rfl : k = na := by omega
      have hi : ¬ (k : Int) < (k : Int) := by omega
      have E1 := (show Hid (Eqd W (w.heap.size + 3) (w.heap.size + 1) (w.heap.size + 2) (tot LA) ⟨false, false, (k : Int), (k : Int), false, 0, 0, 0⟩ wr) from (by have h9 := hR.out; rw [List.take_of_length_le (by have := HL.out.1; omega)] at h9; exact h9))
      have RE := (show Hid _ from E1.out.set (fun h => rest_plain h rfl))
      clear hR E1
      go_wp2_with (first
        | (go_at_call 12; refine RE.out.mono ?_; rintro e w1 ⟨⟨v1, rfl⟩, h1⟩; have E2 := (show Hid (Eqd W (w.heap.size + 3) (w.heap.size + 1) (w.heap.size + 2) (tot LA) ⟨false, false, (k : Int), 0, false, 0, 0, 0⟩ w1) from h1); obtain ⟨-, -, -, j3, j4, -, -⟩ := HBX.out w1 h1.bl; clear h1 RE)
        | (go_at_call 20; refine (E2.out.set (fun h => fuse_any h 0 cl ins)).mono ?_; rintro e w2 ⟨⟨v2, rfl⟩, h2⟩; have E3 := (show Hid (∃ g, Gf cl ins k 0 g ∧ Eqd W (w.heap.size + 3) (w.heap.size + 1) (w.heap.size + 2) (tot LA + tot (LB.take 0)) g w2) from ⟨_, Gf.zero cl ins k, h2⟩); clear j3 j4 E2 h2))
      clear j1
      generalize k = na at *
      go_loopw [7] (fun i wr => ∃ k : Nat, k ≤ nb ∧ i = .int .i64 k ∧ Hid (∃ g, Gf cl ins na k g ∧ Eqd W (w.heap.size + 3) (w.heap.size + 1) (w.heap.size + 2) (tot LA + tot (LB.take k)) g wr)) (fun i _ => nb - (intOf i).toNat)
      case atStart => exact ⟨0, Nat.zero_le _, rfl, E3.out⟩
      case round =>
        obtain ⟨k, hk, rfl, hR⟩ := hrel
        obtain ⟨g, hG, hE⟩ := hR.out
        have j2 := (HBX.out wr hE.bl).2.2.1
        by_cases hlt : k < nb
        · have hi : (k : Int) < (nb : Int) := by omega
          have hkL : k < LB.length := by have := HL.out.2; omega
          obtain ⟨b, o, hp, hE, hRx, hln, hx, hy, hcap⟩ := SB.out k hkL
          subst hp
          have htk := tot_take LB k hkL
          have htl := Nat.le_trans (tot_le LB (k + 1)) HT.out.2
          generalize LB[k] = st at *
          obtain ⟨kd, ⟨x, y, pd, nd, cd, a1, b1, c1, ye, pp, np, cp, pq, nq, cq, pr, nr, cr⟩, d⟩ := st
          dsimp only at hE hRx hln hx hy htk hcap
          have SO := (show Hid (∀ Y, Below W.heap.size W Y → Y.cell? ⟨w.heap.size, 2, none⟩ = some (.slice (some ⟨b, o, none⟩) nb cpb) ∧ Y.cell? ⟨b, o + k * 11, none⟩ = some (.int .i64 kd) ∧ Y.cell? ⟨b, o + k * 11 + 1, none⟩ = some (encStr x) ∧ Y.cell? ⟨b, o + k * 11 + 2, none⟩ = some (encStr y) ∧ Y.cell? ⟨b, o + k * 11 + 3, none⟩ = some (.slice pd nd cd) ∧ Y.cell? ⟨b, o + k * 11 + 4, none⟩ = some (.int .i64 a1) ∧ Y.cell? ⟨b, o + k * 11 + 5, none⟩ = some (.int .i64 b1) ∧ Y.cell? ⟨b, o + k * 11 + 6, none⟩ = some (.int .i64 c1) ∧ Y.cell? ⟨b, o + k * 11 + 7, none⟩ = some (.bool ye) ∧ Y.cell? ⟨b, o + k * 11 + 8, none⟩ = some (.slice pp np cp) ∧ Y.cell? ⟨b, o + k * 11 + 9, none⟩ = some (.slice pq nq cq) ∧ Y.cell? ⟨b, o + k * 11 + 10, none⟩ = some (.slice pr nr cr)) from fun Y hY => ⟨(HBX.out Y hY).2.2.1, ((hE.below HBW.out.1).below hY).c⟩)
          have DT := (show Hid (∀ Y, Below W.heap.size W Y → Dt W Y ⟨x, y, pd, nd, cd, a1, b1, c1, ye, pp, np, cp, pq, nq, cq, pr, nr, cr⟩ d) from fun Y hY => ⟨(hRx.below HBW.out.1).below hY, fun a e hd => by have := rx_at hRx e hd; have := HBW.out.2; omega, hln, by show nd ≤ _; omega, hx, hy⟩)
          have CA := (show Hid _ from fun w => call_any kd ⟨x, y, pd, nd, cd, a1, b1, c1, ye, pp, np, cp, pq, nq, cq, pr, nr, cr⟩ w)
          have HC := (show Hid (1 ≤ cll kd ∧ cll kd ≤ 8) from cll_bd kd)
          have HK := (show Hid (tot (LB.take k) ≤ 10000000 ∧ tot (LB.take k) + 1 + d.length = tot (LB.take (k + 1)) ∧ d.length = nd ∧ nd ≤ 10000000 ∧ nd ≤ cd) from ⟨by omega, htk.symm, hln, by omega, hcap⟩)
          generalize cll kd = kc at *
          clear hkL hE hRx hln hx hy htk htl hcap
          have EN := (show Hid (EqdN W (w.heap.size + 3) (w.heap.size + 1) (w.heap.size + 2) (tot LA + tot (LB.take k)) g wr.heap.size wr) from hE.n)
          obtain ⟨-, e0, e1, e2, e3, e4, e5, e6, e7, e8, e9, e10⟩ := SO.out wr hE.bl
          have HGG := (show Hid _ from hG)
          clear hG hE hR
          have hG := HGG
          by_cases hneg : cl < 0
          · have hdn : decide (cl < 0) = true := by simpa using hneg
            have hgg := (show Hid (g = ⟨false, false, (na : Int) + k, k, true, 0, cl, ins⟩) from hG.out.1 (by omega))
            have AH := (show Hid (∀ r, ahd g (.map []) r = ((false, 0), ⟨false, false, (na : Int) + k + 1, (k : Int) + 1, true, 0, cl, ins⟩)) from fun r => by rw [hgg.out]; exact ahd_live r (by omega))
            have GK := (show Hid (Gok g) from by rw [hgg.out]; exact ⟨by simp; omega, by simp; omega, by simp, by simp; omega⟩)
            go_wp2_with (first
              | (go_at_call 11; refine (CA.out _).mono ?_; rintro e w5 ⟨h5, hb5⟩; obtain rfl : e = .returned (.agg #[.int .i64 kc, encStr x, encStr y, .slice pd nd cd, .int .i64 a1, .int .i64 b1, .int .i64 c1, .bool ye, .slice pp np cp, .slice pq nq cq, .slice pr nr cr]) := h5; have EN5 := (show Hid (EqdN W (w.heap.size + 3) (w.heap.size + 1) (w.heap.size + 2) (tot LA + tot (LB.take k)) g wr.heap.size (w5.alloc (.cells #[.int .i64 kc, encStr x, encStr y, .slice pd nd cd, .int .i64 a1, .int .i64 b1, .int .i64 c1, .bool ye, .slice pp np cp, .slice pq nq cq, .slice pr nr cr] 36)) ∧ _) from ⟨EN.out.below (bt hb5 (alb w5 _)), hb5.size⟩); clear hb5)
              | (go_at_call 14; refine (EN5.out.1.hurt (by have := EN5.out.2; simp; omega) GK.out (by have := HK.out.1; have := HT.out.1; omega) (DT.out _ EN5.out.1.bl) kc HC.out).mono ?_; rintro e w6 ⟨v6, rfl, h6, h7⟩; obtain ⟨er, xp, xn, xc, zp, zn, zc, rfl⟩ := h6.shape; have hq1 := (h7 w5.heap.size EN5.out.2 (by simp)).trans (heap_alloc_new w5 _); have j3 : ∀ ob : Obj, (w6.alloc ob).cell? ⟨w.heap.size, 3, none⟩ = some (.int .i64 cl) := (fun ob => (HBX.out _ (bt h6.bl (alb w6 ob))).2.2.2.1); have V6 := (show Hid (Hv _ _ _ _ _ _ _ _ _ _ _ _ ∧ _ ∧ _) from ⟨h6, hq1, EN5.out.2⟩); clear h6 h7 hq1 EN5))
            have VY := (show Hid (Hv W (w.heap.size + 3) (w.heap.size + 1) (w.heap.size + 2) (tot LA + tot (LB.take k)) g kc.toNat ⟨x, y, pd, nd, cd, a1, b1, c1, ye, pp, np, cp, pq, nq, cq, pr, nr, cr⟩ d (.agg #[.int .i64 er, .slice xp xn xc, .slice zp zn zc, .slice none 0 0, .int .i64 0, .bool false]) wr.heap.size (w6.alloc (.cells #[.int .i64 er, .slice xp xn xc, .slice zp zn zc, .slice none 0 0, .int .i64 0, .bool false] 44))) from V6.out.1.below (alb w6 _))
            have HY := (show Hid ((w6.alloc (.cells #[.int .i64 er, .slice xp xn xc, .slice zp zn zc, .slice none 0 0, .int .i64 0, .bool false] 44)).heap[w5.heap.size]? = some (.cells #[.int .i64 kc, encStr x, encStr y, .slice pd nd cd, .int .i64 a1, .int .i64 b1, .int .i64 c1, .bool ye, .slice pp np cp, .slice pq nq cq, .slice pr nr cr] 36 (0, 0)) ∧ (w6.alloc (.cells #[.int .i64 er, .slice xp xn xc, .slice zp zn zc, .slice none 0 0, .int .i64 0, .bool false] 44)).heap[w6.heap.size]? = some (.cells #[.int .i64 er, .slice xp xn xc, .slice zp zn zc, .slice none 0 0, .int .i64 0, .bool false] 44 (0, 0)) ∧ wr.heap.size ≤ w5.heap.size ∧ wr.heap.size ≤ w6.heap.size ∧ w5.heap.size ≠ w6.heap.size) from ⟨(Below.heap_alloc _ _ _ (blt V6.out.2.1)).trans V6.out.2.1, heap_alloc_new w6 _, V6.out.2.2, by have := blt V6.out.2.1; have := V6.out.2.2; omega, by have := blt V6.out.2.1; omega⟩)
            generalize hYd : w6.alloc (.cells #[.int .i64 er, .slice xp xn xc, .slice zp zn zc, .slice none 0 0, .int .i64 0, .bool false] 44) = Y at *
            clear hYd V6 j3 j2 EN
            generalize w5.heap.size = q1 at *
            generalize w6.heap.size = q2 at *
            have SO2 := (show Hid (∀ Z : World, Z.heap[q2]? = Y.heap[q2]? → Z.heap[q1]? = Y.heap[q1]? → Z.cell? ⟨q2, 0, none⟩ = some (.int .i64 er) ∧ Z.cell? ⟨q2, 1, none⟩ = some (.slice xp xn xc) ∧ Z.cell? ⟨q2, 2, none⟩ = some (.slice zp zn zc) ∧ Z.cell? ⟨q2, 3, none⟩ = some (.slice none 0 0) ∧ Z.cell? ⟨q2, 4, none⟩ = some (.int .i64 0) ∧ Z.cell? ⟨q2, 5, none⟩ = some (.bool false) ∧ Z.cell? ⟨q1, 0, none⟩ = some (.int .i64 kc) ∧ Z.cell? ⟨q1, 1, none⟩ = some (encStr x) ∧ Z.cell? ⟨q1, 2, none⟩ = some (encStr y) ∧ Z.cell? ⟨q1, 3, none⟩ = some (.slice pd nd cd) ∧ Z.cell? ⟨q1, 4, none⟩ = some (.int .i64 a1) ∧ Z.cell? ⟨q1, 5, none⟩ = some (.int .i64 b1) ∧ Z.cell? ⟨q1, 6, none⟩ = some (.int .i64 c1) ∧ Z.cell? ⟨q1, 7, none⟩ = some (.bool ye) ∧ Z.cell? ⟨q1, 8, none⟩ = some (.slice pp np cp) ∧ Z.cell? ⟨q1, 9, none⟩ = some (.slice pq nq cq) ∧ Z.cell? ⟨q1, 10, none⟩ = some (.slice pr nr cr)) from fun Z z2 z1 => two_blocks (z2.trans HY.out.2.1) (z1.trans HY.out.1))
            have KS := (show Hid (Y.drew.cell? ⟨q2, 0, none⟩ = some (.int .i64 er) ∧ Y.drew.cell? ⟨q2, 1, none⟩ = some (.slice xp xn xc) ∧ Y.drew.cell? ⟨q2, 2, none⟩ = some (.slice zp zn zc) ∧ Y.drew.cell? ⟨q2, 3, none⟩ = some (.slice none 0 0) ∧ Y.drew.cell? ⟨q2, 4, none⟩ = some (.int .i64 0) ∧ Y.drew.cell? ⟨q2, 5, none⟩ = some (.bool false) ∧ Y.drew.cell? ⟨q1, 0, none⟩ = some (.int .i64 kc) ∧ Y.drew.cell? ⟨q1, 1, none⟩ = some (encStr x) ∧ Y.drew.cell? ⟨q1, 2, none⟩ = some (encStr y) ∧ Y.drew.cell? ⟨q1, 3, none⟩ = some (.slice pd nd cd) ∧ Y.drew.cell? ⟨q1, 4, none⟩ = some (.int .i64 a1) ∧ Y.drew.cell? ⟨q1, 5, none⟩ = some (.int .i64 b1) ∧ Y.drew.cell? ⟨q1, 6, none⟩ = some (.int .i64 c1) ∧ Y.drew.cell? ⟨q1, 7, none⟩ = some (.bool ye) ∧ Y.drew.cell? ⟨q1, 8, none⟩ = some (.slice pp np cp) ∧ Y.drew.cell? ⟨q1, 9, none⟩ = some (.slice pq nq cq) ∧ Y.drew.cell? ⟨q1, 10, none⟩ = some (.slice pr nr cr)) from SO2.out Y.drew rfl rfl)
            have hW0 := (show Hid (WAt Y.drew (w.heap.size + 3) (some ⟨(w.heap.size + 1), 0, none⟩) none ⟨false, false, (na : Int) + k + 1, (k : Int) + 1, true, 0, cl, ins⟩) from (by have h9 := VY.out.wat; rw [AH.out] at h9; exact h9))
            go_region_held3 (fun Z => Z.cell? ⟨q2, 0, none⟩ = some (.int .i64 er) ∧ Z.cell? ⟨q2, 1, none⟩ = some (.slice xp xn xc) ∧ Z.cell? ⟨q2, 2, none⟩ = some (.slice zp zn zc) ∧ Z.cell? ⟨q2, 3, none⟩ = some (.slice none 0 0) ∧ Z.cell? ⟨q2, 4, none⟩ = some (.int .i64 0) ∧ Z.cell? ⟨q2, 5, none⟩ = some (.bool false) ∧ Z.cell? ⟨q1, 0, none⟩ = some (.int .i64 kc) ∧ Z.cell? ⟨q1, 1, none⟩ = some (encStr x) ∧ Z.cell? ⟨q1, 2, none⟩ = some (encStr y) ∧ Z.cell? ⟨q1, 3, none⟩ = some (.slice pd nd cd) ∧ Z.cell? ⟨q1, 4, none⟩ = some (.int .i64 a1) ∧ Z.cell? ⟨q1, 5, none⟩ = some (.int .i64 b1) ∧ Z.cell? ⟨q1, 6, none⟩ = some (.int .i64 c1) ∧ Z.cell? ⟨q1, 7, none⟩ = some (.bool ye) ∧ Z.cell? ⟨q1, 8, none⟩ = some (.slice pp np cp) ∧ Z.cell? ⟨q1, 9, none⟩ = some (.slice pq nq cq) ∧ Z.cell? ⟨q1, 10, none⟩ = some (.slice pr nr cr)) (first | exact KS.out | exact KT.out | exact KU.out)
              (first
                | (go_at_call 17; refine (on_any hW0.out).mono ?_; rintro e w9 ⟨rfl, h9⟩; obtain rfl := h9.symm)
                | (go_at_call 15; refine ((VY.out.below (bdr Y)).plain (by rw [AH.out]) (by have := HK.out.1; have := HT.out.1; omega) HC.out).mono ?_; rintro e w7 ⟨u1, an, rfl, h7, h8⟩; have B7 := (show Hid (Bv _ _ _ _ _ _ _ _ _ _) from h7); have z2 : w7.heap[q2]? = Y.heap[q2]? := h8 q2 HY.out.2.2.2.1 (blt HY.out.2.1); have z1 : w7.heap[q1]? = Y.heap[q1]? := h8 q1 HY.out.2.2.1 (blt HY.out.1); have KT := (show Hid (_ ∧ _) from SO2.out w7 z2 z1); have HZ := (show Hid (_ ∧ _) from ⟨z2, z1⟩); clear h7 h8 z2 z1)
                | (go_at_call 13; refine B7.out.alike.mono ?_; rintro e w8 ⟨rfl, h5, hb8⟩; have KU := (show Hid (_ ∧ _) from SO2.out w8 ((hb8.block q2 (blt (HZ.out.1.trans HY.out.2.1))).trans HZ.out.1) ((hb8.block q1 (blt (HZ.out.2.trans HY.out.1))).trans HZ.out.2)); rw [AH.out] at h5; have E8 := (show Hid (Eqd _ _ _ _ _ _ _) from h5); clear h5 hb8))
            go_wp2
            refine ⟨⟨k + 1, by omega, by go_num, ?_⟩, by simp [intOf]; omega⟩
            exact ⟨_, Gf.live (by omega), E8.out.mono (by have := HK.out.2.1; omega)⟩
          · have hdn : decide (cl < 0) = false := by simpa using hneg
            by_cases hkc : (k : Int) < cl
            · have hdk : decide ((k : Int) < cl) = true := by simpa using hkc
              have hgg := (show Hid (g = ⟨false, false, (na : Int) + k, k, true, 0, cl, ins⟩) from hG.out.1 (by omega))
              have AH := (show Hid (∀ r, ahd g (.map []) r = ((false, 0), ⟨false, false, (na : Int) + k + 1, (k : Int) + 1, true, 0, cl, ins⟩)) from fun r => by rw [hgg.out]; exact ahd_live r (by omega))
              have GK := (show Hid (Gok g) from by rw [hgg.out]; exact ⟨by simp; omega, by simp; omega, by simp, by simp; omega⟩)
              go_wp2_with (first
                | (go_at_call 11; refine (CA.out _).mono ?_; rintro e w5 ⟨h5, hb5⟩; obtain rfl : e = .returned (.agg #[.int .i64 kc, encStr x, encStr y, .slice pd nd cd, .int .i64 a1, .int .i64 b1, .int .i64 c1, .bool ye, .slice pp np cp, .slice pq nq cq, .slice pr nr cr]) := h5; have EN5 := (show Hid (EqdN W (w.heap.size + 3) (w.heap.size + 1) (w.heap.size + 2) (tot LA + tot (LB.take k)) g wr.heap.size (w5.alloc (.cells #[.int .i64 kc, encStr x, encStr y, .slice pd nd cd, .int .i64 a1, .int .i64 b1, .int .i64 c1, .bool ye, .slice pp np cp, .slice pq nq cq, .slice pr nr cr] 36)) ∧ _) from ⟨EN.out.below (bt hb5 (alb w5 _)), hb5.size⟩); clear hb5)
                | (go_at_call 14; refine (EN5.out.1.hurt (by have := EN5.out.2; simp; omega) GK.out (by have := HK.out.1; have := HT.out.1; omega) (DT.out _ EN5.out.1.bl) kc HC.out).mono ?_; rintro e w6 ⟨v6, rfl, h6, h7⟩; obtain ⟨er, xp, xn, xc, zp, zn, zc, rfl⟩ := h6.shape; have hq1 := (h7 w5.heap.size EN5.out.2 (by simp)).trans (heap_alloc_new w5 _); have j3 : ∀ ob : Obj, (w6.alloc ob).cell? ⟨w.heap.size, 3, none⟩ = some (.int .i64 cl) := (fun ob => (HBX.out _ (bt h6.bl (alb w6 ob))).2.2.2.1); have V6 := (show Hid (Hv _ _ _ _ _ _ _ _ _ _ _ _ ∧ _ ∧ _) from ⟨h6, hq1, EN5.out.2⟩); clear h6 h7 hq1 EN5))
              have VY := (show Hid (Hv W (w.heap.size + 3) (w.heap.size + 1) (w.heap.size + 2) (tot LA + tot (LB.take k)) g kc.toNat ⟨x, y, pd, nd, cd, a1, b1, c1, ye, pp, np, cp, pq, nq, cq, pr, nr, cr⟩ d (.agg #[.int .i64 er, .slice xp xn xc, .slice zp zn zc, .slice none 0 0, .int .i64 0, .bool false]) wr.heap.size (w6.alloc (.cells #[.int .i64 er, .slice xp xn xc, .slice zp zn zc, .slice none 0 0, .int .i64 0, .bool false] 44))) from V6.out.1.below (alb w6 _))
              have HY := (show Hid ((w6.alloc (.cells #[.int .i64 er, .slice xp xn xc, .slice zp zn zc, .slice none 0 0, .int .i64 0, .bool false] 44)).heap[w5.heap.size]? = some (.cells #[.int .i64 kc, encStr x, encStr y, .slice pd nd cd, .int .i64 a1, .int .i64 b1, .int .i64 c1, .bool ye, .slice pp np cp, .slice pq nq cq, .slice pr nr cr] 36 (0, 0)) ∧ (w6.alloc (.cells #[.int .i64 er, .slice xp xn xc, .slice zp zn zc, .slice none 0 0, .int .i64 0, .bool false] 44)).heap[w6.heap.size]? = some (.cells #[.int .i64 er, .slice xp xn xc, .slice zp zn zc, .slice none 0 0, .int .i64 0, .bool false] 44 (0, 0)) ∧ wr.heap.size ≤ w5.heap.size ∧ wr.heap.size ≤ w6.heap.size ∧ w5.heap.size ≠ w6.heap.size) from ⟨(Below.heap_alloc _ _ _ (blt V6.out.2.1)).trans V6.out.2.1, heap_alloc_new w6 _, V6.out.2.2, by have := blt V6.out.2.1; have := V6.out.2.2; omega, by have := blt V6.out.2.1; omega⟩)
              generalize hYd : w6.alloc (.cells #[.int .i64 er, .slice xp xn xc, .slice zp zn zc, .slice none 0 0, .int .i64 0, .bool false] 44) = Y at *
              clear hYd V6 j3 j2 EN
              generalize w5.heap.size = q1 at *
              generalize w6.heap.size = q2 at *
              have SO2 := (show Hid (∀ Z : World, Z.heap[q2]? = Y.heap[q2]? → Z.heap[q1]? = Y.heap[q1]? → Z.cell? ⟨q2, 0, none⟩ = some (.int .i64 er) ∧ Z.cell? ⟨q2, 1, none⟩ = some (.slice xp xn xc) ∧ Z.cell? ⟨q2, 2, none⟩ = some (.slice zp zn zc) ∧ Z.cell? ⟨q2, 3, none⟩ = some (.slice none 0 0) ∧ Z.cell? ⟨q2, 4, none⟩ = some (.int .i64 0) ∧ Z.cell? ⟨q2, 5, none⟩ = some (.bool false) ∧ Z.cell? ⟨q1, 0, none⟩ = some (.int .i64 kc) ∧ Z.cell? ⟨q1, 1, none⟩ = some (encStr x) ∧ Z.cell? ⟨q1, 2, none⟩ = some (encStr y) ∧ Z.cell? ⟨q1, 3, none⟩ = some (.slice pd nd cd) ∧ Z.cell? ⟨q1, 4, none⟩ = some (.int .i64 a1) ∧ Z.cell? ⟨q1, 5, none⟩ = some (.int .i64 b1) ∧ Z.cell? ⟨q1, 6, none⟩ = some (.int .i64 c1) ∧ Z.cell? ⟨q1, 7, none⟩ = some (.bool ye) ∧ Z.cell? ⟨q1, 8, none⟩ = some (.slice pp np cp) ∧ Z.cell? ⟨q1, 9, none⟩ = some (.slice pq nq cq) ∧ Z.cell? ⟨q1, 10, none⟩ = some (.slice pr nr cr)) from fun Z z2 z1 => two_blocks (z2.trans HY.out.2.1) (z1.trans HY.out.1))
              have KS := (show Hid (Y.drew.cell? ⟨q2, 0, none⟩ = some (.int .i64 er) ∧ Y.drew.cell? ⟨q2, 1, none⟩ = some (.slice xp xn xc) ∧ Y.drew.cell? ⟨q2, 2, none⟩ = some (.slice zp zn zc) ∧ Y.drew.cell? ⟨q2, 3, none⟩ = some (.slice none 0 0) ∧ Y.drew.cell? ⟨q2, 4, none⟩ = some (.int .i64 0) ∧ Y.drew.cell? ⟨q2, 5, none⟩ = some (.bool false) ∧ Y.drew.cell? ⟨q1, 0, none⟩ = some (.int .i64 kc) ∧ Y.drew.cell? ⟨q1, 1, none⟩ = some (encStr x) ∧ Y.drew.cell? ⟨q1, 2, none⟩ = some (encStr y) ∧ Y.drew.cell? ⟨q1, 3, none⟩ = some (.slice pd nd cd) ∧ Y.drew.cell? ⟨q1, 4, none⟩ = some (.int .i64 a1) ∧ Y.drew.cell? ⟨q1, 5, none⟩ = some (.int .i64 b1) ∧ Y.drew.cell? ⟨q1, 6, none⟩ = some (.int .i64 c1) ∧ Y.drew.cell? ⟨q1, 7, none⟩ = some (.bool ye) ∧ Y.drew.cell? ⟨q1, 8, none⟩ = some (.slice pp np cp) ∧ Y.drew.cell? ⟨q1, 9, none⟩ = some (.slice pq nq cq) ∧ Y.drew.cell? ⟨q1, 10, none⟩ = some (.slice pr nr cr)) from SO2.out Y.drew rfl rfl)
              have hW0 := (show Hid (WAt Y.drew (w.heap.size + 3) (some ⟨(w.heap.size + 1), 0, none⟩) none ⟨false, false, (na : Int) + k + 1, (k : Int) + 1, true, 0, cl, ins⟩) from (by have h9 := VY.out.wat; rw [AH.out] at h9; exact h9))
              go_region_held3 (fun Z => Z.cell? ⟨q2, 0, none⟩ = some (.int .i64 er) ∧ Z.cell? ⟨q2, 1, none⟩ = some (.slice xp xn xc) ∧ Z.cell? ⟨q2, 2, none⟩ = some (.slice zp zn zc) ∧ Z.cell? ⟨q2, 3, none⟩ = some (.slice none 0 0) ∧ Z.cell? ⟨q2, 4, none⟩ = some (.int .i64 0) ∧ Z.cell? ⟨q2, 5, none⟩ = some (.bool false) ∧ Z.cell? ⟨q1, 0, none⟩ = some (.int .i64 kc) ∧ Z.cell? ⟨q1, 1, none⟩ = some (encStr x) ∧ Z.cell? ⟨q1, 2, none⟩ = some (encStr y) ∧ Z.cell? ⟨q1, 3, none⟩ = some (.slice pd nd cd) ∧ Z.cell? ⟨q1, 4, none⟩ = some (.int .i64 a1) ∧ Z.cell? ⟨q1, 5, none⟩ = some (.int .i64 b1) ∧ Z.cell? ⟨q1, 6, none⟩ = some (.int .i64 c1) ∧ Z.cell? ⟨q1, 7, none⟩ = some (.bool ye) ∧ Z.cell? ⟨q1, 8, none⟩ = some (.slice pp np cp) ∧ Z.cell? ⟨q1, 9, none⟩ = some (.slice pq nq cq) ∧ Z.cell? ⟨q1, 10, none⟩ = some (.slice pr nr cr)) (first | exact KS.out | exact KT.out | exact KU.out)
                (first
                  | (go_at_call 17; refine (on_any hW0.out).mono ?_; rintro e w9 ⟨rfl, h9⟩; obtain rfl := h9.symm)
                  | (go_at_call 15; refine ((VY.out.below (bdr Y)).plain (by rw [AH.out]) (by have := HK.out.1; have := HT.out.1; omega) HC.out).mono ?_; rintro e w7 ⟨u1, an, rfl, h7, h8⟩; have B7 := (show Hid (Bv _ _ _ _ _ _ _ _ _ _) from h7); have z2 : w7.heap[q2]? = Y.heap[q2]? := h8 q2 HY.out.2.2.2.1 (blt HY.out.2.1); have z1 : w7.heap[q1]? = Y.heap[q1]? := h8 q1 HY.out.2.2.1 (blt HY.out.1); have KT := (show Hid (_ ∧ _) from SO2.out w7 z2 z1); have HZ := (show Hid (_ ∧ _) from ⟨z2, z1⟩); clear h7 h8 z2 z1)
                  | (go_at_call 13; refine B7.out.alike.mono ?_; rintro e w8 ⟨rfl, h5, hb8⟩; have KU := (show Hid (_ ∧ _) from SO2.out w8 ((hb8.block q2 (blt (HZ.out.1.trans HY.out.2.1))).trans HZ.out.1) ((hb8.block q1 (blt (HZ.out.2.trans HY.out.1))).trans HZ.out.2)); rw [AH.out] at h5; have E8 := (show Hid (Eqd _ _ _ _ _ _ _) from h5); clear h5 hb8))
              go_wp2
              refine ⟨⟨k + 1, by omega, by go_num, ?_⟩, by simp [intOf]; omega⟩
              exact ⟨_, Gf.live (by omega), E8.out.mono (by have := HK.out.2.1; omega)⟩
            · have hdk : decide ((k : Int) < cl) = false := by simpa using hkc
              by_cases heq : cl = (k : Int)
              · obtain rfl := heq
                have hgg := hG.out.1 (by omega)
                subst hgg
                have AH := (show Hid (∀ r, ahd ⟨false, false, (na : Int) + k, (k : Int), true, 0, (k : Int), ins⟩ (.map []) r = ((true, 122), ⟨true, false, (na : Int) + k + 1, (k : Int) + 1, true, 0, (k : Int), ins⟩)) from fun r => ahd_burn r)
                have GK := (show Hid (Gok ⟨false, false, (na : Int) + k, (k : Int), true, 0, (k : Int), ins⟩) from ⟨by simp; omega, by simp; omega, by simp, by simp; omega⟩)
                by_cases hk2 : kc = 2
                · subst hk2
                  by_cases hn0 : 0 < min (max 0 ins) (nd : Int)
                  · have hn1 : decide (0 < min (max 0 ins) (nd : Int)) = true := by simpa using hn0
                    go_wp2_with (first
                      | (go_at_call 11; refine (CA.out _).mono ?_; rintro e w5 ⟨h5, hb5⟩; obtain rfl : e = .returned (.agg #[.int .i64 2, encStr x, encStr y, .slice pd nd cd, .int .i64 a1, .int .i64 b1, .int .i64 c1, .bool ye, .slice pp np cp, .slice pq nq cq, .slice pr nr cr]) := h5; have EN5 := (show Hid (EqdN W (w.heap.size + 3) (w.heap.size + 1) (w.heap.size + 2) (tot LA + tot (LB.take k)) _ wr.heap.size (w5.alloc (.cells #[.int .i64 2, encStr x, encStr y, .slice pd nd cd, .int .i64 a1, .int .i64 b1, .int .i64 c1, .bool ye, .slice pp np cp, .slice pq nq cq, .slice pr nr cr] 36)) ∧ _) from ⟨EN.out.below (bt hb5 (alb w5 _)), hb5.size⟩); clear hb5)
                      | (go_at_call 14; refine (EN5.out.1.hurt (by have := EN5.out.2; simp; omega) GK.out (by have := HK.out.1; have := HT.out.1; omega) (DT.out _ EN5.out.1.bl) 2 HC.out).mono ?_; rintro e w6 ⟨v6, rfl, h6, h7⟩; obtain ⟨er, xp, xn, xc, zp, zn, zc, rfl⟩ := h6.shape; have hq1 := (h7 w5.heap.size EN5.out.2 (by simp)).trans (heap_alloc_new w5 _); have j3 : ∀ ob : Obj, (w6.alloc ob).cell? ⟨w.heap.size, 3, none⟩ = some (.int .i64 (k : Int)) := (fun ob => (HBX.out _ (bt h6.bl (alb w6 ob))).2.2.2.1); have j4 : ∀ ob : Obj, (w6.alloc ob).cell? ⟨w.heap.size, 4, none⟩ = some (.int .i64 ins) := (fun ob => (HBX.out _ (bt h6.bl (alb w6 ob))).2.2.2.2.1); have k10 : ∀ ob : Obj, (w6.alloc ob).cell? ⟨w5.heap.size, 0, none⟩ = some (.int .i64 2) := (fun ob => cell_below ((cell_of_row w6 w5.heap.size 0 _ _ _ hq1).trans rfl) (alb w6 ob)); have k13 : ∀ ob : Obj, (w6.alloc ob).cell? ⟨w5.heap.size, 3, none⟩ = some (.slice pd nd cd) := (fun ob => cell_below ((cell_of_row w6 w5.heap.size 3 _ _ _ hq1).trans rfl) (alb w6 ob)); skip; have V6 := (show Hid (Hv _ _ _ _ _ _ _ _ _ _ _ _ ∧ _ ∧ _) from ⟨h6, hq1, EN5.out.2⟩); clear h6 h7 hq1 EN5))
                    have VY := (show Hid (Hv W (w.heap.size + 3) (w.heap.size + 1) (w.heap.size + 2) (tot LA + tot (LB.take k)) _ 2 ⟨x, y, pd, nd, cd, a1, b1, c1, ye, pp, np, cp, pq, nq, cq, pr, nr, cr⟩ d (.agg #[.int .i64 er, .slice xp xn xc, .slice zp zn zc, .slice none 0 0, .int .i64 0, .bool false]) wr.heap.size (w6.alloc (.cells #[.int .i64 er, .slice xp xn xc, .slice zp zn zc, .slice none 0 0, .int .i64 0, .bool false] 44))) from V6.out.1.below (alb w6 _))
                    have HY := (show Hid ((w6.alloc (.cells #[.int .i64 er, .slice xp xn xc, .slice zp zn zc, .slice none 0 0, .int .i64 0, .bool false] 44)).heap[w5.heap.size]? = some (.cells #[.int .i64 2, encStr x, encStr y, .slice pd nd cd, .int .i64 a1, .int .i64 b1, .int .i64 c1, .bool ye, .slice pp np cp, .slice pq nq cq, .slice pr nr cr] 36 (0, 0)) ∧ (w6.alloc (.cells #[.int .i64 er, .slice xp xn xc, .slice zp zn zc, .slice none 0 0, .int .i64 0, .bool false] 44)).heap[w6.heap.size]? = some (.cells #[.int .i64 er, .slice xp xn xc, .slice zp zn zc, .slice none 0 0, .int .i64 0, .bool false] 44 (0, 0)) ∧ wr.heap.size ≤ w5.heap.size ∧ wr.heap.size ≤ w6.heap.size) from ⟨(Below.heap_alloc _ _ _ (blt V6.out.2.1)).trans V6.out.2.1, heap_alloc_new w6 _, V6.out.2.2, by have := blt V6.out.2.1; have := V6.out.2.2; omega⟩)
                    generalize hYd : w6.alloc (.cells #[.int .i64 er, .slice xp xn xc, .slice zp zn zc, .slice none 0 0, .int .i64 0, .bool false] 44) = Y at *
                    clear hYd V6 j3 j4 j2 EN k10 k13
                    generalize w5.heap.size = q1 at *
                    generalize w6.heap.size = q2 at *
                    obtain ⟨nn, hnn⟩ : ∃ nn : Nat, (nn : Int) = min (max 0 ins) (nd : Int) := ⟨(min (max 0 ins) (nd : Int)).toNat, by omega⟩
                    rw [← hnn] at hn0 hn1 ⊢
                    have hnd2 : (nn : Int) ≤ (cd : Int) := by have := HK.out.2.2.2.2; omega
                    have hn00 : (0 : Int) ≤ (nn : Int) := by omega
                    have HNN := (show Hid (nn ≤ nd ∧ nn = min (max ins 0).toNat nd) from ⟨by omega, by omega⟩)
                    have hld : (d.take (max ins 0).toNat).length = nn := by rw [List.length_take, HK.out.2.2.1]; have := HNN.out; omega
                    have TW := (show Hid (∀ Z, Below W.heap.size W Z → Calls Try.prog 22 #[.slice pd nn cd] Z _) from fun Z hZ => twin_any pd nn cd (d.take (max ins 0).toNat) ((DT.out Z hZ).rx.sub _) hld (by have := HK.out.2.2.2.1; have := HNN.out; omega))
                    have SO2 := (show Hid (∀ Z : World, Z.heap[q1]? = Y.heap[q1]? → Z.cell? ⟨q1, 1, none⟩ = some (encStr x) ∧ Z.cell? ⟨q1, 3, none⟩ = some (.slice pd nd cd)) from fun Z z1 => ⟨(cell_of_row Z q1 1 _ _ _ (z1.trans HY.out.1)).trans rfl, (cell_of_row Z q1 3 _ _ _ (z1.trans HY.out.1)).trans rfl⟩)
                    have KS := (show Hid (Y.drew.cell? ⟨q1, 1, none⟩ = some (encStr x) ∧ Y.drew.cell? ⟨q1, 3, none⟩ = some (.slice pd nd cd)) from SO2.out Y.drew rfl)
                    have HLD := (show Hid _ from hld)
                    clear hnn hld
                    go_region_held3 (fun Z => Z.cell? ⟨q1, 1, none⟩ = some (encStr x) ∧ Z.cell? ⟨q1, 3, none⟩ = some (.slice pd nd cd)) (first | exact KS.out | exact KT.out | exact KU.out)
                      (first
                        | (go_at_call 22; refine (TW.out _ (bt VY.out.bl (bdr Y))).mono ?_; rintro e w7 ⟨p7, c7, rfl, hO7, _, _, hb7⟩; have V7 := (show Hid (Hv _ _ _ _ _ _ _ _ _ _ _ _ ∧ _ ∧ _ ∧ _) from ⟨(VY.out.below (bdr Y)).below hb7, hO7, ((hb7.block q1 (blt HY.out.1)).trans (show Y.drew.heap[q1]? = Y.heap[q1]? from rfl)), ((hb7.block q2 (blt HY.out.2.1)).trans (show Y.drew.heap[q2]? = Y.heap[q2]? from rfl))⟩); have KT := (show Hid (_ ∧ _) from SO2.out w7 V7.out.2.2.1); clear hO7 hb7)
                        | (go_at_call 21; refine (V7.out.1.passes (by rw [AH.out]) (by have := HK.out.1; have := HT.out.1; omega) p7 nn c7 (d.take (max ins 0).toNat) rfl HLD.out (ob_rx V7.out.2.1) (by have := HK.out.2.2.2.1; have := HNN.out; omega)).mono ?_; rintro e w8 ⟨⟨u8, rfl⟩, hS8, hE8, h8⟩; rw [AH.out] at hE8; have z1 : w8.heap[q1]? = Y.heap[q1]? := (h8 q1 HY.out.2.2.1 (blt (V7.out.2.2.1.trans HY.out.1))).trans V7.out.2.2.1; have z2 : w8.heap[q2]? = Y.heap[q2]? := (h8 q2 HY.out.2.2.2 (blt (V7.out.2.2.2.trans HY.out.2.1))).trans V7.out.2.2.2; have KU := (show Hid (_ ∧ _) from SO2.out w8 z1); have RS := (show Hid ((∀ ob : Obj, ∃ bS, SdV (w8.alloc ob) bS (.agg #[.int .i64 er, .slice xp xn xc, .slice zp zn zc, .slice none 0 0, .int .i64 0, .bool false]) (122, [], [])) ∧ (∀ ob : Obj, Eqd W (w.heap.size + 3) (w.heap.size + 1) (w.heap.size + 2) ((tot LA + tot (LB.take k)) + 1 + (d.take (max ins 0).toNat).length) ⟨true, false, (na : Int) + k + 1, (k : Int) + 1, true, 0, (k : Int), ins⟩ (w8.alloc ob))) from ⟨fun ob => ⟨hS8.choose, hS8.choose_spec.below (alb w8 ob)⟩, fun ob => hE8.below (alb w8 ob)⟩); have m8 := (show Hid _ from six (z2.trans HY.out.2.1)); clear hS8 hE8 h8 z1 z2))
                    have s0 := fun ob : Obj => cell_below m8.out.1 (alb w8 ob)
                    have s1 := fun ob : Obj => cell_below m8.out.2.1 (alb w8 ob)
                    have s2 := fun ob : Obj => cell_below m8.out.2.2.1 (alb w8 ob)
                    have s3 := fun ob : Obj => cell_below m8.out.2.2.2.1 (alb w8 ob)
                    have s4 := fun ob : Obj => cell_below m8.out.2.2.2.2.1 (alb w8 ob)
                    have s5 := fun ob : Obj => cell_below m8.out.2.2.2.2.2 (alb w8 ob)
                    go_wp2_with (first
                      | (go_at_call 17; refine (on_any (RS.out.2 _).wat).mono ?_; rintro e w9 ⟨rfl, h9⟩; obtain rfl := h9.symm)
                      | (go_at_call 13; refine (alike_same (RS.out.1 _).choose_spec (show SdV _ 0 (.agg #[.int .i64 122, .slice none 0 0, .slice none 0 0, .slice none 0 0, .int .i64 0, .bool false]) (122, [], []) from ⟨_, _, rfl, ob_nil _ 0, ts_nil _ 0⟩) (by simp)).mono ?_; rintro e wz ⟨rfl, hbz⟩; have E8 := (show Hid (Eqd _ _ _ _ _ _ _) from (RS.out.2 _).below hbz); clear hbz))
                    refine ⟨⟨k + 1, by omega, by go_num, ?_⟩, by simp [intOf]; omega⟩
                    exact ⟨_, Gf.burnt ins na k, E8.out.mono (by have := HK.out.2.1; have := HLD.out; have := HNN.out.1; have := HK.out.2.2.1; omega)⟩
                  · have hn1 : decide (0 < min (max 0 ins) (nd : Int)) = false := by simpa using hn0
                    have HN0 := (show Hid (min (max 0 ins) (nd : Int) ≤ 0) from Int.not_lt.1 hn0)
                    go_wp2_with (first
                      | (go_at_call 11; refine (CA.out _).mono ?_; rintro e w5 ⟨h5, hb5⟩; obtain rfl : e = .returned (.agg #[.int .i64 2, encStr x, encStr y, .slice pd nd cd, .int .i64 a1, .int .i64 b1, .int .i64 c1, .bool ye, .slice pp np cp, .slice pq nq cq, .slice pr nr cr]) := h5; have EN5 := (show Hid (EqdN W (w.heap.size + 3) (w.heap.size + 1) (w.heap.size + 2) (tot LA + tot (LB.take k)) _ wr.heap.size (w5.alloc (.cells #[.int .i64 2, encStr x, encStr y, .slice pd nd cd, .int .i64 a1, .int .i64 b1, .int .i64 c1, .bool ye, .slice pp np cp, .slice pq nq cq, .slice pr nr cr] 36)) ∧ _) from ⟨EN.out.below (bt hb5 (alb w5 _)), hb5.size⟩); clear hb5)
                      | (go_at_call 14; refine (EN5.out.1.hurt (by have := EN5.out.2; simp; omega) GK.out (by have := HK.out.1; have := HT.out.1; omega) (DT.out _ EN5.out.1.bl) 2 HC.out).mono ?_; rintro e w6 ⟨v6, rfl, h6, h7⟩; obtain ⟨er, xp, xn, xc, zp, zn, zc, rfl⟩ := h6.shape; have hq1 := (h7 w5.heap.size EN5.out.2 (by simp)).trans (heap_alloc_new w5 _); have j3 : ∀ ob : Obj, (w6.alloc ob).cell? ⟨w.heap.size, 3, none⟩ = some (.int .i64 (k : Int)) := (fun ob => (HBX.out _ (bt h6.bl (alb w6 ob))).2.2.2.1); have j4 : ∀ ob : Obj, (w6.alloc ob).cell? ⟨w.heap.size, 4, none⟩ = some (.int .i64 ins) := (fun ob => (HBX.out _ (bt h6.bl (alb w6 ob))).2.2.2.2.1); have k10 : ∀ ob : Obj, (w6.alloc ob).cell? ⟨w5.heap.size, 0, none⟩ = some (.int .i64 2) := (fun ob => cell_below ((cell_of_row w6 w5.heap.size 0 _ _ _ hq1).trans rfl) (alb w6 ob)); have k13 : ∀ ob : Obj, (w6.alloc ob).cell? ⟨w5.heap.size, 3, none⟩ = some (.slice pd nd cd) := (fun ob => cell_below ((cell_of_row w6 w5.heap.size 3 _ _ _ hq1).trans rfl) (alb w6 ob)); obtain ⟨⟨bS, hS⟩, hQ⟩ := h6.down (by rw [AH.out]) (fun _ => take_none HK.out.2.2.1 HN0.out); rw [AH.out] at hQ; have RS := (show Hid ((∀ ob1 ob2 : Obj, SdV ((w6.alloc ob1).alloc ob2) bS (.agg #[.int .i64 er, .slice xp xn xc, .slice zp zn zc, .slice none 0 0, .int .i64 0, .bool false]) (122, [], [])) ∧ (∀ ob1 ob2 : Obj, Eqd W (w.heap.size + 3) (w.heap.size + 1) (w.heap.size + 2) (tot LA + tot (LB.take k)) ⟨true, false, (na : Int) + k + 1, (k : Int) + 1, true, 0, (k : Int), ins⟩ ((w6.alloc ob1).alloc ob2))) from ⟨fun ob1 ob2 => hS.below (bt (alb w6 ob1) (alb _ ob2)), fun ob1 ob2 => hQ.below (bt (alb w6 ob1) (alb _ ob2))⟩); clear hS hQ; have V6 := (show Hid (Hv _ _ _ _ _ _ _ _ _ _ _ _ ∧ _ ∧ _) from ⟨h6, hq1, EN5.out.2⟩); clear h6 h7 hq1 EN5)
                      | (go_at_call 17; refine (on_any (RS.out.2 _ _).wat).mono ?_; rintro e w9 ⟨rfl, h9⟩; obtain rfl := h9.symm)
                      | (go_at_call 13; refine (alike_same (RS.out.1 _ _) (show SdV _ 0 (.agg #[.int .i64 122, .slice none 0 0, .slice none 0 0, .slice none 0 0, .int .i64 0, .bool false]) (122, [], []) from ⟨_, _, rfl, ob_nil _ 0, ts_nil _ 0⟩) (by simp)).mono ?_; rintro e w8 ⟨rfl, hb8⟩; have E8 := (show Hid (Eqd _ _ _ _ _ _ _) from (RS.out.2 _ _).below hb8); clear hb8))
                    refine ⟨⟨k + 1, by omega, by go_num, ?_⟩, by simp [intOf]; omega⟩
                    exact ⟨_, Gf.burnt ins na k, E8.out.mono (by have := HK.out.2.1; omega)⟩
                · have hk3 : (kc == 2) = false := by simpa using hk2
                  go_wp2_with (first
                    | (go_at_call 11; refine (CA.out _).mono ?_; rintro e w5 ⟨h5, hb5⟩; obtain rfl : e = .returned (.agg #[.int .i64 kc, encStr x, encStr y, .slice pd nd cd, .int .i64 a1, .int .i64 b1, .int .i64 c1, .bool ye, .slice pp np cp, .slice pq nq cq, .slice pr nr cr]) := h5; have EN5 := (show Hid (EqdN W (w.heap.size + 3) (w.heap.size + 1) (w.heap.size + 2) (tot LA + tot (LB.take k)) _ wr.heap.size (w5.alloc (.cells #[.int .i64 kc, encStr x, encStr y, .slice pd nd cd, .int .i64 a1, .int .i64 b1, .int .i64 c1, .bool ye, .slice pp np cp, .slice pq nq cq, .slice pr nr cr] 36)) ∧ _) from ⟨EN.out.below (bt hb5 (alb w5 _)), hb5.size⟩); clear hb5)
                    | (go_at_call 14; refine (EN5.out.1.hurt (by have := EN5.out.2; simp; omega) GK.out (by have := HK.out.1; have := HT.out.1; omega) (DT.out _ EN5.out.1.bl) kc HC.out).mono ?_; rintro e w6 ⟨v6, rfl, h6, h7⟩; obtain ⟨er, xp, xn, xc, zp, zn, zc, rfl⟩ := h6.shape; have hq1 := (h7 w5.heap.size EN5.out.2 (by simp)).trans (heap_alloc_new w5 _); have j3 : ∀ ob : Obj, (w6.alloc ob).cell? ⟨w.heap.size, 3, none⟩ = some (.int .i64 (k : Int)) := (fun ob => (HBX.out _ (bt h6.bl (alb w6 ob))).2.2.2.1); have j4 : ∀ ob : Obj, (w6.alloc ob).cell? ⟨w.heap.size, 4, none⟩ = some (.int .i64 ins) := (fun ob => (HBX.out _ (bt h6.bl (alb w6 ob))).2.2.2.2.1); have k10 : ∀ ob : Obj, (w6.alloc ob).cell? ⟨w5.heap.size, 0, none⟩ = some (.int .i64 kc) := (fun ob => cell_below ((cell_of_row w6 w5.heap.size 0 _ _ _ hq1).trans rfl) (alb w6 ob)); have k13 : ∀ ob : Obj, (w6.alloc ob).cell? ⟨w5.heap.size, 3, none⟩ = some (.slice pd nd cd) := (fun ob => cell_below ((cell_of_row w6 w5.heap.size 3 _ _ _ hq1).trans rfl) (alb w6 ob)); obtain ⟨⟨bS, hS⟩, hQ⟩ := h6.down (by rw [AH.out]) (fun h9 => absurd h9.1 (by have := HC.out; omega)); rw [AH.out] at hQ; have RS := (show Hid ((∀ ob1 ob2 : Obj, SdV ((w6.alloc ob1).alloc ob2) bS (.agg #[.int .i64 er, .slice xp xn xc, .slice zp zn zc, .slice none 0 0, .int .i64 0, .bool false]) (122, [], [])) ∧ (∀ ob1 ob2 : Obj, Eqd W (w.heap.size + 3) (w.heap.size + 1) (w.heap.size + 2) (tot LA + tot (LB.take k)) ⟨true, false, (na : Int) + k + 1, (k : Int) + 1, true, 0, (k : Int), ins⟩ ((w6.alloc ob1).alloc ob2))) from ⟨fun ob1 ob2 => hS.below (bt (alb w6 ob1) (alb _ ob2)), fun ob1 ob2 => hQ.below (bt (alb w6 ob1) (alb _ ob2))⟩); clear hS hQ; have V6 := (show Hid (Hv _ _ _ _ _ _ _ _ _ _ _ _ ∧ _ ∧ _) from ⟨h6, hq1, EN5.out.2⟩); clear h6 h7 hq1 EN5)
                    | (go_at_call 17; refine (on_any (RS.out.2 _ _).wat).mono ?_; rintro e w9 ⟨rfl, h9⟩; obtain rfl := h9.symm)
                    | (go_at_call 13; refine (alike_same (RS.out.1 _ _) (show SdV _ 0 (.agg #[.int .i64 122, .slice none 0 0, .slice none 0 0, .slice none 0 0, .int .i64 0, .bool false]) (122, [], []) from ⟨_, _, rfl, ob_nil _ 0, ts_nil _ 0⟩) (by simp)).mono ?_; rintro e w8 ⟨rfl, hb8⟩; have E8 := (show Hid (Eqd _ _ _ _ _ _ _) from (RS.out.2 _ _).below hb8); clear hb8))
                  refine ⟨⟨k + 1, by omega, by go_num, ?_⟩, by simp [intOf]; omega⟩
                  exact ⟨_, Gf.burnt ins na k, E8.out.mono (by have := HK.out.2.1; omega)⟩
              · have hlc : cl < (k : Int) := by omega
                have hgg := hG.out.2 (by omega)
                subst hgg
                have hne : ((k : Int) == cl) = false := by simp; omega
                have AH := (show Hid (∀ r, ahd ⟨true, false, (na : Int) + cl + 1, cl + 1, true, 0, cl, ins⟩ (.map []) r = ((false, 122), ⟨true, false, (na : Int) + cl + 1, cl + 1, true, 0, cl, ins⟩)) from fun r => ahd_off r rfl)
                have GK := (show Hid (Gok ⟨true, false, (na : Int) + cl + 1, cl + 1, true, 0, cl, ins⟩) from ⟨by simp; omega, by simp; omega, by simp; omega, by simp; omega⟩)
                go_wp2_with (first
                  | (go_at_call 11; refine (CA.out _).mono ?_; rintro e w5 ⟨h5, hb5⟩; obtain rfl : e = .returned (.agg #[.int .i64 kc, encStr x, encStr y, .slice pd nd cd, .int .i64 a1, .int .i64 b1, .int .i64 c1, .bool ye, .slice pp np cp, .slice pq nq cq, .slice pr nr cr]) := h5; have EN5 := (show Hid (EqdN W (w.heap.size + 3) (w.heap.size + 1) (w.heap.size + 2) (tot LA + tot (LB.take k)) _ wr.heap.size (w5.alloc (.cells #[.int .i64 kc, encStr x, encStr y, .slice pd nd cd, .int .i64 a1, .int .i64 b1, .int .i64 c1, .bool ye, .slice pp np cp, .slice pq nq cq, .slice pr nr cr] 36)) ∧ _) from ⟨EN.out.below (bt hb5 (alb w5 _)), hb5.size⟩); clear hb5)
                  | (go_at_call 14; refine (EN5.out.1.hurt (by have := EN5.out.2; simp; omega) GK.out (by have := HK.out.1; have := HT.out.1; omega) (DT.out _ EN5.out.1.bl) kc HC.out).mono ?_; rintro e w6 ⟨v6, rfl, h6, h7⟩; obtain ⟨er, xp, xn, xc, zp, zn, zc, rfl⟩ := h6.shape; have hq1 := (h7 w5.heap.size EN5.out.2 (by simp)).trans (heap_alloc_new w5 _); have j3 : ∀ ob : Obj, (w6.alloc ob).cell? ⟨w.heap.size, 3, none⟩ = some (.int .i64 cl) := (fun ob => (HBX.out _ (bt h6.bl (alb w6 ob))).2.2.2.1); have j4 : ∀ ob : Obj, (w6.alloc ob).cell? ⟨w.heap.size, 4, none⟩ = some (.int .i64 ins) := (fun ob => (HBX.out _ (bt h6.bl (alb w6 ob))).2.2.2.2.1); have k10 : ∀ ob : Obj, (w6.alloc ob).cell? ⟨w5.heap.size, 0, none⟩ = some (.int .i64 kc) := (fun ob => cell_below ((cell_of_row w6 w5.heap.size 0 _ _ _ hq1).trans rfl) (alb w6 ob)); have k13 : ∀ ob : Obj, (w6.alloc ob).cell? ⟨w5.heap.size, 3, none⟩ = some (.slice pd nd cd) := (fun ob => cell_below ((cell_of_row w6 w5.heap.size 3 _ _ _ hq1).trans rfl) (alb w6 ob)); obtain ⟨⟨bS, hS⟩, hQ⟩ := h6.down (by rw [AH.out]) (fun h9 => by rw [AH.out] at h9; cases h9.2); rw [AH.out] at hQ; have RS := (show Hid ((∀ ob1 ob2 : Obj, SdV ((w6.alloc ob1).alloc ob2) bS (.agg #[.int .i64 er, .slice xp xn xc, .slice zp zn zc, .slice none 0 0, .int .i64 0, .bool false]) (122, [], [])) ∧ (∀ ob1 ob2 : Obj, Eqd W (w.heap.size + 3) (w.heap.size + 1) (w.heap.size + 2) (tot LA + tot (LB.take k)) ⟨true, false, (na : Int) + cl + 1, cl + 1, true, 0, cl, ins⟩ ((w6.alloc ob1).alloc ob2))) from ⟨fun ob1 ob2 => hS.below (bt (alb w6 ob1) (alb _ ob2)), fun ob1 ob2 => hQ.below (bt (alb w6 ob1) (alb _ ob2))⟩); clear hS hQ; have V6 := (show Hid (Hv _ _ _ _ _ _ _ _ _ _ _ _ ∧ _ ∧ _) from ⟨h6, hq1, EN5.out.2⟩); clear h6 h7 hq1 EN5)
                  | (go_at_call 17; refine (on_any (RS.out.2 _ _).wat).mono ?_; rintro e w9 ⟨rfl, h9⟩; obtain rfl := h9.symm)
                  | (go_at_call 13; refine (alike_same (RS.out.1 _ _) (show SdV _ 0 (.agg #[.int .i64 122, .slice none 0 0, .slice none 0 0, .slice none 0 0, .int .i64 0, .bool false]) (122, [], []) from ⟨_, _, rfl, ob_nil _ 0, ts_nil _ 0⟩) (by simp)).mono ?_; rintro e w8 ⟨rfl, hb8⟩; have E8 := (show Hid (Eqd _ _ _ _ _ _ _) from (RS.out.2 _ _).below hb8); clear hb8))
                refine ⟨⟨k + 1, by omega, by go_num, ?_⟩, by simp [intOf]; omega⟩
                exact ⟨_, Gf.off (by omega), E8.out.mono (by have := HK.out.2.1; omega)⟩
        · obtain rfl : k = nb := by omega
          have hi : ¬ (k : Int) < (k : Int) := by omega
          have E1 := (show Hid (Eqd W (w.heap.size + 3) (w.heap.size + 1) (w.heap.size + 2) (tot LA + tot LB) g wr) from (by have h9 := hE; rw [List.take_of_length_le (by have := HL.out.2; omega)] at h9; exact h9))
          have HG := (show Hid _ from hG.ends (by omega) (by omega))
          have HM := (show Hid ((tot LA + tot LB) ≤ 134217728) from (by have h1 := HT.out.1; have h2 := HT.out.2; show _ ≤ _; omega))
          have ST := (show Hid (Calls Try.prog 16 #[.pointer (some ⟨w.heap.size + 3, 0, none⟩)] wr fun e w' => e = .returned (.bool true) ∧ w' = wr) from (by have h9 := struck_any E1.out.wat; rw [HG.out.1, HG.out.2.1] at h9; exact h9))
          have FB := (show Hid (Bls W qd dirs ∧ Ils W qc cuts) from ⟨HF.out.1.below HBW.out.1, HF.out.2.1.below HBW.out.1⟩)
          have HS := (show Hid (∀ Z g, Below W.heap.size W Z → WAt Z (w.heap.size + 3) (some ⟨w.heap.size + 1, 0, none⟩) none g → Z.cell? ⟨w.heap.size + 3, 0, none⟩ = some (.pointer (some ⟨w.heap.size + 1, 0, none⟩)) ∧ Z.cell? ⟨w.heap.size, 5, none⟩ = some (.slice qd nqd cqd) ∧ Z.cell? ⟨w.heap.size, 6, none⟩ = some (.slice qc nqc cqc)) from fun Z g hZ hW => ⟨hW.cell.1, (HBX.out Z hZ).2.2.2.2.2.1, (HBX.out Z hZ).2.2.2.2.2.2⟩)
          clear hR hE hG
          go_wp2_with (first
            | (go_at_call 16; refine ST.out.mono ?_; rintro e w1 ⟨rfl, h1⟩; obtain rfl := h1.symm)
            | (go_at_call 19; refine (E1.out.level HM.out).mono ?_; rintro e w2 ⟨rfl, h2, _⟩; have E2 := (show Hid (Eqd _ _ _ _ _ _ _) from h2); clear h2 E1 ST)
            | (go_at_call 12; refine (E2.out.set (fun h => rest_struck h HG.out.1 HG.out.2.1)).mono ?_; rintro e w3 ⟨⟨v3, rfl⟩, h3⟩; rw [HG.out.2.2.1] at h3; have E3 := (show Hid (Eqd W (w.heap.size + 3) (w.heap.size + 1) (w.heap.size + 2) (tot LA + tot LB) ⟨true, false, g.calls, 0, false, 0, 0, 0⟩ w3.drew) from h3.below (bdr w3)); clear h3 E2))
          have KS := (show Hid (w3.drew.cell? ⟨w.heap.size + 3, 0, none⟩ = some (.pointer (some ⟨w.heap.size + 1, 0, none⟩)) ∧ w3.drew.cell? ⟨w.heap.size, 5, none⟩ = some (.slice qd nqd cqd) ∧ w3.drew.cell? ⟨w.heap.size, 6, none⟩ = some (.slice qc nqc cqc)) from HS.out _ _ E3.out.bl E3.out.wat)
          go_region_held3 (fun Z => Z.cell? ⟨w.heap.size + 3, 0, none⟩ = some (.pointer (some ⟨w.heap.size + 1, 0, none⟩)) ∧ Z.cell? ⟨w.heap.size, 5, none⟩ = some (.slice qd nqd cqd) ∧ Z.cell? ⟨w.heap.size, 6, none⟩ = some (.slice qc nqc cqc)) (first | exact KS.out | exact KT.out | exact KU.out | exact KV.out | exact KX.out | exact KY.out)
            (first
              | (go_at_call 17; refine (on_any E3.out.wat).mono ?_; rintro e w9 ⟨rfl, h9⟩; obtain rfl := h9.symm)
              | (go_at_call 16; refine (struck_any E3.out.wat).mono ?_; rintro e w9 ⟨rfl, h9⟩; obtain rfl := h9.symm)
              | (go_at_call 24; refine (C5.out.fate qd nqd cqd HF.out.2.2.2.2.1 FB.out.1 HF.out.2.2.1 qc nqc cqc HF.out.2.2.2.2.2 FB.out.2 HF.out.2.2.2.1 (by omega) (by omega)).mono ?_; rintro e w6 ⟨p3, c3, p4, c4, rfl, h6⟩; have C6 := (show Hid (Fd3 _ _ _ _ _ _ _ _ _ _ _) from h6); have KV := (show Hid (_ ∧ _) from HS.out _ _ h6.w.1 h6.w.2); clear h6 C5)
              | (go_at_call 24; refine (E3.out.fate qd nqd cqd dirs HF.out.2.2.2.2.1 FB.out.1 HF.out.2.2.1 qc nqc cqc cuts HF.out.2.2.2.2.2 FB.out.2 HF.out.2.2.2.1 (by omega) (by omega)).mono ?_; rintro e w4 ⟨p1, c1, p2, c2, rfl, h4⟩; have C4 := (show Hid (Fd1 _ _ _ _ _ _ _ _ _ _ _) from h4); have KT := (show Hid (_ ∧ _) from HS.out _ _ h4.w.1 h4.w.2); clear h4 E3)
              | (go_at_call 23; refine (C6.out.crash HM.out nqd c3 nqc c4 HF.out.2.2.2.2.1 HF.out.2.2.2.2.2 (by omega) (by omega)).mono ?_; rintro e w7 ⟨rfl, h7⟩; have E7 := (show Hid (Eqd _ _ _ _ _ _ _) from h7); have KX := (show Hid (_ ∧ _) from HS.out _ _ h7.bl h7.wat); clear h7 C6)
              | (go_at_call 23; refine (C4.out.crash HM.out nqd c1 nqc c2 HF.out.2.2.2.2.1 HF.out.2.2.2.2.2 (by omega) (by omega)).mono ?_; rintro e w5 ⟨rfl, h5⟩; have C5 := (show Hid (Fd2 _ _ _ _ _ _ _ _ _) from h5); have KU := (show Hid (_ ∧ _) from HS.out _ _ h5.w.1 h5.w.2); clear h5 C4)
              | (go_at_call 19; refine (E7.out.level HM.out).mono ?_; rintro e w8 ⟨rfl, h8, _⟩; have E8 := (show Hid (Eqd W (w.heap.size + 3) (w.heap.size + 1) (w.heap.size + 2) (tot LA + tot LB) ⟨true, false, g.calls, 0, false, 0, 0, 0⟩ w8) from h8); have KY := (show Hid (_ ∧ _) from HS.out _ _ h8.bl h8.wat); clear h8 E7))
          have GK := (show Hid (Gok ⟨false, false, g.calls, 0, false, 0, 0, 0⟩) from HG.out.2.2.2)
          have AH := (show Hid (ahd ⟨false, false, g.calls, 0, false, 0, 0, 0⟩ (.map []) false = ((false, 0), ⟨false, false, g.calls + 1, 1, false, 0, 0, 0⟩)) from ahd_plain ..)
          go_wp2_with (first
            | (go_at_call 25; refine (E8.out.set (fun h => power_any h true)).mono ?_; rintro e y1 ⟨⟨v1, rfl⟩, h1⟩; have E9 := (show Hid (Eqd W (w.heap.size + 3) (w.heap.size + 1) (w.heap.size + 2) (tot LA + tot LB) ⟨false, false, g.calls, 0, false, 0, 0, 0⟩ y1) from h1); clear h1 E8)
            | (go_at_call 26; refine (E9.out.wlist GK.out (by rw [AH.out]) HM.out).mono ?_; rintro e y2 ⟨p2, n2, c2, rfl, σ2, F2, G2, h2, h3, h4⟩; rw [AH.out] at h2; have L1 := (show Hid (Lst1 W (w.heap.size + 3) (w.heap.size + 1) (w.heap.size + 2) (tot LA + tot LB) ⟨false, false, g.calls + 1, 1, false, 0, 0, 0⟩ (.slice p2 n2 c2) y2) from ⟨σ2, F2, G2, _, h2, h3, h4⟩); clear h2 h3 h4 E9)
            | (go_at_call 27; refine (L1.out.tlist HM.out).mono ?_; rintro e y3 ⟨p3, n3, c3, rfl, h1, h2, b1, b2, ns, h3, h4, h5⟩; have L2 := (show Hid (_ ∧ _) from ⟨h1, h2⟩); have AL := (show Hid _ from alike_same h3 h4 h5); clear h1 h2 h3 h4 h5 L1)
            | (go_at_call 17; refine (on_any L2.out.1).mono ?_; rintro e w9 ⟨rfl, h9⟩; obtain rfl := h9.symm)
            | (go_at_call 13; refine AL.out.mono ?_; rintro e y4 ⟨rfl, h4⟩; have BE := (show Hid (Below w.heap.size w y4) from bt HBW.out.1 (bt L2.out.2 h4)); clear h4))
          go_ret
          exact ⟨rfl, BE.out⟩
end
end Go.Proofs.Ytjjncajfljbegaa
