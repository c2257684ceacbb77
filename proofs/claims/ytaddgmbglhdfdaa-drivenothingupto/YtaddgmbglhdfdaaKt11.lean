/-
  The walk of DriveKeeps.
-/
import Derived.Test.YtaddgmbglhdfdaaKs11
namespace Go.Proofs.Ytaddgmbglhdfdaa
open Go.RowKit Go.Maps Go.Sort
theorem Kd.do {w0 w : World} {db k : Nat} {σ : Ds} (h : Kd w0 db k σ w) (hk : k ≤ 134217728) (a : Atp) (hA : AcAt w0 a.2.1 a.2.2) : Calls Try.prog 18 #[.pointer (some ⟨db, 0, none⟩), .agg (a.2.1.v a.1)] w fun e w' => (∃ u1 u2 u3 u4, e = .returned (.tuple #[.agg (anC (.int .i64 (σ.act a.1 a.2.1.x a.2.1.y a.2.1.n a.2.2).1) u1 u2 u3 u4), .bool true])) ∧ Kd w0 db (k + aez a) (σ.step a) w' := by
  obtain ⟨F, h1, h2⟩ := h.ex
  refine (do_any h1 h.ok hk h.bl h2 a.1 a.2.1 a.2.2 hA).mono ?_
  rintro e w' ⟨e1, hD, hT⟩
  exact ⟨e1, h.next h2 (h.ok.act hk h1 a) hD hT⟩
theorem Kd.of {w0 w : World} {db k0 n : Nat} {σ : Ds} {L : List Atp} (h : PlR w0 db σ L k0 n w) (hn : L.length = n) : Kd w0 db (k0 + aesz L) (σ.run L) w := by
  have e : L.take n = L := List.take_of_length_le (by omega)
  have h1 := h.ex
  have h2 := h.ok
  rw [e] at h1 h2
  exact ⟨h1, h2, h.bl⟩
theorem Kd.pl {w0 w : World} {db k : Nat} {σ : Ds} (h : Kd w0 db k σ w) (L : List Atp) : PlR w0 db σ L k 0 w := ⟨h.ex, by simpa [aesz, Ds.run] using h.ok, h.bl⟩
theorem Kd.wfd {w0 w : World} {db k : Nat} {σ : Ds} (h : Kd w0 db k σ w) : Wfd σ := by
  obtain ⟨F, h1, _⟩ := h.ex
  exact wfd_of h1 h.ok
/-- A Keep. -/
def kpC (how room : Int) (fv av : Value) (nm : Tx) (dv mv qv rv : Value) : Array Value := #[.int .i64 how, .int .i64 room, fv, av, encStr nm, dv, mv, qv, rv]
theorem kp_c {w : World} {g : Nat} {t : TypeId} {how room : Int} {fv av : Value} {nm : Tx} {dv mv qv rv : Value} (h : GB w g t (kpC how room fv av nm dv mv qv rv)) : w.cell? ⟨g, 3, none⟩ = some av ∧ w.cell? ⟨g, 4, none⟩ = some (encStr nm) ∧ w.cell? ⟨g, 5, none⟩ = some dv ∧ w.cell? ⟨g, 6, none⟩ = some mv := ⟨h.cell 3, h.cell 4, h.cell 5, h.cell 6⟩
theorem kp_start {w : World} {g : Nat} {t : TypeId} {how room : Int} {fv av : Value} {nm : Tx} {dv mv qv rv : Value} (h : GB w g t (kpC how room fv av nm dv mv qv rv)) : (loadVar 24 ⟨g, 0, none⟩).run Try.prog w = .ok (.agg (stC how room fv)) w := by
  refine run_loadVar_at (P := Try.prog) w g 0 24 (stC how room fv) _ (fun j v hj => ?_) Try.underlying24 rfl (by unfold stC; kernel_rfl)
  unfold stC at hj
  match j, hj with
  | 0, hj => simp at hj; subst hj; exact h.cell 0
  | 1, hj => simp at hj; subst hj; exact h.cell 1
  | 2, hj => simp at hj; subst hj; exact h.cell 2
  | j + 3, hj => simp at hj
theorem kp_fate {w : World} {g : Nat} {t : TypeId} {how room : Int} {fv av : Value} {nm : Tx} {dv mv qv rv : Value} (h : GB w g t (kpC how room fv av nm dv mv qv rv)) : (loadVar 30 ⟨g, 7, none⟩).run Try.prog w = .ok (.agg (ftC qv rv)) w := by
  refine run_loadVar_at (P := Try.prog) w g 7 30 (ftC qv rv) _ (fun j v hj => ?_) Try.underlying30 rfl (by unfold ftC; exact size_Ft)
  unfold ftC at hj
  match j, hj with
  | 0, hj => simp at hj; subst hj; exact h.cell 7
  | 1, hj => simp at hj; subst hj; exact h.cell 8
  | j + 2, hj => simp at hj
/-- The box of what is handed in stays while a drive of the law's own turns. -/
theorem gb_keep {w w1 W : World} {t : TypeId} {cs : Array Value} (h : GB w1 w.heap.size t cs) (hb : Below w1.heap.size w1 W) : GB W w.heap.size t cs := h.below hb
/-- What DriveKeeps is handed. -/
structure KeepAt (w : World) (p : Option Addr) (n : Nat) (nm' dt : Nat → Tx) (pa : Option Addr) (LA : List Atp) (nm : Tx) (pd : Option Addr) (d : Tx) (pm : Option Addr) (LM : List Atp) (qd : Option Addr) (dirs : List Bool) (qc : Option Addr) (cuts : List Int) : Prop where
  fl : FlIn w p nm' dt n
  fz : fsz (fls nm' dt n) ≤ 1048576
  fx : ∀ i, i < n → (nm' i).length ≤ 134217728
  fn : n ≤ 134217728
  ac : AcsAt w pa LA
  az : aesz LA ≤ 4194304
  an : LA.length ≤ 1048576
  xn : nm.length ≤ 1048576
  rd : Rx w pd d
  dn : d.length ≤ 1048576
  mc : AcsAt w pm LM
  mz : aesz LM ≤ 4194304
  mn : LM.length ≤ 1048576
  bq : Bls w qd dirs
  bn : dirs.length ≤ 1048576
  iq : Ils w qc cuts
  iN : cuts.length ≤ 1048576
  ib : ∀ b o, qc = some ⟨b, o, none⟩ → 0 < cuts.length → b < w.heap.size
section
attribute [local irreducible] Calls GB ftC stC kpC anC Ac.v
set_option maxHeartbeats 8000000 in
set_option maxRecDepth 1000000 in
theorem driveKeeps_walk {w : World} (how room : Int) (p : Option Addr) (n c : Nat) (nm' dt : Nat → Tx) (pa : Option Addr) (ca : Nat) (LA : List Atp) (nm : Tx) (pd : Option Addr) (cd : Nat) (d : Tx) (pm : Option Addr) (cm : Nat) (LM : List Atp) (qd : Option Addr) (cq : Nat) (dirs : List Bool) (qc : Option Addr) (cc : Nat) (cuts : List Int) (hK : KeepAt w p n nm' dt pa LA nm pd d pm LM qd dirs qc cuts) :
    Calls Try.prog 3 #[.agg (kpC how room (.slice p n c) (.slice pa LA.length ca) nm (.slice pd d.length cd) (.slice pm LM.length cm) (.slice qd dirs.length cq) (.slice qc cuts.length cc))] w fun e w' => e = .returned (.bool true) ∧ Below w.heap.size w w' := by
  have HK := (show Hid (KeepAt w p n nm' dt pa LA nm pd d pm LM qd dirs qc cuts) from hK)
  obtain ⟨na, hna⟩ : ∃ na, na = LA.length := ⟨_, rfl⟩
  obtain ⟨nd, hnd⟩ : ∃ nd, nd = d.length := ⟨_, rfl⟩
  obtain ⟨nM, hnM⟩ : ∃ nM, nM = LM.length := ⟨_, rfl⟩
  rw [← hna, ← hnd, ← hnM]
  have HN := (show Hid (na = LA.length ∧ nd = d.length ∧ nM = LM.length) from ⟨hna, hnd, hnM⟩)
  clear hK hna hnd hnM
  go_enter Try.func3, Try.ntmps3
  go_upto_region 4 with (first
    | (refine wpList_bxB (cs := kpC how room (.slice p n c) (.slice pa na ca) nm (.slice pd nd cd) (.slice pm nM cm) (.slice qd dirs.length cq) (.slice qc cuts.length cc)) rfl _ rfl rfl ?_; intro w1 hG1 hb1 hs1)
    | (go_at_call 8; refine (awake_any _).mono ?_; rintro e w2 ⟨rfl, hb2⟩))
  have G2 := (show Hid (GB w2 w.heap.size 32 (kpC how room (.slice p n c) (.slice pa na ca) nm (.slice pd nd cd) (.slice pm nM cm) (.slice qd dirs.length cq) (.slice qc cuts.length cc))) from hG1.below hb2)
  have B2 := (show Hid (Below w.heap.size w w2) from bt hb1 hb2)
  have hst := kp_start G2.out
  clear hG1 hb1 hs1 hb2
  go_upto_region 5 with (first
    | (refine wpList_ldAt rfl _ _ rfl w.heap.size 0 rfl _ hst ?_)
    | (go_at_call 9; refine (made_any how room p n c nm' dt (HK.out.fl.below B2.out) (by have := HK.out.fz; omega) HK.out.fx HK.out.fn).mono ?_; rintro e w3 ⟨pt, rfl, hM, hb3⟩))
  have G3 := (show Hid (GB w3 w.heap.size 32 (kpC how room (.slice p n c) (.slice pa na ca) nm (.slice pd nd cd) (.slice pm nM cm) (.slice qd dirs.length cq) (.slice qc cuts.length cc))) from G2.out.below hb3)
  have B3 := (show Hid (Below w.heap.size w w3) from bt B2.out hb3)
  have HB23 := (show Hid (True ∧ Below w2.heap.size w2 w3) from ⟨trivial, hb3⟩)
  have HM := (show Hid (MadeR w2 w3 (Ds.start how room (fls nm' dt n)) pt) from hM)
  obtain ⟨c3, c4, c5, c6⟩ := kp_c G3.out
  have NM := (show Hid _ from fun W => named_any nm (by have := HK.out.xn; omega) W)
  clear hst hM hb3
  go_upto_region 8 with (go_at_call 10; refine (NM.out _).mono ?_; rintro e w4 ⟨rfl, h9⟩; obtain rfl := h9.symm)
  rcases HM.out with ⟨_, rfl⟩ | ⟨σ, db, F, hs, rfl, hD, hF⟩
  · go_wp2
    go_ret
    exact ⟨rfl, B3.out⟩
  · have K3 := (show Hid (Kd w2 db (fsz (fls nm' dt n)) σ w3) from ⟨⟨F, hD, hF⟩, start_okk hs, by
      obtain ⟨h1, h2⟩ := HB23.out
      exact h2⟩)
    clear HM hs hD hF
    cases hN : isN nm with
    | false =>
      go_wp2
      go_ret
      exact ⟨rfl, B3.out⟩
    | true =>
      have HNm := (show Hid (isN nm = true) from hN)
      have PL := (show Hid (Calls Try.prog 11 #[.pointer (some ⟨db, 0, none⟩), .slice pa na ca] w3 fun e w' => (∃ r, e = .returned r) ∧ PlR w2 db σ LA (fsz (fls nm' dt n)) na w') from played_any LA pa na ca HN.out.1.symm (HK.out.ac.below B2.out) (K3.out.pl LA) (by have := HK.out.fz; have := HK.out.az; omega) (by have := HK.out.an; have := HN.out.1; omega))
      clear hN
      go_upto_region 11 with (go_at_call 11; refine PL.out.mono ?_; rintro e w5 ⟨⟨r5, rfl⟩, hP5⟩)
      obtain ⟨k5, hk5⟩ : ∃ k5, k5 = fsz (fls nm' dt n) + aesz LA := ⟨_, rfl⟩
      have K5 := (show Hid (Kd w2 db k5 (σ.run LA) w5) from by rw [hk5]; exact Kd.of hP5 HN.out.1.symm)
      have HK5 := (show Hid (k5 ≤ 5242880) from by have := HK.out.fz; have := HK.out.az; show _ ≤ _; omega)
      clear hP5 hk5 c3 c4 c5 c6 K3 PL
      generalize σ.run LA = τ at K5
      have CR := (show Hid _ from K5.out.create (by have := HK5.out; omega) nm (by have := HK.out.xn; omega))
      obtain ⟨ec, hec⟩ : ∃ ec : Nat, ec = (τ.create nm).1 := ⟨_, rfl⟩
      rw [← hec] at CR
      cases ec with
      | succ e9 =>
        have d0 : (((e9 + 1 : Nat) : Int) != 0) = true := by simp; omega
        have NU := (show Hid _ from fun W => lnum_any ((e9 + 1 : Nat) : Int) W)
        clear hec
        go_wp2_with (first
          | (go_at_call 13; refine CR.out.mono ?_; rintro e w6 ⟨rfl, hK6⟩; have K6 := (show Hid _ from hK6.bl); clear hK6)
          | (go_at_call 12; refine (NU.out _).mono ?_; rintro e w7 ⟨rfl, h9⟩; obtain rfl := h9.symm))
        go_ret
        exact ⟨rfl, bt B2.out K6.out⟩
      | zero =>
        have JC := (show Hid (isN nm = true ∧ Jb nm τ ⟨[], 0⟩ (τ.create nm).2) from jb_create hec.symm)
        have WF := (show Hid (Wfd τ) from K5.out.wfd)
        have NU := (show Hid _ from fun W => lnum_any ((0 : Nat) : Int) W)
        clear hec
        generalize (τ.create nm).2 = τ1 at CR JC
        have AP := (show Hid (∀ W, Kd w2 db (k5 + 1) τ1 W → Calls Try.prog 14 #[.pointer (some ⟨db, 0, none⟩), encStr nm, .slice pd nd cd] W fun e w' => e = .returned (.int .i64 ((τ1.append nm d).1 : Int)) ∧ Kd w2 db (k5 + 1 + 1 + d.length) (τ1.append nm d).2 w') from fun W hW => hW.append (by have := HK5.out; omega) nm (by have := HK.out.xn; omega) pd nd cd d ((HK.out.rd.below B2.out).below hW.bl) HN.out.2.1.symm (by have := HK.out.dn; have := HN.out.2.1; omega))
        obtain ⟨ea, hea⟩ : ∃ ea : Nat, ea = (τ1.append nm d).1 := ⟨_, rfl⟩
        rw [← hea] at AP
        cases ea with
        | succ e9 =>
          have d0 : (((e9 + 1 : Nat) : Int) != 0) = true := by simp; omega
          have NV := (show Hid _ from fun W => lnum_any ((e9 + 1 : Nat) : Int) W)
          clear hea
          go_wp2_with (first
            | (go_at_call 13; refine CR.out.mono ?_; rintro e w6 ⟨rfl, hK6⟩; have K6 := (show Hid (Kd w2 db (k5 + 1) τ1 w6) from hK6); clear hK6)
            | (go_at_call 14; refine (AP.out _ K6.out).mono ?_; rintro e w7 ⟨rfl, hK7⟩; have K7 := (show Hid _ from hK7.bl); clear hK7)
            | (go_at_call 12; refine (NU.out _).mono ?_; rintro e w8 ⟨rfl, h9⟩; obtain rfl := h9.symm)
            | (go_at_call 12; refine (NV.out _).mono ?_; rintro e w8 ⟨rfl, h9⟩; obtain rfl := h9.symm))
          go_ret
          exact ⟨rfl, bt B2.out K7.out⟩
        | zero =>
          have JA := (show Hid (Jb nm τ ⟨d, 0⟩ (τ1.append nm d).2) from jb_append JC.out.2 WF.out JC.out.1 hea.symm)
          clear hea
          generalize (τ1.append nm d).2 = τ2 at AP JA
          obtain ⟨hs0, hJs⟩ := jb_sync JA.out WF.out JC.out.1
          have JS := (show Hid (Jk nm d (τ2.sync nm).2.syncDir) from jb_syncDir hJs WF.out)
          have SY := (show Hid (∀ W, Kd w2 db (k5 + 1 + 1 + d.length) τ2 W → Calls Try.prog 15 #[.pointer (some ⟨db, 0, none⟩), encStr nm] W fun e w' => e = .returned (.int .i64 ((0 : Nat) : Int)) ∧ Kd w2 db (k5 + 1 + 1 + d.length + 1) (τ2.sync nm).2 w') from fun W hW => by
            have h9 := hW.sync nm (by have := HK.out.xn; omega)
            rw [hs0] at h9
            exact h9)
          clear hs0 hJs
          generalize (τ2.sync nm).2 = τ3 at SY JS
          have SD := (show Hid (∀ W, Kd w2 db (k5 + 1 + 1 + d.length + 1) τ3 W → Calls Try.prog 16 #[.pointer (some ⟨db, 0, none⟩)] W fun e w' => e = .returned (.int .i64 0) ∧ Kd w2 db (k5 + 1 + 1 + d.length + 1 + 1) τ3.syncDir w') from fun W hW => hW.syncDir (by have := HK5.out; have := HK.out.dn; omega))
          generalize τ3.syncDir = τ4 at SD JS
          obtain ⟨k9, hk9⟩ : ∃ k9, k9 = k5 + 1 + 1 + d.length + 1 + 1 := ⟨_, rfl⟩
          rw [← hk9] at SD
          have HK9 := (show Hid (k9 ≤ 10000000) from by have := HK5.out; have := HK.out.dn; show _ ≤ _; omega)
          clear hk9
          go_upto_region 16 with (first
            | (go_at_call 13; refine CR.out.mono ?_; rintro e w6 ⟨rfl, hK6⟩; have K6 := (show Hid (Kd w2 db (k5 + 1) τ1 w6) from hK6); clear hK6)
            | (go_at_call 14; refine (AP.out _ K6.out).mono ?_; rintro e w7 ⟨rfl, hK7⟩; have K7 := (show Hid (Kd w2 db (k5 + 1 + 1 + d.length) τ2 w7) from hK7); clear hK7)
            | (go_at_call 15; refine (SY.out _ K7.out).mono ?_; rintro e w8 ⟨rfl, hK8⟩; have K8 := (show Hid (Kd w2 db (k5 + 1 + 1 + d.length + 1) τ3 w8) from hK8); clear hK8)
            | (go_at_call 16; refine (SD.out _ K8.out).mono ?_; rintro e w9 ⟨rfl, hK9⟩; have K9 := (show Hid (Kd w2 db k9 τ4 w9) from hK9); clear hK9)
            | (go_at_call 12; refine (lnum_any _ _).mono ?_; rintro e wq ⟨rfl, h9⟩; obtain rfl := h9.symm))
          have HA2 := (show Hid (AcsAt w2 pm LM) from HK.out.mc.below B2.out)
          have HR2 := (show Hid (Rx w2 pd d) from HK.out.rd.below B2.out)
          clear CR AP SY SD K6 K7 K8 JC JA WF NU K5
          have hnM : nM ≤ 1048576 := by have := HK.out.mn; have := HN.out.2.2; omega
          go_loopw [9] (fun i wr => ∃ k : Nat, k ≤ nM ∧ i = .int .i64 (k : Int) ∧ Hid (∃ ρ, Kd w2 db (k9 + aesz (LM.take k)) ρ wr ∧ Jk nm d ρ)) (fun i _ => nM - (intOf i).toNat)
          case atStart => exact ⟨0, Nat.zero_le _, rfl, ⟨τ4, by simpa [aesz] using K9.out, JS.out⟩⟩
          case round =>
            obtain ⟨k, hk, rfl, hR⟩ := hrel
            obtain ⟨ρ, hKd, hJk⟩ := hR.out
            have KD := (show Hid (Kd w2 db (k9 + aesz (LM.take k)) ρ wr) from hKd)
            have JK := (show Hid (Jk nm d ρ) from hJk)
            have HKk := (show Hid (k9 + aesz (LM.take k) ≤ 20000000) from by have := HK9.out; have := aesz_le LM k; have := HK.out.mz; show _ ≤ _; omega)
            obtain ⟨_, _, _, c6⟩ := kp_c (G2.out.below hKd.bl)
            clear hKd hJk hR
            by_cases hlt : k < nM
            · have hi : (k : Int) < (nM : Int) := by omega
              have hkl : k < LM.length := by have := HN.out.2.2; omega
              obtain ⟨b, o, hp, hS, hAc⟩ := HA2.out k hkl
              obtain ⟨a, ha⟩ : ∃ a, a = LM[k] := ⟨_, rfl⟩
              have HS := (show Hid (Svn w2 b (o + k * 7) a.1 a.2.1) from by rw [ha]; exact hS)
              have HAc := (show Hid (AcAt w2 a.2.1 a.2.2) from by rw [ha]; exact hAc)
              have HSZ := (show Hid (k9 + aesz (LM.take (k + 1)) = k9 + aesz (LM.take k) + aez a) from by show _ = _; rw [ha, aesz_succ LM k hkl, Nat.add_assoc])
              rw [hp] at c6
              have hld := (HS.out.below KD.out.bl).run
              have HLt := (show Hid (k < nM) from hlt)
              clear hp hS hAc ha hkl hlt
              cases ht : tch a.1 a.2.1.x a.2.1.y nm with
              | true =>
                have TC := (show Hid _ from fun W => touches_any a.1 a.2.1 nm W)
                rw [ht] at TC
                clear ht
                go_wp2_with (first
                  | (refine wpList_ldAt rfl _ _ rfl b (o + k * 7) rfl _ hld ?_)
                  | (go_at_call 17; refine (TC.out _).mono ?_; rintro e wT ⟨rfl, hbT⟩))
                go_roundw
                case rel => exact ⟨k + 1, HLt.out, by go_num, ⟨ρ, by
                  have h9 := KD.out.below hbT
                  rw [HSZ.out]
                  exact ⟨h9.ex, h9.ok.mono (by omega), h9.bl⟩, JK.out⟩⟩
                case measure => simp [intOf]; have := HLt.out; omega
              | false =>
                have TC := (show Hid _ from fun W => touches_any a.1 a.2.1 nm W)
                rw [ht] at TC
                have JN := (show Hid (Jk nm d (ρ.step a)) from JK.out.step a ht)
                clear ht
                have DO := (show Hid (∀ W, Kd w2 db (k9 + aesz (LM.take k)) ρ W → Calls Try.prog 18 #[.pointer (some ⟨db, 0, none⟩), .agg (a.2.1.v a.1)] W fun e w' => (∃ u1 u2 u3 u4, e = .returned (.tuple #[.agg (anC (.int .i64 (ρ.act a.1 a.2.1.x a.2.1.y a.2.1.n a.2.2).1) u1 u2 u3 u4), .bool true])) ∧ Kd w2 db (k9 + aesz (LM.take k) + aez a) (ρ.step a) w') from fun W hW => hW.do (by have := HKk.out; omega) a HAc.out)
                have SH := (show Hid (∀ W, Kd w2 db (k9 + aesz (LM.take k) + aez a) (ρ.step a) W → Calls Try.prog 19 #[.pointer (some ⟨db, 0, none⟩), encStr nm, encStr d] W fun e w' => e = .returned (.bool true) ∧ Kd w2 db (k9 + aesz (LM.take k) + aez a) (ρ.step a) w') from fun W hW => hW.shows (by
                    have h1 := HSZ.out
                    have h2 := HK9.out
                    have h3 := aesz_le LM (k + 1)
                    have h4 := HK.out.mz
                    omega) nm d (by have := HK.out.xn; omega) (JN.out.read HNm.out).1)
                go_wp2_with (first
                  | (have hx := hldT; refine wpList_ldAt rfl _ _ rfl b (o + k * 7) rfl _ hldT ?_; clear hx)
                  | (refine wpList_ldAt rfl _ _ rfl b (o + k * 7) rfl _ hld ?_)
                  | (go_at_call 17; refine (TC.out _).mono ?_; rintro e wT ⟨rfl, hbT⟩; have KT := (show Hid _ from KD.out.below hbT); have hldT := (HS.out.below KT.out.bl).run; have c6T := cell_below c6 hbT)
                  | (go_at_call 18; refine (DO.out _ KT.out).mono ?_; rintro e wD ⟨⟨u1, u2, u3, u4, rfl⟩, hKD⟩; have KE := (show Hid _ from hKD); have hcv := conv_rx (HR2.out.below hKD.bl) nd cd HN.out.2.1.symm; clear hKD)
                  | (go_at_call 19; refine (SH.out _ KE.out).mono ?_; rintro e wS ⟨rfl, hKS⟩; have KS := (show Hid _ from hKS); clear hKS))
                go_roundw
                case rel => exact ⟨k + 1, HLt.out, by go_num, ⟨ρ.step a, by rw [HSZ.out]; exact KS.out, JN.out⟩⟩
                case measure => simp [intOf]; have := HLt.out; omega
            · obtain rfl : nM = k := by omega
              have hfl := kp_fate (G2.out.below KD.out.bl)
              have hk20 := HKk.out
              have CRS := (show Hid (Calls Try.prog 20 #[.pointer (some ⟨db, 0, none⟩), .agg (ftC (.slice qd dirs.length cq) (.slice qc cuts.length cc))] wr fun e w' => e = .returned (.int .i64 0) ∧ Kd w2 db (k9 + aesz (LM.take nM)) (ρ.crash dirs cuts) w') from KD.out.crash (by omega) qd dirs.length cq dirs rfl ((HK.out.bq.below B2.out).below KD.out.bl) qc cuts.length cc cuts rfl ((HK.out.iq.below B2.out).below KD.out.bl) (by have := HK.out.bn; omega) (by have := HK.out.iN; omega) (fun h0 b o e => by have := HK.out.ib b o e h0; have := B2.out.size; omega))
              obtain ⟨hJ9, hp9⟩ := JK.out.crash dirs cuts
              have JR := (show Hid ((ρ.crash dirs cuts).read nm = (0, d) ∧ (ρ.crash dirs cuts).loose nm = (0, 0)) from hJ9.read HNm.out)
              have JP := (show Hid ((ρ.crash dirs cuts).pend = []) from hp9)
              clear hJ9 hp9
              generalize ρ.crash dirs cuts = ρ' at CRS JR JP
              generalize k9 + aesz (LM.take nM) = kk at CRS hk20
              have SH := (show Hid (∀ W, Kd w2 db kk ρ' W → Calls Try.prog 19 #[.pointer (some ⟨db, 0, none⟩), encStr nm, encStr d] W fun e w' => e = .returned (.bool true) ∧ Kd w2 db kk ρ' w') from fun W hW => hW.shows (by omega) nm d (by have := HK.out.xn; omega) JR.out.1)
              have LO := (show Hid (∀ W, Kd w2 db kk ρ' W → Calls Try.prog 21 #[.pointer (some ⟨db, 0, none⟩), encStr nm] W fun e w' => e = .returned (.tuple #[.int .i64 0, .int .i64 0]) ∧ Kd w2 db kk ρ' w') from fun W hW => by
                have h9 := hW.loose (by omega) nm (by have := HK.out.xn; omega)
                rw [JR.out.2] at h9
                exact h9)
              have PE := (show Hid (∀ W, Kd w2 db kk ρ' W → Calls Try.prog 22 #[.pointer (some ⟨db, 0, none⟩)] W fun e w' => e = .returned (.int .i64 0) ∧ w' = W) from fun W hW => by
                have h9 := hW.pending
                rw [JP.out] at h9
                exact h9)
              go_wp2_with (first
                | (refine wpList_ldAt rfl _ _ rfl w.heap.size 7 rfl _ hfl ?_)
                | (go_at_call 20; refine CRS.out.mono ?_; rintro e wC ⟨rfl, hKC⟩; have KC := (show Hid _ from hKC); have hcv := conv_rx (HR2.out.below hKC.bl) nd cd HN.out.2.1.symm; clear hKC)
                | (go_at_call 12; refine (lnum_any _ _).mono ?_; rintro e wq ⟨rfl, h9⟩; obtain rfl := h9.symm)
                | (go_at_call 19; refine (SH.out _ KC.out).mono ?_; rintro e wS ⟨rfl, hKS⟩; have KS := (show Hid _ from hKS); clear hKS)
                | (go_at_call 21; refine (LO.out _ KS.out).mono ?_; rintro e wL ⟨rfl, hKL⟩; have KL := (show Hid _ from hKL); clear hKL)
                | (go_at_call 22; refine (PE.out _ KL.out).mono ?_; rintro e wP ⟨rfl, h9⟩; obtain rfl := h9.symm))
              go_ret
              exact ⟨rfl, bt B2.out KL.out.bl⟩
end
end Go.Proofs.Ytaddgmbglhdfdaa
