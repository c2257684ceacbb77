/-
  Layer 11's laws: 'bare'.
-/
import Derived.Test.YtaddgmbglhdfdaaKz11
namespace Go.Proofs.Ytaddgmbglhdfdaa
open Go.RowKit Go.Maps Go.Sort
theorem fn_lift {w w1 w' : World} {db : Nat} {σ : Ds} {F : Nat → Prop} (hb : Below w.heap.size w w1) (hD : DrAt w' db σ (Fn F w1 w')) (hT : Tn F w1 w') : DrAt w' db σ (Fn F w w') ∧ Tn F w w' := by
  have hz := hb.size
  refine ⟨hD.more ?_ ?_, ⟨hT.os.trans hb.os, hT.tape.trans hb.tape, hT.output.trans hb.output, Nat.le_trans hz hT.size, fun g hg hn => (hT.block g (by omega) hn).trans (hb.block g hg)⟩⟩
  · rintro b (h | h)
    · exact .inl h
    · exact .inr ⟨by omega, h.2⟩
  · rintro b (h | h)
    · exact hD.2.1 b (.inl h)
    · exact h.2
theorem fn_of {w w' : World} {db : Nat} {σ : Ds} {F : Nat → Prop} (hD : DrAt w' db σ F) : DrAt w' db σ (Fn F w w') := hD.more (fun _ h => .inl h) (by
  rintro b (h | h)
  · exact hD.2.1 b h
  · exact h.2)
section
attribute [local irreducible] Calls GB ftC anC Ac.v DrAt
set_option maxHeartbeats 2000000 in
set_option maxRecDepth 1000000 in
theorem bare_any {w : World} {db k0 : Nat} {σ : Ds} {F : Nat → Prop} (h : DrAt w db σ F) (ok : Okk k0 σ) (hk0 : k0 ≤ 134217728) (k : Int) (s : Ac) (l : Al) (hA : ∀ Y, Tn F w Y → AcAt Y s l) (hpF : ∀ b o, s.pd = some ⟨b, o, none⟩ → ¬ F b) (hrF : ∀ b o, s.rd = some ⟨b, o, none⟩ → ¬ F b) :
    Calls Try.prog 34 #[.pointer (some ⟨db, 0, none⟩), .agg (s.v k)] w fun e w' => e = .returned (.int .i64 (σ.act k s.x s.y s.n l).1) ∧ DrAt w' db (σ.act k s.x s.y s.n l).2 (Fn F w w') ∧ Tn F w w' := by
  have HD := (show Hid (DrAt w db σ F ∧ Okk k0 σ ∧ k0 ≤ 134217728) from ⟨h, ok, hk0⟩)
  have HA := (show Hid (∀ Y, Tn F w Y → AcAt Y s l) from hA)
  have HF := (show Hid ((∀ b o, s.pd = some ⟨b, o, none⟩ → ¬ F b) ∧ (∀ b o, s.rd = some ⟨b, o, none⟩ → ¬ F b)) from ⟨hpF, hrF⟩)
  clear h ok hk0 hA hpF hrF
  go_enter Try.func34, Try.ntmps34
  go_upto_region 1 with (refine wpList_bxB (cs := s.v k) rfl _ rfl rfl ?_; intro w1 hG1 hb1 hs1)
  have G1 := (show Hid (GB w1 w.heap.size 46 (s.v k)) from hG1)
  have B1 := (show Hid (Below w.heap.size w w1) from hb1)
  have D1 := (show Hid (DrAt w1 db σ F) from HD.out.1.below hb1)
  have A1 := (show Hid (∀ Y, Tn F w1 Y → AcAt Y s l) from fun Y hY => HA.out Y ((Tn.of_below hb1).trans hY))
  have A0 := (show Hid (AcAt w1 s l) from A1.out w1 (Tn.refl _ _))
  have BL := (show Hid (∀ i, (σ.body i).data.length ≤ 134217728) from fun i => by have := HD.out.2.1.bl i; have := HD.out.2.2; omega)
  obtain ⟨c0, c1, c2, c3, c4, c5, c6⟩ := ac_c hG1
  clear hG1 hb1 hs1
  by_cases e1 : k = 1
  · subst e1
    go_wp2_with (first
      | (go_at_call 14; refine (append_any D1.out (HD.out.2.1.okd HD.out.2.2) s.x (by have := A0.out.nx; omega) s.pd s.nd s.cd l.d A0.out.rx A0.out.dl (by have := A0.out.nd; omega) (fun i _ _ => by have := BL.out i; have := A0.out.nd; have := A0.out.dl; omega)).mono ?_; rintro e Y ⟨rfl, hD, hT⟩)
      | (go_at_call 12; refine (lnum_any _ _).mono ?_; rintro e wq ⟨rfl, h9⟩; obtain rfl := h9.symm))
    go_ret
    rw [act_1]
    exact ⟨rfl, fn_lift B1.out hD hT⟩
  by_cases e14 : k = 14
  · subst e14
    go_wp2_with (first
      | (go_at_call 51; refine (flip_any D1.out s.x (by have := A0.out.nx; omega) s.n s.pd s.nd s.cd l.d A0.out.rx A0.out.dl (by have := A0.out.nd; omega) HF.out.1 (fun i => by have := BL.out i; omega)).mono ?_; rintro e Y ⟨rfl, hD, hT⟩)
      | (go_at_call 12; refine (lnum_any _ _).mono ?_; rintro e wq ⟨rfl, h9⟩; obtain rfl := h9.symm))
    go_ret
    rw [act_14]
    exact ⟨rfl, fn_lift B1.out (fn_of hD) hT⟩
  by_cases e13 : k = 13
  · subst e13
    have hft := ac_fate G1.out
    clear c1 c2 c3 c4 c5 c6
    have CRH := (show Hid (Calls Try.prog 20 #[.pointer (some ⟨db, 0, none⟩), .agg (ftC (.slice s.qd s.nq s.cq) (.slice s.rd s.nr s.cr))] w1 fun e w' => e = .returned (.int .i64 0) ∧ DrAt w' db (σ.crash l.dirs l.cuts) (Fn F w1 w') ∧ Tn F w1 w') from by unfold ftC; exact crash_gen D1.out HD.out.2.1 HD.out.2.2 s.qd s.nq s.cq l.dirs A0.out.ql A0.out.bl s.rd s.nr s.cr l.cuts A0.out.rl A0.out.il (by have := A0.out.nq; omega) (by have := A0.out.nr; omega) (fun _ b o e => HF.out.2 b o e))
    go_wp2_with (first
      | (refine wpList_ldAt rfl _ _ rfl w.heap.size 5 rfl _ hft ?_)
      | (go_at_call 20; refine CRH.out.mono ?_; rintro e Y ⟨rfl, hD, hT⟩)
      | (go_at_call 12; refine (lnum_any _ _).mono ?_; rintro e wq ⟨rfl, h9⟩; obtain rfl := h9.symm))
    go_ret
    rw [act_13]
    exact ⟨rfl, fn_lift B1.out hD hT⟩
  have f1 : (k == 1) = false := by simp [e1]
  have f13 : (k == 13) = false := by simp [e13]
  have f14 : (k == 14) = false := by simp [e14]
  clear e1 e13 e14 c1 c2 c3 c4 c5 c6
  obtain ⟨q, hq⟩ : ∃ q, q = (σ.act k s.x s.y s.n l).1 := ⟨_, rfl⟩
  have DO := (show Hid (Calls Try.prog 18 #[.pointer (some ⟨db, 0, none⟩), .agg (s.v k)] w1 fun e w' => (∃ u1 u2 u3 u4, ((anC (.int .i64 q) u1 u2 u3 u4).all fun x => x.oneCell') = true ∧ e = .returned (.tuple #[.agg (anC (.int .i64 q) u1 u2 u3 u4), .bool true])) ∧ DrAt w' db (σ.act k s.x s.y s.n l).2 (Fn F w1 w') ∧ Tn F w1 w') from by rw [hq]; exact do_gen D1.out HD.out.2.1 HD.out.2.2 k s l A1.out)
  have HQ := (show Hid (q = (σ.act k s.x s.y s.n l).1) from hq)
  clear hq
  obtain ⟨σ', hσ'⟩ : ∃ σ', σ' = (σ.act k s.x s.y s.n l).2 := ⟨_, rfl⟩
  rw [← hσ'] at DO
  have HS' := (show Hid (σ' = (σ.act k s.x s.y s.n l).2) from hσ')
  clear hσ'
  go_wp2_with (first
    | (refine wpList_ldB rfl _ rfl w.heap.size rfl G1.out Try.underlying46 (by unfold Ac.v; exact size_Ac) ?_)
    | (go_at_call 18; refine DO.out.mono ?_; rintro e X1 ⟨⟨u1, u2, u3, u4, hone, rfl⟩, hD, hT⟩; have HR := (show Hid (DrAt X1 db σ' (Fn F w1 X1) ∧ Tn F w1 X1) from ⟨hD, hT⟩); clear hD hT)
    | (refine wpList_alB (cs := anC (.int .i64 0) (.int .i64 0) (.slice none 0 0) (.slice none 0 0) (.slice none 0 0)) rfl rfl (by unfold anC; exact an0) ?_; intro X2 hG2' hb2' hs2')
    | (refine wpList_stB (cs := anC (.int .i64 q) u1 u2 u3 u4) rfl _ _ rfl rfl X1.heap.size rfl rfl hG2' (by unfold anC; exact size_An) (by unfold anC; rfl) hone ?_; intro X3 hG3' hg3' hs3'; have cz := (an_c hG3').1))
  go_ret
  have bX := grown_below hb2' hg3' hb2'.size (Nat.le_refl _)
  have hD3 : DrAt X3 db σ' (Fn F w1 X3) := (HR.out.1.below bX).more (by
    rintro b (h | h)
    · exact .inl h
    · exact .inr ⟨h.1, Nat.lt_of_lt_of_le h.2 bX.size⟩) (by
    rintro b (h | h)
    · exact drat_lt (HR.out.1.below bX) b (.inl h)
    · exact h.2)
  rw [← HQ.out, ← HS'.out]
  exact ⟨rfl, fn_lift B1.out hD3 (HR.out.2.trans (Tn.of_below bX))⟩
end
end Go.Proofs.Ytaddgmbglhdfdaa
