/-
  The document's Divide.
-/
import Derived.Test.YtbjmdijphciliaaRefD
import Derived.Test.YtbjmdijphciliaaPDiv
namespace Go.Proofs.Ytbjmdijphciliaa
open Go.RowKit

def sll : Value → Nat
  | .slice _ n _ => n
  | _ => 0
/-- What the document's Divide keeps. -/
structure RDiv (xs ds S R : List (BitVec 8)) (n : Nat) : Prop where
  ts : trim S = S
  tr : trim R = R
  eq : ∀ i, co xs i = co (mul S ds) i ^^^ co R i
  ls : S.length ≤ n
  lr : R.length ≤ n
theorem RDiv.step {xs ds S R : List (BitVec 8)} {n d : Nat} (H : RDiv xs ds S R n) (hd : ds.length = d + 1) {l : BitVec 8} (hl : co ds d = l) (hl0 : l ≠ 0#8) (hge : d + 1 ≤ R.length) :
    RDiv xs ds (trim (add S (sh (R.length - (d + 1)) (smul (gm (co R (R.length - 1)) (inv l)) [1#8])))) (trim (add R (sh (R.length - (d + 1)) (smul (gm (co R (R.length - 1)) (inv l)) ds)))) n ∧ (trim (add R (sh (R.length - (d + 1)) (smul (gm (co R (R.length - 1)) (inv l)) ds)))).length < R.length := by
  generalize hc : gm (co R (R.length - 1)) (inv l) = c
  generalize hk : R.length - (d + 1) = k
  have e0 : smul c [1#8] = [c] := by unfold smul; simp [gm_one]
  have e1 : ∀ i, co (sh k (smul c ds)) i = adq k c ds i := fun i => by rw [co_sh]; unfold adq; split; rfl; rw [co_smul]
  have hz : ∀ i, R.length - 1 ≤ i → co (add R (sh k (smul c ds))) i = 0#8 := fun i hi => by
    rw [co_add, e1]
    unfold adq
    rw [if_neg (by omega)]
    by_cases e : i = R.length - 1
    · subst e
      rw [show R.length - 1 - k = d by omega, hl, ← hc, gm_assoc, gm_comm (inv l), gm_inv hl0, gm_one, BitVec.xor_self]
    · rw [co_ge (p := R) (by omega), co_ge (p := ds) (by omega), gm_zero]; rfl
  have hlen := trim_len_le hz
  refine ⟨⟨trim_trim _, trim_trim _, fun i => ?_, ?_, ?_⟩, by omega⟩
  · rw [co_trim, co_add, e1, H.eq i, mul_congr (p' := add S (sh k (smul c [1#8]))) (q' := ds) (co_trim _) (fun _ => rfl), mul_add_l, e0, mul_mono, xr3, BitVec.xor_self]; simp
  · have := trim_len (add S (sh k (smul c [1#8])))
    rw [add_len, sh_len, e0] at this
    have := H.ls
    have := H.lr
    simp at *; rw [e0]; omega
  · have := H.lr; omega
theorem RDiv.done {xs ds S R : List (BitVec 8)} {n d : Nat} (H : RDiv xs ds S R n) (hd : (trim ds).length = d + 1) (hlt : R.length < d + 1) : IsDiv xs ds S R := ⟨H.ts, H.tr, H.eq, by omega⟩
theorem trim_nil : trim [] = [] := rfl
theorem one_sl (t : TypeId) (w : World) (a : BitVec 8) : Sl (w.alloc (.cells #[.int .u8 (el a)] t)) (.slice (some ⟨w.heap.size, 0, none⟩) 1 1) [a] := by
  refine ⟨_, 1, rfl, Nat.le_refl _, by omega, .inr ⟨w.heap.size, 0, rfl, fun i hi => ?_⟩, .inr ⟨_, _, rfl⟩⟩
  have : i = 0 := by simpa using hi
  subst this
  rw [cell_of_row _ _ _ _ _ (0, 0) (heap_alloc_any _ _ _)]; rfl
theorem one_sl1 (t : TypeId) (w : World) : Sl (w.alloc (.cells #[.int .u8 1] t)) (.slice (some ⟨w.heap.size, 0, none⟩) 1 1) [1#8] := one_sl t w 1#8
theorem el_1 : el 1#8 = 1 := by decide
section
attribute [local irreducible] Calls el gm trim co Rs mul adq inv sh smul add
set_option maxHeartbeats 16000000 in
set_option maxRecDepth 1000000 in
theorem refDivide_core (va vb : Value) (xs ys ds : List (BitVec 8)) (n d : Nat) (l : BitVec 8) (w : World) (h1 : Sr w va xs) (h2 : Sr w vb ys) (hn1 : xs.length ≤ 140737488351232) (hn2 : ys.length ≤ 140737488351232)
    (hp : Hid ((trim xs).length = n)) (hq : Hid (trim ys = ds)) (hlq : Hid (ds.length = d + 1)) (hl : Hid (co ds d = l)) (hl0 : l ≠ 0#8) :
    Calls Try.prog 40 #[va, vb] w fun e w' => ∃ s r vs vr, e = .returned (.tuple #[vs, vr, .int .i64 0]) ∧ IsDiv xs ys s r ∧ Rs 5 w.heap.size w' vs s ∧ Rs 5 w.heap.size w' vr r ∧ Below w.heap.size w w' := by
  obtain ⟨p1, c1, rfl, r1⟩ := h1
  obtain ⟨p2, c2, rfl, r2⟩ := h2
  have E2 : Hid (ds ≠ []) := by intro e; have := hlq.out; rw [e] at this; simp at this
  have hnx : n ≤ 140737488351232 := by have := trim_len xs; have := hp.out; omega
  have hh : d + 1 ≤ 140737488351232 := by have := trim_len ys; have := hlq.out; rw [← hq.out] at this; omega
  have HT : Hid ((trim ds).length = d + 1) := by show _ = _; rw [← hq.out, trim_trim, hq.out]; exact hlq.out
  have l1 : ((d : Int) + 1 == 0) = false := by simp; omega
  have l3 : (d : Int) + 1 - 1 = (d : Int) := by omega
  have EN : Hid (∀ s r, IsDiv xs ds s r → IsDiv xs ys s r) := fun s r d => d.congr (fun _ => rfl) (fun i => by rw [← hq.out, co_trim])
  have T2 := (show Hid _ from refTrim_any r2 _ c2 rfl (by omega))
  rw [hq.out] at T2
  have D0 : Hid (RDiv xs ds [] (trim xs) n) := ⟨trim_nil, trim_trim _, fun i => by rw [co_trim, show co (mul [] ds) i = 0#8 by unfold mul; exact co_nil i]; simp, Nat.zero_le _, by rw [hp.out]; exact Nat.le_refl _⟩
  clear hq r2
  go_enter Try.func40, Try.ntmps40
  go_wp2_with (first
    | (go_at_call 39; refine T2.out.mono ?_; rintro e w1 ⟨vd, rfl, hD, hb1⟩; obtain ⟨bd, od, cd, rfl, hltd, hcelld⟩ := hD.sr.cells E2.out; rw [hlq.out] at hcelld ⊢; have KD := (show Hid _ from hcelld); clear hcelld T2)
    | (go_at_call 39; refine (refTrim_any (r1.below hb1) _ c1 rfl (by omega)).mono ?_; rintro e w2 ⟨vr, rfl, hR, hb2⟩; have g0 := cell_below (KD.out d (Nat.lt_succ_self _)) hb2; rw [hl.out] at g0)
    | (go_at_call 54; refine (refInv_any l hl0 _).mono ?_; rintro e w' ⟨rfl, h⟩; obtain rfl := h.symm))
  clear g0
  have hb0 := bt hb1 hb2
  have hR0 := hR.mono hb1.size
  have KD2 : Hid (∀ i, i < d + 1 → w2.cell? ⟨bd, od + i, none⟩ = some (.int .u8 (el (co ds i)))) := fun i hi => cell_below (KD.out i hi) hb2
  have hbw : ∀ wr, Below w2.heap.size w2 wr → Below w.heap.size w wr := fun wr h => bt hb0 h
  have HBW := (show Hid _ from hbw)
  clear KD hb1 hb2 hR hbw hD
  go_loopw [8, 10] (fun r s wr => ∃ (S R : List (BitVec 8)), Rs 5 w.heap.size wr s S ∧ Rs 5 w.heap.size wr r R ∧ Below w2.heap.size w2 wr ∧ Hid (RDiv xs ds S R n)) (fun r _ _ => sll r)
  case atStart => exact ⟨[], _, Rs.nil _ _ _, hR0, Below.refl _ _, D0⟩
  case round =>
    clear hR0 D0
    obtain ⟨S, R, hS, hR, hb, D⟩ := hrel
    have hlR := D.out.lr
    by_cases hlt : d + 1 ≤ R.length
    · have hne : R ≠ [] := by intro e; rw [e] at hlt; simp at hlt
      obtain ⟨br, or, cr, hv, hltr, hcellr⟩ := hR.sr.cells hne
      subst hv
      obtain ⟨c, hc⟩ : ∃ c, c = gm (co R (R.length - 1)) (inv l) := ⟨_, rfl⟩
      obtain ⟨k, hk⟩ : ∃ k, k = R.length - (d + 1) := ⟨_, rfl⟩
      have hst := D.out.step hlq.out hl.out hl0 hlt
      rw [← hc, ← hk] at hst
      have DS : Hid (RDiv xs ds (trim (add S (sh k (smul c [1#8])))) (trim (add R (sh k (smul c ds)))) n) := hst.1
      have DL : Hid ((trim (add R (sh k (smul c ds)))).length < R.length) := hst.2
      have g1 : wr.cell? ⟨br, or + (R.length - 1), none⟩ = some (.int .u8 (el (co R (R.length - 1)))) := hcellr _ (by omega)
      have HC : Hid (∀ W : World, Calls Try.prog 55 #[.int .u8 (el (co R (R.length - 1))), .int .u8 (el (inv l))] W fun e w' => e = .returned (.int .u8 (el c)) ∧ w' = W) := fun W => by rw [hc]; exact refMul_any _ _ W
      have i1 : ((d : Int) + 1) ≤ (R.length : Int) := by omega
      have i2 : (R.length : Int) - ((d : Int) + 1) = (k : Int) := by omega
      have hlS := D.out.ls
      have k1 : k + 1 ≤ 140737488355328 := by omega
      have k2 : k + (d + 1) ≤ 140737488355328 := by omega
      have LS : Hid (S.length ≤ 140737488355328) := by show _ ≤ _; omega
      have LR : Hid (R.length ≤ 140737488355328) := by show _ ≤ _; omega
      have L3 : Hid (k + [1#8].length ≤ 140737488355328) := k1
      have L4 : Hid (k + ds.length ≤ 140737488355328) := by show _ ≤ _; rw [hlq.out]; exact k2
      have L5 : Hid ((sh k (smul c [1#8])).length ≤ 140737488355328) := by show _ ≤ _; rw [sh_len, smul_len]; exact k1
      have L6 : Hid ((sh k (smul c ds)).length ≤ 140737488355328) := by show _ ≤ _; rw [sh_len, smul_len, hlq.out]; exact k2
      have HSD : Hid (∀ W, Below w2.heap.size w2 W → Sr W (.slice (some ⟨bd, od, none⟩) (d + 1) cd) ds) := fun W hW => Sr.of_cells hlq.out (fun i hi => cell_below (KD2.out i hi) hW)
      have HRS := (show Hid _ from hR.sr)
      clear hst hk hc k1 k2 hcellr hlt hlS D hR
      go_wp2_with (first
        | (go_at_call 55; refine (HC.out _).mono ?_; rintro e w' ⟨rfl, h⟩; obtain rfl := h.symm)
        | (go_at_call 56; refine (refShifted_any (one_sl1 _ wr).sr (by simp) c k L3.out).mono ?_; rintro e w3 ⟨v3, rfl, hV3, hb3⟩; have b3 := bt ((Below.refl wr.heap.size wr).alloc (Nat.le_refl _) _) hb3; have hS3 := hS.below b3; clear hS)
        | (go_at_call 41; refine (refPlus_any hS3.sr hV3.sr LS.out L5.out).mono ?_; rintro e w4 ⟨v4, rfl, hV4, hb4⟩; have b4 := bt b3 hb4; clear hS3 hV3)
        | (go_at_call 56; refine (refShifted_any (HSD.out _ (bt hb b4)) E2.out c k L4.out).mono ?_; rintro e w5 ⟨v5, rfl, hV5, hb5⟩; have b5 := bt b4 hb5; have hV45 := hV4.below hb5; clear hV4)
        | (go_at_call 41; refine (refPlus_any (Sr.below HRS.out b5) hV5.sr LR.out L6.out).mono ?_; rintro e w6 ⟨v6, rfl, hV6, hb6⟩; have b6 := bt b5 hb6; have hV46 := hV45.below hb6; clear hV45))
      obtain ⟨p6, c6, e6, _⟩ := hV6.sl
      subst e6
      have hw : w.heap.size ≤ wr.heap.size := (HBW.out _ hb).size
      have hS6 := hV46.mono (Nat.le_trans hw b3.size)
      have hR6 := hV6.mono (Nat.le_trans hw b5.size)
      have hb6' := bt hb b6
      go_roundw
      case rel => exact ⟨_, _, hS6, hR6, hb6', DS⟩
      case measure => exact DL.out
    · obtain ⟨pr, cr, hv, _⟩ := hR.sl
      subst hv
      have i1 : ¬ ((d : Int) + 1) ≤ (R.length : Int) := by omega
      have HD : Hid (IsDiv xs ys S R) := EN.out _ _ (D.out.done HT.out (by omega))
      have hb7 := HBW.out _ hb
      clear D
      go_wp2
      go_ret3
      exact ⟨S, R, _, _, rfl, HD.out, hS, hR, hb7⟩
set_option maxRecDepth 1000000 in
theorem refDivide_zero (v1 v2 : Value) (ys : List (BitVec 8)) (w : World) (h2 : Sr w v2 ys) (hn2 : ys.length ≤ 140737488351232) (h0 : trim ys = []) :
    Calls Try.prog 40 #[v1, v2] w fun e w' => e = .returned (.tuple #[.slice none 0 0, .slice none 0 0, .int .i64 10]) ∧ Below w.heap.size w w' := by
  obtain ⟨p2, c2, rfl, r2⟩ := h2
  have T2 := (show Hid _ from refTrim_any r2 _ c2 rfl (by omega))
  rw [h0] at T2
  go_enter Try.func40, Try.ntmps40
  go_wp2_with (go_at_call 39; refine T2.out.mono ?_; rintro e w1 ⟨vd, rfl, hD, hb1⟩; obtain ⟨p, c, rfl⟩ := hD.sr.empty)
  go_ret3
  exact ⟨rfl, hb1⟩
end
theorem refDivide_any {w : World} {v1 v2 : Value} {xs ys : List (BitVec 8)} (h1 : Sr w v1 xs) (h2 : Sr w v2 ys) (hn1 : xs.length ≤ 140737488351232) (hn2 : ys.length ≤ 140737488351232) (h0 : trim ys ≠ []) :
    Calls Try.prog 40 #[v1, v2] w fun e w' => ∃ s r vs vr, e = .returned (.tuple #[vs, vr, .int .i64 0]) ∧ IsDiv xs ys s r ∧ Rs 5 w.heap.size w' vs s ∧ Rs 5 w.heap.size w' vr r ∧ Below w.heap.size w w' := by
  have p1 : 0 < (trim ys).length := List.length_pos_iff.2 h0
  have hl : co (trim ys) ((trim ys).length - 1) ≠ 0#8 := by rw [co_trim]; exact trim_top ys h0
  exact refDivide_core v1 v2 xs ys (trim ys) (trim xs).length ((trim ys).length - 1) _ w h1 h2 hn1 hn2 rfl rfl (by show _ = _; omega) rfl hl
end Go.Proofs.Ytbjmdijphciliaa
