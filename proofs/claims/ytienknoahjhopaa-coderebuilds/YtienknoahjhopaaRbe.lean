/-
  The program's 'Rebuild': its refusals.
-/
import Derived.Test.YtienknoahjhopaaRrb
namespace Go.Proofs.Ytienknoahjhopaa
open Go.RowKit
section
attribute [local irreducible] Calls NmE NrE Cd Fac mm Lm thr pvs gv pk
set_option maxHeartbeats 4000000 in
set_option maxRecDepth 1000000 in
theorem rebuild_rows {w : World} {v : Value} {k m r c : Nat} {p : Option Addr} {F : Nat → Nat → BitVec 8} (hk : 1 ≤ k) (hC : Hid (Cd w v k m F)) (h : ¬ r = k + m) :
    Calls Try.prog 12 #[v, .slice p r c] w fun e w' => e = .returned (.tuple #[.slice none 0 0, .int .i64 40]) ∧ w' = w := by
  have NO := (show Hid _ from none_ok hC.out hk)
  obtain ⟨cb, pF, cF, ev, c1, c2, _⟩ := cd_open hC.out
  subst ev
  have e1 : ((r : Int) != (k : Int) + (m : Int)) = true := by simp; omega
  go_enter Try.func12, Try.ntmps12
  go_wp2_with (go_at_call 30; refine NO.out.mono ?_; rintro e w' ⟨rfl, h⟩; obtain rfl := h.symm)
  go_ret2
  exact ⟨rfl, rfl⟩
set_option maxHeartbeats 8000000 in
set_option maxRecDepth 1000000 in
theorem rebuild_uneven {w : World} {v : Value} {k m cR : Nat} {pR : Option Addr} {L : Nat → Nat} {F R : Nat → Nat → BitVec 8} (hk : 1 ≤ k) (hkm : k + m ≤ 255) (hC : Hid (Cd w v k m F)) (hR : Hid (NmE w (.slice pR (k + m) cR) (k + m) L R)) (hbad : ¬ ∀ t, t < (thr L (k + m)).length → L (pk L (k + m) t) = L (pk L (k + m) 0)) :
    Calls Try.prog 12 #[v, .slice pR (k + m) cR] w fun e w' => e = .returned (.tuple #[.slice none 0 0, .int .i64 41]) ∧ Below w.heap.size w w' := by
  have NO := (show Hid _ from none_ok hC.out hk)
  obtain ⟨cb, pF, cF, ev, c1, c2, _⟩ := cd_open hC.out
  subst ev
  have PR := (show Hid _ from present_core pR (k + m) cR L R w hkm hR)
  have e1 : ((k : Int) + (m : Int) != (k : Int) + (m : Int)) = false := by simp
  have hlen := thr_len L (k + m)
  have HB := (show Hid _ from hbad)
  clear hbad
  go_enter Try.func12, Try.ntmps12
  go_wp2_with (first
    | (go_at_call 30; refine NO.out.mono ?_; rintro e w' ⟨rfl, h⟩; obtain rfl := h.symm)
    | (go_at_call 31; refine PR.out.mono ?_; rintro e w1 ⟨v1, v2, rows, rfl, ho1, ho2, hrw, hb1⟩; have HLM := (show Hid _ from there_lm ho2 (fun i hi => NrE.below (hrw i hi) hb1)); obtain ⟨p1, k1, f1, hc1⟩ := own_form ho1; obtain ⟨p2, k2, f2, hc2⟩ := own_form ho2; subst f1 f2; clear ho1 ho2 hrw)
    | (go_at_call 32; refine (even_any p2 _ k2 (fun t => L (pk L (k + m) t)) w1 (by omega) HLM).mono ?_; rintro e w' ⟨ha, h⟩; obtain rfl := h.symm; obtain rfl := ans_f ha HB.out; clear ha))
  go_ret2
  exact ⟨rfl, hb1⟩
set_option maxHeartbeats 8000000 in
set_option maxRecDepth 1000000 in
theorem rebuild_few {w : World} {v : Value} {k m cR : Nat} {pR : Option Addr} {L : Nat → Nat} {F R : Nat → Nat → BitVec 8} (hk : 1 ≤ k) (hkm : k + m ≤ 255) (hC : Hid (Cd w v k m F)) (hR : Hid (NmE w (.slice pR (k + m) cR) (k + m) L R)) (hev : ∀ t, t < (thr L (k + m)).length → L (pk L (k + m) t) = L (pk L (k + m) 0)) (hfew : (thr L (k + m)).length < k) :
    Calls Try.prog 12 #[v, .slice pR (k + m) cR] w fun e w' => e = .returned (.tuple #[.slice none 0 0, .int .i64 42]) ∧ Below w.heap.size w w' := by
  have NO := (show Hid _ from none_ok hC.out hk)
  obtain ⟨cb, pF, cF, ev, c1, c2, _⟩ := cd_open hC.out
  subst ev
  have PR := (show Hid _ from present_core pR (k + m) cR L R w hkm hR)
  have e1 : ((k : Int) + (m : Int) != (k : Int) + (m : Int)) = false := by simp
  have HE := (show Hid _ from hev)
  obtain ⟨q, hq⟩ : ∃ q, (thr L (k + m)).length = q := ⟨_, rfl⟩
  have HQ : Hid ((thr L (k + m)).length = q) := hq
  rw [hq] at PR HE hfew
  have j3 : (q : Int) < (k : Int) := by omega
  clear hev hq
  go_enter Try.func12, Try.ntmps12
  go_wp2_with (first
    | (go_at_call 30; refine NO.out.mono ?_; rintro e w' ⟨rfl, h⟩; obtain rfl := h.symm)
    | (go_at_call 31; refine PR.out.mono ?_; rintro e w1 ⟨v1, v2, rows, rfl, ho1, ho2, hrw, hb1⟩; have c11 := cell_below c1 hb1; have HLM := (show Hid _ from there_lm (L := L) (r := k + m) (by rw [HQ.out]; exact ho2) (fun i hi => NrE.below (hrw i hi) hb1)); rw [HQ.out] at HLM; obtain ⟨p1, k1, f1, hc1⟩ := own_form ho1; obtain ⟨p2, k2, f2, hc2⟩ := own_form ho2; subst f1 f2; clear ho1 ho2 hrw)
    | (go_at_call 32; refine (even_any p2 q k2 (fun t => L (pk L (k + m) t)) w1 (by omega) HLM).mono ?_; rintro e w' ⟨ha, h⟩; obtain rfl := h.symm; obtain rfl := ans_t ha HE.out; clear ha))
  go_ret2
  exact ⟨rfl, hb1⟩
end
end Go.Proofs.Ytienknoahjhopaa
