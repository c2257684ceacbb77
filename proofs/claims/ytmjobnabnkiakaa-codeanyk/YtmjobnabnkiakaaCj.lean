/-
  'Rebuild'.
-/
import Derived.Test.YtmjobnabnkiakaaCi
namespace Go.Proofs.Ytmjobnabnkiakaa
open Go.RowKit
/-- The places, as they are picked. -/
def pk (L : Nat → Nat) (r t : Nat) : Nat := (thr L r).getD t 0
theorem pk_mem {L : Nat → Nat} {r t : Nat} (h : t < (thr L r).length) : pk L r t < r ∧ 0 < L (pk L r t) := by
  unfold pk
  rw [List.getD_eq_getElem?_getD, List.getElem?_eq_getElem h]
  exact thr_mem.1 (List.getElem_mem h)
theorem pk_ne {L : Nat → Nat} {r i j : Nat} (hi : i < (thr L r).length) (hj : j < (thr L r).length) (h : i ≠ j) : pk L r i ≠ pk L r j := by
  unfold pk
  rw [List.getD_eq_getElem?_getD, List.getElem?_eq_getElem hi, List.getD_eq_getElem?_getD, List.getElem?_eq_getElem hj]
  show (thr L r)[i] ≠ (thr L r)[j]
  rcases Nat.lt_or_ge i j with h1 | h1
  · have := List.pairwise_iff_getElem.1 (thr_inc L r) i j hi hj h1; omega
  · have := List.pairwise_iff_getElem.1 (thr_inc L r) j i hj hi (by omega); omega
theorem pls_jr {w : World} {b : Nat} {v : Value} {L : Nat → Nat} {r : Nat} (h : w.ownsRow b 3 1 v (thr L r).length (pvs (thr L r))) : Jr w v (thr L r).length (fun j => (pk L r j : Nat)) := by
  rw [pvs_lv] at h
  exact St.sv (owns_st1 h)
theorem jr_cut {w : World} {p : Option Addr} {n c q : Nat} {f : Nat → Int} (h : Jr w (.slice p n c) n f) (hq : q ≤ n) : Jr w (.slice p q c) q f := by
  obtain ⟨p', c', e, h⟩ := h
  injection e with e1 e2 e3
  subst e1 e3
  refine ⟨_, _, rfl, ?_⟩
  rcases h with h | ⟨b, o, e, hc⟩
  · exact .inl (by omega)
  · exact .inr ⟨b, o, e, fun i hi => hc i (by omega)⟩
theorem there_nm {w w' : World} {b : Nat} {v : Value} {L : Nat → Nat} {r n : Nat} {rows : Nat → Value} {R : Nat → Nat → BitVec 8} (h : w'.ownsRow b 37 1 v (thr L r).length (gv rows (thr L r))) (hr : ∀ i, i < r → NrE w (rows i) (L i) (R i)) (hb : Below w.heap.size w w') (hL : ∀ i, i < r → 0 < L i → L i = n) : NmE w' v (thr L r).length (fun _ => n) (fun t => R (pk L r t)) := by
  rw [gv_lv] at h
  refine nmE_mk (St.sv (owns_st1 h)) (fun i hi => ?_)
  have hm := pk_mem hi
  have h2 := NrE.below (hr (pk L r i) hm.1) hb
  rw [hL _ hm.1 hm.2] at h2
  exact h2
section
attribute [local irreducible] Calls el NmE NrE Cd Fac mm skk tiE plE Jr thr pk pvs gv
set_option maxHeartbeats 8000000 in
set_option maxRecDepth 1000000 in
theorem rebuild_core {w : World} {v vR : Value} {k m n : Nat} {L : Nat → Nat} {F R : Nat → Nat → BitVec 8} (hk : 1 ≤ k) (hm : 1 ≤ m) (hkm : k + m ≤ 255) (hn : n ≤ 140737488355328) (hC : Hid (Cd w v k m F)) (hF : Hid (Fac k F)) (hR : Hid (NmE w vR (k + m) L R)) (hL : Hid (∀ i, i < k + m → 0 < L i → L i = n)) (hq : k ≤ (thr L (k + m)).length) :
    Calls Try.prog 12 #[v, vR] w fun e w' => ∃ v' Z, e = .returned (.tuple #[v', .int .i64 0]) ∧ (∀ i, i < k → ∀ j, j < k → mm fdE k Z (fun i j => F (pk L (k + m) i) j) i j = dl fdE i j) ∧ NmE w' v' (k + m) (fun _ => n) (fun i c => if i < k then skk plE oE (fun t => tiE (Z i t) (R (pk L (k + m) t) c)) k else skk plE oE (fun j => tiE (F i j) (skk plE oE (fun t => tiE (Z j t) (R (pk L (k + m) t) c)) k)) k) ∧ Below w.heap.size w w' := by
  obtain ⟨cb, pF, cF, ev, c1, c2, _, _⟩ := cd_open hC.out
  subst ev
  obtain ⟨pR, cR, eR⟩ := nmE_form hR.out
  subst eR
  have NO := (show Hid _ from none_ok hC.out hk)
  have PR := (show Hid _ from present_core pR (k + m) cR L R w hkm hR)
  have hlen : (thr L (k + m)).length ≤ k + m := thr_len _ _
  obtain ⟨q, hqe⟩ : ∃ q, q = (thr L (k + m)).length := ⟨_, rfl⟩
  have HQ : Hid ((thr L (k + m)).length = q) := hqe.symm
  have PM : Hid (∀ t, t < q → pk L (k + m) t < k + m) := fun t ht => (pk_mem (by omega)).1
  have PN : Hid (∀ i, i < q → ∀ j, j < q → i ≠ j → pk L (k + m) i ≠ pk L (k + m) j) := fun i hi j hj => pk_ne (by omega) (by omega)
  rw [← hqe] at hq hlen
  clear hqe
  have j0 : ((k : Int) + (m : Int) != (k : Int) + (m : Int)) = false := by simp
  have j1 : ¬ (q : Int) < (k : Int) := by omega
  have j2 : (0 : Int) ≤ (k : Int) := by omega
  go_enter Try.func12, Try.ntmps12
  go_wp2_with (first
    | (go_at_call 34; refine NO.out.mono ?_; rintro e w' ⟨rfl, h⟩; obtain rfl := h.symm)
    | (go_at_call 38; refine PR.out.mono ?_; rintro e w1 ⟨v1, v2, rows, rfl, ho1, ho2, hrw, hb1⟩; have c11 := cell_below c1 hb1; have HJ1 := (show Hid _ from pls_jr ho1); have HT1 := (show Hid _ from there_nm ho2 hrw hb1 hL.out); obtain ⟨p1, k1, e1, hc1⟩ := own_form ho1; obtain ⟨p2, k2, e2, hc2⟩ := own_form ho2; rw [HQ.out] at e1 e2 hc1 hc2; rw [HQ.out] at HJ1 HT1; subst e1 e2; have x1 : (k : Int) ≤ (k1 : Int) := (by omega); have HLM := (show Hid _ from NmE.lm HT1.out); have JC := (show Hid _ from jr_cut HJ1.out hq); have HCd := (show Hid _ from Cd.below hC.out hb1); clear ho1 ho2)
    | (go_at_call 39; refine (even_ok p2 q k2 n w1 (by omega) HLM).mono ?_; rintro e w' ⟨rfl, h⟩; obtain rfl := h.symm)
    | (go_at_call 40; refine (data_core (pl := pk L (k + m)) hk hm hkm hn hq (by omega) HCd hF JC (fun i hi => PM.out i (by omega)) (fun i hi j hj => PN.out i (by omega) j (by omega)) HT1).mono ?_; rintro e w2 ⟨B, ρ, Z, rfl, hG, hz, hb2⟩)
    | (go_at_call 36; refine (word_core k m n B ρ _ F _ w2 hk hm hkm hn (Cd.below HCd.out hb2) hG).mono ?_; rintro e w3 ⟨v3, rfl, hN3, hb3, _⟩))
  go_ret2
  exact ⟨_, Z, rfl, hz, hN3, bt (bt hb1 hb2) hb3⟩
end
/-- The word comes back. -/
theorem rebuild_ok {w : World} {v vR : Value} {k m n : Nat} {L : Nat → Nat} {F R D : Nat → Nat → BitVec 8} (hk : 1 ≤ k) (hm : 1 ≤ m) (hkm : k + m ≤ 255) (hn : n ≤ 140737488355328) (hC : Cd w v k m F) (hF : Fac k F) (hR : NmE w vR (k + m) L R) (hL : ∀ i, i < k + m → 0 < L i → L i = n) (hq : k ≤ (thr L (k + m)).length) (hD : ∀ i, i < k + m → 0 < L i → ∀ c, c < n → R i c = mm fdE k F D i c) :
    Calls Try.prog 12 #[v, vR] w fun e w' => ∃ v', e = .returned (.tuple #[v', .int .i64 0]) ∧ NmE w' v' (k + m) (fun _ => n) (mm fdE k F D) ∧ Below w.heap.size w w' := by
  refine (rebuild_core hk hm hkm hn hC hF hR hL hq).mono fun e w' ⟨v', Z, he, hz, hN, hb⟩ => ⟨v', he, nm_congr hN (fun i _ c hc => ?_), hb⟩
  have key : ∀ j, j < k → skk plE oE (fun t => tiE (Z j t) (R (pk L (k + m) t) c)) k = D j c := fun j hj => by
    rw [skk_mm (P := Z) (Q := fun t c => R (pk L (k + m) t) c) (i := j) (j := c), mm_congr (A' := Z) (B' := mm fdE k (fun i j => F (pk L (k + m) i) j) D) (fun _ _ => rfl) (fun t ht => by
      have hp := pk_mem (L := L) (r := k + m) (t := t) (by omega)
      exact hD _ hp.1 hp.2 c hc), ← mm_assoc, mm_congr (A' := dl fdE) (B' := D) (fun t ht => hz j hj t ht) (fun _ _ => rfl), mm_dl_l hj]
  by_cases e : i < k
  · rw [if_pos e, key i e, mm_congr (A' := dl fdE) (B' := D) (fun t ht => hF.id e ht) (fun _ _ => rfl), mm_dl_l e]
  · rw [if_neg e, skk_mm (P := F) (Q := fun j c => skk plE oE (fun t => tiE (Z j t) (R (pk L (k + m) t) c)) k) (i := i) (j := c)]
    exact mm_congr (fun _ _ => rfl) (fun t ht => key t ht)
end Go.Proofs.Ytmjobnabnkiakaa
