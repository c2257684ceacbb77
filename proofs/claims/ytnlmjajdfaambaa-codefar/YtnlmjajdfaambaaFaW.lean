/-
  CodeFar: the walk.
-/
import Derived.Test.YtnlmjajdfaambaaUn
namespace Go.Proofs.Ytnlmjajdfaambaa
open Go.RowKit
theorem same_no (p q : Option Addr) (r c1 c2 : Nat) (L1 L2 : Nat → Nat) (A B : Nat → Nat → BitVec 8) (w : World) (hr : r ≤ 140737488355328) (H1 : Hid (NmE w (.slice p r c1) r L1 A)) (H2 : Hid (NmE w (.slice q r c2) r L2 B)) (HE : Hid (¬ ∀ i, i < r → Lke L1 L2 A B i)) :
    Calls Try.prog 17 #[.slice p r c1, .slice q r c2] w fun e w' => e = .returned (.bool false) ∧ Below w.heap.size w w' :=
  (same_any p q r c1 c2 L1 L2 A B w hr H1 H2).mono fun e w' ⟨b, he, hb, hw⟩ => by
    cases b with
    | true => exact absurd (hb.1 rfl) HE.out
    | false => exact ⟨he, hw⟩
theorem lke_at {L1 L2 : Nat → Nat} {A B : Nat → Nat → BitVec 8} {i : Nat} (h : Lke L1 L2 A B i) : ∀ j, j < L1 i → A i j = B i j := h.2
section
attribute [local irreducible] Calls el NmE NrE Cd Fac mm Jr Bm Br Lke alk thr
set_option maxHeartbeats 16000000 in
set_option maxRecDepth 1000000 in
theorem codeFar_y (K M : Int) (pb : Option Addr) (nb cb : Nat) (x : Nat → BitVec 8) (vP : Value) (py : Option Addr) (ny cy : Nat) (y : Nat → BitVec 8) (w : World) (hnb : nb ≤ 140737488355328) (hcb : nb ≤ cb) (hny : ny ≤ 140737488355328) (hcy : ny ≤ cy) (hB : NrE w (.slice pb nb cb) nb x) (hY : NrE w (.slice py ny cy) ny y) (hmin : (ny : Int) < (nb : Int)) :
    Calls Try.prog 5 #[.agg #[.int .i64 K, .int .i64 M, .slice pb nb cb, vP], .slice py ny cy] w fun e w' => e = .returned (.bool true) ∧ Below w.heap.size w w' := by
  have hb0 : Below w.heap.size w (w.alloc (.cells #[.int .i64 K, .int .i64 M, .slice pb nb cb, vP] 47)) := (Below.refl _ _).alloc (Nat.le_refl _) _
  have q0 := ask_cell w #[.int .i64 K, .int .i64 M, .slice pb nb cb, vP] 47 0 (.int .i64 K) rfl
  have q1 := ask_cell w #[.int .i64 K, .int .i64 M, .slice pb nb cb, vP] 47 1 (.int .i64 M) rfl
  have q2 := ask_cell w #[.int .i64 K, .int .i64 M, .slice pb nb cb, vP] 47 2 (.slice pb nb cb) rfl
  have q3 := ask_cell w #[.int .i64 K, .int .i64 M, .slice pb nb cb, vP] 47 3 vP rfl
  obtain ⟨W, hW⟩ : ∃ W, W = w.alloc (.cells #[.int .i64 K, .int .i64 M, .slice pb nb cb, vP] 47) := ⟨_, rfl⟩
  rw [← hW] at hb0 q0 q1 q2 q3
  have HW : Hid (w.alloc (.cells #[.int .i64 K, .int .i64 M, .slice pb nb cb, vP] 47) = W) := hW.symm
  have HB0 := (show Hid _ from nr_cut (q := ny) (NrE.below hB hb0) (by omega))
  have HY0 := (show Hid _ from nr_cut (q := ny) (NrE.below hY hb0) (by omega))
  clear hW hB hY
  have z1 : (ny : Int) ≤ (cb : Int) := by omega
  have z2 : (ny : Int) ≤ (cy : Int) := by omega
  have z3 : (0 : Int) ≤ (ny : Int) := by omega
  go_enter Try.func5, Try.ntmps5
  go_wp2_with (first
    | (go_at_call 24; rw [HW.out]; refine (awake_any W).mono ?_; rintro e w1 ⟨rfl, hb1⟩; have q01 := cell_below q0 hb1; have q11 := cell_below q1 hb1; have q21 := cell_below q2 hb1; have q31 := cell_below q3 hb1; clear q0 q1)
    | (go_at_call 25; refine (fit_ok K M (.slice pb nb cb) vP w1).mono ?_; rintro e w2 ⟨k, m, rfl, hk1, hm1, hmk, hkm, hb2⟩; have q22 := cell_below q21 hb2; have HB2 := (show Hid _ from bt (bt hb0 hb1) hb2); have HBX := (show Hid _ from NrE.below HB0.out (bt hb1 hb2)); have HBY := (show Hid _ from NrE.below HY0.out (bt hb1 hb2)); obtain ⟨n, hn⟩ : ∃ n, ny / k = n := ⟨_, rfl⟩; have HN : Hid (ny / k = n) := hn; have hnn : n ≤ 140737488355328 := (by have := Nat.div_le_self ny k; omega); clear hn; have e1 : wrap64 ((k : Int) + (m : Int)) = (k : Int) + (m : Int) := (by unfold wrap64; omega); have e2 : wrap64 ((m : Int) + 1) = (m : Int) + 1 := (by unfold wrap64; omega); have j0 : ((k : Int) + (m : Int) != (k : Int) + (m : Int)) = false := (by simp); have T1 : Hid True := trivial; clear q01 q11 q21 q31)
    | (go_at_call 26; revert T1; intro T1; refine (cut_core pb ny cb n k x w2 hk1 (by omega) (by omega) (by omega) HN HBX).mono ?_; rintro e w3 ⟨v3, rfl, hM3, hb3⟩; have HD := (show Hid _ from Bm.nm hM3); obtain ⟨p3, c3, e3⟩ := nmE_form HD.out; subst e3; obtain ⟨D, hDe⟩ : ∃ D, D = (fun i j => x (i * n + j)) := ⟨_, rfl⟩; rw [← hDe] at HD; clear hDe hM3 q22 T1)
    | (go_at_call 26; refine (cut_core py ny cy n k y w3 hk1 (by omega) (by omega) (by omega) HN (NrE.below HBY.out hb3)).mono ?_; rintro e w4 ⟨v4, rfl, hM4, hb4⟩; have HE := (show Hid _ from Bm.nm hM4); obtain ⟨p4, c4, e4⟩ := nmE_form HE.out; subst e4; obtain ⟨E, hEe⟩ : ∃ E, E = (fun i j => y (i * n + j)) := ⟨_, rfl⟩; rw [← hEe] at HE; clear hEe hM4; have T2 : Hid True := trivial)
    | (go_at_call 9; refine (new_ok k m hm1 hmk hkm w4).mono ?_; rintro e w5 ⟨v5, F, rfl, hC5, hF5, hb5⟩; have HC := (show Hid _ from hC5); have HF := (show Hid _ from hF5); obtain ⟨cb5, _, _, ev, _⟩ := cd_open hC5; subst ev; clear hC5 hF5)
    | (go_at_call 11; revert T2; intro T2; refine (encode_ok HC.out HF.out hk1 hm1 hkm hnn (NmE.below HD.out (bt hb4 hb5))).mono ?_; rintro e w6 ⟨v6, rfl, hN6, hb6, hcp6⟩; have HN6 := (show Hid _ from hN6); obtain ⟨p6, c6, e6, hc6⟩ := hcp6; subst e6; clear hN6 T2)
    | (go_at_call 11; refine (encode_ok (Cd.below HC.out hb6) HF.out hk1 hm1 hkm hnn (NmE.below HE.out (bt hb5 hb6))).mono ?_; rintro e w7 ⟨v7, rfl, hN7, hb7, hcp7⟩; have HN7 := (show Hid _ from hN7); obtain ⟨p7, c7, e7, hc7⟩ := hcp7; subst e7; clear hN7; have HX7 := (show Hid _ from bt (bt (bt (bt (bt HB2.out hb3) hb4) hb5) hb6) hb7); have HD7 := (show Hid _ from NmE.below HD.out (bt (bt (bt hb4 hb5) hb6) hb7)); have HE7 := (show Hid _ from NmE.below HE.out (bt (bt hb5 hb6) hb7)); have HV7 := (show Hid _ from NmE.below HN6.out hb7); by_cases hAB : ∀ i, i < k → Lke (fun _ => n) (fun _ => n) D E i))
  · have HAB := (show Hid _ from hAB)
    have HMM : Hid (∀ i, i < k + m → ∀ j, j < n → mm fdE k F D i j = mm fdE k F E i j) := fun i _ j hj => mm_congr (fun _ _ => rfl) (fun t ht => (lke_at (hAB t ht)) j hj)
    clear hAB hb0 hb1 hb2 hb3 hb4 hb5 hb6 hb7 HW HB0 HY0 HB2 HBX HBY HD HE HC HN6
    have T3 : Hid True := trivial
    go_wp2_with (first
      | (go_at_call 17; revert T3; intro T3; refine (same_core p3 p4 k c3 c4 (fun _ => n) D E w7 (by omega) HD7 HE7 (fun i hi j hj => lke_at (HAB.out i hi) j hj)).mono ?_; rintro e w8 ⟨rfl, hb8⟩; clear T3)
      | (go_at_call 17; refine (same_core p6 p7 (k + m) c6 c7 (fun _ => n) _ _ w8 (by omega) (NmE.below HV7.out hb8) (NmE.below HN7.out hb8) HMM).mono ?_; rintro e w9 ⟨rfl, hb9⟩))
    go_ret
    exact ⟨rfl, bt (bt HX7.out hb8) hb9⟩
  · have HAB := (show Hid _ from hAB)
    clear hAB hb0 hb1 hb2 hb3 hb4 hb5 hb6 hb7 HW HB0 HY0 HB2 HBX HBY HD HE HC HN6
    have T3 : Hid True := trivial
    go_wp2_with (first
      | (go_at_call 17; revert T3; intro T3; refine (same_no p3 p4 k c3 c4 (fun _ => n) (fun _ => n) D E w7 (by omega) HD7 HE7 HAB).mono ?_; rintro e w8 ⟨rfl, hb8⟩; clear T3)
      | (go_at_call 17; refine (same_no p3 p4 k c3 c4 (fun _ => n) (fun _ => n) D E w8 (by omega) (NmE.below HD7.out hb8) (NmE.below HE7.out hb8) HAB).mono ?_; rintro e w9 ⟨rfl, hb9⟩)
      | (go_at_call 27; refine (unlike_core p6 p7 (k + m) c6 c7 (fun _ => n) (fun _ => n) _ _ w9 (by omega) (NmE.below HV7.out (bt hb8 hb9)) (NmE.below HN7.out (bt hb8 hb9))).mono ?_; rintro e w10 ⟨d, rfl, hd, hb10⟩; have hdm : m + 1 ≤ d := (by rcases Nat.lt_or_ge d (m + 1) with h | h; exact absurd (Fac.far HF.out hkm (by omega)) HAB.out; exact h); have j5 : (m : Int) + 1 ≤ (d : Int) := (by omega); clear hd))
    go_ret
    exact ⟨rfl, bt (bt (bt HX7.out hb8) hb9) hb10⟩
end
section
attribute [local irreducible] Calls el NmE NrE Cd Fac mm Jr Bm Br Lke alk thr
set_option maxHeartbeats 16000000 in
set_option maxRecDepth 1000000 in
theorem codeFar_x (K M : Int) (pb : Option Addr) (nb cb : Nat) (x : Nat → BitVec 8) (vP : Value) (py : Option Addr) (ny cy : Nat) (y : Nat → BitVec 8) (w : World) (hnb : nb ≤ 140737488355328) (hcb : nb ≤ cb) (hny : ny ≤ 140737488355328) (hcy : ny ≤ cy) (hB : NrE w (.slice pb nb cb) nb x) (hY : NrE w (.slice py ny cy) ny y) (hmin : ¬ (ny : Int) < (nb : Int)) :
    Calls Try.prog 5 #[.agg #[.int .i64 K, .int .i64 M, .slice pb nb cb, vP], .slice py ny cy] w fun e w' => e = .returned (.bool true) ∧ Below w.heap.size w w' := by
  have hb0 : Below w.heap.size w (w.alloc (.cells #[.int .i64 K, .int .i64 M, .slice pb nb cb, vP] 47)) := (Below.refl _ _).alloc (Nat.le_refl _) _
  have q0 := ask_cell w #[.int .i64 K, .int .i64 M, .slice pb nb cb, vP] 47 0 (.int .i64 K) rfl
  have q1 := ask_cell w #[.int .i64 K, .int .i64 M, .slice pb nb cb, vP] 47 1 (.int .i64 M) rfl
  have q2 := ask_cell w #[.int .i64 K, .int .i64 M, .slice pb nb cb, vP] 47 2 (.slice pb nb cb) rfl
  have q3 := ask_cell w #[.int .i64 K, .int .i64 M, .slice pb nb cb, vP] 47 3 vP rfl
  obtain ⟨W, hW⟩ : ∃ W, W = w.alloc (.cells #[.int .i64 K, .int .i64 M, .slice pb nb cb, vP] 47) := ⟨_, rfl⟩
  rw [← hW] at hb0 q0 q1 q2 q3
  have HW : Hid (w.alloc (.cells #[.int .i64 K, .int .i64 M, .slice pb nb cb, vP] 47) = W) := hW.symm
  have HB0 := (show Hid _ from nr_cut (q := nb) (NrE.below hB hb0) (by omega))
  have HY0 := (show Hid _ from nr_cut (q := nb) (NrE.below hY hb0) (by omega))
  clear hW hB hY
  have z1 : (nb : Int) ≤ (cb : Int) := by omega
  have z2 : (nb : Int) ≤ (cy : Int) := by omega
  have z3 : (0 : Int) ≤ (nb : Int) := by omega
  go_enter Try.func5, Try.ntmps5
  go_wp2_with (first
    | (go_at_call 24; rw [HW.out]; refine (awake_any W).mono ?_; rintro e w1 ⟨rfl, hb1⟩; have q01 := cell_below q0 hb1; have q11 := cell_below q1 hb1; have q21 := cell_below q2 hb1; have q31 := cell_below q3 hb1; clear q0 q1)
    | (go_at_call 25; refine (fit_ok K M (.slice pb nb cb) vP w1).mono ?_; rintro e w2 ⟨k, m, rfl, hk1, hm1, hmk, hkm, hb2⟩; have q22 := cell_below q21 hb2; have HB2 := (show Hid _ from bt (bt hb0 hb1) hb2); have HBX := (show Hid _ from NrE.below HB0.out (bt hb1 hb2)); have HBY := (show Hid _ from NrE.below HY0.out (bt hb1 hb2)); obtain ⟨n, hn⟩ : ∃ n, nb / k = n := ⟨_, rfl⟩; have HN : Hid (nb / k = n) := hn; have hnn : n ≤ 140737488355328 := (by have := Nat.div_le_self nb k; omega); clear hn; have e1 : wrap64 ((k : Int) + (m : Int)) = (k : Int) + (m : Int) := (by unfold wrap64; omega); have e2 : wrap64 ((m : Int) + 1) = (m : Int) + 1 := (by unfold wrap64; omega); have j0 : ((k : Int) + (m : Int) != (k : Int) + (m : Int)) = false := (by simp); have T1 : Hid True := trivial; clear q01 q11 q21 q31)
    | (go_at_call 26; revert T1; intro T1; refine (cut_core pb nb cb n k x w2 hk1 (by omega) (by omega) (by omega) HN HBX).mono ?_; rintro e w3 ⟨v3, rfl, hM3, hb3⟩; have HD := (show Hid _ from Bm.nm hM3); obtain ⟨p3, c3, e3⟩ := nmE_form HD.out; subst e3; obtain ⟨D, hDe⟩ : ∃ D, D = (fun i j => x (i * n + j)) := ⟨_, rfl⟩; rw [← hDe] at HD; clear hDe hM3 q22 T1)
    | (go_at_call 26; refine (cut_core py nb cy n k y w3 hk1 (by omega) (by omega) (by omega) HN (NrE.below HBY.out hb3)).mono ?_; rintro e w4 ⟨v4, rfl, hM4, hb4⟩; have HE := (show Hid _ from Bm.nm hM4); obtain ⟨p4, c4, e4⟩ := nmE_form HE.out; subst e4; obtain ⟨E, hEe⟩ : ∃ E, E = (fun i j => y (i * n + j)) := ⟨_, rfl⟩; rw [← hEe] at HE; clear hEe hM4; have T2 : Hid True := trivial)
    | (go_at_call 9; refine (new_ok k m hm1 hmk hkm w4).mono ?_; rintro e w5 ⟨v5, F, rfl, hC5, hF5, hb5⟩; have HC := (show Hid _ from hC5); have HF := (show Hid _ from hF5); obtain ⟨cb5, _, _, ev, _⟩ := cd_open hC5; subst ev; clear hC5 hF5)
    | (go_at_call 11; revert T2; intro T2; refine (encode_ok HC.out HF.out hk1 hm1 hkm hnn (NmE.below HD.out (bt hb4 hb5))).mono ?_; rintro e w6 ⟨v6, rfl, hN6, hb6, hcp6⟩; have HN6 := (show Hid _ from hN6); obtain ⟨p6, c6, e6, hc6⟩ := hcp6; subst e6; clear hN6 T2)
    | (go_at_call 11; refine (encode_ok (Cd.below HC.out hb6) HF.out hk1 hm1 hkm hnn (NmE.below HE.out (bt hb5 hb6))).mono ?_; rintro e w7 ⟨v7, rfl, hN7, hb7, hcp7⟩; have HN7 := (show Hid _ from hN7); obtain ⟨p7, c7, e7, hc7⟩ := hcp7; subst e7; clear hN7; have HX7 := (show Hid _ from bt (bt (bt (bt (bt HB2.out hb3) hb4) hb5) hb6) hb7); have HD7 := (show Hid _ from NmE.below HD.out (bt (bt (bt hb4 hb5) hb6) hb7)); have HE7 := (show Hid _ from NmE.below HE.out (bt (bt hb5 hb6) hb7)); have HV7 := (show Hid _ from NmE.below HN6.out hb7); by_cases hAB : ∀ i, i < k → Lke (fun _ => n) (fun _ => n) D E i))
  · have HAB := (show Hid _ from hAB)
    have HMM : Hid (∀ i, i < k + m → ∀ j, j < n → mm fdE k F D i j = mm fdE k F E i j) := fun i _ j hj => mm_congr (fun _ _ => rfl) (fun t ht => (lke_at (hAB t ht)) j hj)
    clear hAB hb0 hb1 hb2 hb3 hb4 hb5 hb6 hb7 HW HB0 HY0 HB2 HBX HBY HD HE HC HN6
    have T3 : Hid True := trivial
    go_wp2_with (first
      | (go_at_call 17; revert T3; intro T3; refine (same_core p3 p4 k c3 c4 (fun _ => n) D E w7 (by omega) HD7 HE7 (fun i hi j hj => lke_at (HAB.out i hi) j hj)).mono ?_; rintro e w8 ⟨rfl, hb8⟩; clear T3)
      | (go_at_call 17; refine (same_core p6 p7 (k + m) c6 c7 (fun _ => n) _ _ w8 (by omega) (NmE.below HV7.out hb8) (NmE.below HN7.out hb8) HMM).mono ?_; rintro e w9 ⟨rfl, hb9⟩))
    go_ret
    exact ⟨rfl, bt (bt HX7.out hb8) hb9⟩
  · have HAB := (show Hid _ from hAB)
    clear hAB hb0 hb1 hb2 hb3 hb4 hb5 hb6 hb7 HW HB0 HY0 HB2 HBX HBY HD HE HC HN6
    have T3 : Hid True := trivial
    go_wp2_with (first
      | (go_at_call 17; revert T3; intro T3; refine (same_no p3 p4 k c3 c4 (fun _ => n) (fun _ => n) D E w7 (by omega) HD7 HE7 HAB).mono ?_; rintro e w8 ⟨rfl, hb8⟩; clear T3)
      | (go_at_call 17; refine (same_no p3 p4 k c3 c4 (fun _ => n) (fun _ => n) D E w8 (by omega) (NmE.below HD7.out hb8) (NmE.below HE7.out hb8) HAB).mono ?_; rintro e w9 ⟨rfl, hb9⟩)
      | (go_at_call 27; refine (unlike_core p6 p7 (k + m) c6 c7 (fun _ => n) (fun _ => n) _ _ w9 (by omega) (NmE.below HV7.out (bt hb8 hb9)) (NmE.below HN7.out (bt hb8 hb9))).mono ?_; rintro e w10 ⟨d, rfl, hd, hb10⟩; have hdm : m + 1 ≤ d := (by rcases Nat.lt_or_ge d (m + 1) with h | h; exact absurd (Fac.far HF.out hkm (by omega)) HAB.out; exact h); have j5 : (m : Int) + 1 ≤ (d : Int) := (by omega); clear hd))
    go_ret
    exact ⟨rfl, bt (bt (bt HX7.out hb8) hb9) hb10⟩
end
theorem codeFar_walk (K M : Int) (pb : Option Addr) (nb cb : Nat) (x : Nat → BitVec 8) (vP : Value) (py : Option Addr) (ny cy : Nat) (y : Nat → BitVec 8) (w : World) (hnb : nb ≤ 140737488355328) (hcb : nb ≤ cb) (hny : ny ≤ 140737488355328) (hcy : ny ≤ cy) (hB : NrE w (.slice pb nb cb) nb x) (hY : NrE w (.slice py ny cy) ny y) :
    Calls Try.prog 5 #[.agg #[.int .i64 K, .int .i64 M, .slice pb nb cb, vP], .slice py ny cy] w fun e w' => e = .returned (.bool true) ∧ Below w.heap.size w w' := by
  by_cases h : (ny : Int) < (nb : Int)
  · exact codeFar_y K M pb nb cb x vP py ny cy y w hnb hcb hny hcy hB hY h
  · exact codeFar_x K M pb nb cb x vP py ny cy y w hnb hcb hny hcy hB hY h
end Go.Proofs.Ytnlmjajdfaambaa
