/-
  'awake': what the laws ask first; CodeAnyK: the walk.
-/
import Derived.Test.YtmjobnabnkiakaaCm
namespace Go.Proofs.Ytmjobnabnkiakaa
open Go.RowKit
/-- What is encoded: the values of the polynomials. -/
theorem Fac.word {k : Nat} {F D C : Nat → Nat → BitVec 8} (h : Fac k F) {c : Nat} (hC : ∀ i, i < k → mm fdE k vm C i c = D i c) (i : Nat) : mm fdE k F D i c = mm fdE k vm C i c := by
  obtain ⟨X, h1, _, h3⟩ := h
  rw [mm_congr (A' := mm fdE k vm X) (B' := mm fdE k vm C) (fun t _ => h3 i t) (fun t ht => (hC t ht).symm), mm_assoc]
  exact mm_congr (fun _ _ => rfl) (fun t ht => by rw [← mm_assoc, mm_congr (A' := dl fdE) (B' := C) (fun s hs => h1 t ht s hs) (fun _ _ => rfl), mm_dl_l ht])
def aD (i j : Nat) : BitVec 8 := if j = 0 then (if i = 0 then 5#8 else 7#8) else 1#8
def aC (i j : Nat) : BitVec 8 := if i = 0 then (if j = 0 then 5#8 else 1#8) else (if j = 0 then 2#8 else 0#8)
def aW (i j : Nat) : BitVec 8 := if j = 0 then (if i = 0 then 5#8 else if i = 1 then 7#8 else 1#8) else 1#8
theorem aC_D (i j : Nat) (hi : i < 2) (hj : j < 2) : mm fdE 2 vm aC i j = aD i j := by
  match i, hi, j, hj with
  | 0, _, 0, _ => decide +kernel
  | 0, _, 1, _ => decide +kernel
  | 1, _, 0, _ => decide +kernel
  | 1, _, 1, _ => decide +kernel
theorem aC_W (i j : Nat) (hi : i < 3) (hj : j < 2) : mm fdE 2 vm aC i j = aW i j := by
  match i, hi, j, hj with
  | 0, _, 0, _ => decide +kernel
  | 0, _, 1, _ => decide +kernel
  | 1, _, 0, _ => decide +kernel
  | 1, _, 1, _ => decide +kernel
  | 2, _, 0, _ => decide +kernel
  | 2, _, 1, _ => decide +kernel
theorem aword {F : Nat → Nat → BitVec 8} (h : Fac 2 F) (i : Nat) (hi : i < 3) (j : Nat) (hj : j < 2) : mm fdE 2 F aD i j = aW i j := by
  rw [h.word (C := aC) (fun t ht => aC_D t j ht hj) i, aC_W i j hi hj]
/-- Rows of two bytes that were just built. -/
def one2 (w : World) (a b : Int) : World := w.alloc (.cells #[.int .u8 a, .int .u8 b] 5)
theorem one2_size (w : World) (a b : Int) : (one2 w a b).heap.size = w.heap.size + 1 := by unfold one2; simp
theorem one2_below (w : World) (a b : Int) : Below w.heap.size w (one2 w a b) := (Below.refl _ _).alloc (Nat.le_refl _) _
theorem one2_nr (w : World) (a b : BitVec 8) (f : Nat → BitVec 8) (h0 : f 0 = a) (h1 : f 1 = b) (x y : Int) (hx : x = el a) (hy : y = el b) : NrE (one2 w x y) (.slice (some ⟨w.heap.size, 0, none⟩) 2 2) 2 f := by
  subst hx hy
  refine ⟨_, _, rfl, .inr ⟨_, _, rfl, fun j hj => ?_⟩⟩
  unfold one2
  rw [cell_of_row _ _ _ _ _ (0, 0) (heap_alloc_new w _)]
  match j, hj with
  | 0, _ => unfold clE; rw [h0]; rfl
  | 1, _ => unfold clE; rw [h1]; rfl
def lw2 (w : World) : World := (one2 (one2 w 5 1) 7 1).alloc (.cells #[.slice (some ⟨w.heap.size, 0, none⟩) 2 2, .slice (some ⟨w.heap.size + 1, 0, none⟩) 2 2] 37)
theorem lw2_below (w : World) : Below w.heap.size w (lw2 w) :=
  (bt (one2_below w 5 1) (one2_below _ 7 1)).alloc (by rw [one2_size, one2_size]; omega) _
theorem lw2_nm (w : World) : NmE (lw2 w) (.slice (some ⟨w.heap.size + 1 + 1, 0, none⟩) 2 2) 2 (fun _ => 2) aD := by
  have r0 := one2_nr w 5#8 1#8 (aD 0) rfl rfl 5 1 (by decide) (by decide)
  have r1 := one2_nr (one2 w 5 1) 7#8 1#8 (aD 1) rfl rfl 7 1 (by decide) (by decide)
  have b2 : Below (one2 (one2 w 5 1) 7 1).heap.size (one2 (one2 w 5 1) 7 1) (lw2 w) := (Below.refl _ _).alloc (Nat.le_refl _) _
  have s2 : (one2 (one2 w 5 1) 7 1).heap.size = w.heap.size + 1 + 1 := by rw [one2_size, one2_size]
  rw [one2_size] at r1
  have h2 : (lw2 w).heap[w.heap.size + 1 + 1]? = some (.cells #[.slice (some ⟨w.heap.size, 0, none⟩) 2 2, .slice (some ⟨w.heap.size + 1, 0, none⟩) 2 2] 37 (0, 0)) := by
    unfold lw2
    rw [← s2, heap_alloc_new]
  refine ⟨fun i => if i = 0 then .slice (some ⟨w.heap.size, 0, none⟩) 2 2 else .slice (some ⟨w.heap.size + 1, 0, none⟩) 2 2, ⟨_, _, rfl, .inr ⟨_, _, rfl, fun i hi => ?_⟩⟩, fun i hi => ?_⟩
  · rw [cell_of_row _ _ _ _ _ _ h2]
    match i, hi with
    | 0, _ => rfl
    | 1, _ => rfl
  · match i, hi with
    | 0, _ => exact NrE.below r0 (bt (one2_below _ 7 1) b2)
    | 1, _ => exact NrE.below r1 b2
def lw3 (w : World) : World := (one2 (one2 (one2 w 5 1) 7 1) 1 1).alloc (.cells #[.slice (some ⟨w.heap.size, 0, none⟩) 2 2, .slice (some ⟨w.heap.size + 1, 0, none⟩) 2 2, .slice (some ⟨w.heap.size + 1 + 1, 0, none⟩) 2 2] 37)
theorem lw3_below (w : World) : Below w.heap.size w (lw3 w) :=
  (bt (bt (one2_below w 5 1) (one2_below _ 7 1)) (one2_below _ 1 1)).alloc (by rw [one2_size, one2_size, one2_size]; omega) _
theorem lw3_nm (w : World) : NmE (lw3 w) (.slice (some ⟨w.heap.size + 1 + 1 + 1, 0, none⟩) 3 3) 3 (fun _ => 2) aW := by
  have r0 := one2_nr w 5#8 1#8 (aW 0) rfl rfl 5 1 (by decide) (by decide)
  have r1 := one2_nr (one2 w 5 1) 7#8 1#8 (aW 1) rfl rfl 7 1 (by decide) (by decide)
  have r2 := one2_nr (one2 (one2 w 5 1) 7 1) 1#8 1#8 (aW 2) rfl rfl 1 1 (by decide) (by decide)
  have b2 : Below (one2 (one2 (one2 w 5 1) 7 1) 1 1).heap.size (one2 (one2 (one2 w 5 1) 7 1) 1 1) (lw3 w) := (Below.refl _ _).alloc (Nat.le_refl _) _
  have s2 : (one2 (one2 (one2 w 5 1) 7 1) 1 1).heap.size = w.heap.size + 1 + 1 + 1 := by rw [one2_size, one2_size, one2_size]
  rw [one2_size] at r1
  rw [one2_size, one2_size] at r2
  have h2 : (lw3 w).heap[w.heap.size + 1 + 1 + 1]? = some (.cells #[.slice (some ⟨w.heap.size, 0, none⟩) 2 2, .slice (some ⟨w.heap.size + 1, 0, none⟩) 2 2, .slice (some ⟨w.heap.size + 1 + 1, 0, none⟩) 2 2] 37 (0, 0)) := by
    unfold lw3
    rw [← s2, heap_alloc_new]
  refine ⟨fun i => if i = 0 then .slice (some ⟨w.heap.size, 0, none⟩) 2 2 else if i = 1 then .slice (some ⟨w.heap.size + 1, 0, none⟩) 2 2 else .slice (some ⟨w.heap.size + 1 + 1, 0, none⟩) 2 2, ⟨_, _, rfl, .inr ⟨_, _, rfl, fun i hi => ?_⟩⟩, fun i hi => ?_⟩
  · rw [cell_of_row _ _ _ _ _ _ h2]
    match i, hi with
    | 0, _ => rfl
    | 1, _ => rfl
    | 2, _ => rfl
  · match i, hi with
    | 0, _ => exact NrE.below r0 (bt (one2_below _ 7 1) (bt (one2_below _ 1 1) b2))
    | 1, _ => exact NrE.below r1 (bt (one2_below _ 1 1) b2)
    | 2, _ => exact NrE.below r2 b2
section
attribute [local irreducible] Calls el NmE NrE Cd Fac mm
set_option maxHeartbeats 8000000 in
set_option maxRecDepth 1000000 in
theorem awake_any (w : World) : Calls Try.prog 29 #[] w fun e w' => e = .returned (.bool true) ∧ Below w.heap.size w w' := by
  have NW := (show Hid _ from new_ok 2 1 (by omega) (by omega) (by omega) w)
  go_enter Try.func29, Try.ntmps29
  go_wp2_with (first
    | (go_at_call 9; refine NW.out.mono ?_; rintro e w1 ⟨v1, F, rfl, hC1, hF1, hb1⟩; have HF := (show Hid _ from hF1); have HC := (show Hid _ from Cd.below hC1 (lw2_below w1)); obtain ⟨cb, _, _, ev, _⟩ := cd_open hC1; subst ev; have HW : Hid (lw2 w1 = lw2 w1) := rfl; clear hC1 hF1)
    | (go_at_call 11; refine (show Calls _ _ _ (lw2 w1) _ from (encode_ok HC.out HF.out (by omega) (by omega) (by omega) (by omega) (lw2_nm w1)).mono ?_); rintro e w2 ⟨v2, rfl, hN2, hb2, _⟩; have HN2 := (show Hid _ from NmE.below hN2 (lw3_below w2)); obtain ⟨p2, c2, e2⟩ := nmE_form hN2; subst e2; clear hN2)
    | (go_at_call 17; refine (show Calls _ _ _ (lw3 w2) _ from (same_core p2 _ 3 c2 3 (fun _ => 2) _ aW (lw3 w2) (by omega) HN2 (lw3_nm w2) (fun i hi j hj => aword HF.out i hi j hj)).mono ?_); rintro e w3 ⟨rfl, hb3⟩))
  go_ret
  exact ⟨rfl, bt (bt (bt (bt hb1 (lw2_below w1)) hb2) (lw3_below w2)) hb3⟩
end
theorem nm_cut {w : World} {p : Option Addr} {r c q : Nat} {l : Nat → Nat} {N : Nat → Nat → BitVec 8} (h : NmE w (.slice p r c) r l N) (hq : q ≤ r) : NmE w (.slice p q c) q l N := by
  obtain ⟨rows, ⟨p', c', e, h⟩, hr⟩ := h
  injection e with e1 e2 e3
  subst e1 e3
  refine ⟨rows, ⟨_, _, rfl, ?_⟩, fun i hi => hr i (by omega)⟩
  rcases h with h | ⟨b, o, e, hc⟩
  · exact .inl (by omega)
  · exact .inr ⟨b, o, e, fun i hi => hc i (by omega)⟩
theorem Fac.data {k : Nat} {F D : Nat → Nat → BitVec 8} (h : Fac k F) {i : Nat} (hi : i < k) (j : Nat) : mm fdE k F D i j = D i j := by
  rw [mm_congr (A' := dl fdE) (B' := D) (fun t ht => h.id hi ht) (fun _ _ => rfl), mm_dl_l hi]
theorem owned_ov {w : World} {base : Nat} {t : TypeId} {r : Nat} {v : Value} {rows : Nat → Value} (h : w.ownsRow base t 1 v r (lv rows r)) (h0 : 0 < r) : ∃ g cap N f, v = .slice (some ⟨g, 0, none⟩) r cap ∧ base ≤ g ∧ r ≤ N ∧ Ov w t g f N ∧ ∀ i, i < r → f i = rows i := by
  rcases h.2 with ⟨hv, h1⟩ | ⟨g, cap, c, hv, hg, hh, hc, hm, hs, ht⟩
  · omega
  · have hrc : r ≤ c.size := by rw [hs]; omega
    refine ⟨g, cap, c.size, fun i => c.getD i (.bool false), hv, hg, hrc, ?_, fun i hi => ?_⟩
    · unfold Ov
      rw [hh]
      have e : c = rv (fun i => c.getD i (.bool false)) c.size := by
        apply Array.ext
        · rw [rv_size]
        · intro i h1 h2
          have h3 := rv_get (fun i => c.getD i (.bool false)) c.size i h1
          rw [Array.getElem?_eq_getElem h2] at h3
          injection h3 with h3
          rw [h3]
          simp [Array.getD, h1]
      exact congrArg (fun z => some (Obj.cells z t (0, 0))) e
    · have h1 : (c.toList.take (r * 1))[i]? = some (rows i) := by rw [ht, lv_at rows r i hi]
      rw [List.getElem?_take_of_lt (by omega)] at h1
      have h2 : c[i]? = some (rows i) := by simpa using h1
      have h4 : i < c.size := by omega
      rw [Array.getElem?_eq_getElem h4] at h2
      injection h2 with h2
      simp [Array.getD, h4, h2]
theorem bm_open {base : Nat} {w : World} {v : Value} {r : Nat} {L : Nat → Nat} {M : Nat → Nat → BitVec 8} (h : Bm base w v r L M) (h0 : 0 < r) : ∃ g cap N f, v = .slice (some ⟨g, 0, none⟩) r cap ∧ base ≤ g ∧ r ≤ N ∧ Ov w 37 g f N ∧ ∀ i, i < r → Br w (f i) (L i) (M i) := by
  obtain ⟨rows, h1, h2⟩ := h
  obtain ⟨g, cap, N, f, e, hg, hN, hO, hf⟩ := owned_ov h1 h0
  exact ⟨g, cap, N, f, e, hg, hN, hO, fun i hi => by rw [hf i hi]; exact h2 i hi⟩
theorem Br.but {g : Nat} {w w' : World} {v : Value} {n N : Nat} {f : Nat → BitVec 8} {h : Nat → Value} (hr : Br w v n f) (hO : Ov w 37 g h N) (hb : But g w w') : Br w' v n f := by
  obtain ⟨p, c, e, hr⟩ := hr
  refine ⟨p, c, e, ?_⟩
  rcases hr with h0 | ⟨b, o, cs, z, e2, h1, h2⟩
  · exact .inl h0
  · refine .inr ⟨b, o, cs, z, e2, ?_, h2⟩
    rw [hb.ot b (lt_of_block h1) (fun hbg => by
      subst hbg
      unfold Ov at hO
      rw [hO] at h1
      injection h1 with h1
      injection h1 with _ h1 _
      exact absurd h1 (by decide))]
    exact h1
/-- What is left of the rows. -/
def lf (P : List Nat) (t : Nat) (f : Nat → Value) (i : Nat) : Value := if i < t ∧ i ∈ P then .slice none 0 0 else f i
theorem lf_zero (P : List Nat) (f : Nat → Value) (i : Nat) : lf P 0 f i = f i := by unfold lf; rw [if_neg (by omega)]
theorem lf_yes {P : List Nat} {t : Nat} (h : t ∈ P) (f : Nat → Value) (i : Nat) : (if i = t then .slice none 0 0 else lf P t f i) = lf P (t + 1) f i := by
  unfold lf
  by_cases e : i = t
  · subst e; rw [if_pos rfl, if_pos ⟨by omega, h⟩]
  · rw [if_neg e]
    by_cases e2 : i < t ∧ i ∈ P
    · rw [if_pos e2, if_pos ⟨by omega, e2.2⟩]
    · rw [if_neg e2, if_neg (fun h => e2 ⟨by omega, h.2⟩)]
theorem lf_no {P : List Nat} {t : Nat} (h : ¬ t ∈ P) (f : Nat → Value) (i : Nat) : lf P t f i = lf P (t + 1) f i := by
  unfold lf
  by_cases e2 : i < t ∧ i ∈ P
  · rw [if_pos e2, if_pos ⟨by omega, e2.2⟩]
  · rw [if_neg e2, if_neg (fun h1 => e2 ⟨by
      by_cases e : i = t
      · subst e; exact absurd h1.2 h
      · omega, h1.2⟩)]
theorem left_nm {w9 wr : World} {g N r n cap : Nat} {f : Nat → Value} {h : Nat → Value} {P : List Nat} {M : Nat → Nat → BitVec 8} (hN : r ≤ N) (hO9 : Ov w9 37 g h N) (hf : ∀ i, i < r → Br w9 (f i) n (M i)) (hb : But g w9 wr) (hO : Ov wr 37 g (lf P r f) N) : NmE wr (.slice (some ⟨g, 0, none⟩) r cap) r (lo P n) M := by
  refine ⟨lf P r f, ⟨_, _, rfl, .inr ⟨_, _, rfl, fun i hi => by rw [Nat.zero_add]; exact hO.cell (by omega)⟩⟩, fun i hi => ?_⟩
  unfold lf lo
  by_cases e : i ∈ P
  · rw [if_pos ⟨hi, e⟩, if_pos e]
    exact ⟨_, _, rfl, .inl rfl⟩
  · rw [if_neg (fun h => e h.2), if_neg e]
    exact (Br.but (hf i hi) hO9 hb).nr
theorem lo_pos {P : List Nat} {n i : Nat} (h : 0 < lo P n i) : lo P n i = n := by
  unfold lo at h ⊢
  by_cases e : i ∈ P
  · rw [if_pos e] at h; omega
  · rw [if_neg e]
theorem bm_in {P : List Nat} {t : Nat} (h : t ∈ P) : bm P t = .bool true := by unfold bm; rw [decide_eq_true h]
theorem bm_out {P : List Nat} {t : Nat} (h : ¬ t ∈ P) : bm P t = .bool false := by unfold bm; rw [decide_eq_false h]
section
attribute [local irreducible] Calls el NmE NrE Cd Fac mm Jr Bm lo bm Ov lf Br
set_option maxHeartbeats 16000000 in
set_option maxRecDepth 1000000 in
theorem codeAnyK_walk (K M : Int) (pb : Option Addr) (nb cb : Nat) (x : Nat → BitVec 8) (vP : Value) (nP : Nat) (f : Nat → Int) (w : World) (hnb : nb ≤ 140737488355328) (hcb : nb ≤ cb) (hB : NrE w (.slice pb nb cb) nb x) (hP : Jr w vP nP f) :
    Calls Try.prog 8 #[.agg #[.int .i64 K, .int .i64 M, .slice pb nb cb, vP]] w fun e w' => e = .returned (.bool true) ∧ Below w.heap.size w w' := by
  have hb0 : Below w.heap.size w (w.alloc (.cells #[.int .i64 K, .int .i64 M, .slice pb nb cb, vP] 52)) := (Below.refl _ _).alloc (Nat.le_refl _) _
  have q0 := ask_cell w #[.int .i64 K, .int .i64 M, .slice pb nb cb, vP] 52 0 (.int .i64 K) rfl
  have q1 := ask_cell w #[.int .i64 K, .int .i64 M, .slice pb nb cb, vP] 52 1 (.int .i64 M) rfl
  have q2 := ask_cell w #[.int .i64 K, .int .i64 M, .slice pb nb cb, vP] 52 2 (.slice pb nb cb) rfl
  have q3 := ask_cell w #[.int .i64 K, .int .i64 M, .slice pb nb cb, vP] 52 3 vP rfl
  obtain ⟨W, hW⟩ : ∃ W, W = w.alloc (.cells #[.int .i64 K, .int .i64 M, .slice pb nb cb, vP] 52) := ⟨_, rfl⟩
  rw [← hW] at hb0 q0 q1 q2 q3
  have HW : Hid (w.alloc (.cells #[.int .i64 K, .int .i64 M, .slice pb nb cb, vP] 52) = W) := hW.symm
  have HB0 := (show Hid _ from NrE.below hB hb0)
  have HP0 := (show Hid _ from Jr.below hP hb0)
  clear hW hB hP
  go_enter Try.func8, Try.ntmps8
  go_wp2_with (first
    | (go_at_call 29; rw [HW.out]; refine (awake_any W).mono ?_; rintro e w1 ⟨rfl, hb1⟩; have q01 := cell_below q0 hb1; have q11 := cell_below q1 hb1; have q21 := cell_below q2 hb1; have q31 := cell_below q3 hb1; clear q0 q1)
    | (go_at_call 30; refine (fit_ok K M (.slice pb nb cb) vP w1).mono ?_; rintro e w2 ⟨k, m, rfl, hk1, hm1, hmk, hkm, hb2⟩; have q22 := cell_below q21 hb2; have HB2 := (show Hid _ from bt (bt hb0 hb1) hb2); have HBY := (show Hid _ from NrE.below HB0.out (bt hb1 hb2)); have HPI := (show Hid _ from Jr.below HP0.out (bt hb1 hb2)); obtain ⟨n, hn⟩ : ∃ n, nb / k = n := ⟨_, rfl⟩; have HN : Hid (nb / k = n) := hn; have hnn : n ≤ 140737488355328 := (by have := Nat.div_le_self nb k; omega); clear hn; have e1 : wrap64 ((k : Int) + (m : Int)) = (k : Int) + (m : Int) := (by unfold wrap64; omega); have j0 : ((k : Int) + (m : Int) != (k : Int) + (m : Int)) = false := (by simp); have j2 : (0 : Int) ≤ (k : Int) := (by omega); have q32 := (show Hid _ from cell_below q31 hb2); clear q01 q11 q21 q31)
    | (go_at_call 31; refine (cut_core pb nb cb n k x w2 hk1 (by omega) hnb hcb HN HBY).mono ?_; rintro e w3 ⟨v3, rfl, hM3, hb3⟩; have HD := (show Hid _ from Bm.nm hM3); obtain ⟨p3, c3, e3⟩ := nmE_form HD.out; subst e3; obtain ⟨D, hDe⟩ : ∃ D, D = (fun i j => x (i * n + j)) := ⟨_, rfl⟩; rw [← hDe] at HD; clear hDe hM3 q22)
    | (go_at_call 9; refine (new_ok k m hm1 hmk hkm w3).mono ?_; rintro e w4 ⟨v4, F, rfl, hC4, hF4, hb4⟩; have HC := (show Hid _ from hC4); have HF := (show Hid _ from hF4); obtain ⟨cb4, _, _, ev, _⟩ := cd_open hC4; subst ev; clear hC4 hF4)
    | (go_at_call 11; refine (encode_ok HC.out HF.out hk1 hm1 hkm hnn (NmE.below HD.out hb4)).mono ?_; rintro e w5 ⟨v5, rfl, hN5, hb5, hcp5⟩; have HN5 := (show Hid _ from hN5); obtain ⟨p5, c5, e5, hc5⟩ := hcp5; subst e5; have x5 : (k : Int) ≤ (c5 : Int) := (by omega); clear hN5)
    | (go_at_call 17; refine (same_core p5 p3 k c5 c3 (fun _ => n) _ D w5 (by omega) (nm_cut HN5.out (by omega)) (NmE.below HD.out (bt hb4 hb5)) (fun i hi j _ => Fac.data HF.out hi j)).mono ?_; rintro e w6 ⟨rfl, hb6⟩)
    | (go_at_call 13; refine (check_ok hk1 hm1 hkm hnn (Cd.below HC.out (bt hb5 hb6)) HF.out (NmE.below HN5.out hb6)).mono ?_; rintro e w7 ⟨rfl, hb7⟩; have HD7 := (show Hid _ from NmE.below HD.out (bt (bt (bt hb4 hb5) hb6) hb7)); obtain ⟨b3, o3, rows3, ep3, hc3, hn3⟩ := nm_at HD7.out (by omega); subst ep3; obtain ⟨pr, cr, er, _⟩ := nr_un (hn3 0 (by omega)); have g0 : w7.cell? ⟨b3, o3, none⟩ = some (.slice pr n cr) := (by have h := hc3 0 (by omega); rw [er] at h; exact h); clear hc3 hn3 er; have jk : (0 : Int) < (k : Int) := (by omega); have HX7 := (show Hid _ from bt (bt (bt (bt (bt HB2.out hb3) hb4) hb5) hb6) hb7); by_cases hn0 : n = 0))
  · go_ret
    exact ⟨rfl, HX7.out⟩
  · have HN7 := (show Hid _ from NmE.below HN5.out (bt hb6 hb7))
    have HC7 := (show Hid _ from Cd.below HC.out (bt (bt hb5 hb6) hb7))
    have HB27 := (show Hid _ from bt (bt (bt (bt hb3 hb4) hb5) hb6) hb7)
    clear hb0 hb1 hb2 hb3 hb4 hb5 hb6 hb7 g0 HD HD7 HC HN5 HBY HB0 HP0 HB2 HW
    go_wp2_with (first
      | (go_at_call 20; refine (copied_core p5 (k + m) c5 (fun _ => n) _ w7 (by omega) (fun i _ => hnn) HN7).mono ?_; rintro e w8 ⟨v8, rfl, hM8, hb8⟩; obtain ⟨g8, cap8, N8, f8, e8, hg8, hr8, hO8, hf8⟩ := bm_open hM8 (by omega); subst e8; clear hM8; have q38 := cell_below q32.out (bt HB27.out hb8); have PL := (show Hid _ from places_ok (N := k + m) (m := m) (Jr.below HPI.out (bt HB27.out hb8)) (by omega) (by omega) (by omega)); rw [Int.natCast_add] at PL)
      | (go_at_call 32; refine PL.out.mono ?_; rintro e w9 ⟨P, rfl, hP9, hO9, hb9⟩; clear PL))
    have HP9 : Hid (P.length ≤ m) := hP9
    have hO89 := hO8.below hb9
    have HF9 : Hid (∀ i, i < k + m → Br w9 (f8 i) n (mm fdE k F D i)) := fun i hi => (hf8 i hi).below hb9
    have hlt8 : g8 < w8.heap.size := hO8.lt
    have HB79 := (show Hid _ from bt hb8 hb9)
    have HO9 := (show Hid _ from hO9)
    have HO89 := (show Hid _ from hO89)
    clear hP9 hf8 hO8 hb8 hb9 hO9 hO89 q38 q32 HPI
    go_loopw [13] (fun i wr => ∃ t : Nat, t ≤ k + m ∧ i = .int .i64 t ∧ Ov wr 37 g8 (lf P t f8) N8 ∧ But g8 w9 wr) (fun i _ => k + m - (intOf i).toNat)
    case atStart => exact ⟨0, Nat.zero_le _, rfl, HO89.out.congr (fun i _ => (lf_zero P f8 i).symm), But.refl _ _⟩
    case round =>
      obtain ⟨t, ht, rfl, hO, hbu⟩ := hrel
      by_cases hlt : t < k + m
      · have j1 : (t : Int) < (k : Int) + (m : Int) := by omega
        have g1 := (hbu.ov HO9.out (by omega)).cell hlt
        by_cases hin : t ∈ P
        · rw [bm_in hin] at g1
          have g2 := hO.cell (i := t) (by omega)
          have g3 := hO.frozen t
          go_wp2
          go_roundw
          case rel => exact ⟨t + 1, by omega, by go_num, (hO.set (by omega) (.slice none 0 0)).congr (fun i _ => lf_yes hin f8 i), hbu.set _ _⟩
          case measure => simp [intOf]; omega
        · rw [bm_out hin] at g1
          go_wp2
          go_roundw
          case rel => exact ⟨t + 1, by omega, by go_num, hO.congr (fun i _ => lf_no hin f8 i), hbu⟩
          case measure => simp [intOf]; omega
      · obtain rfl : t = k + m := by omega
        have hb7r := But.from HB79.out hbu hg8
        have HLN := (show Hid _ from left_nm (cap := cap8) hr8 HO89.out HF9.out hbu hO)
        have RB := (show Hid _ from rebuild_ok hk1 hm1 hkm hnn (Cd.below HC7.out hb7r) HF.out HLN.out (fun i _ h => lo_pos h) (thr_enough P (by omega) HP9.out) (fun i _ _ c _ => rfl))
        clear hO hbu
        go_wp2_with (first
          | (go_at_call 12; refine RB.out.mono ?_; rintro e w10 ⟨v10, rfl, hN10, hb10⟩; obtain ⟨p10, c10, e10⟩ := nmE_form hN10; subst e10; have HN10 := (show Hid _ from hN10); clear hN10 RB)
          | (go_at_call 17; refine (same_core p10 p5 (k + m) c10 c5 (fun _ => n) _ _ w10 (by omega) HN10.out (NmE.below HN7.out (bt hb7r hb10)) (fun i _ j _ => rfl)).mono ?_; rintro e w11 ⟨rfl, hb11⟩))
        go_ret
        exact ⟨rfl, bt (bt (bt HX7.out hb7r) hb10) hb11⟩
end
end Go.Proofs.Ytmjobnabnkiakaa
