/-
  'known': what the laws ask first.
-/
import Derived.Test.YtchmggehbajebaaIn1
import Derived.Test.YtchmggehbajebaaAl
import Derived.Test.YtchmggehbajebaaMt
namespace Go.Proofs.Ytchmggehbajebaa
open Go.RowKit
/-- There is an inverse on the left. -/
def Has (r : Nat) (P : Nat → Nat → BitVec 8) : Prop := ∃ X : Nat → Nat → BitVec 8, ∀ i, i < r → ∀ j, j < r → mm fdE r X P i j = dl fdE i j
theorem Ech.left {n : Nat} {A N E F P : Nat → Nat → BitVec 8} {pv : Nat → Nat} (h : Ech fdE n n n A N E F pv) (h1 : ∀ i, i < n → ∀ j, j < n → A i j = P i j) : Has n P :=
  ⟨E, fun i hi j hj => by rw [← h.full hi hj, h.req.eq i hi]; exact mm_congr (fun _ _ => rfl) (fun t ht => (h1 t ht j hj).symm)⟩
theorem inverse_ok {w : World} {v : Value} {r : Nat} {l : Nat → Nat} {P : Nat → Nat → BitVec 8} (h : NmE w v r l P) (hq : sq r l = 0) (hX : Has r P) :
    Calls Try.prog 30 #[v] w fun e w' => ∃ v' X, e = .returned (.tuple #[v', .int .i64 0]) ∧ GxE w.heap.size w' v' r r X ∧ (∀ i, i < r → ∀ j, j < r → mm fdE r X P i j = dl fdE i j) ∧ (∀ i, i < r → ∀ j, j < r → mm fdE r P X i j = dl fdE i j) ∧ Below w.heap.size w w' := by
  obtain ⟨p1, c1, e1⟩ := (show ∃ p c, v = .slice p r c from by obtain ⟨rows, h, _⟩ := h; exact h.form)
  subst e1
  refine (inverse_core p1 r c1 l P w hq h).mono fun e w' hd => ?_
  rcases hd with hd | ⟨_, hno, _⟩
  · exact hd
  · obtain ⟨X, hX⟩ := hX
    exact absurd hX (hno X)
theorem rank_any {w : World} {v : Value} {r : Nat} {l : Nat → Nat} {P : Nat → Nat → BitVec 8} (h : NmE w v r l P) (hq : fc r l = 0) :
    Calls Try.prog 26 #[v] w fun e w' => ∃ (d : Nat) (A N E F : Nat → Nat → BitVec 8) (pv : Nat → Nat), e = .returned (.tuple #[.int .i64 (d : Int), .int .i64 0]) ∧ Ech fdE r (cw r l) d A N E F pv ∧ (∀ i, i < r → ∀ j, j < cw r l → A i j = P i j) ∧ Below w.heap.size w w' := by
  obtain ⟨p1, c1, e1⟩ := (show ∃ p c, v = .slice p r c from by obtain ⟨rows, h, _⟩ := h; exact h.form)
  subst e1
  exact rank_core p1 r c1 l P w hq h
theorem rank_ok {w : World} {v : Value} {r : Nat} {l : Nat → Nat} {P : Nat → Nat → BitVec 8} (h : NmE w v r l P) (hq : sq r l = 0) (hX : Has r P) :
    Calls Try.prog 26 #[v] w fun e w' => e = .returned (.tuple #[.int .i64 (r : Int), .int .i64 0]) ∧ Below w.heap.size w w' := by
  obtain ⟨f1, f2⟩ := sq_zero hq
  refine (rank_any h f1).mono fun e w' ⟨d, A, N, E, F, pv, he, hE, hA, hb⟩ => ?_
  rw [f2] at hE hA
  have hd : d = r := by
    rcases Nat.lt_or_ge d r with hlt | hge
    · obtain ⟨X, hX⟩ := hX
      exact (hE.few hlt hA hX).elim
    · have := hE.dr; omega
  exact ⟨by rw [he, hd], hb⟩
/-- As a matrix over bytes the sum of products is the program's. -/
theorem skk_mm (r : Nat) (P Q : Nat → Nat → BitVec 8) (i j : Nat) : skk plE oE (fun t => tiE (P i t) (Q t j)) r = mm fdE r P Q i j := by
  unfold mm
  induction r with
  | zero => rfl
  | succ n ih => rw [skk_succ, ih]; rfl
section
attribute [local irreducible] Calls el nuE NmE Im Jm TmE tc fc cw sq skk GxE
set_option maxHeartbeats 4000000 in
set_option maxRecDepth 1000000 in
theorem lawInverse_ok {w : World} {v : Value} {r : Nat} {l : Nat → Nat} {P : Nat → Nat → BitVec 8} (h : Jm w v r l (fun i j => nuE (P i j))) (hr : r ≤ 255) (hl : Hid (∀ i, i < r → l i ≤ 17592186044416)) (hq : Hid (sq r l = 0)) (hX : Hid (Has r P)) :
    Calls Try.prog 84 #[.int .i64 256, v] w fun e w' => ∃ v' X, e = .returned (.tuple #[v', .int .i64 0]) ∧ Im w' v' r (fun _ => r) (fun i j => nuE (X i j)) ∧ (∀ i, i < r → ∀ j, j < r → mm fdE r X P i j = dl fdE i j) ∧ (∀ i, i < r → ∀ j, j < r → mm fdE r P X i j = dl fdE i j) ∧ Below w.heap.size w w' := by
  have H := (show Hid _ from h)
  clear h
  go_enter Try.func84, Try.ntmps84
  go_wp2_with (first
    | (go_at_call 13; refine (elemss_any H.out (by omega) hl.out).mono ?_; rintro e w1 ⟨v1, rfl, hT, hb1⟩)
    | (go_at_call 30; refine (inverse_ok (TmE.nm hT) hq.out hX.out).mono ?_; rintro e w2 ⟨v2, X, rfl, hG, hx1, hx2, hb2⟩)
    | (go_at_call 86; refine (intsE_any (GxE.nm hG) (by omega) (fun i _ => by omega)).mono ?_; rintro e w3 ⟨v3, rfl, hI, hb3⟩))
  go_ret2
  exact ⟨_, X, rfl, hI, hx1, hx2, bt (bt hb1 hb2) hb3⟩
set_option maxHeartbeats 4000000 in
set_option maxRecDepth 1000000 in
theorem lawTimes_E {w : World} {v1 v2 : Value} {r1 r2 : Nat} {l1 l2 : Nat → Nat} {P Q : Nat → Nat → BitVec 8} (h1 : Jm w v1 r1 l1 (fun i j => nuE (P i j))) (h2 : Jm w v2 r2 l2 (fun i j => nuE (Q i j))) (hr1 : r1 ≤ 255) (hr2 : r2 ≤ 255) (hc : cw r2 l2 ≤ 255) (hl1 : Hid (∀ i, i < r1 → l1 i ≤ 17592186044416)) (hl2 : Hid (∀ i, i < r2 → l2 i ≤ 17592186044416)) (hq : Hid (tc r1 l1 r2 l2 = 0)) :
    Calls Try.prog 46 #[.int .i64 256, v1, v2] w fun e w' => ∃ v', e = .returned (.tuple #[v', .int .i64 0]) ∧ Im w' v' r1 (fun _ => cw r2 l2) (fun i j => nuE (mm fdE r2 P Q i j)) ∧ Below w.heap.size w w' := by
  have H1 := (show Hid _ from h1)
  have H2 := (show Hid _ from h2)
  clear h1 h2
  go_enter Try.func46, Try.ntmps46
  go_wp2_with (first
    | (go_at_call 13; refine (elemss_any H1.out (by omega) hl1.out).mono ?_; rintro e w1 ⟨v1', rfl, hT1, hb1⟩)
    | (go_at_call 13; refine (elemss_any (Jm.below H2.out hb1) (by omega) hl2.out).mono ?_; rintro e w2 ⟨v2', rfl, hT2, hb2⟩)
    | (go_at_call 12; refine (timesE_new (TmE.nm (TmE.below hT1 hb2)) (TmE.nm hT2) hq.out).mono ?_; rintro e w3 ⟨v3, rfl, hG, hb3⟩)
    | (go_at_call 86; refine (intsE_any (GxE.nm hG) (by omega) (fun i _ => by omega)).mono ?_; rintro e w4 ⟨v4, rfl, hI, hb4⟩))
  go_ret2
  refine ⟨_, rfl, Im.congr hI (fun i _ j _ => by rw [skk_mm]), bt (bt (bt hb1 hb2) hb3) hb4⟩
set_option maxHeartbeats 4000000 in
set_option maxRecDepth 1000000 in
theorem lawRank_ok {w : World} {v : Value} {r : Nat} {l : Nat → Nat} {P : Nat → Nat → BitVec 8} (h : Jm w v r l (fun i j => nuE (P i j))) (hr : r ≤ 255) (hl : Hid (∀ i, i < r → l i ≤ 17592186044416)) (hq : Hid (sq r l = 0)) (hX : Hid (Has r P)) :
    Calls Try.prog 85 #[.int .i64 256, v] w fun e w' => e = .returned (.tuple #[.int .i64 (r : Int), .int .i64 0]) ∧ Below w.heap.size w w' := by
  have H := (show Hid _ from h)
  clear h
  go_enter Try.func85, Try.ntmps85
  go_wp2_with (first
    | (go_at_call 13; refine (elemss_any H.out (by omega) hl.out).mono ?_; rintro e w1 ⟨v1, rfl, hT, hb1⟩)
    | (go_at_call 26; refine (rank_ok (TmE.nm hT) hq.out hX.out).mono ?_; rintro e w2 ⟨rfl, hb2⟩))
  go_ret2
  exact ⟨rfl, bt hb1 hb2⟩
end
/-- Two rows of two ints that were just built. -/
def lit2 (w : World) (a b c d : Int) : World := ((w.alloc (.cells #[.int .i64 a, .int .i64 b] 3)).alloc (.cells #[.int .i64 c, .int .i64 d] 3)).alloc (.cells #[.slice (some ⟨w.heap.size, 0, none⟩) 2 2, .slice (some ⟨w.heap.size + 1, 0, none⟩) 2 2] 23)
def two4 (a b c d : Int) (i j : Nat) : Int := if i = 0 then (if j = 0 then a else b) else (if j = 0 then c else d)
theorem lit2_below (w : World) (a b c d : Int) : Below w.heap.size w (lit2 w a b c d) := by
  unfold lit2
  exact (((Below.refl _ _).alloc (Nat.le_refl _) _).alloc (by simp) _).alloc (by simp; omega) _
theorem lit2_jm (w : World) (a b c d : Int) : Jm (lit2 w a b c d) (.slice (some ⟨w.heap.size + 1 + 1, 0, none⟩) 2 2) 2 (fun _ => 2) (two4 a b c d) := by
  have s2 : ((w.alloc (.cells #[.int .i64 a, .int .i64 b] 3)).alloc (.cells #[.int .i64 c, .int .i64 d] 3)).heap.size = w.heap.size + 1 + 1 := by simp
  have h0 : (lit2 w a b c d).heap[w.heap.size]? = some (.cells #[.int .i64 a, .int .i64 b] 3 (0, 0)) := by
    have b1 : Below (w.heap.size + 1) (w.alloc (.cells #[.int .i64 a, .int .i64 b] 3)) (lit2 w a b c d) := by
      unfold lit2
      exact ((Below.refl _ _).alloc (by simp) _).alloc (by simp) _
    rw [b1.block _ (by omega), heap_alloc_new]
  have h1 : (lit2 w a b c d).heap[w.heap.size + 1]? = some (.cells #[.int .i64 c, .int .i64 d] 3 (0, 0)) := by
    have b1 : Below (w.heap.size + 1 + 1) ((w.alloc (.cells #[.int .i64 a, .int .i64 b] 3)).alloc (.cells #[.int .i64 c, .int .i64 d] 3)) (lit2 w a b c d) := by
      unfold lit2
      exact (Below.refl _ _).alloc (by simp) _
    rw [b1.block _ (by omega)]
    have := heap_alloc_new (w.alloc (.cells #[.int .i64 a, .int .i64 b] 3)) (.cells #[.int .i64 c, .int .i64 d] 3)
    simpa using this
  have h2 : (lit2 w a b c d).heap[w.heap.size + 1 + 1]? = some (.cells #[.slice (some ⟨w.heap.size, 0, none⟩) 2 2, .slice (some ⟨w.heap.size + 1, 0, none⟩) 2 2] 23 (0, 0)) := by
    unfold lit2
    rw [← s2, heap_alloc_new]
  refine ⟨fun i => if i = 0 then .slice (some ⟨w.heap.size, 0, none⟩) 2 2 else .slice (some ⟨w.heap.size + 1, 0, none⟩) 2 2, ⟨_, _, rfl, .inr ⟨_, _, rfl, fun i hi => ?_⟩⟩, fun i hi => ?_⟩
  · rw [cell_of_row _ _ _ _ _ _ h2]
    match i, hi with
    | 0, _ => rfl
    | 1, _ => rfl
  · match i, hi with
    | 0, _ =>
      refine ⟨_, _, rfl, .inr ⟨_, _, rfl, fun j hj => ?_⟩⟩
      rw [cell_of_row _ _ _ _ _ _ h0]
      match j, hj with
      | 0, _ => rfl
      | 1, _ => rfl
    | 1, _ =>
      refine ⟨_, _, rfl, .inr ⟨_, _, rfl, fun j hj => ?_⟩⟩
      rw [cell_of_row _ _ _ _ _ _ h1]
      match j, hj with
      | 0, _ => rfl
      | 1, _ => rfl
def kP (i j : Nat) : BitVec 8 := if i = 1 ∧ j = 1 then 2#8 else 1#8
def kX (i j : Nat) : BitVec 8 := if i = 0 ∧ j = 0 then 245#8 else 244#8
theorem two_all {p : Nat → Nat → Prop} (h00 : p 0 0) (h01 : p 0 1) (h10 : p 1 0) (h11 : p 1 1) : ∀ i, i < 2 → ∀ j, j < 2 → p i j := fun i hi j hj => by
  match i, hi, j, hj with
  | 0, _, 0, _ => exact h00
  | 0, _, 1, _ => exact h01
  | 1, _, 0, _ => exact h10
  | 1, _, 1, _ => exact h11
theorem kXP : ∀ i, i < 2 → ∀ j, j < 2 → mm fdE 2 kX kP i j = dl fdE i j := two_all (by decide +kernel) (by decide +kernel) (by decide +kernel) (by decide +kernel)
theorem kHas : Has 2 kP := ⟨kX, kXP⟩
theorem kP_lit : ∀ i, i < 2 → ∀ j, j < 2 → two4 1 1 1 2 i j = nuE (kP i j) := two_all (by decide +kernel) (by decide +kernel) (by decide +kernel) (by decide +kernel)
theorem kX_lit : ∀ i, i < 2 → ∀ j, j < 2 → two4 245 244 244 244 i j = nuE (kX i j) := two_all (by decide +kernel) (by decide +kernel) (by decide +kernel) (by decide +kernel)
theorem Jm.congr {w : World} {v : Value} {r : Nat} {l : Nat → Nat} {M M' : Nat → Nat → Int} (h : Jm w v r l M) (e : ∀ i, i < r → ∀ j, j < l i → M i j = M' i j) : Jm w v r l M' := by
  obtain ⟨rows, h1, h2⟩ := h
  exact ⟨rows, h1, fun i hi => Sv.congr (h2 i hi) (fun j hj => by rw [e i hi j hj])⟩
theorem sq2 (n : Nat) (hn : n ≤ 255) : sq n (fun _ => n) = 0 := by
  unfold sq
  rw [fc_ok (by omega) (fun k _ => by omega) (fun k _ => rfl)]
  unfold cw
  by_cases e : n = 0
  · subst e; rfl
  · simp [e]
theorem cw2 (n : Nat) : cw n (fun _ => n) = n := by unfold cw; by_cases e : n = 0 <;> simp [e]
theorem tc2 (n : Nat) (hn : n ≤ 255) : tc n (fun _ => n) n (fun _ => n) = 0 := tc_ok (sq_zero (sq2 n hn)).1 (sq_zero (sq2 n hn)).1 (cw2 n)
theorem nu_dl (i j : Nat) : nuE (dl fdE i j) = if i = j then 1 else 0 := by
  unfold dl
  by_cases e : i = j
  · rw [if_pos e, if_pos e]; decide +kernel
  · rw [if_neg e, if_neg e]; decide +kernel
section
attribute [local irreducible] Calls el nuE Im Jm lit2 Has
set_option maxHeartbeats 8000000 in
set_option maxRecDepth 1000000 in
theorem known_any (w : World) : Calls Try.prog 44 #[] w fun e w' => e = .returned (.bool true) ∧ Below w.heap.size w w' := by
  have hJ := Jm.congr (lit2_jm w 1 1 1 2) kP_lit
  have hb0 := lit2_below w 1 1 1 2
  obtain ⟨W, hW⟩ : ∃ W, W = lit2 w 1 1 1 2 := ⟨_, rfl⟩
  rw [← hW] at hJ hb0
  have HJ := (show Hid _ from hJ)
  have HW : Hid (lit2 w 1 1 1 2 = W) := hW.symm
  unfold lit2 at HW
  clear hJ hW
  go_enter Try.func44, Try.ntmps44
  go_wp2_with (first
    | (go_at_call 84; rw [HW.out]; refine (lawInverse_ok HJ.out (by omega) (fun i _ => by omega) (sq2 2 (by omega)) kHas).mono ?_; rintro e w1 ⟨v1, X, rfl, hI1, hx1, hx2, hb1⟩)
    | (go_at_call 46; refine (lawTimes_E (Jm.below HJ.out hb1) (Im.jm hI1) (by omega) (by omega) (by rw [cw2]; omega) (fun i _ => by omega) (fun i _ => by omega) (tc2 2 (by omega))).mono ?_; rintro e w2 ⟨v2, rfl, hI2, hb2⟩)
    | (go_at_call 85; refine (lawRank_ok (Jm.below HJ.out (bt hb1 hb2)) (by omega) (fun i _ => by omega) (sq2 2 (by omega)) kHas).mono ?_; rintro e w3 ⟨rfl, hb3⟩))
  have hI1' := Im.congr hI1 (M' := fun i j => nuE (kX i j)) (fun i hi j hj => by rw [inv_one kXP hx2 hi hj])
  have hI2' := Im.congr hI2 (M' := fun i j => if i = j then 1 else 0) (fun i hi j hj => by rw [cw2] at hj; rw [hx2 i hi j hj, nu_dl])
  rw [cw2] at hI2'
  have hJ2 := Jm.congr (lit2_jm w3 245 244 244 244) kX_lit
  have hbl := lit2_below w3 245 244 244 244
  obtain ⟨W2, hW2⟩ : ∃ W2, W2 = lit2 w3 245 244 244 244 := ⟨_, rfl⟩
  rw [← hW2] at hJ2 hbl
  have HW2 : Hid (lit2 w3 245 244 244 244 = W2) := hW2.symm
  unfold lit2 at HW2
  rw [HW2.out]
  have HA1 := (show Hid _ from Im.jm (Im.below hI1' (bt (bt hb2 hb3) hbl)))
  have HJ2 := (show Hid _ from hJ2)
  have HI2 := (show Hid _ from Im.below hI2' (bt hb3 hbl))
  clear hJ2 hW2 hI1 hI2 hI1' hI2' hx1 hx2
  go_wp2_with (first
    | (go_at_call 49; refine (alike_any HA1.out HJ2.out (by omega) (fun i _ => by omega)).mono ?_; rintro e w4 ⟨rfl, hb4⟩)
    | (go_at_call 47; refine (lawUnit_core 2 (by omega) _).mono ?_; rintro e w5 ⟨v5, rfl, hI5, hb5⟩)
    | (go_at_call 49; refine (alike_any (Im.jm (Im.below HI2.out (bt hb4 hb5))) (Im.jm hI5) (by omega) (fun i _ => by omega)).mono ?_; rintro e w6 ⟨rfl, hb6⟩))
  go_ret
  exact ⟨rfl, bt (bt (bt (bt (bt (bt (bt hb0 hb1) hb2) hb3) hbl) hb4) hb5) hb6⟩
end
end Go.Proofs.Ytchmggehbajebaa
