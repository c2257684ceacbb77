/-
  'fold', 'Roots'.
-/
import Derived.Test.YtbjmdijphciliaaPolyA
namespace Go.Proofs.Ytbjmdijphciliaa
open Go.RowKit

theorem px_add (x : BitVec 8) (a b : Nat) : px x (a + b) = gm (px x a) (px x b) := by
  induction b with
  | zero => show px x a = gm (px x a) 1#8; rw [gm_one]
  | succ b ih => show gm (px x (a + b)) x = gm (px x a) (gm (px x b) x); rw [ih, gm_assoc]
theorem px_pw (m k : Nat) : px (pw m) k = pw (m * k) := by
  induction k with
  | zero => rfl
  | succ k ih => show gm (px (pw m) k) (pw m) = _; rw [ih, gm_pw, Nat.mul_succ]
theorem px_255 {x : BitVec 8} (h : x ≠ 0#8) : px x 255 = 1#8 := by
  rw [← pw_lg h, px_pw, Nat.mul_comm, ← Nat.add_zero (255 * lg x), pw_mul255]; rfl
theorem px_zero (k : Nat) : px 0#8 (k + 1) = 0#8 := by show gm _ 0#8 = _; rw [gm_zero]
theorem px_255mul {x : BitVec 8} (h : x ≠ 0#8) (q : Nat) : px x (255 * q) = 1#8 := by
  induction q with
  | zero => rfl
  | succ q ih => rw [Nat.mul_succ, px_add, ih, px_255 h, gm_one]
theorem px_fold (x : BitVec 8) (m : Nat) : px x (m % 255 + 1) = px x (m + 1) := by
  by_cases h : x = 0#8
  · subst h; rw [px_zero, px_zero]
  · have e : m + 1 = 255 * (m / 255) + (m % 255 + 1) := by have := Nat.div_add_mod m 255; omega
    rw [e, px_add x (255 * (m / 255)), px_255mul h, gm_one_l]
theorem evs_set {x : BitVec 8} {f : Nat → BitVec 8} {n k : Nat} (a : BitVec 8) (hk : k < n) : evs x (fun i => if i = k then f k ^^^ a else f i) n = evs x f n ^^^ gm a (px x k) := by
  induction n with
  | zero => omega
  | succ n ih =>
    show evs x _ n ^^^ gm (if n = k then f k ^^^ a else f n) (px x n) = (evs x f n ^^^ gm (f n) (px x n)) ^^^ gm a (px x k)
    by_cases e : n = k
    · subst e
      rw [if_pos rfl, evs_congr (g := f) (fun i hi => by rw [if_neg (by omega)]), gm_xor_l, BitVec.xor_assoc]
    · rw [if_neg e, ih (by omega), BitVec.xor_assoc, BitVec.xor_comm (gm a (px x k)), ← BitVec.xor_assoc]
/-- Where fold lays a power. -/
def fo (k : Nat) : Nat := if 256 ≤ k then (k - 1) % 255 + 1 else k
theorem px_fo (x : BitVec 8) (k : Nat) : px x (fo k) = px x k := by
  unfold fo
  by_cases h : 256 ≤ k
  · rw [if_pos h, px_fold, show k - 1 + 1 = k by omega]
  · rw [if_neg h]
theorem fo_lt {k n : Nat} (h : k < n) : fo k < min n 256 := by
  unfold fo; split
  · have := Nat.mod_lt (k - 1) (show 0 < 255 by omega); omega
  · omega
/-- The folded row so far. -/
def FoldInv (xs : List (BitVec 8)) (L k : Nat) (f : Nat → BitVec 8) : Prop := ∀ x, evs x f L = evs x (co xs) k
theorem FoldInv.start (xs : List (BitVec 8)) (L : Nat) : FoldInv xs L 0 (fun _ => 0#8) := fun x => by
  show _ = 0#8
  induction L with
  | zero => rfl
  | succ L ih => show evs x _ L ^^^ gm 0#8 _ = _; rw [ih, gm_zero_l]; rfl
theorem FoldInv.step {xs : List (BitVec 8)} {L k : Nat} {f : Nat → BitVec 8} (H : FoldInv xs L k f) (hk : fo k < L) : FoldInv xs L (k + 1) (fun i => if i = fo k then f (fo k) ^^^ co xs k else f i) := fun x => by
  rw [evs_set (co xs k) hk, H x, px_fo]; rfl
theorem ev_ls (x : BitVec 8) (f : Nat → BitVec 8) (n : Nat) : ev x (ls f n) = evs x f n := by
  rw [ev_evs, ls_len]; exact evs_congr (fun i hi => by rw [← ls_get f n i hi]; rfl)
theorem FoldInv.done {xs : List (BitVec 8)} {L : Nat} {f : Nat → BitVec 8} (H : FoldInv xs L xs.length f) (x : BitVec 8) : ev x (ls f L) = ev x xs := by rw [ev_ls, H x, ← ev_evs]
theorem Own.set1 {w W : World} {t : TypeId} {g n k : Nat} {f : Nat → BitVec 8} {v : BitVec 8} (h : Own w t g f n) (hk : k < n) (e : W.heap = (w.setCell ⟨g, k, none⟩ (.int .u8 (el v))).heap) : Own W t g (fun i => if i = k then v else f i) n := by
  have h1 := h.set hk v
  unfold Own at h1 ⊢
  rw [e]; exact h1
section
attribute [local irreducible] Calls el gm co Own fo
set_option maxHeartbeats 8000000 in
set_option maxRecDepth 1000000 in
theorem fold_short (b o n c : Nat) (xs : List (BitVec 8)) (w : World) (hn : n ≤ 281474976710656) (hs : n ≤ 256)
    (H1 : Hid (∀ i, i < n → w.cell? ⟨b, o + i, none⟩ = some (.int .u8 (el (co xs i))))) :
    Calls Try.prog 46 #[.slice (some ⟨b, o, none⟩) n c] w fun e w' => ∃ f, e = .returned (.slice (some ⟨w.heap.size, 0, none⟩) n n) ∧ Own w' 48 w.heap.size f n ∧ Below w.heap.size w w' ∧ Hid (FoldInv xs n n f) := by
  have hmk := make_el n hn
  have l1 : (n : Int) ≤ 256 := by omega
  go_enter Try.func46, Try.ntmps46
  go_wp2
  clear hmk
  go_loopw [12] (fun i wr => ∃ (k : Nat) (f : Nat → BitVec 8), k ≤ n ∧ i = .int .i64 k ∧ Own wr 48 w.heap.size f n ∧ Below w.heap.size w wr ∧ Hid (FoldInv xs n k f)) (fun i _ => n - (intOf i).toNat)
  case atStart => exact ⟨0, _, Nat.zero_le _, rfl, own_newE w n, (Below.refl _ _).alloc (Nat.le_refl _) _, FoldInv.start xs n⟩
  case round =>
    obtain ⟨k, f, hk, rfl, hO, hb, D⟩ := hrel
    by_cases hlt : k < n
    · have ef : fo k = k := by unfold fo; rw [if_neg (by omega)]
      have hfk : fo k < n := by rw [ef]; exact hlt
      have i2 : ¬ (256 : Int) ≤ (k : Int) := by omega
      rw [ef] at hfk
      have g1 : wr.cell? ⟨w.heap.size, fo k, none⟩ = some (.int .u8 (el (f (fo k)))) := by rw [ef]; exact hO.cell hfk
      have g2 := hO.frozen (fo k)
      have g3 := cell_below (H1.out k hlt) hb
      have i1 : (k : Int) < (n : Int) := by omega
      rw [ef] at g1 g2
      have D2 : Hid (FoldInv xs n (k + 1) (fun i => if i = k then f k ^^^ co xs k else f i)) := by have h3 := D.out.step (by rw [ef]; exact hfk); rw [ef] at h3; exact h3
      clear D
      go_wp2
      go_region_with (first | (go_at_call 30; refine (plus_any _ _ _).mono ?_; rintro e w' ⟨rfl, h⟩; obtain rfl := h.symm))
      all_goals
        go_wp2
        go_roundw
        case rel => exact ⟨k + 1, _, by omega, by go_num, hO.set1 hfk rfl, (hb.setCell (Nat.le_refl _) _).drew, D2⟩
        case measure => simp [intOf]; omega
    · obtain rfl : k = n := by omega
      go_wp2
      go_ret
      exact ⟨f, rfl, hO, hb, D⟩
set_option maxHeartbeats 8000000 in
set_option maxRecDepth 1000000 in
theorem fold_long (b o n c : Nat) (xs : List (BitVec 8)) (w : World) (hn : n ≤ 281474976710656) (hs : 256 < n)
    (H1 : Hid (∀ i, i < n → w.cell? ⟨b, o + i, none⟩ = some (.int .u8 (el (co xs i))))) :
    Calls Try.prog 46 #[.slice (some ⟨b, o, none⟩) n c] w fun e w' => ∃ f, e = .returned (.slice (some ⟨w.heap.size, 0, none⟩) 256 256) ∧ Own w' 48 w.heap.size f 256 ∧ Below w.heap.size w w' ∧ Hid (FoldInv xs 256 n f) := by
  have hmk := (show ∀ w, (Instr.makeSlice 25 (.int .i64 256) (.int .i64 256)).run Try.prog w = .ok (.slice (some ⟨w.heap.size, 0, none⟩) 256 256) (w.alloc (.cells (Array.replicate 256 (.int .u8 0)) 48)) from fun w => make_el 256 (by omega) w)
  have l1 : ¬ (n : Int) ≤ 256 := by omega
  have l2 : (256 : Int) < (n : Int) := by omega
  go_enter Try.func46, Try.ntmps46
  go_wp2
  clear hmk
  go_loopw [12] (fun i wr => ∃ (k : Nat) (f : Nat → BitVec 8), k ≤ n ∧ i = .int .i64 k ∧ Own wr 48 w.heap.size f 256 ∧ Below w.heap.size w wr ∧ Hid (FoldInv xs 256 k f)) (fun i _ => n - (intOf i).toNat)
  case atStart => exact ⟨0, _, Nat.zero_le _, rfl, own_newE w 256, (Below.refl _ _).alloc (Nat.le_refl _) _, FoldInv.start xs 256⟩
  case round =>
    obtain ⟨k, f, hk, rfl, hO, hb, D⟩ := hrel
    by_cases hlt : k < n
    · have hfk : fo k < 256 := by have := fo_lt (n := 257) (k := min k 256) (by omega); have := fo_lt hlt; omega
      by_cases hge : 256 ≤ k
      · have i2 : (256 : Int) ≤ (k : Int) := by omega
        have ef : ((k : Int) - 1) % 255 + 1 = (fo k : Int) := by unfold fo; rw [if_pos hge]; omega
        have et : ((k : Int) - 1).tmod 255 = ((k : Int) - 1) % 255 := Int.tmod_eq_emod_of_nonneg (by omega)
        have i3 : (fo k : Int) < 256 := by omega
        have g1 : wr.cell? ⟨w.heap.size, fo k, none⟩ = some (.int .u8 (el (f (fo k)))) := hO.cell hfk
        have g2 := hO.frozen (fo k)
        have g3 := cell_below (H1.out k hlt) hb
        have i1 : (k : Int) < (n : Int) := by omega
        skip
        have D2 : Hid (FoldInv xs 256 (k + 1) (fun i => if i = fo k then f (fo k) ^^^ co xs k else f i)) := D.out.step hfk
        clear D
        go_wp2
        go_region_with (first | (go_at_call 30; refine (plus_any _ _ _).mono ?_; rintro e w' ⟨rfl, h⟩; obtain rfl := h.symm))
        all_goals
          go_wp2
          go_roundw
          case rel => exact ⟨k + 1, _, by omega, by go_num, hO.set1 hfk rfl, (hb.setCell (Nat.le_refl _) _).drew, D2⟩
          case measure => simp [intOf]; omega
      · have i2 : ¬ (256 : Int) ≤ (k : Int) := by omega
        have ef : fo k = k := by unfold fo; rw [if_neg (by omega)]
        have i3 : (k : Int) < 256 := by omega
        rw [ef] at hfk
        have g1 : wr.cell? ⟨w.heap.size, fo k, none⟩ = some (.int .u8 (el (f (fo k)))) := by rw [ef]; exact hO.cell hfk
        have g2 := hO.frozen (fo k)
        have g3 := cell_below (H1.out k hlt) hb
        have i1 : (k : Int) < (n : Int) := by omega
        rw [ef] at g1 g2
        have D2 : Hid (FoldInv xs 256 (k + 1) (fun i => if i = k then f k ^^^ co xs k else f i)) := by have h3 := D.out.step (by rw [ef]; exact hfk); rw [ef] at h3; exact h3
        clear D
        go_wp2
        go_region_with (first | (go_at_call 30; refine (plus_any _ _ _).mono ?_; rintro e w' ⟨rfl, h⟩; obtain rfl := h.symm))
        all_goals
          go_wp2
          go_roundw
          case rel => exact ⟨k + 1, _, by omega, by go_num, hO.set1 hfk rfl, (hb.setCell (Nat.le_refl _) _).drew, D2⟩
          case measure => simp [intOf]; omega
    · obtain rfl : k = n := by omega
      go_wp2
      go_ret
      exact ⟨f, rfl, hO, hb, D⟩
set_option maxRecDepth 1000000 in
theorem fold_nil (a : Option Addr) (c : Nat) (w : World) :
    Calls Try.prog 46 #[.slice a 0 c] w fun e w' => e = .returned (.slice (some ⟨w.heap.size, 0, none⟩) 0 0) ∧ w' = w.alloc (.cells #[] 48) := by
  have hmk : ∀ w, (Instr.makeSlice 25 (.int .i64 0) (.int .i64 0)).run Try.prog w = .ok (.slice (some ⟨w.heap.size, 0, none⟩) 0 0) (w.alloc (.cells #[] 48)) := fun w => by simpa using make_el 0 (by omega) w
  go_enter Try.func46, Try.ntmps46
  go_wp2
  refine wp_loop_rounds 1 ?_
  rw [rounds_succ]
  go_wp2
  go_ret
  exact ⟨rfl, rfl⟩
end
theorem own_sl {w : World} {g n : Nat} {f : Nat → BitVec 8} {t : TypeId} (h : Own w t g f n) (hn : n ≤ 281474976710656) : Sl w (.slice (some ⟨g, 0, none⟩) n n) (ls f n) := by
  refine ⟨_, n, by rw [ls_len], by rw [ls_len]; exact Nat.le_refl _, by omega, h.rdl, .inr ⟨g, 0, rfl⟩⟩
theorem fold_any {w : World} {v : Value} {xs : List (BitVec 8)} (h : Sl w v xs) (hn : xs.length ≤ 281474976710656) :
    Calls Try.prog 46 #[v] w fun e w' => ∃ v' ys, e = .returned v' ∧ Sl w' v' ys ∧ ys.length ≤ 256 ∧ (∀ x, ev x ys = ev x xs) ∧ Below w.heap.size w w' := by
  obtain ⟨p, c, rfl, _, _, hr, _⟩ := h
  rcases hr with h | ⟨b, o, rfl, hc⟩
  · subst h
    refine (fold_nil p c w).mono ?_
    rintro e w' ⟨he, rfl⟩
    have h0 := own_newE w 0
    rw [Array.replicate_zero] at h0
    exact ⟨_, _, he, own_sl h0 (by omega), by rw [ls_len]; omega, fun x => rfl, (Below.refl _ _).alloc (Nat.le_refl _) _⟩
  · by_cases hs : xs.length ≤ 256
    · refine (fold_short b o _ c xs w hn hs hc).mono ?_
      rintro e w' ⟨f, he, ho, hb, D⟩
      exact ⟨_, _, he, own_sl ho (by omega), by rw [ls_len]; exact hs, D.out.done, hb⟩
    · refine (fold_long b o _ c xs w hn (by omega) hc).mono ?_
      rintro e w' ⟨f, he, ho, hb, D⟩
      exact ⟨_, _, he, own_sl ho (by omega), by rw [ls_len]; exact Nat.le_refl _, D.out.done, hb⟩
/-- The roots below k. -/
def rts (xs : List (BitVec 8)) (k : Nat) : List (BitVec 8) := ((List.range k).map nb).filter (fun x => ev x xs == 0#8)
theorem rts_len (xs : List (BitVec 8)) (k : Nat) : (rts xs k).length ≤ k := by
  unfold rts; have := List.length_filter_le (fun x => ev x xs == 0#8) ((List.range k).map nb); simpa using this
theorem rts_in {xs : List (BitVec 8)} {k : Nat} (h : ev (nb k) xs = 0#8) : rts xs (k + 1) = rts xs k ++ [nb k] := by
  unfold rts; rw [List.range_succ, List.map_append, List.filter_append]; simp [h]
theorem rts_out {xs : List (BitVec 8)} {k : Nat} (h : ev (nb k) xs ≠ 0#8) : rts xs (k + 1) = rts xs k := by
  unfold rts; rw [List.range_succ, List.map_append, List.filter_append]; simp [h]
theorem rts_congr {xs ys : List (BitVec 8)} (h : ∀ x, ev x ys = ev x xs) (k : Nat) : rts ys k = rts xs k := by unfold rts; simp only [h]
theorem Rs.push {t : TypeId} {B : Nat} {w : World} {v : Value} {xs : List (BitVec 8)} {a : BitVec 8} (h : w.ownsRow B t 1 v (xs.length + 1) (vs (co xs) xs.length ++ [.int .u8 (el a)])) : Rs t B w v (xs ++ [a]) := by
  unfold Rs
  rw [List.length_append, List.length_singleton, vs_succ]
  have e1 : vs (co (xs ++ [a])) xs.length = vs (co xs) xs.length := vs_congr (fun i hi => by unfold co; simp [List.getD_eq_getElem?_getD, List.getElem?_append_left hi])
  have e2 : co (xs ++ [a]) xs.length = a := by unfold co; simp
  rw [e1, e2]; exact h
section
attribute [local irreducible] Calls el gm co Rs Sl ev rts vs nb
set_option maxHeartbeats 4000000 in
set_option maxRecDepth 1000000 in
theorem proots_any {w : World} {v : Value} {xs : List (BitVec 8)} (h : Sl w v xs) (hn : xs.length ≤ 281474976710656) :
    Calls Try.prog 26 #[v] w fun e w' => ∃ v', e = .returned v' ∧ Rs 48 w.heap.size w' v' (rts xs 256) ∧ Below w.heap.size w w' := by
  obtain ⟨i0, hi, hz0, hz1, hz2⟩ := info_parts infoE
  have HF := (show Hid _ from fold_any h hn)
  have hr0 : rts xs 0 = [] := by unfold rts; rfl
  go_enter Try.func26, Try.ntmps26
  go_wp2_with (go_at_call 46; refine HF.out.mono ?_; rintro e w1 ⟨vf, ys, rfl, hF, hl, hE, hb1⟩)
  have HE := (show Hid _ from hE)
  have hl2 : Hid (ys.length ≤ 281474976710656) := by show _ ≤ _; omega
  clear hE hl HF
  go_loopw [4, 8] (fun v i wr => ∃ k : Nat, k ≤ 256 ∧ i = .int .i64 k ∧ Rs 48 w1.heap.size wr v (rts xs k) ∧ Below w1.heap.size w1 wr) (fun _ i _ => 256 - (intOf i).toNat)
  case atStart => exact ⟨0, Nat.zero_le _, rfl, by rw [hr0]; exact Rs.nil _ _ _, Below.refl _ _⟩
  case round =>
    clear hr0
    obtain ⟨k, hk, rfl, hR, hb⟩ := hrel
    by_cases hlt : k < 256
    · have i1 : (k : Int) < 256 := by omega
      have hlr := rts_len xs k
      have HA : Hid (∀ W, W = wr → Calls Try.prog 44 #[vf, .int .u8 (k : Int)] W fun e w' => e = .returned (.int .u8 (el (ev (nb k) xs))) ∧ Below wr.heap.size wr w') := fun W hW => by
        have h3 := pat_any (hF.below hb) hl2.out (nb k)
        rw [el_nb k hlt, HE.out] at h3; rw [hW]; exact h3
      by_cases hz : ev (nb k) xs = 0#8
      · have h0 : (ev (nb k) xs == 0#8) = true := by simpa using hz
        have M1 : Hid ((rts xs k).length + 1 ≤ maxLen) := by show _ ≤ _; unfold maxLen; omega
        have M3 : Hid (((rts xs k).length + 1) * 1 ≤ 140737488355328) := by show _ ≤ _; omega
        have HI := (show Hid _ from rts_in hz)
        unfold Rs at hR
        go_wp2_with (first
          | (go_at_call 44; refine (HA.out _ rfl).mono ?_; rintro e w2 ⟨rfl, hb2⟩; have hR2 := owns_below hR hb2; have hb3 := bt hb hb2; have M2 : Hid (∀ o : Obj, w1.heap.size ≤ (w2.alloc o).heap.size) := (fun o => by have := hb3.size; simp; omega))
          | (go_at_call 27; refine (isZero_any _ _).mono ?_; rintro e w' ⟨rfl, h⟩; obtain rfl := h.symm)
          | (at_builtin; refine wpList_append_own _ rfl _ _ 25 rfl w1.heap.size 48 i0 (.int .u8 0) 1 1 Try.underlying25 hi hz0 hz1 hz2 rfl (by decide) _ _ _ rfl (hR2.alloc _) ⟨w2.heap.size, 0, none⟩ 1 1 [.int .u8 (k : Int)] rfl rfl (one_new _ _ _) (one_cell _ _) M1.out M3.out (M2.out _) ?_; intro v' w3 hown' hgrow _))
        have hb' := below_append (hb3.alloc hb3.size _) (M2.out _) hgrow (hR2.alloc _) (Nat.le_refl _)
        rw [← el_nb k hlt] at hown'
        have hP := Rs.push hown'
        rw [← HI.out] at hP
        clear hown' hgrow hR2
        go_roundw
        case rel => exact ⟨k + 1, by omega, by go_num, hP, hb'⟩
        case measure => simp [intOf]; omega
      · have h0 : (ev (nb k) xs == 0#8) = false := by simpa using hz
        have HI := (show Hid _ from rts_out hz)
        go_wp2_with (first
          | (go_at_call 44; refine (HA.out _ rfl).mono ?_; rintro e w2 ⟨rfl, hb2⟩; have hR2 := hR.below hb2; have hb3 := bt hb hb2)
          | (go_at_call 27; refine (isZero_any _ _).mono ?_; rintro e w' ⟨rfl, h⟩; obtain rfl := h.symm))
        go_roundw
        case rel => exact ⟨k + 1, by omega, by go_num, by rw [HI.out]; exact hR2, hb3⟩
        case measure => simp [intOf]; omega
    · obtain rfl : k = 256 := by omega
      go_wp2
      go_ret
      exact ⟨_, rfl, hR.mono hb1.size, bt hb1 hb⟩
end
end Go.Proofs.Ytbjmdijphciliaa
