/-
  'Divide': the walk.
-/
import Derived.Test.YtbjmdijphciliaaPDiv
namespace Go.Proofs.Ytbjmdijphciliaa
open Go.RowKit

/-- What Divide answers, the divisor not zero: quotient and rest, in memory of their own. -/
def DivPost (w : World) (xs ys : List (BitVec 8)) (e : Ending) (w' : World) : Prop := ∃ s r vs vr, e = .returned (.tuple #[vs, vr, .int .i64 0]) ∧ IsDiv xs ys s r ∧ Rs 48 w.heap.size w' vs s ∧ Rs 48 w.heap.size w' vr r ∧ vs.ownBlock ≠ vr.ownBlock ∧ Below w.heap.size w w'
theorem Own.set1 {w W : World} {t : TypeId} {g n k : Nat} {f : Nat → BitVec 8} {v : BitVec 8} (h : Own w t g f n) (hk : k < n) (e : W.heap = (w.setCell ⟨g, k, none⟩ (.int .u8 (el v))).heap) : Own W t g (fun i => if i = k then v else f i) n := by
  have h1 := h.set hk v
  unfold Own at h1 ⊢
  rw [e]; exact h1
theorem Rs.own {t : TypeId} {B : Nat} {w : World} {v : Value} {xs : List (BitVec 8)} (h : Rs t B w v xs) (k : Nat) (hk : v.ownBlock = some k) : B ≤ k ∧ k < w.heap.size := World.ownsRow.lt h k hk
/-- A row of the call's own behind 'cut', with its block's name. -/
theorem cut_owns {w : World} {B g n : Nat} {f : Nat → BitVec 8} (h : Own w 48 g f n) (hg : B ≤ g) (hn : n ≤ 281474976710656) :
    Calls Try.prog 31 #[.slice (some ⟨g, 0, none⟩) n n] w fun e w' => ∃ v, e = .returned v ∧ Rs 48 B w v (trim (ls f n)) ∧ v.ownBlock = some g ∧ w' = w := by
  refine (cut_some g 0 n n (ls f n) w h.rdo (ls_len f n) hn (Nat.le_refl _) (by omega)).mono fun e w' ⟨he, hw⟩ => ⟨_, he, ?_, rfl, hw⟩
  have hl : (trim (ls f n)).length ≤ n := by have := trim_len (ls f n); rw [ls_len] at this; exact this
  exact h.rs hg hn hl (fun i hi => by rw [co_trim, co_ls, if_pos (by omega)])
theorem Own.whole_rs {w : World} {B g n : Nat} {f : Nat → BitVec 8} (h : Own w 48 g f n) (hg : B ≤ g) (hn : n ≤ 281474976710656) : Rs 48 B w (.slice (some ⟨g, 0, none⟩) n n) (ls f n) := by
  have := h.rs (xs := ls f n) hg hn (by rw [ls_len]; exact Nat.le_refl _) (fun i hi => by rw [ls_len] at hi; rw [co_ls, if_pos hi])
  rw [ls_len] at this; exact this
theorem w64 {x : Int} (h0 : 0 ≤ x) (h1 : x ≤ 1000000000000000000) : wrap64 x = x := by unfold wrap64; omega
theorem div_nums {m k n d p : Nat} (hp : p = m - 1 - k) (hk : k < m) (hn : n = m + d) (hx : n ≤ 281474976710656) : (k : Int) < (m : Int) ∧ wrap64 ((m : Int) - 1) = (m : Int) - 1 ∧ (m : Int) - 1 - (k : Int) = (p : Int) ∧ wrap64 ((m : Int) - 1 - (k : Int)) = (p : Int) ∧ wrap64 ((p : Int) + (d : Int)) = (p : Int) + (d : Int) ∧ ((p : Int) + (d : Int)).toNat = p + d ∧ (p : Int) + (d : Int) < (n : Int) ∧ (0 : Int) ≤ (p : Int) + (d : Int) ∧ (p : Int) < (m : Int) ∧ (p : Int) ≤ (n : Int) ∧ (¬ n = p) ∧ (¬ (n : Int) = (p : Int)) ∧ p + d < n ∧ p < m ∧ d + 1 ≤ n - p ∧ p + (n - p) ≤ n ∧ n - p ≤ 281474976710656 := by
  have e : (m : Int) - 1 - (k : Int) = (p : Int) := by omega
  refine ⟨by omega, w64 (by omega) (by omega), e, by rw [e]; exact w64 (by omega) (by omega), w64 (by omega) (by omega), by omega, by omega, by omega, by omega, by omega, by omega, by omega, by omega, by omega, by omega, by omega, by omega⟩
theorem World.heap_drewN' (w : World) (d : Nat) : (w.drewN d).heap = w.heap := rfl
section
attribute [local irreducible] Calls el gm trim co Own Rs mul adq inv
set_option maxHeartbeats 16000000 in
set_option maxRecDepth 1000000 in
theorem divide_long (v1 v2 : Value) (xs ys qs : List (BitVec 8)) (n d m : Nat) (l : BitVec 8) (w : World) (h1 : Sl w v1 xs) (h2 : Sl w v2 ys) (hn1 : xs.length ≤ 281474976710656) (hn2 : ys.length ≤ 281474976710656)
    (hp : Hid ((trim xs).length = n)) (hq : Hid (trim ys = qs)) (hlq : Hid (qs.length = d + 1)) (hl : Hid (co qs d = l)) (hl0 : l ≠ 0#8) (hm : n = m + d) :
    Calls Try.prog 19 #[v1, v2] w (DivPost w xs ys) := by
  have C2 := (show Hid _ from cut_any h2 hn2)
  rw [hq.out] at C2
  have E2 : Hid (qs ≠ []) := by intro e; have := hlq.out; rw [e] at this; simp at this
  have hnx : n ≤ 281474976710656 := by have := trim_len xs; have := hp.out; omega
  have hh : d + 1 ≤ 281474976710656 := by have := trim_len ys; have := hlq.out; rw [← hq.out] at this; omega
  have HQ : Hid (∀ i, d < i → co qs i = 0#8) := fun i hi => co_ge (by rw [hlq.out]; omega)
  have HX : Hid (∀ i, n ≤ i → co xs i = 0#8) := fun i hi => by rw [← co_trim, co_ge (by rw [hp.out]; exact hi)]
  have l1 : ((d : Int) + 1 == 0) = false := by simp; omega
  have l2 : wrap64 ((d : Int) + 1 - 1) = (d : Int) := by unfold wrap64; omega
  have l3 : (d : Int) + 1 - 1 = (d : Int) := by omega
  have l4 : (d : Int) < (d : Int) + 1 := by omega
  have EN : Hid (IsDiv xs qs = IsDiv xs ys) := by
    show _ = _
    funext s r
    exact propext ⟨fun d => d.congr (fun _ => rfl) (fun i => by rw [← hq.out, co_trim]), fun d => d.congr (fun _ => rfl) (fun i => by rw [← hq.out, co_trim])⟩
  rw [show DivPost w xs ys = fun e w' => ∃ s r vs vr, e = .returned (.tuple #[vs, vr, .int .i64 0]) ∧ IsDiv xs qs s r ∧ Rs 48 w.heap.size w' vs s ∧ Rs 48 w.heap.size w' vr r ∧ vs.ownBlock ≠ vr.ownBlock ∧ Below w.heap.size w w' by rw [EN.out]; rfl]
  have l5 : (n : Int) - (d : Int) = (m : Int) := by omega
  have l7 : (0 : Int) ≤ (m : Int) := by omega
  have l6 : wrap64 ((n : Int) - (d : Int)) = (m : Int) := by unfold wrap64; omega
  have hmk := make_el m (by omega)
  have HMM : Hid (n = m + d) := hm
  clear hm h2 EN hq
  go_enter Try.func19, Try.ntmps19
  go_wp2_with (first
    | (go_at_call 31; refine C2.out.mono ?_; rintro e w' ⟨v, rfl, hR2, e⟩; obtain rfl := e.symm; obtain ⟨b2, o2, c2, rfl, hc2, hm2, hlt2, hcell2⟩ := hR2.cells E2.out; rw [hlq.out] at hcell2 hc2 ⊢; have K2 := (show Hid _ from hcell2); have g0 := hcell2 d (Nat.lt_succ_self _); rw [hl.out] at g0; clear hcell2 hR2 C2)
    | (go_at_call 33; refine (inverse_any l hl0 _).mono ?_; rintro e w1 ⟨rfl, hb1⟩)
    | (go_at_call 23; refine (ptrim_own (h1.below hb1) hn1).mono ?_; rw [hp.out]; rintro e w2 ⟨rfl, hR, hb2⟩))
  clear hmk
  obtain ⟨R, hRd⟩ : ∃ R, R = w1.heap.size := ⟨_, rfl⟩
  obtain ⟨Q, hQd⟩ : ∃ Q, Q = w2.heap.size := ⟨_, rfl⟩
  have hRQ : R < Q := by rw [hRd, hQd]; exact hR.lt
  have hwR : w.heap.size ≤ R := by rw [hRd]; exact hb1.size
  have hQR : Q ≠ R := Nat.ne_of_gt hRQ
  have hwQ : w.heap.size ≤ Q := Nat.le_trans hwR (Nat.le_of_lt hRQ)
  have hb0 : Below w.heap.size w (w2.alloc (.cells (Array.replicate m (.int .u8 0)) 48)) := (bt hb1 hb2).alloc (bt hb1 hb2).size _
  have hR0 := hR.below ((Below.refl _ _).alloc (Nat.le_refl _) (.cells (Array.replicate m (.int .u8 0)) 48))
  have hQ0 := own_newE w2 m
  rw [← hRd] at hR0 ⊢
  rw [← hQd] at hQ0 ⊢
  have D0 : Hid (DivInv xs qs n m d 0 (fun _ => 0#8) (co xs)) := DivInv.start HX.out (by have := HMM.out; omega)
  clear hRd hQd hb1 hb2 hR
  have hne : (Value.slice (some ⟨b2, o2, none⟩) (d + 1) c2).ownBlock ≠ some R := fun e => by
    have := Option.some.inj e
    have h3 : b2 = R := this
    omega
  have HNE := (show Hid _ from hne)
  clear hne
  go_loopw [40] (fun i wr => ∃ (k : Nat) (F G : Nat → BitVec 8), k ≤ m ∧ i = .int .i64 k ∧ Own wr 48 R G n ∧ Own wr 48 Q F m ∧ Below w.heap.size w wr ∧ Hid (DivInv xs qs n m d k F G)) (fun i _ => m - (intOf i).toNat)
  case atStart => exact ⟨0, _, _, Nat.zero_le _, rfl, hR0, hQ0, hb0, D0⟩
  case round =>
    clear hR0 hQ0 hb0 D0
    obtain ⟨k, F, G, hk, rfl, hR, hQ, hb, D⟩ := hrel
    by_cases hlt : k < m
    · obtain ⟨p, hpd⟩ : ∃ p, p = m - 1 - k := ⟨_, rfl⟩
      have HP : Hid (p = m - 1 - k) := hpd
      obtain ⟨i1, i2, i3, i4, i5, i6, i7, i8, i9, i10, i11, i12, pn, pm, q1, q2, q3⟩ := div_nums hpd hlt HMM.out hnx
      have g1 := hR.cell pn
      have g2 := hQ.cell pm
      have g3 := hQ.frozen p
      clear hpd
      have HA : Hid (∀ (W : World) (cap : Nat), (∃ d2, W = (wr.setCell ⟨Q, p, none⟩ (.int .u8 (el (gm (G (p + d)) (inv l))))).drewN d2) → Calls Try.prog 32 #[.slice (some ⟨R, p, none⟩) (n - p) cap, .slice (some ⟨b2, o2, none⟩) (d + 1) c2, .int .u8 (el (gm (G (p + d)) (inv l)))] W fun e w' => e = .returned (.tuple #[]) ∧ Own w' 48 R (fun i => G i ^^^ adq p (gm (G (p + d)) (inv l)) qs i) n ∧ Own w' 48 Q (fun i => if i = p then gm (G (p + d)) (inv l) else F i) m ∧ Below w.heap.size w w') := fun W cap hW => by
        obtain ⟨d2, rfl⟩ := hW
        have hb3 : Below w.heap.size w ((wr.setCell ⟨Q, p, none⟩ (.int .u8 (el (gm (G (p + d)) (inv l))))).drewN d2) := below_drewN (hb.setCell hwQ _) d2
        have hS : Sl ((wr.setCell ⟨Q, p, none⟩ (.int .u8 (el (gm (G (p + d)) (inv l))))).drewN d2) (.slice (some ⟨b2, o2, none⟩) (d + 1) c2) qs := Sl.of_cells hlq.out hc2 hm2 (fun i hi => cell_below (K2.out i hi) hb3)
        have hR3 : Own ((wr.setCell ⟨Q, p, none⟩ (.int .u8 (el (gm (G (p + d)) (inv l))))).drewN d2) 48 R G n := hR.other1 (W := (wr.setCell ⟨Q, p, none⟩ (.int .u8 (el (gm (G (p + d)) (inv l))))).drewN d2) (p := ⟨Q, p, none⟩) (u := .int .u8 (el (gm (G (p + d)) (inv l)))) hQR.symm (World.heap_drewN' _ _)
        have hQ3 : Own ((wr.setCell ⟨Q, p, none⟩ (.int .u8 (el (gm (G (p + d)) (inv l))))).drewN d2) 48 Q (fun i => if i = p then gm (G (p + d)) (inv l) else F i) m := hQ.set1 pm (World.heap_drewN' _ _)
        have q4 : qs.length ≤ n - p := by rw [hlq.out]; exact q1
        have A1 := add_any (cap := cap) hR3 hS HNE.out (gm (G (p + d)) (inv l)) q4 q2 q3
        refine A1.mono ?_
        rintro e w' ⟨he, ho, hB⟩
        have A2 := hB.own hQ3 hQR
        have A3 := hB.below hb3 hb3.size hwR
        exact ⟨he, ho, A2, A3⟩
      clear q1 q2 q3 i2 i4 i5
      go_wp2_with (go_at_call 34; refine (times_any _ _ _).mono ?_; rintro e w' ⟨rfl, h⟩; obtain rfl := h.symm)
      have g5 : (wr.setCell ⟨Q, p, none⟩ (.int .u8 (el (gm (G (p + d)) (inv l))))).cell? ⟨Q, p, none⟩ = some (.int .u8 (el (gm (G (p + d)) (inv l)))) := by
        have h3 := (hQ.set1 (W := wr.setCell ⟨Q, p, none⟩ (.int .u8 (el (gm (G (p + d)) (inv l))))) pm rfl).cell pm
        rw [if_pos rfl] at h3; exact h3
      have D2 : Hid (DivInv xs qs n m d (k + 1) (fun i => if i = p then gm (G (p + d)) (inv l) else F i) (fun i => G i ^^^ adq p (gm (G (p + d)) (inv l)) qs i)) := by
        have h3 := D.out.step hlt HMM.out HQ.out hl.out hl0
        rw [← HP.out] at h3; exact h3
      clear g1 g2 g3 hR hQ D
      go_region_with (first | (go_at_call 32; refine (HA.out _ _ ⟨_, rfl⟩).mono ?_; rintro e w' ⟨rfl, hR', hQ', hb'⟩))
      all_goals
        go_wp2
        go_roundw
        case rel => exact ⟨k + 1, _, _, by omega, by go_num, hR', hQ', hb', D2⟩
        case measure => simp [intOf]; omega
    · obtain rfl : k = m := by omega
      have HC := (show Hid _ from cut_owns hR hwR hnx)
      have HD : Hid (IsDiv xs qs (ls F k) (trim (ls G n))) := D.out.done hp.out.symm (by have := HMM.out; omega) HQ.out (by rw [hl.out]; exact hl0)
      have hQ2 : Rs 48 w.heap.size wr (.slice (some ⟨Q, 0, none⟩) k k) (ls F k) := hQ.whole_rs hwQ (by have := HMM.out; omega)
      clear hR hQ D
      go_wp2_with (go_at_call 31; refine HC.out.mono ?_; rintro e w' ⟨v, rfl, hS, hB, h⟩; obtain rfl := h.symm)
      go_ret3
      exact ⟨_, _, _, v, rfl, HD.out, hQ2, hS, by rw [hB]; exact fun e => hQR (Option.some.inj e), hb⟩
set_option maxHeartbeats 16000000 in
set_option maxRecDepth 1000000 in
theorem divide_short (v1 v2 : Value) (xs ys qs : List (BitVec 8)) (n d m : Nat) (l : BitVec 8) (w : World) (h1 : Sl w v1 xs) (h2 : Sl w v2 ys) (hn1 : xs.length ≤ 281474976710656) (hn2 : ys.length ≤ 281474976710656)
    (hp : Hid ((trim xs).length = n)) (hq : Hid (trim ys = qs)) (hlq : Hid (qs.length = d + 1)) (hl : Hid (co qs d = l)) (hl0 : l ≠ 0#8) (hm : n < d) (hm0 : m = 0) :
    Calls Try.prog 19 #[v1, v2] w (DivPost w xs ys) := by
  have C2 := (show Hid _ from cut_any h2 hn2)
  rw [hq.out] at C2
  have E2 : Hid (qs ≠ []) := by intro e; have := hlq.out; rw [e] at this; simp at this
  have hnx : n ≤ 281474976710656 := by have := trim_len xs; have := hp.out; omega
  have hh : d + 1 ≤ 281474976710656 := by have := trim_len ys; have := hlq.out; rw [← hq.out] at this; omega
  have HQ : Hid (∀ i, d < i → co qs i = 0#8) := fun i hi => co_ge (by rw [hlq.out]; omega)
  have HX : Hid (∀ i, n ≤ i → co xs i = 0#8) := fun i hi => by rw [← co_trim, co_ge (by rw [hp.out]; exact hi)]
  have l1 : ((d : Int) + 1 == 0) = false := by simp; omega
  have l2 : wrap64 ((d : Int) + 1 - 1) = (d : Int) := by unfold wrap64; omega
  have l3 : (d : Int) + 1 - 1 = (d : Int) := by omega
  have l4 : (d : Int) < (d : Int) + 1 := by omega
  have EN : Hid (IsDiv xs qs = IsDiv xs ys) := by
    show _ = _
    funext s r
    exact propext ⟨fun d => d.congr (fun _ => rfl) (fun i => by rw [← hq.out, co_trim]), fun d => d.congr (fun _ => rfl) (fun i => by rw [← hq.out, co_trim])⟩
  rw [show DivPost w xs ys = fun e w' => ∃ s r vs vr, e = .returned (.tuple #[vs, vr, .int .i64 0]) ∧ IsDiv xs qs s r ∧ Rs 48 w.heap.size w' vs s ∧ Rs 48 w.heap.size w' vr r ∧ vs.ownBlock ≠ vr.ownBlock ∧ Below w.heap.size w w' by rw [EN.out]; rfl]
  have l5 : (n : Int) - (d : Int) < 0 := by omega
  have l6 : ¬ (0 : Int) ≤ (n : Int) - (d : Int) := by omega
  have hmk : ∀ w, (Instr.makeSlice 25 (.int .i64 0) (.int .i64 0)).run Try.prog w = .ok (.slice (some ⟨w.heap.size, 0, none⟩) 0 0) (w.alloc (.cells #[] 48)) := fun w => by simpa using make_el 0 (by omega) w
  have D0 : Hid (DivInv xs qs n m d 0 (fun _ => 0#8) (co xs)) := DivInv.start HX.out (by omega)
  have HD : Hid (IsDiv xs qs (ls (fun _ => 0#8) 0) (trim (ls (co xs) n))) := by
    have h3 := D0.out
    rw [hm0] at h3
    exact h3.done hp.out.symm (by omega) HQ.out (by rw [hl.out]; exact hl0)
  clear h2 EN hq D0
  go_enter Try.func19, Try.ntmps19
  go_wp2_with (first
    | (go_at_call 31; refine C2.out.mono ?_; rintro e w' ⟨v, rfl, hR2, e⟩; obtain rfl := e.symm; obtain ⟨b2, o2, c2, rfl, hc2, hm2, hlt2, hcell2⟩ := hR2.cells E2.out; rw [hlq.out] at hcell2 hc2 ⊢; have K2 := (show Hid _ from hcell2); have g0 := hcell2 d (Nat.lt_succ_self _); rw [hl.out] at g0; clear hcell2 hR2 C2)
    | (go_at_call 33; refine (inverse_any l hl0 _).mono ?_; rintro e w1 ⟨rfl, hb1⟩)
    | (go_at_call 23; refine (ptrim_own (h1.below hb1) hn1).mono ?_; rw [hp.out]; rintro e w2 ⟨rfl, hR, hb2⟩))
  have hb0 : Below w.heap.size w (w2.alloc (.cells #[] 48)) := (bt hb1 hb2).alloc (bt hb1 hb2).size _
  have hR0 := hR.below ((Below.refl _ _).alloc (Nat.le_refl _) (.cells #[] 48))
  have hQ0 := own_newE w2 0
  rw [Array.replicate_zero] at hQ0
  have hRQ : w1.heap.size < w2.heap.size := hR.lt
  have HC := (show Hid _ from cut_owns hR0 hb1.size hnx)
  have hQ2 : Rs 48 w.heap.size (w2.alloc (.cells #[] 48)) (.slice (some ⟨w2.heap.size, 0, none⟩) 0 0) (ls (fun _ => 0#8) 0) := hQ0.whole_rs (bt hb1 hb2).size (by omega)
  clear hQ0 hR0 hR hmk
  refine wp_loop_rounds 1 ?_
  rw [rounds_succ]
  go_wp2_with (go_at_call 31; refine HC.out.mono ?_; rintro e w' ⟨v, rfl, hS, hB, h⟩; obtain rfl := h.symm)
  go_ret3
  exact ⟨_, _, _, v, rfl, HD.out, hQ2, hS, by rw [hB]; exact fun e => absurd (Option.some.inj e) (Nat.ne_of_gt hRQ), hb0⟩
set_option maxRecDepth 1000000 in
theorem divide_zero (v1 v2 : Value) (ys : List (BitVec 8)) (w : World) (h2 : Sl w v2 ys) (hn2 : ys.length ≤ 281474976710656) (h0 : trim ys = []) :
    Calls Try.prog 19 #[v1, v2] w fun e w' => e = .returned (.tuple #[.slice none 0 0, .slice none 0 0, .int .i64 10]) ∧ w' = w := by
  have C2 := (show Hid _ from cut_any h2 hn2)
  rw [h0] at C2
  go_enter Try.func19, Try.ntmps19
  go_wp2_with (go_at_call 31; refine C2.out.mono ?_; rintro e w' ⟨v, rfl, hR, h⟩; obtain rfl := h.symm; obtain ⟨p, c, rfl⟩ := hR.empty)
  go_ret3
  exact ⟨rfl, rfl⟩
end
theorem pdivide_any {w : World} {v1 v2 : Value} {xs ys : List (BitVec 8)} (h1 : Sl w v1 xs) (h2 : Sl w v2 ys) (hn1 : xs.length ≤ 281474976710656) (hn2 : ys.length ≤ 281474976710656) (h0 : trim ys ≠ []) :
    Calls Try.prog 19 #[v1, v2] w (DivPost w xs ys) := by
  have p1 : 0 < (trim ys).length := List.length_pos_iff.2 h0
  have hl : co (trim ys) ((trim ys).length - 1) ≠ 0#8 := by rw [co_trim]; exact trim_top ys h0
  by_cases h : (trim ys).length - 1 ≤ (trim xs).length
  · exact divide_long v1 v2 xs ys (trim ys) (trim xs).length ((trim ys).length - 1) ((trim xs).length - ((trim ys).length - 1)) _ w h1 h2 hn1 hn2 rfl rfl (by show _ = _; omega) rfl hl (by omega)
  · exact divide_short v1 v2 xs ys (trim ys) (trim xs).length ((trim ys).length - 1) 0 _ w h1 h2 hn1 hn2 rfl rfl (by show _ = _; omega) rfl hl (by omega) rfl
end Go.Proofs.Ytbjmdijphciliaa
