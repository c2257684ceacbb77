/-
  'add': a multiple is added to a row of the caller's own.
-/
import Derived.Test.YtbjmdijphciliaaPolyA
namespace Go.Proofs.Ytbjmdijphciliaa
open Go.RowKit

/-- All old blocks but one are as they were. -/
structure But (g : Nat) (w w' : World) : Prop where
  os : w'.os = w.os
  tape : w'.tape = w.tape
  output : w'.output = w.output
  size : w.heap.size ≤ w'.heap.size
  block : ∀ k, k < w.heap.size → k ≠ g → w'.heap[k]? = w.heap[k]?
theorem But.refl (g : Nat) (w : World) : But g w w := ⟨rfl, rfl, rfl, Nat.le_refl _, fun _ _ _ => rfl⟩
theorem But.of_below {g : Nat} {w w' : World} (h : Below w.heap.size w w') : But g w w' := ⟨h.os, h.tape, h.output, h.size, fun k hk _ => h.block k hk⟩
theorem But.trans {g : Nat} {w w1 w2 : World} (h1 : But g w w1) (h2 : But g w1 w2) : But g w w2 :=
  ⟨h2.os.trans h1.os, h2.tape.trans h1.tape, h2.output.trans h1.output, Nat.le_trans h1.size h2.size, fun k hk hne => (h2.block k (Nat.lt_of_lt_of_le hk h1.size) hne).trans (h1.block k hk hne)⟩
theorem But.below {g B : Nat} {w0 w w' : World} (h : But g w w') (hb : Below B w0 w) (hB : B ≤ w.heap.size) (hg : B ≤ g) : Below B w0 w' :=
  hb.trans ⟨h.os, h.tape, h.output, h.size, fun k hk => h.block k (by omega) (by omega)⟩
theorem But.setCell {g : Nat} {w w' : World} (h : But g w w') (i : Nat) (u : Value) : But g w (w'.setCell ⟨g, i, none⟩ u) :=
  ⟨h.os, h.tape, h.output, by rw [show (w'.setCell ⟨g, i, none⟩ u).heap.size = w'.heap.size by simp]; exact h.size, fun k hk hne => by rw [heap_setCell_other _ _ _ _ hne]; exact h.block k hk hne⟩
theorem But.drewN {g : Nat} {w w' : World} (h : But g w w') (d : Nat) : But g w (w'.drewN d) := ⟨h.os, h.tape, h.output, h.size, h.block⟩
theorem But.cell {g : Nat} {w w' : World} (h : But g w w') {p : Addr} {v : Value} (hc : w.cell? p = some v) (hne : p.block ≠ g) : w'.cell? p = some v := by
  rw [World.cell?_of_block (w := w) (h.block p.block (block_lt_of_cell hc) hne)]; exact hc
theorem But.owns {t : TypeId} {g B n : Nat} {w w' : World} {v : Value} {l : List Value} (h : But g w w') (ho : w.ownsRow B t 1 v n l) (hne : v.ownBlock ≠ some g) : w'.ownsRow B t 1 v n l := by
  refine ⟨ho.1, ?_⟩
  rcases ho.2 with h1 | ⟨k, cap, cur, hv, hg, hh, hr⟩
  · exact .inl h1
  · refine .inr ⟨k, cap, cur, hv, hg, ?_, hr⟩
    rw [h.block k (lt_of_block hh) (fun e => hne (by rw [hv, e]; rfl))]; exact hh
theorem But.own {t : TypeId} {g k n : Nat} {f : Nat → BitVec 8} {w w' : World} (h : But g w w') (ho : Own w t k f n) (hne : k ≠ g) : Own w' t k f n := by
  unfold Own at *
  rw [h.block k (lt_of_block ho) hne]; exact ho
/-- The row behind k places: so many are done. -/
def ad (f q : Nat → BitVec 8) (c : BitVec 8) (o k i : Nat) : BitVec 8 := if o ≤ i ∧ i < o + k then f i ^^^ gm c (q (i - o)) else f i
theorem ad_zero (f q : Nat → BitVec 8) (c : BitVec 8) (o i : Nat) : ad f q c o 0 i = f i := by unfold ad; rw [if_neg (by omega)]
theorem ad_at (f q : Nat → BitVec 8) (c : BitVec 8) (o k : Nat) : ad f q c o k (o + k) = f (o + k) := by unfold ad; rw [if_neg (by omega)]
theorem Own.ad {w W : World} {t : TypeId} {g n o k : Nat} {f q : Nat → BitVec 8} {c : BitVec 8} (h : Own w t g (ad f q c o k) n) (hk : o + k < n)
    (e : W.heap = (w.setCell ⟨g, o + k, none⟩ (.int .u8 (el (f (o + k) ^^^ gm c (q k))))).heap) : Own W t g (Go.Proofs.Ytbjmdijphciliaa.ad f q c o (k + 1)) n := by
  have h1 := (h.set hk (f (o + k) ^^^ gm c (q k))).congr (f' := Go.Proofs.Ytbjmdijphciliaa.ad f q c o (k + 1)) (fun i hi => by
    unfold Go.Proofs.Ytbjmdijphciliaa.ad
    by_cases e : i = o + k
    · subst e; rw [if_pos rfl, if_pos (by omega), Nat.add_sub_cancel_left]
    · rw [if_neg e]
      by_cases e2 : o ≤ i ∧ i < o + k
      · rw [if_pos e2, if_pos (by omega)]
      · rw [if_neg e2, if_neg (by omega)])
  unfold Own at h1 ⊢
  rw [e]; exact h1
section
attribute [local irreducible] Calls el gm Own dbl tb tw co ad
set_option maxHeartbeats 4000000 in
set_option maxRecDepth 1000000 in
theorem add_core (t : TypeId) (g o m cap b ob L cp n : Nat) (f q : Nat → BitVec 8) (c : BitVec 8) (w : World) (hm : m ≤ 281474976710656) (hLm : L ≤ m) (hn : o + m ≤ n)
    (hO : Own w t g f n) (hc0 : c ≠ 0#8)
    (HP : Hid (∀ k, k < L → ∀ W f', Own W t g f' n → (∀ i, o + k ≤ i → f' i = f i) → But g w W → W.cell? ⟨b, ob + k, none⟩ = some (.int .u8 (el (q k))))) :
    Calls Try.prog 32 #[.slice (some ⟨g, o, none⟩) m cap, .slice (some ⟨b, ob, none⟩) L cp, .int .u8 (el c)] w fun e w' => e = .returned (.tuple #[]) ∧ Own w' t g (ad f q c o L) n ∧ But g w w' := by
  have HZ : Hid ((Try.prog.info? 76).map (·.size) = some (rowC (tw c) 32).size) := size32 _
  have h0 : (c == 0#8) = false := by simpa using hc0
  have hg := hO.lt
  go_enter Try.func32, Try.ntmps32
  go_upto_region 2 with (first | (go_at_call 27; refine (isZero_any _ _).mono ?_; rintro e w' ⟨rfl, h⟩; obtain rfl := h.symm) | (go_at_call 47; refine (multiplesOf_any c _).mono ?_; rintro e w1 ⟨rfl, hb1⟩) | (refine wpList_store_rowTo rfl 76 (.tmp 6) (.tmp 11) rfl rfl w1.heap.size (rowC (tw c) 32) rfl rfl 76 _ (heap_alloc_any _ _ _) HZ.out (by rw [rowC_size]; rfl) (rowC_one _ _) ?_))
  refine abstract_world (fun W => Own W 76 w1.heap.size (tw c) 32 ∧ Below w.heap.size w W) (tab_new _ _ _ _ _ rfl hb1) ?_
  have hgA : g ≠ w1.heap.size := by have := hb1.size; omega
  obtain ⟨A, hA⟩ : ∃ A, A = w1.heap.size := ⟨_, rfl⟩
  rw [← hA] at hgA ⊢
  clear hA hb1
  rintro W ⟨hT, hb0⟩
  clear HZ
  have hO0 := hO.below hb0
  have hB0 : But g w W := But.of_below hb0
  go_wp2
  go_loopw [14] (fun i wr => ∃ k : Nat, k ≤ L ∧ i = .int .i64 k ∧ Own wr t g (ad f q c o k) n ∧ Own wr 76 A (tw c) 32 ∧ But g w wr) (fun i _ => L - (intOf i).toNat)
  case atStart => exact ⟨0, Nat.zero_le _, rfl, hO0.congr (fun i _ => (ad_zero f q c o i).symm), hT, hB0⟩
  case round =>
    clear hT hb0 hO0 hB0
    obtain ⟨k, hk, rfl, hR, hT, hB⟩ := hrel
    by_cases hlt : k < L
    · have g1 : wr.cell? ⟨g, o + k, none⟩ = some (.int .u8 (el (f (o + k)))) := by rw [← ad_at f q c o k]; exact hR.cell (by omega)
      have g2 := hR.frozen (o + k)
      have g3 : wr.cell? ⟨b, ob + k, none⟩ = some (.int .u8 (el (q k))) := HP.out k hlt wr _ hR (fun i hi => by unfold ad; rw [if_neg (by omega)]) hB
      have i1 : (k : Int) < (L : Int) := by omega
      have i2 : (k : Int) < (m : Int) := by omega
      go_wp2
      go_region_with (first | (go_at_call 48; refine (of_any A c (q k) _ (by first | exact hT | exact hT.drewN _)).mono ?_; rintro e w' ⟨rfl, dm, rfl⟩) | (go_at_call 30; refine (plus_any _ _ _).mono ?_; rintro e w' ⟨rfl, h⟩; obtain rfl := h.symm))
      all_goals
        go_wp2
        go_roundw
        case rel => exact ⟨k + 1, by omega, by go_num, hR.ad (by omega) rfl, hT.other1 (fun e => hgA e.symm) rfl, (hB.drewN _).setCell _ _⟩
        case measure => simp [intOf]; omega
    · obtain rfl : k = L := by omega
      go_wp2
      go_end0
      exact ⟨rfl, hR, hB⟩
set_option maxRecDepth 1000000 in
theorem add_nothing (v1 v2 : Value) (w : World) :
    Calls Try.prog 32 #[v1, v2, .int .u8 (el 0#8)] w fun e w' => e = .returned (.tuple #[]) ∧ w' = w := by
  have h0 : (0#8 == 0#8) = true := rfl
  go_enter Try.func32, Try.ntmps32
  go_wp2_with (first | (go_at_call 27; refine (isZero_any _ _).mono ?_; rintro e w' ⟨rfl, h⟩; obtain rfl := h.symm))
  refine bodyPost_ret (results_none rfl _ _ _) rfl ?_
  exact ⟨rfl, rfl⟩
set_option maxHeartbeats 2000000 in
set_option maxRecDepth 1000000 in
theorem add_empty (v1 : Value) (p : Option Addr) (cp : Nat) (c : BitVec 8) (w : World) (hc0 : c ≠ 0#8) :
    Calls Try.prog 32 #[v1, .slice p 0 cp, .int .u8 (el c)] w fun e w' => e = .returned (.tuple #[]) ∧ Below w.heap.size w w' := by
  have HZ : Hid ((Try.prog.info? 76).map (·.size) = some (rowC (tw c) 32).size) := size32 _
  have h0 : (c == 0#8) = false := by simpa using hc0
  go_enter Try.func32, Try.ntmps32
  go_upto_region 2 with (first | (go_at_call 27; refine (isZero_any _ _).mono ?_; rintro e w' ⟨rfl, h⟩; obtain rfl := h.symm) | (go_at_call 47; refine (multiplesOf_any c _).mono ?_; rintro e w1 ⟨rfl, hb1⟩) | (refine wpList_store_rowTo rfl 76 (.tmp 6) (.tmp 11) rfl rfl w1.heap.size (rowC (tw c) 32) rfl rfl 76 _ (heap_alloc_any _ _ _) HZ.out (by rw [rowC_size]; rfl) (rowC_one _ _) ?_))
  refine abstract_world (fun W => Below w.heap.size w W) (tab_new _ _ _ _ _ rfl hb1).2 ?_
  clear hb1 HZ
  intro W hb0
  go_wp2
  refine wp_loop_rounds 1 ?_
  rw [rounds_succ]
  go_wp2
  go_end0
  exact ⟨rfl, hb0⟩
end
/-- What is added at place i. -/
def adq (o : Nat) (c : BitVec 8) (qs : List (BitVec 8)) (i : Nat) : BitVec 8 := if i < o then 0#8 else gm c (co qs (i - o))
theorem ad_adq (f : Nat → BitVec 8) (qs : List (BitVec 8)) (c : BitVec 8) (o i : Nat) : ad f (co qs) c o qs.length i = f i ^^^ adq o c qs i := by
  unfold ad adq
  by_cases h : i < o
  · rw [if_neg (by omega), if_pos h]; simp
  · rw [if_neg h]
    by_cases h2 : i < o + qs.length
    · rw [if_pos (by omega)]
    · rw [if_neg (by omega), co_ge (by omega), gm_zero]; simp
theorem adq_zero (o : Nat) (qs : List (BitVec 8)) (i : Nat) : adq o 0#8 qs i = 0#8 := by unfold adq; rw [gm_zero_l]; split <;> rfl
theorem adq_nil (o : Nat) (c : BitVec 8) (i : Nat) : adq o c [] i = 0#8 := by unfold adq; rw [co_nil, gm_zero]; split <;> rfl
theorem add_any {w : World} {t : TypeId} {g o m cap n : Nat} {f : Nat → BitVec 8} {v : Value} {qs : List (BitVec 8)} (hO : Own w t g f n) (hS : Sl w v qs) (hne : v.ownBlock ≠ some g) (c : BitVec 8) (hLm : qs.length ≤ m) (hn : o + m ≤ n) (hm : m ≤ 281474976710656) :
    Calls Try.prog 32 #[.slice (some ⟨g, o, none⟩) m cap, v, .int .u8 (el c)] w fun e w' => e = .returned (.tuple #[]) ∧ Own w' t g (fun i => f i ^^^ adq o c qs i) n ∧ But g w w' := by
  by_cases hc0 : c = 0#8
  · subst hc0
    refine (add_nothing _ _ w).mono fun e w' ⟨he, hw⟩ => ⟨he, ?_, ?_⟩
    · rw [hw]; exact hO.congr (fun i _ => by rw [adq_zero]; simp)
    · rw [hw]; exact But.refl _ _
  · obtain ⟨p, cp, rfl, _, _, hr, _⟩ := hS
    rcases hr with h | ⟨b, ob, rfl, hc⟩
    · subst h
      refine (add_empty _ p cp c w hc0).mono fun e w' ⟨he, hb⟩ => ⟨he, ?_, But.of_below hb⟩
      exact (hO.below hb).congr (fun i _ => by rw [adq_nil]; simp)
    · refine (add_core t g o m cap b ob qs.length cp n f (co qs) c w hm hLm hn hO hc0 (fun k hk W f' _ _ hB => hB.cell (hc k hk) (fun e => hne (by rw [← e]; rfl)))).mono fun e w' ⟨he, ho, hb⟩ => ⟨he, ho.congr (fun i _ => ad_adq f qs c o i), hb⟩
/-- Onto itself, one place higher. -/
theorem add_over {w : World} {t : TypeId} {g o m cap cp L n : Nat} {f : Nat → BitVec 8} (hO : Own w t g f n) (c : BitVec 8) (hLm : L ≤ m) (hn : o + m ≤ n) (hn2 : o + 1 + L ≤ n) (hm : m ≤ 281474976710656) :
    Calls Try.prog 32 #[.slice (some ⟨g, o, none⟩) m cap, .slice (some ⟨g, o + 1, none⟩) L cp, .int .u8 (el c)] w fun e w' => e = .returned (.tuple #[]) ∧ Own w' t g (fun i => if o ≤ i ∧ i < o + L then f i ^^^ gm c (f (i + 1)) else f i) n ∧ But g w w' := by
  by_cases hc0 : c = 0#8
  · subst hc0
    refine (add_nothing _ _ w).mono fun e w' ⟨he, hw⟩ => ⟨he, ?_, ?_⟩
    · rw [hw]; exact hO.congr (fun i _ => by rw [gm_zero_l]; split <;> simp)
    · rw [hw]; exact But.refl _ _
  · refine (add_core t g o m cap g (o + 1) L cp n f (fun k => f (o + 1 + k)) c w hm hLm hn hO hc0 (fun k hk W f' hO' he _ => ?_)).mono fun e w' ⟨he, ho, hb⟩ => ⟨he, ho.congr (fun i _ => ?_), hb⟩
    · rw [hO'.cell (by omega), he _ (by omega)]
    · unfold ad
      by_cases h : o ≤ i ∧ i < o + L
      · rw [if_pos h, if_pos h]
        show f i ^^^ gm c (f (o + 1 + (i - o))) = _
        rw [show o + 1 + (i - o) = i + 1 by omega]
      · rw [if_neg h, if_neg h]
end Go.Proofs.Ytbjmdijphciliaa
