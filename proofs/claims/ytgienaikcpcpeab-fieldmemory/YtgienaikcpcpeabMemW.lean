/-
  The walk of FieldMemory.
-/
import Derived.Test.YtgienaikcpcpeabMem
import Derived.Deep.Cut
namespace Go.Proofs.Ytgienaikcpcpeab
open Go.RowKit

/-- The six rows: their blocks, their lengths, their elements. -/
def g6 (a b c d e f : Nat) : Nat → Nat
  | 0 => a
  | 1 => b
  | 2 => c
  | 3 => d
  | 4 => e
  | _ => f
def f6 (a b c : Nat → BitVec 8) : Nat → Nat → BitVec 8
  | 0 => a
  | 1 => a
  | 2 => b
  | 3 => c
  | 4 => c
  | _ => a
theorem all6 {P : Nat → Prop} (h0 : P 0) (h1 : P 1) (h2 : P 2) (h3 : P 3) (h4 : P 4) (h5 : P 5) : ∀ m, m < 6 → P m
  | 0, _ => h0
  | 1, _ => h1
  | 2, _ => h2
  | 3, _ => h3
  | 4, _ => h4
  | 5, _ => h5
  | m + 6, h => by omega
theorem g6_apart {a b c d e f : Nat} (h1 : a < b) (h2 : b < c) (h3 : c < d) (h4 : d < e) (h5 : e < f) : ∀ m m', m < 6 → m' < 6 → m ≠ m' → g6 a b c d e f m ≠ g6 a b c d e f m' := by
  intro m m' hm hm' hne
  have hmono : ∀ m, m < 6 → ∀ m', m' < 6 → m < m' → g6 a b c d e f m < g6 a b c d e f m' := by
    apply all6 <;> apply all6 <;> intro h <;> simp only [g6] <;> omega
  rcases Nat.lt_or_gt_of_ne hne with h | h
  · exact Nat.ne_of_lt (hmono m hm m' hm' h)
  · exact fun e => Nat.ne_of_lt (hmono m' hm' m hm h) e.symm
theorem six_cells (w : World) (a b c d e f n k : Nat) : ∀ m, m < 6 → (w.alloc (.cells #[.slice (some ⟨a, 0, none⟩) n n, .slice (some ⟨b, 0, none⟩) n n, .slice (some ⟨c, 0, none⟩) k k, .slice (some ⟨d, 0, none⟩) n n, .slice (some ⟨e, 0, none⟩) n n, .slice (some ⟨f, 0, none⟩) n n] 22)).cell? ⟨w.heap.size, m, none⟩ = some (.slice (some ⟨g6 a b c d e f m, 0, none⟩) (g6 n n k n n n m) (g6 n n k n n n m)) := by
  apply all6 <;> (rw [cell_of_row _ _ _ _ _ (0, 0) (heap_alloc_new w _)]; rfl)
theorem own6 {w : World} {a b c d e f M n : Nat} {fa fb fc : Nat → BitVec 8} (h0 : Own w 5 a fa M) (h1 : Own w 5 b fa M) (h2 : Own w 5 c fb n) (h3 : Own w 5 d fc M) (h4 : Own w 5 e fc M) (h5 : Own w 5 f fa M) :
    ∀ m, m < 6 → Own w 5 (g6 a b c d e f m) (f6 fa fb fc m) (g6 M M n M M M m) := all6 h0 h1 h2 h3 h4 h5
theorem g6_ge {a b c d e f B : Nat} (h0 : B ≤ a) (h1 : a < b) (h2 : b < c) (h3 : c < d) (h4 : d < e) (h5 : e < f) : ∀ m, m < 6 → B ≤ g6 a b c d e f m := by
  apply all6 <;> simp only [g6] <;> omega
theorem g6_lt {a b c d e f B : Nat} (h1 : a < b) (h2 : b < c) (h3 : c < d) (h4 : d < e) (h5 : e < f) (h6 : f < B) : ∀ m, m < 6 → g6 a b c d e f m < B := by
  apply all6 <;> simp only [g6] <;> omega
theorem g6_le {M n B : Nat} (h : M ≤ B) (h' : n ≤ B) : ∀ m, m < 6 → g6 M M n M M M m ≤ B := by
  apply all6 <;> simp only [g6] <;> omega
attribute [local irreducible] el gm Calls Own Rd ls g6 f6

set_option maxHeartbeats 8000000 in
set_option maxRecDepth 1000000 in
theorem memory_walk (a1 a2 a3 : Option Addr) (n1 c1 n2 c2 n3 c3 : Nat) (xs ys zs : List (BitVec 8)) (c : BitVec 8) (w : World) (h1 : Rd w a1 xs) (h2 : Rd w a2 ys) (h3 : Rd w a3 zs)
    (hx : xs.length = n1) (hy : ys.length = n2) (hz : zs.length = n3) (hn1 : n1 ≤ c1) (hn2 : n2 ≤ c2) (hl1 : n1 ≤ 140737488351232) (hl2 : n2 ≤ 140737488351232) (hl3 : n3 ≤ 140737488351232) (h30 : a3 = none → c3 = 0) :
    Calls Try.prog 5 #[.slice a1 n1 c1, .slice a2 n2 c2, .slice a3 n3 c3, .int .u8 (el c)] w fun e w' => e = .returned (.bool true) ∧ Below w.heap.size w w' := by
  obtain ⟨M, hM⟩ : ∃ M, min n1 n2 = M := ⟨_, rfl⟩
  obtain ⟨X, hX⟩ : ∃ X, xs.take M = X := ⟨_, rfl⟩
  obtain ⟨Y, hY⟩ : ∃ Y, ys.take M = Y := ⟨_, rfl⟩
  have XL : Hid (X.length = M) := by show _ = _; rw [← hX]; simp; omega
  have YL : Hid (Y.length = M) := by show _ = _; rw [← hY]; simp; omega
  have ZL : Hid (zs.length = n3) := hz
  have hMl : M ≤ 140737488351232 := by omega
  have hMm : M ≤ 140737488355328 := by omega
  have hZm : n3 ≤ 140737488355328 := by omega
  have E1 := fun W h1 h2 => even_any' (w := W) (a1 := a1) (a2 := a2) h1 h2 n1 c1 n2 c2 M hx hy hn1 hn2 (by omega) (by omega) hM X Y hX hY
  have E1' : Hid _ := E1
  have H30 : Hid (a3 = none → c3 = 0) := h30
  have LL : ∀ f n, Hid ((ls f n).length = n) := fun f n => ls_len f n
  have hw := el_w
  clear E1 hX hY hM hx hy hz h30
  go_enter Try.func5, Try.ntmps5
  go_upto_region 2 with (go_at_call 6; refine (E1'.out _ h1 h2).mono ?_; rintro e w1 ⟨p1, k1, p2, k2, rfl, hk0, hp, hq, hb1⟩)
  have HK0 : Hid (p1 = none → k1 = 0) := hk0
  clear hk0 h1 h2 E1'
  have hd := h3.below hb1
  go_upto_region 3 with (go_at_call 17; refine (refScale_any hp c M k1 XL.out hMm).mono ?_; rintro e w2 ⟨pw, kw, rfl, hW, hb2⟩)
  have hp := hp.below hb2
  have hq := hq.below hb2
  go_upto_region 4 with (go_at_call 18; refine (refSum_any hp hq M k1 k2 XL.out YL.out hMm).mono ?_; rintro e w3 ⟨ps, ks, rfl, hS, hb3⟩)
  have hd := hd.below (bt hb2 hb3)
  go_upto_region 5 with (go_at_call 17; refine (refScale_any hd c n3 c3 ZL.out hZm).mono ?_; rintro e w4 ⟨po, ko, rfl, hO, hb4⟩)
  have hb04 := bt (bt (bt hb1 hb2) hb3) hb4
  have hp := hp.below (bt hb3 hb4)
  have hq := hq.below (bt hb3 hb4)
  have hd := hd.below hb4
  have hW := hW.below (bt hb3 hb4)
  have hS := hS.below hb4
  clear h3 hb1 hb2 hb3 hb4
  go_upto_region 6 with (go_at_call 8; refine (scale_any hp c M k1 XL.out hMm).mono ?_; rintro e w5 ⟨g1, rfl, hg1, hO1, hb5⟩)
  have hp5 := hp.below hb5
  go_upto_region 7 with (go_at_call 8; refine (scale_any hp5 c M k1 XL.out hMm).mono ?_; rintro e w6 ⟨g2, rfl, hg2, hO2, hb6⟩)
  have hd6 := hd.below (bt hb5 hb6)
  go_upto_region 8 with (go_at_call 8; refine (scale_any hd6 c n3 c3 ZL.out hZm).mono ?_; rintro e w7 ⟨g3, rfl, hg3, hO3, hb7⟩)
  have hb47 := bt (bt hb5 hb6) hb7
  have hp7 := hp.below hb47
  have hq7 := hq.below hb47
  go_upto_region 9 with (go_at_call 7; refine (sum_any hp7 hq7 M k1 k2 XL.out YL.out hMm).mono ?_; rintro e w8 ⟨rfl, hO4, hb8⟩)
  have hp8 := hp7.below hb8
  have hq8 := hq7.below hb8
  go_upto_region 10 with (go_at_call 7; refine (sum_any hp8 hq8 M k1 k2 XL.out YL.out hMm).mono ?_; rintro e w9 ⟨rfl, hO5, hb9⟩)
  have hp9 := hp8.below hb9
  go_upto_region 11 with (go_at_call 8; refine (scale_any hp9 c M k1 XL.out hMm).mono ?_; rintro e w10 ⟨g6', rfl, hg6, hO6, hb10⟩)
  have l1 : g1 < g2 := Nat.lt_of_lt_of_le hO1.lt hg2
  have l2 : g2 < g3 := Nat.lt_of_lt_of_le hO2.lt hg3
  have l3 : g3 < w7.heap.size := hO3.lt
  have l4 : w7.heap.size < w8.heap.size := hO4.lt
  have l5 : w8.heap.size < g6' := Nat.lt_of_lt_of_le hO5.lt hg6
  have l6 : g6' < w10.heap.size := hO6.lt
  obtain ⟨g4, hg4⟩ : ∃ g4, g4 = w7.heap.size := ⟨_, rfl⟩
  obtain ⟨g5, hg5⟩ : ∃ g5, g5 = w8.heap.size := ⟨_, rfl⟩
  have hb410 := bt (bt (bt hb47 hb8) hb9) hb10
  have hO1 := hO1.below (bt (bt (bt (bt hb6 hb7) hb8) hb9) hb10)
  have hO2 := hO2.below (bt (bt (bt hb7 hb8) hb9) hb10)
  have hO3 := hO3.below (bt (bt hb8 hb9) hb10)
  have hO4 := hO4.below (bt hb9 hb10)
  have hO5 := hO5.below hb10
  rw [← hg4] at hO4 l3 l4 ⊢
  rw [← hg5] at hO5 l4 l5 ⊢
  clear hg4 hg5 hg2 hg3 hg6 hp5 hd6 hp7 hq7 hp8 hq8 hp9 hb5 hb6 hb7 hb47 hb8 hb9 hb10
  have hp0 := hp
  have hq0 := hq
  have hd0 := hd
  have hW0 := hW
  have hS0 := hS
  have r1 := hO1.rdl
  have r2 := hO2.rdl
  have r3 := hO3.rdl
  have r4 := hO4.rdl
  have r5 := hO5.rdl
  have r6 := hO6.rdl
  have hW := hW.below hb410
  have hO := hO.below hb410
  have hS := hS.below hb410
  have hp := hp.below hb410
  have hd := hd.below hb410
  have hbc := Below.refl w10.heap.size w10
  go_upto_region 13 with (first | (go_at_call 11; refine (same_any (r1.below hbc) (hW.below hbc) M M kw (LL _ _).out hMm).mono ?_; rintro e wx ⟨rfl, hbx⟩; have hbc := bt hbc hbx) | (go_at_call 11; refine (same_any (r2.below hbc) (hW.below hbc) M M kw (LL _ _).out hMm).mono ?_; rintro e wx ⟨rfl, hbx⟩; have hbc := bt hbc hbx) | (go_at_call 11; refine (same_any (r3.below hbc) (hO.below hbc) n3 n3 ko (LL _ _).out hZm).mono ?_; rintro e wx ⟨rfl, hbx⟩; have hbc := bt hbc hbx) | (go_at_call 11; refine (same_any (r4.below hbc) (hS.below hbc) M M ks (LL _ _).out hMm).mono ?_; rintro e wx ⟨rfl, hbx⟩; have hbc := bt hbc hbx) | (go_at_call 11; refine (same_any (r5.below hbc) (hS.below hbc) M M ks (LL _ _).out hMm).mono ?_; rintro e wx ⟨rfl, hbx⟩; have hbc := bt hbc hbx) | (go_at_call 11; refine (same_any (r6.below hbc) (hW.below hbc) M M kw (LL _ _).out hMm).mono ?_; rintro e wx ⟨rfl, hbx⟩; have hbc := bt hbc hbx))
  clear r1 r2 r3 r4 r5 r6
  have hpx := hp.below hbc
  go_upto_region 14 with (at_builtin; refine wpList_clone rfl (.tmp 105) rfl p1 M k1 X rfl hpx XL.out hMm HK0.out ?_; intro pm km w17 hmi hmn hb17)
  have hdx := hd.below (bt hbc hb17)
  go_upto_region 15 with (at_builtin; refine wpList_clone rfl (.tmp 107) rfl a3 n3 c3 zs rfl hdx ZL.out hZm H30.out ?_; intro pl kl w18 hlo hln hb18)
  have hbD := bt (bt hbc hb17) hb18
  have HA : ∀ o, Hid (Below w18.heap.size w18 (w18.alloc o)) := fun o => (Below.refl _ _).alloc (Nat.le_refl _) o
  have HOw : ∀ o, Hid (∀ m, m < 6 → Own (w18.alloc o) 5 (g6 g1 g2 g3 g4 g5 g6' m) (f6 (fun i => gm (X.getD i 0#8) c) (fun i => gm (zs.getD i 0#8) c) (fun i => X.getD i 0#8 ^^^ Y.getD i 0#8) m) (g6 M M n3 M M M m)) := fun o => own6 ((hO1.below hbD).below (HA o).out) ((hO2.below hbD).below (HA o).out) ((hO3.below hbD).below (HA o).out) ((hO4.below hbD).below (HA o).out) ((hO5.below hbD).below (HA o).out) ((hO6.below hbD).below (HA o).out)
  have HGe : Hid (∀ m, m < 6 → w4.heap.size ≤ g6 g1 g2 g3 g4 g5 g6' m) := g6_ge hg1 l1 l2 l3 l4 l5
  have HGl : Hid (∀ m, m < 6 → g6 g1 g2 g3 g4 g5 g6' m < w10.heap.size) := g6_lt l1 l2 l3 l4 l5 l6
  have HNn : Hid (∀ m, m < 6 → g6 M M n3 M M M m ≤ 140737488351232) := g6_le hMl hl3
  have HDi : Hid (∀ m m', m < 6 → m' < 6 → m ≠ m' → g6 g1 g2 g3 g4 g5 g6' m ≠ g6 g1 g2 g3 g4 g5 g6' m') := g6_apart l1 l2 l3 l4 l5
  have HSs : Hid (∀ m, m < 6 → w18.heap.size ≠ g6 g1 g2 g3 g4 g5 g6' m) := fun m hm e => by have h1 := HGl.out m hm; have h2 := hbD.size; omega
  have HCs : Hid _ := six_cells w18 g1 g2 g3 g4 g5 g6' M n3
  have hb418 := bt hb410 hbD
  have HBx : Hid (w10.heap.size ≤ wx.heap.size) := hbc.size
  have HBy : Hid (w10.heap.size ≤ w17.heap.size) := (bt hbc hb17).size
  clear hO1 hO2 hO3 hO4 hO5 hO6 l1 l2 l3 l4 l5 l6 hp hd hW hS hO hpx hdx
  go_upto_region 17 with (first | (go_at_call 19; refine (apart_walk w18.heap.size 6 (g6 g1 g2 g3 g4 g5 g6') (g6 M M n3 M M M) _ _ HCs.out HNn.out (HOw _).out HDi.out HSs.out).mono ?_; rintro e w19 ⟨rfl, hk19⟩; have hpA := Rd.kept hp0 (bt hb418 (HA _).out) hk19 HGe.out; have hqA := Rd.kept hq0 (bt hb418 (HA _).out) hk19 HGe.out; have hdA := Rd.kept hd0 (bt hb418 (HA _).out) hk19 HGe.out; have hWA := Rd.kept hW0 (bt hb418 (HA _).out) hk19 HGe.out; have hSA := Rd.kept hS0 (bt hb418 (HA _).out) hk19 HGe.out; have hmA := Rd.keptNew ((hmi.below hb18).below (HA _).out) hmn hk19 (fun m hm => Nat.lt_of_lt_of_le (HGl.out m hm) HBx.out); have hlA := Rd.keptNew (hlo.below (HA _).out) hln hk19 (fun m hm => Nat.lt_of_lt_of_le (HGl.out m hm) HBy.out); have hbF := Kept6.under (bt hb04 (bt hb418 (HA _).out)) hk19 (fun m hm => Nat.le_trans hb04.size (HGe.out m hm))) | (go_at_call 11; refine (same_any hpA hmA M k1 km XL.out hMm).mono ?_; rintro e w20 ⟨rfl, hb20⟩; have hdB := hdA.below hb20; have hlB := hlA.below hb20) | (go_at_call 11; refine (same_any hdB hlB n3 c3 kl ZL.out hZm).mono ?_; rintro e w21 ⟨rfl, hb21⟩))
  have hbG := bt hb20 hb21
  have hpB := hpA.below hbG
  have hqB := hqA.below hbG
  have hWB := hWA.below hbG
  have hSB := hSA.below hbG
  go_upto_region 18 with (go_at_call 7; refine (sum_any hpB hqB M k1 k2 XL.out YL.out hMm).mono ?_; rintro e w22 ⟨rfl, hO7, hb22⟩)
  have hpC := hpB.below hb22
  have r7 := hO7.rdl
  go_wp2_with (first | (go_at_call 8; refine (scale_any hpC c M k1 XL.out hMm).mono ?_; rintro e w23 ⟨g8, rfl, hg8, hO8, hb23⟩; have r8 := hO8.rdl; have hWC := hWB.below (bt hb22 hb23)) | (go_at_call 11; refine (same_any r8 hWC M M kw (LL _ _).out hMm).mono ?_; rintro e w24 ⟨rfl, hb24⟩; have r7b := r7.below (bt hb23 hb24); have hSC := hSB.below (bt (bt hb22 hb23) hb24)) | (go_at_call 11; refine (same_any r7b hSC M M ks (LL _ _).out hMm).mono ?_; rintro e w25 ⟨rfl, hb25⟩))
  go_ret
  exact ⟨rfl, bt (bt (bt (bt (bt hbF hbG) hb22) hb23) hb24) hb25⟩
end Go.Proofs.Ytgienaikcpcpeab
