/-
  The walk of FieldRows: rows of one length.
-/
import Derived.Test.YtgienaikcpcpeaaHeld
import Derived.Deep.Cut
namespace Go.Proofs.Ytgienaikcpcpeaa
open Go.RowKit
theorem tx_zero (x : Nat → BitVec 8) : tx x 0 = x := rfl
theorem ty_zero (x : Nat → BitVec 8) : ty x 0 = x := rfl
theorem len64_lt (x : Nat → BitVec 8) {n i : Nat} (h : i < n) : len64 x n i = x i := by unfold len64; rw [if_pos h]
theorem vlen (x : Nat → BitVec 8) (n : Nat) : (vs x n).length = n * 1 := by rw [vs_len, Nat.mul_one]
theorem len64_start (X F : Nat → BitVec 8) (n : Nat) : ∀ i, i < n + 64 → len64 X n i = len64 (fun i => if i < 0 then F i else X i) n i := by
  intro i _; unfold len64; simp
theorem len64_at (X F : Nat → BitVec 8) {n k : Nat} (h : k < n) : len64 (fun i => if i < k then F i else X i) n k = X k := by
  unfold len64; rw [if_pos h]; show (if k < k then F k else X k) = X k; rw [if_neg (by omega)]
theorem len64_step (X F : Nat → BitVec 8) {n k : Nat} (hk : k < n) : ∀ i, i < n + 64 → (if i = k then F k else len64 (fun i => if i < k then F i else X i) n i) = len64 (fun i => if i < k + 1 then F i else X i) n i := by
  intro i _
  unfold len64
  by_cases e : i = k
  · subst e; rw [if_pos rfl, if_pos hk]; show F i = (if i < i + 1 then F i else X i); rw [if_pos (by omega)]
  · rw [if_neg e]
    by_cases h : i < n
    · rw [if_pos h, if_pos h]
      show (if i < k then F i else X i) = (if i < k + 1 then F i else X i)
      by_cases h2 : i < k
      · rw [if_pos h2, if_pos (by omega)]
      · rw [if_neg h2, if_neg (by omega)]
    · rw [if_neg h, if_neg h]
theorem len64_done (X F : Nat → BitVec 8) (n : Nat) : ∀ i, i < n + 64 → len64 (fun i => if i < n then F i else X i) n i = len64 F n i := by
  intro i _
  unfold len64
  by_cases h : i < n
  · rw [if_pos h, if_pos h]; show (if i < n then F i else X i) = F i; rw [if_pos h]
  · rw [if_neg h, if_neg h]
theorem tx_succ (x : Nat → BitVec 8) (t : Nat) : tx x (t + 1) = fun i => tx x t i + 1#8 := rfl
theorem ty_succ (x : Nat → BitVec 8) (t : Nat) : ty x (t + 1) = fun i => ty x t i ^^^ 3#8 := rfl
attribute [local irreducible] el gm Calls Own Rd dot ls vs len64 tx ty

set_option maxHeartbeats 8000000 in
set_option maxRecDepth 1000000 in
theorem rows_even (a1 a2 : Option Addr) (n1 c1 c2 : Nat) (xs ys : List (BitVec 8)) (c : BitVec 8) (w : World) (h1 : Rd w a1 xs) (h2 : Rd w a2 ys)
    (hx : xs.length = n1) (hy : ys.length = n1) (hl1 : n1 ≤ 140737488351232) (hl2 : n1 ≤ 140737488351232) :
    Calls Try.prog 4 #[.slice a1 n1 c1, .slice a2 n1 c2, .int .u8 (el c)] w fun e w' => e = .returned (.bool true) ∧ Below w.heap.size w w' := by
  obtain ⟨i0, hi, hz0, hz1, hz2⟩ := info_parts info5
  have hw := el_w
  have L1 := fun W h => lent_any (w := W) (a1 := a1) h n1 c1 hx hl1 _ rfl
  have L2 := fun W h => lent_any (w := W) (a1 := a2) h n1 c2 hy hl2 _ rfl
  have L1' : Hid _ := L1
  have L2' : Hid _ := L2
  clear L1 L2 hx hy
  have hm1 : n1 ≤ 140737488355328 := by omega
  have hm2 : n1 ≤ 140737488355328 := by omega
  have Up : Hid (0 + n1 ≤ maxLen) := by show _ ≤ _; unfold maxLen; omega
  have Uq : Hid (0 + n1 ≤ maxLen) := by show _ ≤ _; unfold maxLen; omega
  go_enter Try.func4, Try.ntmps4
  go_upto_region 2 with (go_at_call 14; refine (L1'.out _ h1).mono ?_; rintro e w1 ⟨v1, rfl, ho1, hb1⟩; obtain ⟨g1, k1, hv1, hg1, hH1⟩ := held_of ho1 (by omega); rw [hv1]; clear hv1 ho1)
  have h2 := h2.below hb1
  go_upto_region 3 with (go_at_call 14; refine (L2'.out _ h2).mono ?_; rintro e w2 ⟨v2, rfl, ho2, hb2⟩; obtain ⟨g2, k2, hv2, hg2, hH2⟩ := held_of ho2 (by omega); rw [hv2]; clear hv2 ho2)
  have hlt1 := hH1.lt
  have hH1 := hH1.below hb2
  have hb := bt hb1 hb2
  have hg12 : g1 ≠ g2 := Nat.ne_of_lt (Nat.lt_of_lt_of_le hlt1 hg2)
  have hg2' : w.heap.size ≤ g2 := Nat.le_trans hb1.size hg2
  obtain ⟨x, hxd⟩ : ∃ x, x = (fun i => xs.getD i 0#8) := ⟨_, rfl⟩
  obtain ⟨y, hyd⟩ : ∃ y, y = (fun i => ys.getD i 0#8) := ⟨_, rfl⟩
  rw [← hxd, ← tx_zero x] at hH1
  rw [← hyd, ← ty_zero y] at hH2
  have hKa : n1 ≤ k1 := by have := hH1.le; omega
  have hKb : n1 ≤ k2 := by have := hH2.le; omega
  clear hxd hyd h1 h2 hb1 hb2 L1' L2' hlt1 hg2
  go_wp2
  go_loopw [9] (fun i wr => ∃ t : Nat, t ≤ 2 ∧ i = .int .i64 t ∧ Held wr g1 k1 (n1 + 64) (len64 (tx x t) n1) ∧ Held wr g2 k2 (n1 + 64) (len64 (ty y t) n1) ∧ Below w.heap.size w wr) (fun i _ => 2 - (intOf i).toNat)
  case atStart => exact ⟨0, Nat.zero_le _, rfl, hH1, hH2, hb⟩
  case round =>
    clear hH1 hH2 hb
    obtain ⟨t, ht2, rfl, hH1, hH2, hb⟩ := hrel
    have hb' := hb
    by_cases hlt : t < 2
    · obtain ⟨X, hX⟩ : ∃ X, X = tx x t := ⟨_, rfl⟩
      obtain ⟨Y, hY⟩ : ∃ Y, Y = ty y t := ⟨_, rfl⟩
      rw [← hX] at hH1
      rw [← hY] at hH2
      have HX : Hid (X = tx x t) := hX
      have HY : Hid (Y = ty y t) := hY
      clear hX hY
      have hti : (t : Int) < 2 := by omega
      have E1 : Hid (∀ i, i < n1 → len64 X n1 i = X i) := fun i hi => len64_lt X hi
      have E2 : Hid (∀ i, i < n1 → len64 Y n1 i = Y i) := fun i hi => len64_lt Y hi
      have Sp : Hid (∀ j u, (vs X n1)[j]? = some u → wr.cell? ((⟨g1, 0, none⟩ : Addr).add j) = some u) := hH1.src (by omega) E1.out
      go_upto_region 7 with (at_builtin; refine wpList_append_own _ rfl (.const (.slice none 0 0)) (.tmp 35) 34 rfl wr.heap.size 5 i0 (.int .u8 0) 1 1 Try.underlying34 hi hz0 hz1 hz2 rfl (by decide) (.slice none 0 0) 0 [] rfl (World.ownsRow_nil _ _ _ _) ⟨g1, 0, none⟩ n1 k1 (vs X n1) rfl (vlen X n1) Sp.out (vs_one _ _) Up.out (by omega) (Nat.le_refl _) ?_; intro v3 w_p ho3 hgr3 _; have ho4 : w_p.ownsRow wr.heap.size 5 1 v3 n1 (vs X n1) := (by simpa using ho3); obtain ⟨pp, kp, hv3, _, hp⟩ := rd_owns ho4; rw [hv3]; have hbp := below_append (Below.refl _ _) (Nat.le_refl _) hgr3 (World.ownsRow_nil _ _ _ _) (Nat.le_refl _); clear hv3 ho3 ho4 hgr3)
      have hH1 := hH1.below hbp
      have hH2 := hH2.below hbp
      have Sq : Hid (∀ j u, (vs Y n1)[j]? = some u → w_p.cell? ((⟨g2, 0, none⟩ : Addr).add j) = some u) := hH2.src (by omega) E2.out
      go_upto_region 8 with (at_builtin; refine wpList_append_own _ rfl (.const (.slice none 0 0)) (.tmp 40) 34 rfl w_p.heap.size 5 i0 (.int .u8 0) 1 1 Try.underlying34 hi hz0 hz1 hz2 rfl (by decide) (.slice none 0 0) 0 [] rfl (World.ownsRow_nil _ _ _ _) ⟨g2, 0, none⟩ n1 k2 (vs Y n1) rfl (vlen Y n1) Sq.out (vs_one _ _) Uq.out (by omega) (Nat.le_refl _) ?_; intro v3 w_q ho3 hgr3 _; have ho4 : w_q.ownsRow w_p.heap.size 5 1 v3 n1 (vs Y n1) := (by simpa using ho3); obtain ⟨pq, kq, hv3, _, hq⟩ := rd_owns ho4; rw [hv3]; have hbq := below_append (Below.refl _ _) (Nat.le_refl _) hgr3 (World.ownsRow_nil _ _ _ _) (Nat.le_refl _); clear hv3 ho3 ho4 hgr3)
      have hp := hp.below hbq
      go_upto_region 9 with (go_at_call 15; refine (refScale_any hp c n1 kp (ls_len _ _) hm1).mono ?_; rintro e w5 ⟨ps, ks, rfl, hs, hb5⟩)
      have hp := hp.below hb5
      have hq := hq.below hb5
      go_upto_region 10 with (go_at_call 16; refine (refSum_any hp hq n1 kp kq (ls_len _ _) (ls_len _ _) hm1).mono ?_; rintro e w6 ⟨pt, kt, rfl, ht, hb6⟩)
      have hp := hp.below hb6
      have hq := hq.below hb6
      go_upto_region 11 with (go_at_call 17; refine (refDot_any hp hq n1 kp kq (ls_len _ _) (ls_len _ _) hm1).mono ?_; rintro e w7 ⟨rfl, hb7⟩)
      have hbS := bt (bt hb5 hb6) hb7
      have hH1 := (hH1.below hbq).below hbS
      have hH2 := (hH2.below hbq).below hbS
      have hp := hp.below hb7
      have hq := hq.below hb7
      have hs := hs.below (bt hb6 hb7)
      have ht := ht.below hb7
      have hlr : Rd w7 (some ⟨g1, 0, none⟩) (ls X n1) := hH1.rd (by omega) E1.out
      go_upto_region 12 with (go_at_call 18; refine (scale_any hlr c n1 k1 (ls_len _ _) hm1).mono ?_; rintro e w8 ⟨g8, rfl, hg8, hO8, hb8⟩)
      clear hlr
      have hH1 := hH1.below hb8
      have hH2 := hH2.below hb8
      have hp := hp.below hb8
      have hq := hq.below hb8
      have hs := hs.below hb8
      have ht := ht.below hb8
      have hd8 : Below w8.heap.size w8 w8.drew := (Below.refl _ _).drew
      have hl9 : Rd w8.drew (some ⟨g1, 0, none⟩) (ls X n1) := (hH1.below hd8).rd (by omega) E1.out
      have hm9 : Rd w8.drew (some ⟨g2, 0, none⟩) (ls Y n1) := (hH2.below hd8).rd (by omega) E2.out
      go_region_with (first | (go_at_call 19; refine (sum_any hl9 hm9 n1 k1 k2 (ls_len _ _) (ls_len _ _) hm1).mono ?_; rintro e w9 ⟨rfl, hO9, hb9⟩))
      go_upto_region 13 with fail
      have hb89 := bt hd8 hb9
      have hH1 := hH1.below hb89
      have hH2 := hH2.below hb89
      have hp := hp.below hb89
      have hq := hq.below hb89
      have hs := hs.below hb89
      have hX8 := (hO8.below hb89).rdl
      have ht := ht.below hb89
      have hY9 := hO9.rdl
      have hd9 : Below w9.heap.size w9 w9.drew := (Below.refl _ _).drew
      clear hl9 hm9 hO8
      have hl9 : Rd w9.drew (some ⟨g1, 0, none⟩) (ls X n1) := (hH1.below hd9).rd (by omega) E1.out
      have hm9 : Rd w9.drew (some ⟨g2, 0, none⟩) (ls Y n1) := (hH2.below hd9).rd (by omega) E2.out
      go_region_with (first | (go_at_call 20; refine (dot_any hl9 hm9 n1 k1 k2 (ls_len _ _) (ls_len _ _) hm1).mono ?_; rintro e w10 ⟨rfl, hb10⟩))
      go_upto_region 14 with fail
      have hb10' := bt hd9 hb10
      have hH1 := hH1.below hb10'
      have hH2 := hH2.below hb10'
      have hp := hp.below hb10'
      have hq := hq.below hb10'
      have hs := hs.below hb10'
      have hX8 := hX8.below hb10'
      have ht := ht.below hb10'
      have hY9 := hY9.below hb10'
      clear hl9 hm9
      go_upto_region 16 with (first | (go_at_call 21; refine (same_any hX8 hs n1 n1 ks (ls_len _ _) hm1).mono ?_; rintro e w11 ⟨rfl, hb11⟩; have hY9 := hY9.below hb11; have ht := ht.below hb11) | (go_at_call 21; refine (same_any hY9 ht n1 n1 kt (ls_len _ _) hm1).mono ?_; rintro e w12 ⟨rfl, hb12⟩))
      have hbT := bt hb11 hb12
      have hH1 := hH1.below hbT
      have hH2 := hH2.below hbT
      have hp := hp.below hbT
      have hq := hq.below hbT
      have hc1 : Hid (∀ i, i < n1 + 64 → w12.cell? ⟨g1, i, none⟩ = some (.int .u8 (el (len64 X n1 i)))) := fun i hi => hH1.cell hi
      go_upto_region 18 with (first | (go_at_call 22; refine (returned_any hc1.out hp k1 kp hl1).mono ?_; rintro e w13 ⟨rfl, hb13⟩; have hq := hq.below hb13; have hH2 := hH2.below hb13; have hc2 : Hid (∀ i, i < n1 + 64 → w13.cell? ⟨g2, i, none⟩ = some (.int .u8 (el (len64 Y n1 i)))) := (fun i hi => hH2.cell hi)) | (go_at_call 22; refine (returned_any hc2.out hq k2 kq hl2).mono ?_; rintro e w14 ⟨rfl, hb14⟩))
      have hH1 := hH1.below (bt hb13 hb14)
      have hH2 := hH2.below hb14
      have hb := bt (bt (bt (bt (bt (bt (bt (bt (bt hb' hbp) hbq) hbS) hb8) hb89) hb10') hbT) hb13) hb14
      clear hbp hbq hbS hb8 hd8 hb89 hd9 hb10' hbT hb13 hb14 hc1 hc2 Sp Sq hp hq hs hX8
      have ha1 := el_add1
      have hx3 := el_xor3
      go_wp2
      go_loopw [22] (fun i wq => ∃ k : Nat, k ≤ n1 ∧ i = .int .i64 k ∧ Held wq g1 k1 (n1 + 64) (len64 (fun i => if i < k then X i + 1#8 else X i) n1) ∧ Held wq g2 k2 (n1 + 64) (len64 Y n1) ∧ Below w.heap.size w wq) (fun i _ => n1 - (intOf i).toNat)
      case atStart => exact ⟨0, Nat.zero_le _, rfl, hH1.congr (len64_start _ _ _), hH2, hb⟩
      case round =>
        clear hH1 hH2 hb
        obtain ⟨k, hk, rfl, hH1, hH2, hb⟩ := hrel
        by_cases hkl : k < n1
        · have gk := hH1.cell (i := k) (by omega)
          rw [len64_at _ _ hkl] at gk
          have gf := hH1.frozen k
          have hki : (k : Int) < (n1 : Int) := by omega
          have hki2 : (k : Int) < (n1 : Int) + 64 := by omega
          go_wp2
          go_roundw
          case rel => exact ⟨k + 1, by omega, by go_num, (hH1.set (v := X k + 1#8) rfl).congr (len64_step X (fun i => X i + 1#8) hkl), hH2.other (fun e => hg12 e.symm) rfl, hb.setCell hg1 _⟩
          case measure => simp [intOf]; omega
        · have hkn : k = n1 := by omega
          have hH1 := hH1.congr (y := len64 (fun i => X i + 1#8) n1) (by rw [hkn]; exact len64_done X (fun i => X i + 1#8) n1)
          clear hkn
          go_wp2
          go_loopw [23] (fun i wq => ∃ k : Nat, k ≤ n1 ∧ i = .int .i64 k ∧ Held wq g1 k1 (n1 + 64) (len64 (fun i => X i + 1#8) n1) ∧ Held wq g2 k2 (n1 + 64) (len64 (fun i => if i < k then Y i ^^^ 3#8 else Y i) n1) ∧ Below w.heap.size w wq) (fun i _ => n1 - (intOf i).toNat)
          case atStart => exact ⟨0, Nat.zero_le _, rfl, hH1, hH2.congr (len64_start _ _ _), hb⟩
          case round =>
            clear hH1 hH2 hb
            obtain ⟨k, hk, rfl, hH1, hH2, hb⟩ := hrel
            by_cases hkl : k < n1
            · have gk := hH2.cell (i := k) (by omega)
              rw [len64_at _ _ hkl] at gk
              have gf := hH2.frozen k
              have hki : (k : Int) < (n1 : Int) := by omega
              have hki2 : (k : Int) < (n1 : Int) + 64 := by omega
              go_wp2
              go_roundw
              case rel => exact ⟨k + 1, by omega, by go_num, hH1.other hg12 rfl, (hH2.set (v := Y k ^^^ 3#8) rfl).congr (len64_step Y (fun i => Y i ^^^ 3#8) hkl), hb.setCell hg2' _⟩
              case measure => simp [intOf]; omega
            · have hkn : k = n1 := by omega
              have hH2 := hH2.congr (y := len64 (fun i => Y i ^^^ 3#8) n1) (by rw [hkn]; exact len64_done Y (fun i => Y i ^^^ 3#8) n1)
              clear hkn
              rw [HX.out, ← tx_succ] at hH1
              rw [HY.out, ← ty_succ] at hH2
              go_wp2
              go_roundw
              case rel => exact ⟨t + 1, by omega, by go_num, hH1, hH2, hb⟩
              case measure => simp [intOf]; omega
    · go_wp2
      go_ret
      exact ⟨rfl, hb⟩
end Go.Proofs.Ytgienaikcpcpeaa
