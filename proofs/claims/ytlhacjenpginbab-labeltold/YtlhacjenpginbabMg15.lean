/-
  LabelTold: the walk.
-/
import Derived.Test.YtlhacjenpginbabTb15
import Derived.BigRegion
namespace Go.Proofs.Ytlhacjenpginbab
open Go.RowKit Go.Maps
theorem Wr.other {w : World} {g : Nat} {xs : List (BitVec 8)} (h : Wr w g xs) (a : Addr) (u : Value) (hne : g ≠ a.block) : Wr (w.setCell a u) g xs := by
  obtain ⟨cur, hh, hs, hc⟩ := h
  exact ⟨cur, by rw [heap_setCell_other w a g u hne]; exact hh, hs, hc⟩
theorem Wr.len31 {w : World} {g : Nat} {xs : List (BitVec 8)} (h : Wr w g xs) (hl : xs.length = 31) (i : Nat) (hi : i < 31) : w.cell? ⟨g, i, none⟩ = some (.int .u8 (el (fn xs i))) := h.cell (by omega)
theorem make31 (w : World) : (Instr.makeSlice 22 (.int .i64 31) (.int .i64 31)).run Try.prog w = .ok (.slice (some ⟨w.heap.size, 0, none⟩) 31 31) (w.alloc (.cells (Array.replicate 31 (.int .u8 0)) 5)) := make_bytes 31 (by decide) w
theorem fn_rep (n i : Nat) : fn (List.replicate n 0#8) i = 0#8 := by
  unfold fn
  by_cases h : i < n
  · simp [List.getD, h]
  · simp [List.getD, h]
theorem wr_new31 (w : World) : Wr (w.alloc (.cells (Array.replicate 31 (.int .u8 0)) 5)) w.heap.size (List.replicate 31 0#8) := by
  refine ⟨_, heap_alloc_new w _, by simp, fun i hi => ?_⟩
  have hi' : i < 31 := by simpa using hi
  rw [fn_rep]
  simp [hi', el]
theorem wr31 {w : World} {base : Nat} {v : Value} {xs : List (BitVec 8)} (h : Ow w base v xs) (hl : xs.length = 31) : ∃ g cap, v = .slice (some ⟨g, 0, none⟩) 31 cap ∧ 31 ≤ cap ∧ base ≤ g ∧ Wr w g xs := by
  obtain ⟨g, cap, hv, hg, hW⟩ := h.wr (by omega)
  obtain ⟨p, c, hv2, hc, _⟩ := h.rd
  rw [hv] at hv2
  injection hv2 with _ _ e3
  rw [hl] at hv hc
  exact ⟨g, cap, hv, by omega, hg, hW⟩
theorem place_numL (k n : Int) (h : 0 < n) : (wrap64 (k.tmod n + n)).tmod n = k % n ∨ 9223372036854775807 < n + n := by
  by_cases hn : n + n ≤ 9223372036854775807
  · left
    have h1 : -n < k.tmod n ∧ k.tmod n < n := by
      have := Int.tmod_lt_of_pos k h
      have h2 := Int.tmod_lt_of_pos (-k) h
      rw [Int.neg_tmod] at h2
      omega
    have hw : wrap64 (k.tmod n + n) = k.tmod n + n := by unfold wrap64; omega
    rw [hw, Int.tmod_eq_emod_of_nonneg (by omega), Int.add_emod_right]
    have hd : n * (k.tdiv n) + k.tmod n = k := Int.mul_tdiv_add_tmod k n
    have e : k % n = (k.tmod n + n * k.tdiv n) % n := by rw [Int.add_comm, hd]
    rw [e, Int.add_mul_emod_self_left]
  · right; omega
theorem LbAt.keptv15 {w w' : World} {g : Nat} {v : Value} {h : Lbl} (H : LbAt w g h) (hne : ∀ b, v.ownBlock = some b → g ≠ b) (hg : w.grownBy w' v.ownBlock) : LbAt w' g h := by
  have hl := H.lt
  unfold LbAt at H ⊢
  rw [hg.block g hl (fun e => hne g e.symm rfl)]; exact H
theorem neq_lb00 (w : World) : (binOp .neq 28 (.agg lb0.cs) (.agg #[.int .u8 0, .int .u8 0, .int .u8 0, .int .u8 0, .int .u8 0, .int .u8 0, .int .u8 0, .int .u8 0, .int .i64 0, .int .i64 0, .int .i64 0, .int .i64 0, .int .i64 0])).run Try.prog w = .ok (.bool false) w := by
  have h := neq_lbl lb0 lb0 w
  rw [(lq_iff _ _).2 rfl] at h
  exact h
/-- A text onto which a pattern is being put. -/
def xj (a p : List (BitVec 8)) (j : Nat) : List (BitVec 8) := (xl a p).take j ++ a.drop j
theorem xj_len (a p : List (BitVec 8)) (h : a.length = p.length) (j : Nat) (hj : j ≤ a.length) : (xj a p j).length = a.length := by
  unfold xj; rw [List.length_append, List.length_take, List.length_drop, xl_len a p h]; omega
theorem xl_at : ∀ (a p : List (BitVec 8)) (i : Nat), a.length = p.length → i < a.length → fn (xl a p) i = fn a i ^^^ fn p i
  | x :: a, y :: p, 0, _, _ => rfl
  | x :: a, y :: p, i + 1, h, hi => by
    show fn (xl a p) i = fn a i ^^^ fn p i
    exact xl_at a p i (by simpa using h) (by simpa using hi)
theorem xj_at (a p : List (BitVec 8)) (h : a.length = p.length) (j : Nat) (hj : j < a.length) : fn (xj a p j) j = fn a j := by
  have hx := xl_len a p h
  unfold xj fn
  have : j = ((xl a p).take j).length := by rw [List.length_take]; omega
  simp [List.getD, List.getElem?_append_right, List.length_take, hx, Nat.min_eq_left (Nat.le_of_lt hj)]
theorem xj_succ (a p : List (BitVec 8)) (h : a.length = p.length) (j : Nat) (hj : j < a.length) : (xj a p j).set j (fn a j ^^^ fn p j) = xj a p (j + 1) := by
  have hx := xl_len a p h
  have e := xl_at a p j h hj
  unfold xj
  have hl : ((xl a p).take j).length = j := by rw [List.length_take]; omega
  rw [List.set_append_right _ _ (by omega), hl, Nat.sub_self]
  rw [← e]
  have hd : a.drop j = a[j] :: a.drop (j + 1) := (List.drop_eq_getElem_cons hj)
  rw [hd, List.set_cons_zero]
  have ht : (xl a p).take (j + 1) = (xl a p).take j ++ [fn (xl a p) j] := by
    rw [List.take_add_one]
    congr 1
    have hj' : j < (xl a p).length := by omega
    simp [fn, hj']
  rw [ht, List.append_assoc]
  rfl
theorem xj_zero (a p : List (BitVec 8)) : xj a p 0 = a := rfl
theorem xj_all (a p : List (BitVec 8)) (h : a.length = p.length) : xj a p a.length = xl a p := by
  unfold xj
  rw [List.drop_length, List.append_nil, List.take_of_length_le (by rw [xl_len a p h]; exact Nat.le_refl _)]
section
attribute [local irreducible] Calls el Lbl.cs cmo rg smL ar8 Wr tb fn se vi ov xl xj
set_option maxHeartbeats 8000000 in
set_option maxRecDepth 1000000 in
theorem labelTold_no (h : Lbl) (hi : h.In) (h0 : h.ck ≠ 0) {w : World} (q1 : Option Addr) (n1 k1 : Nat) (q2 : Option Addr) (n2 k2 : Nat) :
    Calls Try.prog 4 #[.agg h.cs, .slice q1 n1 k1, .slice q2 n2 k2] w fun e w' => e = .returned (.bool true) ∧ Below w.heap.size w w' := by
  have KN := (show Hid _ from fun w => known_any w)
  have EN := (show Hid _ from fun w => lencode_any h hi w)
  have FT := (show Hid _ from fun w => fit_any h hi w)
  have hf : fitb h = false := by unfold fitb; exact decide_eq_false h0
  rw [hf] at FT
  have HA := LbAt.new w h
  have hbw := (Below.refl _ w).alloc (Nat.le_refl _) (.cells h.cs 28)
  generalize h.ck = z at *
  have hz : (z != 0) = true := by simpa using h0
  go_enter Try.func4, Try.ntmps4
  go_wp2_with (first
    | (refine wpList_loadLb rfl _ rfl w.heap.size rfl HA ?_)
    | (go_at_call 6; refine (KN.out _).mono ?_; rintro e w1 ⟨rfl, hb1⟩; replace hbw := bt hbw hb1; replace HA := HA.below hb1)
    | (go_at_call 9; refine (EN.out _).mono ?_; rintro e w2 ⟨v2, rfl, ho2, hb2⟩; replace hbw := bt hbw hb2; replace HA := HA.below hb2)
    | (go_at_call 10; refine (FT.out _).mono ?_; rintro e w3 ⟨rfl, hb3⟩; replace hbw := bt hbw hb3))
  go_ret
  exact ⟨rfl, hbw⟩
set_option maxHeartbeats 8000000 in
set_option maxRecDepth 1000000 in
theorem labelTold_ok (h : Lbl) (hi : h.In) (h0 : h.ck = 0) {w : World} (q1 : Option Addr) (ys : List (BitVec 8)) (h1 : Rd w q1 ys) (n1 k1 : Nat) (hn1 : ys.length = n1)
    (q2 : Option Addr) (m k2 : Nat) (f : Nat → Int) (hm2 : m ≤ 17592186043904) (H2 : Hid (∀ i, i < m → ∃ b o, q2 = some ⟨b, o, none⟩ ∧ w.cell? ⟨b, o + i, none⟩ = some (.int .i64 (f i)))) :
    Calls Try.prog 4 #[.agg h.cs, .slice q1 n1 k1, .slice q2 m k2] w fun e w' => e = .returned (.bool true) ∧ Below w.heap.size w w' := by
  have al : ∀ (W : World) (o : Obj), Below W.heap.size W (W.alloc o) := fun W o => (Below.refl _ _).alloc (Nat.le_refl _) o
  have KN := (show Hid _ from fun w => known_any w)
  have EN := (show Hid _ from fun w => lencode_any h hi w)
  unfold Lbl.enc at EN
  rw [if_pos h0, h0] at EN
  have FT := (show Hid _ from fun w => fit_any h hi w)
  have hf : fitb h = true := by unfold fitb; exact decide_eq_true h0
  rw [hf] at FT
  have HA := LbAt.new w h
  have hbw := (Below.refl _ w).alloc (Nat.le_refl _) (.cells h.cs 28)
  have MK := make31
  have hl := h.fm_len
  have ok := (ck_ok h).1 h0
  clear hf h0
  go_enter Try.func4, Try.ntmps4
  go_wp2_with (first
    | (refine wpList_loadLb rfl _ rfl w.heap.size rfl HA ?_)
    | (go_at_call 6; refine (KN.out _).mono ?_; rintro e w1 ⟨rfl, hb1⟩; replace hbw := bt hbw hb1; replace HA := HA.below hb1)
    | (go_at_call 9; refine (EN.out _).mono ?_; rintro e w2 ⟨v2, rfl, ho2, hb2⟩; have hgx := HA.lt; obtain ⟨gB, cB, hv2, hcB, hgB, hWB⟩ := wr31 ho2 hl; subst hv2; have HgB := (show Hid (w.heap.size < gB) from by show _ < _; omega); replace hbw := bt hbw hb2; replace HA := HA.below hb2)
    | (go_at_call 10; refine (FT.out _).mono ?_; rintro e w3 ⟨rfl, hb3⟩; replace hbw := bt hbw hb3; replace HA := HA.below hb3; replace hWB := hWB.below hb3; have hWB3 := hWB.lt))
  have hWP := wr_new31 w3
  replace HA := HA.below (al w3 (.cells (Array.replicate 31 (.int .u8 0)) 5))
  replace hWB := hWB.below (al w3 (.cells (Array.replicate 31 (.int .u8 0)) 5))
  replace hbw := bt hbw (al w3 (.cells (Array.replicate 31 (.int .u8 0)) 5))
  have HgP := (show Hid (gB < w3.heap.size) from by show _ < _; exact hWB3)
  generalize hgP : w3.heap.size = gP at *
  generalize w3.alloc (.cells (Array.replicate 31 (.int .u8 0)) 5) = w4 at *
  have hP0 : (List.replicate 31 0#8).length = 31 := by simp
  generalize List.replicate 31 0#8 = P0 at *
  clear hgP
  go_loopw [10] (fun i wr => ∃ (j : Nat) (P : List (BitVec 8)), j ≤ 31 ∧ i = .int .i64 (j : Int) ∧ P.length = 31 ∧ Wr wr gP P ∧ Wr wr gB h.fm ∧ LbAt wr w.heap.size h ∧ Below w.heap.size w wr) (fun i _ => 31 - (intOf i).toNat)
  case atStart => exact ⟨0, P0, Nat.zero_le _, rfl, hP0, hWP, hWB, HA, hbw⟩
  case round =>
    clear hWP hWB HA hbw hP0 P0
    obtain ⟨j, P, hj, rfl, hP, hWP, hWB, HA, hbw⟩ := hrel
    by_cases hlt : j < 31 ∧ j < n1
    · obtain ⟨hl1, hl2⟩ := hlt
      have d1 : decide ((j : Int) < 31) = true := by simp; omega
      have d2 : decide ((j : Int) < (n1 : Int)) = true := by simp; omega
      have i2 : (j : Int) < (n1 : Int) := by omega
      have i1 : (j : Int) < 31 := by omega
      obtain ⟨b1, o1, rfl, hc1⟩ : ∃ b o, q1 = some ⟨b, o, none⟩ ∧ w.cell? ⟨b, o + j, none⟩ = some (.int .u8 (el (fn ys j))) := by
        rcases h1 with e | ⟨b, o, e, hc⟩
        · subst e; simp at hn1; omega
        · exact ⟨b, o, e, by unfold fn; exact hc j (by omega)⟩
      have g1 := cell_below hc1 hbw
      have g2 := hWP.len31 hP j hl1
      have g3 := hWP.frozen j
      generalize fn ys j = z at *
      clear hc1
      go_wp2
      go_roundw
      case rel => exact ⟨j + 1, P.set j z, by omega, by go_num, by rw [List.length_set]; exact hP, hWP.set (by omega) rfl, hWB.other _ _ (by show gB ≠ gP; have := HgP.out; omega), HA.other _ _ (by show w.heap.size ≠ gP; have := HgP.out; have := HgB.out; omega), hbw.setCell (show w.heap.size ≤ gP by have := HgP.out; have := HgB.out; omega) _⟩
      case measure => simp [intOf]; omega
    · have TW := (show Hid _ from fun (W : World) (hx : Wr W gB h.fm) => twin15_any hx.rd 31 cB hl (by decide))
      have hex : ((j : Int) < 31 ∧ ¬ (j : Int) < (n1 : Int)) ∨ ¬ (j : Int) < 31 := by omega
      clear hlt h1
      rcases hex with ⟨e1, e2⟩ | e1
      · have d1 : decide ((j : Int) < 31) = true := decide_eq_true e1
        have d2 : decide ((j : Int) < (n1 : Int)) = false := decide_eq_false e2
        go_wp2_with (go_at_call 8; refine (TW.out _ hWB).mono ?_; rintro e w5 ⟨v5, rfl, ho5, hb5⟩; obtain ⟨gC, cC, hv5, hcC, hgC, hWC⟩ := wr31 ho5 hl; subst hv5)
        have q1 := hWP.lt
        have q2 := hWB.lt
        have q3 := HA.lt
        have HgC := (show Hid (gP < gC ∧ gB < gC ∧ w.heap.size < gC) from ⟨by omega, by omega, by omega⟩)
        replace hWP := hWP.below hb5
        replace hWB := hWB.below hb5
        replace HA := HA.below hb5
        replace hbw := bt hbw hb5
        have hfp : h.fm.length = P.length := by rw [hl, hP]
        rw [← xj_zero h.fm P] at hWC
        clear q1 q2 q3 ho5 hb5 hgC TW
        go_loopw [12] (fun i wr => ∃ j2 : Nat, j2 ≤ 31 ∧ i = .int .i64 (j2 : Int) ∧ Wr wr gC (xj h.fm P j2) ∧ Wr wr gP P ∧ Wr wr gB h.fm ∧ LbAt wr w.heap.size h ∧ Below w.heap.size w wr) (fun i _ => 31 - (intOf i).toNat)
        case atStart => exact ⟨0, Nat.zero_le _, rfl, hWC, hWP, hWB, HA, hbw⟩
        case round =>
          clear hWC hWP hWB HA hbw
          obtain ⟨j2, hj2, rfl, hWC, hWP, hWB, HA, hbw⟩ := hrel
          by_cases hlt2 : j2 < 31
          · have i1 : (j2 : Int) < 31 := by omega
            have hxl := xj_len h.fm P hfp j2 (by omega)
            have g1 := hWC.cell (i := j2) (by omega)
            rw [xj_at h.fm P hfp j2 (by omega)] at g1
            have g2 := hWP.len31 hP j2 hlt2
            have g3 := hWC.frozen j2
            have HS := (show Hid _ from xj_succ h.fm P hfp j2 (by omega))
            have e1 := el_xor (fn h.fm j2) (fn P j2)
            generalize fn h.fm j2 = za at *
            generalize fn P j2 = zb at *
            go_wp2
            go_region
            go_wp2
            go_roundw
            case rel =>
              have hd : Below wr.heap.size wr wr.drew := (Below.refl _ _).drew
              have hx := (hWC.below hd).set (W := wr.drew.setCell ⟨gC, j2, none⟩ (.int .u8 (el (za ^^^ zb)))) (k := j2) (b := za ^^^ zb) (by omega) rfl
              rw [HS.out] at hx
              have hg := HgC.out
              exact ⟨j2 + 1, by omega, by go_num, hx, (hWP.below hd).other _ _ (by show gP ≠ gC; omega), (hWB.below hd).other _ _ (by show gB ≠ gC; omega), (HA.below hd).other _ _ (by show w.heap.size ≠ gC; omega), (bt hbw hd).setCell (show w.heap.size ≤ gC by omega) _⟩
            case measure => simp [intOf]; omega
          · obtain rfl : j2 = 31 := by omega
            rw [show xj h.fm P 31 = xl h.fm P by rw [← hl]; exact xj_all h.fm P hfp] at hWC
            have hxl2 : (xl h.fm P).length = 31 := by rw [xl_len h.fm P hfp]; exact hl
            have LPc := (show Hid _ from lparse_any hWC.rd 31 cC hxl2 hcC)
            have BL := (show Hid _ from fun (W : World) (hx : Wr W gP P) => cblind_any hx.rd 31 31 hP (by decide))
            have N00 := neq_lb00
            by_cases hbl : ov 0#32 P = 0#32
            · have hbb : (ov 0#32 P == 0#32) = true := by rw [hbl]; rfl
              rw [hbb] at BL
              generalize pL (xl h.fm P) = pq at LPc
              obtain ⟨eC, lC⟩ := pq
              clear hbl hbb
              go_wp2_with (first
                | (go_at_call 7; refine LPc.out.mono ?_; rintro e w6 ⟨rfl, hb6⟩; replace hWP := hWP.below hb6; replace hWB := hWB.below hb6; replace HA := HA.below hb6; replace hbw := bt hbw hb6)
                | (refine wpList_alLb rfl rfl ?_; intro w7 ZN hbN hs; clear hs)
                | (refine wpList_storeLb rfl _ _ rfl rfl w6.heap.size rfl rfl ZN ?_; intro w8 Z8 hT8; have hb8 := hT8.2.1 _ _ hbN (Nat.le_refl _); replace hWP := hWP.below hb8; replace hWB := hWB.below hb8; replace HA := HA.below hb8; replace hbw := bt hbw hb8; clear ZN)
                | (go_at_call 11; refine (BL.out _ hWP).mono ?_; rintro e w9 ⟨rfl, hb9⟩; replace hWB := hWB.below hb9; replace HA := HA.below hb9; replace Z8 := Z8.below hb9; replace hbw := bt hbw hb9)
                | (refine wpList_ldLg (by rfl) _ rfl w6.heap.size rfl Z8 ?_))
              obtain ⟨i0, hi0, hz0, hz1, hz2⟩ := info_parts infoI
              have hBlt := hWB.lt
              have hLlt := HA.lt
              obtain ⟨B, hB⟩ : ∃ B, B = w9.heap.size := ⟨_, rfl⟩
              have HG := (show Hid (gB < B ∧ w.heap.size < B ∧ w.heap.size < gB) from ⟨by omega, by omega, HgB.out⟩)
              have hBw := (show Hid (B ≤ w9.heap.size) from by show _ ≤ _; omega)
              clear hB hBlt hLlt
              go_loopw [15, 16, 17, 18, 19] (fun v i _ _ _ wr => ∃ (a : Nat) (K : List Nat) (L : List (BitVec 8)), a ≤ m ∧ K.length ≤ a ∧ i = .int .i64 a ∧ wr.ownsRow B 3 1 v K.length (vi K) ∧ Hid (Tk h.fm L K ∧ (K = [] → L = h.fm)) ∧ Wr wr gB L ∧ LbAt wr w.heap.size h ∧ Hid (B ≤ wr.heap.size) ∧ Below w.heap.size w wr) (fun _ i _ _ _ _ => m - (intOf i).toNat)
              case atStart => exact ⟨0, [], h.fm, Nat.zero_le _, Nat.le_refl _, rfl, by unfold vi; exact World.ownsRow_nil _ _ _ _, ⟨⟨rfl, fun r => by unfold se; rw [BitVec.xor_zero], List.nodup_nil, fun k hk => by simp at hk⟩, fun _ => rfl⟩, hWB, HA, hBw, hbw⟩
              case round =>
                clear hWB HA hBw hbw
                obtain ⟨a, K, L, ha, hKa, rfl, hO, HT, hWB, HA, hBw, hbw⟩ := hrel
                have hL : L.length = 31 := by rw [HT.out.1.len]; exact hl
                by_cases hlta : a < m
                · have hi : (a : Int) < (m : Int) := by omega
                  obtain ⟨b1, o1, rfl, hc⟩ := H2.out a hlta
                  have g1 := cell_below hc hbw
                  clear hc
                  obtain ⟨k, hk⟩ : ∃ k : Nat, (k : Int) = f a % 248 := ⟨(f a % 248).toNat, by omega⟩
                  have hkb : k < 248 := by omega
                  have hp : (wrap64 ((f a).tmod 248 + 248)).tmod 248 = (k : Int) := by rw [hk]; exact (place_numL (f a) 248 (by decide)).resolve_right (by omega)
                  clear hk
                  go_wp2_with (fail)
                  obtain ⟨pv, cv, rfl, _⟩ := owns_cells hO
                  go_loopw [18, 19] (fun t i wr => ∃ c : Nat, c ≤ K.length ∧ i = .int .i64 c ∧ t = .bool (decide (k ∈ K.take c)) ∧ wr.ownsRow B 3 1 (.slice pv K.length cv) K.length (vi K) ∧ Wr wr gB L ∧ LbAt wr w.heap.size h ∧ Hid (B ≤ wr.heap.size) ∧ Below w.heap.size w wr) (fun _ i _ => K.length - (intOf i).toNat)
                  case atStart => exact ⟨0, Nat.zero_le _, rfl, by simp, hO, hWB, HA, hBw, hbw⟩
                  case round =>
                    clear hO hWB HA hBw hbw g1
                    obtain ⟨c, hc, rfl, rfl, hO, hWB, HA, hBw, hbw⟩ := hrel
                    by_cases hlc : c < K.length
                    · have hic : (c : Int) < (K.length : Int) := by omega
                      obtain ⟨p', c', he, hcell⟩ := owns_cells hO
                      obtain ⟨g', hp', _, hcl⟩ := hcell (by omega)
                      injection he with he1 _ he3
                      rw [← he1] at hp'
                      have g2 := hcl c _ (vi_at K c hlc)
                      clear hcl hcell he3 he1
                      subst hp'
                      have hts := take_mem_succ K k c hlc
                      by_cases hin : k ∈ K.take c
                      · have d1 : decide (k ∈ K.take c) = true := by simpa using hin
                        have d2 : decide (k ∈ K.take (c + 1)) = true := by rw [decide_eq_true_iff, hts]; exact .inl hin
                        rw [d1]
                        clear d1 hts hin
                        go_wp2_with (fail)
                        go_roundw
                        case rel => exact ⟨c + 1, by omega, by go_num, by rw [d2], hO, hWB, HA, hBw, hbw⟩
                        case measure => simp [intOf]; omega
                      · have d1 : decide (k ∈ K.take c) = false := by simpa using hin
                        have d2 : decide (k ∈ K.take (c + 1)) = (((K[c] : Nat) : Int) == (k : Int)) := by
                          rw [Bool.eq_iff_iff, decide_eq_true_iff, hts, beq_iff_eq]
                          exact ⟨fun h => by rcases h with h | h; exact absurd h hin; omega, fun h => .inr (by omega)⟩
                        rw [d1]
                        clear d1 hts hin
                        generalize (K[c] : Nat) = kc at *
                        go_wp2_with (fail)
                        go_roundw
                        case rel => exact ⟨c + 1, by omega, by go_num, by rw [d2], hO, hWB, HA, hBw, hbw⟩
                        case measure => simp [intOf]; omega
                    · obtain rfl : c = K.length := by omega
                      by_cases hin : k ∈ K
                      · have d1 : decide (k ∈ K.take K.length) = true := by simpa using hin
                        rw [d1]
                        clear d1 hin
                        go_wp2_with (fail)
                        go_roundw
                        case rel => exact ⟨a + 1, K, L, by omega, by omega, by go_num, hO, HT, hWB, HA, hBw, hbw⟩
                        case measure => simp [intOf]; omega
                      · have d1 : decide (k ∈ K.take K.length) = false := by simpa using hin
                        rw [d1]
                        have hTn := (show Hid (Tk h.fm (tb L k) (K ++ [k]) ∧ (K ++ [k] = [] → tb L k = h.fm)) from ⟨HT.out.1.next (by rw [hl]; omega) hin, fun e => by simp at e⟩)
                        clear d1
                        have g1 := hWB.cell (i := k / 8) (by omega)
                        have g2 := hWB.frozen (k / 8)
                        have e1 := el_bitx (fn L (k / 8)) (k % 8)
                        have q1 : (k : Int) / 8 < 31 := by omega
                        have WS := (show Hid (∀ X : World, Wr X gB L → Wr (X.setCell ⟨gB, k / 8, none⟩ (.int .u8 (el (fn L (k / 8) ^^^ 1#8 <<< (k % 8))))) gB (tb L k)) from fun X hX => by unfold tb; exact hX.set (by omega) rfl)
                        go_wp2_with (at_builtin; refine wpList_append_own _ rfl (.tmp 124) (.tmp 126) 37 rfl B 3 i0 (.int .i64 0) 1 8 Try.underlying37 hi0 hz0 hz1 hz2 rfl (by decide) _ _ _ rfl (hO.alloc _) ⟨wr.heap.size, 0, none⟩ 1 1 [_] rfl rfl (one_new _ _ _) (one_cell _ _) (by unfold maxLen; omega) (by omega) (Nat.le_trans hBw.out (by simp)) ?_; intro v5 w5 hO5 hg5 _; have hW5 := (hWB.below (al _ _)).grown hg5 (hO.alloc _) HG.out.1; have hA5 := LbAt.keptv15 (HA.below (al _ _)) (fun b hv e => by have := (hO.lt b hv).1; have := HG.out.2.1; omega) hg5; have hb5 := below_append (balloc hbw _) (balloc hbw _).size hg5 (hO.alloc _) (Nat.le_of_lt HG.out.2.1); have hz5 : B ≤ w5.heap.size := Nat.le_trans (Nat.le_trans hBw.out (by simp)) hg5.size; clear g1 g2; have g1 := hW5.cell (i := k / 8) (by omega); have g2 := hW5.frozen (k / 8))
                        go_roundw
                        case rel => exact ⟨a + 1, K ++ [k], tb L k, by omega, by rw [List.length_append]; simp; omega, by go_num, by rw [List.length_append, vi_snoc]; exact owns_setCell hO5 HG.out.1 rfl, hTn, WS.out _ hW5, hA5.other _ _ (by show w.heap.size ≠ gB; have := HG.out.2.2; omega), (by show _ ≤ _; simpa using hz5), hb5.setCell (show w.heap.size ≤ gB by have := HG.out.2.2; omega) _⟩
                        case measure => simp [intOf]; omega
                · obtain rfl : a = m := by omega
                  obtain ⟨pv, cv, rfl, _⟩ := owns_cells hO
                  have LPb := (show Hid _ from lparse_any hWB.rd 31 cB hL hcB)
                  have Q0 := eql_lb00
                  have Q1 := fun W => eql_lbl h h W
                  rw [(lq_iff h h).2 rfl] at Q1
                  have hne := se_ne (8 * h.fm.length) K HT.out.1.nodup HT.out.1.lt (by rw [hl]; decide)
                  have TB := (show Hid _ from fun hs => told_bits h HT.out.1 hs)
                  have HK := (show Hid _ from HT.out.2)
                  clear hO hWB HT hL hBw
                  by_cases hk0 : K = []
                  · subst hk0
                    have hLf := HK.out rfl
                    rw [hLf, pL_fm h ok] at LPb
                    have z0 : ((([] : List Nat).length : Int) == 0) = true := rfl
                    clear hLf hne TB HK
                    go_wp2_with (first
                      | (go_at_call 7; refine LPb.out.mono ?_; rintro e x6 ⟨rfl, hb6⟩; replace HA := HA.below hb6; replace hbw := bt hbw hb6)
                      | (refine wpList_alLb rfl rfl ?_; intro x7 ZN hbN hs; clear hs)
                      | (refine wpList_storeLb rfl _ _ rfl rfl x6.heap.size rfl rfl ZN ?_; intro x8 Z8 hT8; have hb8 := hT8.2.1 _ _ hbN (Nat.le_refl _); replace HA := HA.below hb8; replace hbw := bt hbw hb8; clear ZN)
                      | (refine wpList_ldLg (by rfl) _ rfl x6.heap.size rfl Z8 ?_)
                      | (refine wpList_ldLg (by rfl) _ rfl w.heap.size rfl HA ?_))
                    go_ret
                    exact ⟨rfl, hbw⟩
                  · have hkl : 0 < K.length := List.length_pos_iff.2 hk0
                    clear hk0 HK
                    by_cases he : 3 < K.length ∧ K.length % 2 = 0
                    · clear TB hne
                      generalize pL L = pq at LPb
                      obtain ⟨eL, lL⟩ := pq
                      obtain ⟨he1, he2⟩ := he
                      generalize K.length = kl at *
                      have z0 : ((kl : Int) == 0) = false := by simp; omega
                      have z1 : decide ((3 : Int) < (kl : Int)) = true := by simp; omega
                      have z2 : (kl : Int) % 2 = 0 := by omega
                      go_wp2_with (first
                        | (go_at_call 7; refine LPb.out.mono ?_; rintro e x6 ⟨rfl, hb6⟩; replace HA := HA.below hb6; replace hbw := bt hbw hb6)
                        | (refine wpList_alLb rfl rfl ?_; intro x7 ZN hbN hs; clear hs)
                        | (refine wpList_storeLb rfl _ _ rfl rfl x6.heap.size rfl rfl ZN ?_; intro x8 Z8 hT8; have hb8 := hT8.2.1 _ _ hbN (Nat.le_refl _); replace HA := HA.below hb8; replace hbw := bt hbw hb8; clear ZN)
                        | (refine wpList_ldLg (by rfl) _ rfl x6.heap.size rfl Z8 ?_)
                        | (refine wpList_ldLg (by rfl) _ rfl w.heap.size rfl HA ?_))
                      go_ret
                      exact ⟨rfl, hbw⟩
                    · rw [TB.out (hne (by omega))] at LPb
                      clear TB hne
                      generalize K.length = kl at *
                      have z0 : ((kl : Int) == 0) = false := by simp; omega
                      by_cases he1 : 3 < kl
                      · have z1 : decide ((3 : Int) < (kl : Int)) = true := by simp; omega
                        have z2 : (kl : Int) % 2 = 1 := by omega
                        go_wp2_with (first
                          | (go_at_call 7; refine LPb.out.mono ?_; rintro e x6 ⟨rfl, hb6⟩; replace HA := HA.below hb6; replace hbw := bt hbw hb6)
                          | (refine wpList_alLb rfl rfl ?_; intro x7 ZN hbN hs; clear hs)
                          | (refine wpList_storeLb rfl _ _ rfl rfl x6.heap.size rfl rfl ZN ?_; intro x8 Z8 hT8; have hb8 := hT8.2.1 _ _ hbN (Nat.le_refl _); replace HA := HA.below hb8; replace hbw := bt hbw hb8; clear ZN)
                          | (refine wpList_ldLg (by rfl) _ rfl x6.heap.size rfl Z8 ?_)
                          | (refine wpList_ldLg (by rfl) _ rfl w.heap.size rfl HA ?_))
                        go_ret
                        exact ⟨rfl, hbw⟩
                      · have z1 : decide ((3 : Int) < (kl : Int)) = false := by simp; omega
                        go_wp2_with (first
                          | (go_at_call 7; refine LPb.out.mono ?_; rintro e x6 ⟨rfl, hb6⟩; replace HA := HA.below hb6; replace hbw := bt hbw hb6)
                          | (refine wpList_alLb rfl rfl ?_; intro x7 ZN hbN hs; clear hs)
                          | (refine wpList_storeLb rfl _ _ rfl rfl x6.heap.size rfl rfl ZN ?_; intro x8 Z8 hT8; have hb8 := hT8.2.1 _ _ hbN (Nat.le_refl _); replace HA := HA.below hb8; replace hbw := bt hbw hb8; clear ZN)
                          | (refine wpList_ldLg (by rfl) _ rfl x6.heap.size rfl Z8 ?_)
                          | (refine wpList_ldLg (by rfl) _ rfl w.heap.size rfl HA ?_))
                        go_ret
                        exact ⟨rfl, hbw⟩
            · have hbb : (ov 0#32 P == 0#32) = false := by simpa using hbl
              rw [hbb] at BL
              rw [told_pat h P hP hbl] at LPc
              clear hbl hbb
              go_wp2_with (first
                | (go_at_call 7; refine LPc.out.mono ?_; rintro e w6 ⟨rfl, hb6⟩; replace hWP := hWP.below hb6; replace hWB := hWB.below hb6; replace HA := HA.below hb6; replace hbw := bt hbw hb6)
                | (refine wpList_alLb rfl rfl ?_; intro w7 ZN hbN hs; clear hs)
                | (refine wpList_storeLb rfl _ _ rfl rfl w6.heap.size rfl rfl ZN ?_; intro w8 Z8 hT8; have hb8 := hT8.2.1 _ _ hbN (Nat.le_refl _); replace hWP := hWP.below hb8; replace hWB := hWB.below hb8; replace HA := HA.below hb8; replace hbw := bt hbw hb8; clear ZN)
                | (go_at_call 11; refine (BL.out _ hWP).mono ?_; rintro e w9 ⟨rfl, hb9⟩; replace hWB := hWB.below hb9; replace HA := HA.below hb9; replace Z8 := Z8.below hb9; replace hbw := bt hbw hb9)
                | (refine wpList_ldLg (by rfl) _ rfl w6.heap.size rfl Z8 ?_))
              obtain ⟨i0, hi0, hz0, hz1, hz2⟩ := info_parts infoI
              have hBlt := hWB.lt
              have hLlt := HA.lt
              obtain ⟨B, hB⟩ : ∃ B, B = w9.heap.size := ⟨_, rfl⟩
              have HG := (show Hid (gB < B ∧ w.heap.size < B ∧ w.heap.size < gB) from ⟨by omega, by omega, HgB.out⟩)
              have hBw := (show Hid (B ≤ w9.heap.size) from by show _ ≤ _; omega)
              clear hB hBlt hLlt
              go_loopw [15, 16, 17, 18, 19] (fun v i _ _ _ wr => ∃ (a : Nat) (K : List Nat) (L : List (BitVec 8)), a ≤ m ∧ K.length ≤ a ∧ i = .int .i64 a ∧ wr.ownsRow B 3 1 v K.length (vi K) ∧ Hid (Tk h.fm L K ∧ (K = [] → L = h.fm)) ∧ Wr wr gB L ∧ LbAt wr w.heap.size h ∧ Hid (B ≤ wr.heap.size) ∧ Below w.heap.size w wr) (fun _ i _ _ _ _ => m - (intOf i).toNat)
              case atStart => exact ⟨0, [], h.fm, Nat.zero_le _, Nat.le_refl _, rfl, by unfold vi; exact World.ownsRow_nil _ _ _ _, ⟨⟨rfl, fun r => by unfold se; rw [BitVec.xor_zero], List.nodup_nil, fun k hk => by simp at hk⟩, fun _ => rfl⟩, hWB, HA, hBw, hbw⟩
              case round =>
                clear hWB HA hBw hbw
                obtain ⟨a, K, L, ha, hKa, rfl, hO, HT, hWB, HA, hBw, hbw⟩ := hrel
                have hL : L.length = 31 := by rw [HT.out.1.len]; exact hl
                by_cases hlta : a < m
                · have hi : (a : Int) < (m : Int) := by omega
                  obtain ⟨b1, o1, rfl, hc⟩ := H2.out a hlta
                  have g1 := cell_below hc hbw
                  clear hc
                  obtain ⟨k, hk⟩ : ∃ k : Nat, (k : Int) = f a % 248 := ⟨(f a % 248).toNat, by omega⟩
                  have hkb : k < 248 := by omega
                  have hp : (wrap64 ((f a).tmod 248 + 248)).tmod 248 = (k : Int) := by rw [hk]; exact (place_numL (f a) 248 (by decide)).resolve_right (by omega)
                  clear hk
                  go_wp2_with (fail)
                  obtain ⟨pv, cv, rfl, _⟩ := owns_cells hO
                  go_loopw [18, 19] (fun t i wr => ∃ c : Nat, c ≤ K.length ∧ i = .int .i64 c ∧ t = .bool (decide (k ∈ K.take c)) ∧ wr.ownsRow B 3 1 (.slice pv K.length cv) K.length (vi K) ∧ Wr wr gB L ∧ LbAt wr w.heap.size h ∧ Hid (B ≤ wr.heap.size) ∧ Below w.heap.size w wr) (fun _ i _ => K.length - (intOf i).toNat)
                  case atStart => exact ⟨0, Nat.zero_le _, rfl, by simp, hO, hWB, HA, hBw, hbw⟩
                  case round =>
                    clear hO hWB HA hBw hbw g1
                    obtain ⟨c, hc, rfl, rfl, hO, hWB, HA, hBw, hbw⟩ := hrel
                    by_cases hlc : c < K.length
                    · have hic : (c : Int) < (K.length : Int) := by omega
                      obtain ⟨p', c', he, hcell⟩ := owns_cells hO
                      obtain ⟨g', hp', _, hcl⟩ := hcell (by omega)
                      injection he with he1 _ he3
                      rw [← he1] at hp'
                      have g2 := hcl c _ (vi_at K c hlc)
                      clear hcl hcell he3 he1
                      subst hp'
                      have hts := take_mem_succ K k c hlc
                      by_cases hin : k ∈ K.take c
                      · have d1 : decide (k ∈ K.take c) = true := by simpa using hin
                        have d2 : decide (k ∈ K.take (c + 1)) = true := by rw [decide_eq_true_iff, hts]; exact .inl hin
                        rw [d1]
                        clear d1 hts hin
                        go_wp2_with (fail)
                        go_roundw
                        case rel => exact ⟨c + 1, by omega, by go_num, by rw [d2], hO, hWB, HA, hBw, hbw⟩
                        case measure => simp [intOf]; omega
                      · have d1 : decide (k ∈ K.take c) = false := by simpa using hin
                        have d2 : decide (k ∈ K.take (c + 1)) = (((K[c] : Nat) : Int) == (k : Int)) := by
                          rw [Bool.eq_iff_iff, decide_eq_true_iff, hts, beq_iff_eq]
                          exact ⟨fun h => by rcases h with h | h; exact absurd h hin; omega, fun h => .inr (by omega)⟩
                        rw [d1]
                        clear d1 hts hin
                        generalize (K[c] : Nat) = kc at *
                        go_wp2_with (fail)
                        go_roundw
                        case rel => exact ⟨c + 1, by omega, by go_num, by rw [d2], hO, hWB, HA, hBw, hbw⟩
                        case measure => simp [intOf]; omega
                    · obtain rfl : c = K.length := by omega
                      by_cases hin : k ∈ K
                      · have d1 : decide (k ∈ K.take K.length) = true := by simpa using hin
                        rw [d1]
                        clear d1 hin
                        go_wp2_with (fail)
                        go_roundw
                        case rel => exact ⟨a + 1, K, L, by omega, by omega, by go_num, hO, HT, hWB, HA, hBw, hbw⟩
                        case measure => simp [intOf]; omega
                      · have d1 : decide (k ∈ K.take K.length) = false := by simpa using hin
                        rw [d1]
                        have hTn := (show Hid (Tk h.fm (tb L k) (K ++ [k]) ∧ (K ++ [k] = [] → tb L k = h.fm)) from ⟨HT.out.1.next (by rw [hl]; omega) hin, fun e => by simp at e⟩)
                        clear d1
                        have g1 := hWB.cell (i := k / 8) (by omega)
                        have g2 := hWB.frozen (k / 8)
                        have e1 := el_bitx (fn L (k / 8)) (k % 8)
                        have q1 : (k : Int) / 8 < 31 := by omega
                        have WS := (show Hid (∀ X : World, Wr X gB L → Wr (X.setCell ⟨gB, k / 8, none⟩ (.int .u8 (el (fn L (k / 8) ^^^ 1#8 <<< (k % 8))))) gB (tb L k)) from fun X hX => by unfold tb; exact hX.set (by omega) rfl)
                        go_wp2_with (at_builtin; refine wpList_append_own _ rfl (.tmp 124) (.tmp 126) 37 rfl B 3 i0 (.int .i64 0) 1 8 Try.underlying37 hi0 hz0 hz1 hz2 rfl (by decide) _ _ _ rfl (hO.alloc _) ⟨wr.heap.size, 0, none⟩ 1 1 [_] rfl rfl (one_new _ _ _) (one_cell _ _) (by unfold maxLen; omega) (by omega) (Nat.le_trans hBw.out (by simp)) ?_; intro v5 w5 hO5 hg5 _; have hW5 := (hWB.below (al _ _)).grown hg5 (hO.alloc _) HG.out.1; have hA5 := LbAt.keptv15 (HA.below (al _ _)) (fun b hv e => by have := (hO.lt b hv).1; have := HG.out.2.1; omega) hg5; have hb5 := below_append (balloc hbw _) (balloc hbw _).size hg5 (hO.alloc _) (Nat.le_of_lt HG.out.2.1); have hz5 : B ≤ w5.heap.size := Nat.le_trans (Nat.le_trans hBw.out (by simp)) hg5.size; clear g1 g2; have g1 := hW5.cell (i := k / 8) (by omega); have g2 := hW5.frozen (k / 8))
                        go_roundw
                        case rel => exact ⟨a + 1, K ++ [k], tb L k, by omega, by rw [List.length_append]; simp; omega, by go_num, by rw [List.length_append, vi_snoc]; exact owns_setCell hO5 HG.out.1 rfl, hTn, WS.out _ hW5, hA5.other _ _ (by show w.heap.size ≠ gB; have := HG.out.2.2; omega), (by show _ ≤ _; simpa using hz5), hb5.setCell (show w.heap.size ≤ gB by have := HG.out.2.2; omega) _⟩
                        case measure => simp [intOf]; omega
                · obtain rfl : a = m := by omega
                  obtain ⟨pv, cv, rfl, _⟩ := owns_cells hO
                  have LPb := (show Hid _ from lparse_any hWB.rd 31 cB hL hcB)
                  have Q0 := eql_lb00
                  have Q1 := fun W => eql_lbl h h W
                  rw [(lq_iff h h).2 rfl] at Q1
                  have hne := se_ne (8 * h.fm.length) K HT.out.1.nodup HT.out.1.lt (by rw [hl]; decide)
                  have TB := (show Hid _ from fun hs => told_bits h HT.out.1 hs)
                  have HK := (show Hid _ from HT.out.2)
                  clear hO hWB HT hL hBw
                  by_cases hk0 : K = []
                  · subst hk0
                    have hLf := HK.out rfl
                    rw [hLf, pL_fm h ok] at LPb
                    have z0 : ((([] : List Nat).length : Int) == 0) = true := rfl
                    clear hLf hne TB HK
                    go_wp2_with (first
                      | (go_at_call 7; refine LPb.out.mono ?_; rintro e x6 ⟨rfl, hb6⟩; replace HA := HA.below hb6; replace hbw := bt hbw hb6)
                      | (refine wpList_alLb rfl rfl ?_; intro x7 ZN hbN hs; clear hs)
                      | (refine wpList_storeLb rfl _ _ rfl rfl x6.heap.size rfl rfl ZN ?_; intro x8 Z8 hT8; have hb8 := hT8.2.1 _ _ hbN (Nat.le_refl _); replace HA := HA.below hb8; replace hbw := bt hbw hb8; clear ZN)
                      | (refine wpList_ldLg (by rfl) _ rfl x6.heap.size rfl Z8 ?_)
                      | (refine wpList_ldLg (by rfl) _ rfl w.heap.size rfl HA ?_))
                    go_ret
                    exact ⟨rfl, hbw⟩
                  · have hkl : 0 < K.length := List.length_pos_iff.2 hk0
                    clear hk0 HK
                    by_cases he : 3 < K.length ∧ K.length % 2 = 0
                    · clear TB hne
                      generalize pL L = pq at LPb
                      obtain ⟨eL, lL⟩ := pq
                      obtain ⟨he1, he2⟩ := he
                      generalize K.length = kl at *
                      have z0 : ((kl : Int) == 0) = false := by simp; omega
                      have z1 : decide ((3 : Int) < (kl : Int)) = true := by simp; omega
                      have z2 : (kl : Int) % 2 = 0 := by omega
                      go_wp2_with (first
                        | (go_at_call 7; refine LPb.out.mono ?_; rintro e x6 ⟨rfl, hb6⟩; replace HA := HA.below hb6; replace hbw := bt hbw hb6)
                        | (refine wpList_alLb rfl rfl ?_; intro x7 ZN hbN hs; clear hs)
                        | (refine wpList_storeLb rfl _ _ rfl rfl x6.heap.size rfl rfl ZN ?_; intro x8 Z8 hT8; have hb8 := hT8.2.1 _ _ hbN (Nat.le_refl _); replace HA := HA.below hb8; replace hbw := bt hbw hb8; clear ZN)
                        | (refine wpList_ldLg (by rfl) _ rfl x6.heap.size rfl Z8 ?_)
                        | (refine wpList_ldLg (by rfl) _ rfl w.heap.size rfl HA ?_))
                      go_ret
                      exact ⟨rfl, hbw⟩
                    · rw [TB.out (hne (by omega))] at LPb
                      clear TB hne
                      generalize K.length = kl at *
                      have z0 : ((kl : Int) == 0) = false := by simp; omega
                      by_cases he1 : 3 < kl
                      · have z1 : decide ((3 : Int) < (kl : Int)) = true := by simp; omega
                        have z2 : (kl : Int) % 2 = 1 := by omega
                        go_wp2_with (first
                          | (go_at_call 7; refine LPb.out.mono ?_; rintro e x6 ⟨rfl, hb6⟩; replace HA := HA.below hb6; replace hbw := bt hbw hb6)
                          | (refine wpList_alLb rfl rfl ?_; intro x7 ZN hbN hs; clear hs)
                          | (refine wpList_storeLb rfl _ _ rfl rfl x6.heap.size rfl rfl ZN ?_; intro x8 Z8 hT8; have hb8 := hT8.2.1 _ _ hbN (Nat.le_refl _); replace HA := HA.below hb8; replace hbw := bt hbw hb8; clear ZN)
                          | (refine wpList_ldLg (by rfl) _ rfl x6.heap.size rfl Z8 ?_)
                          | (refine wpList_ldLg (by rfl) _ rfl w.heap.size rfl HA ?_))
                        go_ret
                        exact ⟨rfl, hbw⟩
                      · have z1 : decide ((3 : Int) < (kl : Int)) = false := by simp; omega
                        go_wp2_with (first
                          | (go_at_call 7; refine LPb.out.mono ?_; rintro e x6 ⟨rfl, hb6⟩; replace HA := HA.below hb6; replace hbw := bt hbw hb6)
                          | (refine wpList_alLb rfl rfl ?_; intro x7 ZN hbN hs; clear hs)
                          | (refine wpList_storeLb rfl _ _ rfl rfl x6.heap.size rfl rfl ZN ?_; intro x8 Z8 hT8; have hb8 := hT8.2.1 _ _ hbN (Nat.le_refl _); replace HA := HA.below hb8; replace hbw := bt hbw hb8; clear ZN)
                          | (refine wpList_ldLg (by rfl) _ rfl x6.heap.size rfl Z8 ?_)
                          | (refine wpList_ldLg (by rfl) _ rfl w.heap.size rfl HA ?_))
                        go_ret
                        exact ⟨rfl, hbw⟩
      · have d1 : decide ((j : Int) < 31) = false := decide_eq_false e1
        go_wp2_with (go_at_call 8; refine (TW.out _ hWB).mono ?_; rintro e w5 ⟨v5, rfl, ho5, hb5⟩; obtain ⟨gC, cC, hv5, hcC, hgC, hWC⟩ := wr31 ho5 hl; subst hv5)
        have q1 := hWP.lt
        have q2 := hWB.lt
        have q3 := HA.lt
        have HgC := (show Hid (gP < gC ∧ gB < gC ∧ w.heap.size < gC) from ⟨by omega, by omega, by omega⟩)
        replace hWP := hWP.below hb5
        replace hWB := hWB.below hb5
        replace HA := HA.below hb5
        replace hbw := bt hbw hb5
        have hfp : h.fm.length = P.length := by rw [hl, hP]
        rw [← xj_zero h.fm P] at hWC
        clear q1 q2 q3 ho5 hb5 hgC TW
        go_loopw [12] (fun i wr => ∃ j2 : Nat, j2 ≤ 31 ∧ i = .int .i64 (j2 : Int) ∧ Wr wr gC (xj h.fm P j2) ∧ Wr wr gP P ∧ Wr wr gB h.fm ∧ LbAt wr w.heap.size h ∧ Below w.heap.size w wr) (fun i _ => 31 - (intOf i).toNat)
        case atStart => exact ⟨0, Nat.zero_le _, rfl, hWC, hWP, hWB, HA, hbw⟩
        case round =>
          clear hWC hWP hWB HA hbw
          obtain ⟨j2, hj2, rfl, hWC, hWP, hWB, HA, hbw⟩ := hrel
          by_cases hlt2 : j2 < 31
          · have i1 : (j2 : Int) < 31 := by omega
            have hxl := xj_len h.fm P hfp j2 (by omega)
            have g1 := hWC.cell (i := j2) (by omega)
            rw [xj_at h.fm P hfp j2 (by omega)] at g1
            have g2 := hWP.len31 hP j2 hlt2
            have g3 := hWC.frozen j2
            have HS := (show Hid _ from xj_succ h.fm P hfp j2 (by omega))
            have e1 := el_xor (fn h.fm j2) (fn P j2)
            generalize fn h.fm j2 = za at *
            generalize fn P j2 = zb at *
            go_wp2
            go_region
            go_wp2
            go_roundw
            case rel =>
              have hd : Below wr.heap.size wr wr.drew := (Below.refl _ _).drew
              have hx := (hWC.below hd).set (W := wr.drew.setCell ⟨gC, j2, none⟩ (.int .u8 (el (za ^^^ zb)))) (k := j2) (b := za ^^^ zb) (by omega) rfl
              rw [HS.out] at hx
              have hg := HgC.out
              exact ⟨j2 + 1, by omega, by go_num, hx, (hWP.below hd).other _ _ (by show gP ≠ gC; omega), (hWB.below hd).other _ _ (by show gB ≠ gC; omega), (HA.below hd).other _ _ (by show w.heap.size ≠ gC; omega), (bt hbw hd).setCell (show w.heap.size ≤ gC by omega) _⟩
            case measure => simp [intOf]; omega
          · obtain rfl : j2 = 31 := by omega
            rw [show xj h.fm P 31 = xl h.fm P by rw [← hl]; exact xj_all h.fm P hfp] at hWC
            have hxl2 : (xl h.fm P).length = 31 := by rw [xl_len h.fm P hfp]; exact hl
            have LPc := (show Hid _ from lparse_any hWC.rd 31 cC hxl2 hcC)
            have BL := (show Hid _ from fun (W : World) (hx : Wr W gP P) => cblind_any hx.rd 31 31 hP (by decide))
            have N00 := neq_lb00
            by_cases hbl : ov 0#32 P = 0#32
            · have hbb : (ov 0#32 P == 0#32) = true := by rw [hbl]; rfl
              rw [hbb] at BL
              generalize pL (xl h.fm P) = pq at LPc
              obtain ⟨eC, lC⟩ := pq
              clear hbl hbb
              go_wp2_with (first
                | (go_at_call 7; refine LPc.out.mono ?_; rintro e w6 ⟨rfl, hb6⟩; replace hWP := hWP.below hb6; replace hWB := hWB.below hb6; replace HA := HA.below hb6; replace hbw := bt hbw hb6)
                | (refine wpList_alLb rfl rfl ?_; intro w7 ZN hbN hs; clear hs)
                | (refine wpList_storeLb rfl _ _ rfl rfl w6.heap.size rfl rfl ZN ?_; intro w8 Z8 hT8; have hb8 := hT8.2.1 _ _ hbN (Nat.le_refl _); replace hWP := hWP.below hb8; replace hWB := hWB.below hb8; replace HA := HA.below hb8; replace hbw := bt hbw hb8; clear ZN)
                | (go_at_call 11; refine (BL.out _ hWP).mono ?_; rintro e w9 ⟨rfl, hb9⟩; replace hWB := hWB.below hb9; replace HA := HA.below hb9; replace Z8 := Z8.below hb9; replace hbw := bt hbw hb9)
                | (refine wpList_ldLg (by rfl) _ rfl w6.heap.size rfl Z8 ?_))
              obtain ⟨i0, hi0, hz0, hz1, hz2⟩ := info_parts infoI
              have hBlt := hWB.lt
              have hLlt := HA.lt
              obtain ⟨B, hB⟩ : ∃ B, B = w9.heap.size := ⟨_, rfl⟩
              have HG := (show Hid (gB < B ∧ w.heap.size < B ∧ w.heap.size < gB) from ⟨by omega, by omega, HgB.out⟩)
              have hBw := (show Hid (B ≤ w9.heap.size) from by show _ ≤ _; omega)
              clear hB hBlt hLlt
              go_loopw [15, 16, 17, 18, 19] (fun v i _ _ _ wr => ∃ (a : Nat) (K : List Nat) (L : List (BitVec 8)), a ≤ m ∧ K.length ≤ a ∧ i = .int .i64 a ∧ wr.ownsRow B 3 1 v K.length (vi K) ∧ Hid (Tk h.fm L K ∧ (K = [] → L = h.fm)) ∧ Wr wr gB L ∧ LbAt wr w.heap.size h ∧ Hid (B ≤ wr.heap.size) ∧ Below w.heap.size w wr) (fun _ i _ _ _ _ => m - (intOf i).toNat)
              case atStart => exact ⟨0, [], h.fm, Nat.zero_le _, Nat.le_refl _, rfl, by unfold vi; exact World.ownsRow_nil _ _ _ _, ⟨⟨rfl, fun r => by unfold se; rw [BitVec.xor_zero], List.nodup_nil, fun k hk => by simp at hk⟩, fun _ => rfl⟩, hWB, HA, hBw, hbw⟩
              case round =>
                clear hWB HA hBw hbw
                obtain ⟨a, K, L, ha, hKa, rfl, hO, HT, hWB, HA, hBw, hbw⟩ := hrel
                have hL : L.length = 31 := by rw [HT.out.1.len]; exact hl
                by_cases hlta : a < m
                · have hi : (a : Int) < (m : Int) := by omega
                  obtain ⟨b1, o1, rfl, hc⟩ := H2.out a hlta
                  have g1 := cell_below hc hbw
                  clear hc
                  obtain ⟨k, hk⟩ : ∃ k : Nat, (k : Int) = f a % 248 := ⟨(f a % 248).toNat, by omega⟩
                  have hkb : k < 248 := by omega
                  have hp : (wrap64 ((f a).tmod 248 + 248)).tmod 248 = (k : Int) := by rw [hk]; exact (place_numL (f a) 248 (by decide)).resolve_right (by omega)
                  clear hk
                  go_wp2_with (fail)
                  obtain ⟨pv, cv, rfl, _⟩ := owns_cells hO
                  go_loopw [18, 19] (fun t i wr => ∃ c : Nat, c ≤ K.length ∧ i = .int .i64 c ∧ t = .bool (decide (k ∈ K.take c)) ∧ wr.ownsRow B 3 1 (.slice pv K.length cv) K.length (vi K) ∧ Wr wr gB L ∧ LbAt wr w.heap.size h ∧ Hid (B ≤ wr.heap.size) ∧ Below w.heap.size w wr) (fun _ i _ => K.length - (intOf i).toNat)
                  case atStart => exact ⟨0, Nat.zero_le _, rfl, by simp, hO, hWB, HA, hBw, hbw⟩
                  case round =>
                    clear hO hWB HA hBw hbw g1
                    obtain ⟨c, hc, rfl, rfl, hO, hWB, HA, hBw, hbw⟩ := hrel
                    by_cases hlc : c < K.length
                    · have hic : (c : Int) < (K.length : Int) := by omega
                      obtain ⟨p', c', he, hcell⟩ := owns_cells hO
                      obtain ⟨g', hp', _, hcl⟩ := hcell (by omega)
                      injection he with he1 _ he3
                      rw [← he1] at hp'
                      have g2 := hcl c _ (vi_at K c hlc)
                      clear hcl hcell he3 he1
                      subst hp'
                      have hts := take_mem_succ K k c hlc
                      by_cases hin : k ∈ K.take c
                      · have d1 : decide (k ∈ K.take c) = true := by simpa using hin
                        have d2 : decide (k ∈ K.take (c + 1)) = true := by rw [decide_eq_true_iff, hts]; exact .inl hin
                        rw [d1]
                        clear d1 hts hin
                        go_wp2_with (fail)
                        go_roundw
                        case rel => exact ⟨c + 1, by omega, by go_num, by rw [d2], hO, hWB, HA, hBw, hbw⟩
                        case measure => simp [intOf]; omega
                      · have d1 : decide (k ∈ K.take c) = false := by simpa using hin
                        have d2 : decide (k ∈ K.take (c + 1)) = (((K[c] : Nat) : Int) == (k : Int)) := by
                          rw [Bool.eq_iff_iff, decide_eq_true_iff, hts, beq_iff_eq]
                          exact ⟨fun h => by rcases h with h | h; exact absurd h hin; omega, fun h => .inr (by omega)⟩
                        rw [d1]
                        clear d1 hts hin
                        generalize (K[c] : Nat) = kc at *
                        go_wp2_with (fail)
                        go_roundw
                        case rel => exact ⟨c + 1, by omega, by go_num, by rw [d2], hO, hWB, HA, hBw, hbw⟩
                        case measure => simp [intOf]; omega
                    · obtain rfl : c = K.length := by omega
                      by_cases hin : k ∈ K
                      · have d1 : decide (k ∈ K.take K.length) = true := by simpa using hin
                        rw [d1]
                        clear d1 hin
                        go_wp2_with (fail)
                        go_roundw
                        case rel => exact ⟨a + 1, K, L, by omega, by omega, by go_num, hO, HT, hWB, HA, hBw, hbw⟩
                        case measure => simp [intOf]; omega
                      · have d1 : decide (k ∈ K.take K.length) = false := by simpa using hin
                        rw [d1]
                        have hTn := (show Hid (Tk h.fm (tb L k) (K ++ [k]) ∧ (K ++ [k] = [] → tb L k = h.fm)) from ⟨HT.out.1.next (by rw [hl]; omega) hin, fun e => by simp at e⟩)
                        clear d1
                        have g1 := hWB.cell (i := k / 8) (by omega)
                        have g2 := hWB.frozen (k / 8)
                        have e1 := el_bitx (fn L (k / 8)) (k % 8)
                        have q1 : (k : Int) / 8 < 31 := by omega
                        have WS := (show Hid (∀ X : World, Wr X gB L → Wr (X.setCell ⟨gB, k / 8, none⟩ (.int .u8 (el (fn L (k / 8) ^^^ 1#8 <<< (k % 8))))) gB (tb L k)) from fun X hX => by unfold tb; exact hX.set (by omega) rfl)
                        go_wp2_with (at_builtin; refine wpList_append_own _ rfl (.tmp 124) (.tmp 126) 37 rfl B 3 i0 (.int .i64 0) 1 8 Try.underlying37 hi0 hz0 hz1 hz2 rfl (by decide) _ _ _ rfl (hO.alloc _) ⟨wr.heap.size, 0, none⟩ 1 1 [_] rfl rfl (one_new _ _ _) (one_cell _ _) (by unfold maxLen; omega) (by omega) (Nat.le_trans hBw.out (by simp)) ?_; intro v5 w5 hO5 hg5 _; have hW5 := (hWB.below (al _ _)).grown hg5 (hO.alloc _) HG.out.1; have hA5 := LbAt.keptv15 (HA.below (al _ _)) (fun b hv e => by have := (hO.lt b hv).1; have := HG.out.2.1; omega) hg5; have hb5 := below_append (balloc hbw _) (balloc hbw _).size hg5 (hO.alloc _) (Nat.le_of_lt HG.out.2.1); have hz5 : B ≤ w5.heap.size := Nat.le_trans (Nat.le_trans hBw.out (by simp)) hg5.size; clear g1 g2; have g1 := hW5.cell (i := k / 8) (by omega); have g2 := hW5.frozen (k / 8))
                        go_roundw
                        case rel => exact ⟨a + 1, K ++ [k], tb L k, by omega, by rw [List.length_append]; simp; omega, by go_num, by rw [List.length_append, vi_snoc]; exact owns_setCell hO5 HG.out.1 rfl, hTn, WS.out _ hW5, hA5.other _ _ (by show w.heap.size ≠ gB; have := HG.out.2.2; omega), (by show _ ≤ _; simpa using hz5), hb5.setCell (show w.heap.size ≤ gB by have := HG.out.2.2; omega) _⟩
                        case measure => simp [intOf]; omega
                · obtain rfl : a = m := by omega
                  obtain ⟨pv, cv, rfl, _⟩ := owns_cells hO
                  have LPb := (show Hid _ from lparse_any hWB.rd 31 cB hL hcB)
                  have Q0 := eql_lb00
                  have Q1 := fun W => eql_lbl h h W
                  rw [(lq_iff h h).2 rfl] at Q1
                  have hne := se_ne (8 * h.fm.length) K HT.out.1.nodup HT.out.1.lt (by rw [hl]; decide)
                  have TB := (show Hid _ from fun hs => told_bits h HT.out.1 hs)
                  have HK := (show Hid _ from HT.out.2)
                  clear hO hWB HT hL hBw
                  by_cases hk0 : K = []
                  · subst hk0
                    have hLf := HK.out rfl
                    rw [hLf, pL_fm h ok] at LPb
                    have z0 : ((([] : List Nat).length : Int) == 0) = true := rfl
                    clear hLf hne TB HK
                    go_wp2_with (first
                      | (go_at_call 7; refine LPb.out.mono ?_; rintro e x6 ⟨rfl, hb6⟩; replace HA := HA.below hb6; replace hbw := bt hbw hb6)
                      | (refine wpList_alLb rfl rfl ?_; intro x7 ZN hbN hs; clear hs)
                      | (refine wpList_storeLb rfl _ _ rfl rfl x6.heap.size rfl rfl ZN ?_; intro x8 Z8 hT8; have hb8 := hT8.2.1 _ _ hbN (Nat.le_refl _); replace HA := HA.below hb8; replace hbw := bt hbw hb8; clear ZN)
                      | (refine wpList_ldLg (by rfl) _ rfl x6.heap.size rfl Z8 ?_)
                      | (refine wpList_ldLg (by rfl) _ rfl w.heap.size rfl HA ?_))
                    go_ret
                    exact ⟨rfl, hbw⟩
                  · have hkl : 0 < K.length := List.length_pos_iff.2 hk0
                    clear hk0 HK
                    by_cases he : 3 < K.length ∧ K.length % 2 = 0
                    · clear TB hne
                      generalize pL L = pq at LPb
                      obtain ⟨eL, lL⟩ := pq
                      obtain ⟨he1, he2⟩ := he
                      generalize K.length = kl at *
                      have z0 : ((kl : Int) == 0) = false := by simp; omega
                      have z1 : decide ((3 : Int) < (kl : Int)) = true := by simp; omega
                      have z2 : (kl : Int) % 2 = 0 := by omega
                      go_wp2_with (first
                        | (go_at_call 7; refine LPb.out.mono ?_; rintro e x6 ⟨rfl, hb6⟩; replace HA := HA.below hb6; replace hbw := bt hbw hb6)
                        | (refine wpList_alLb rfl rfl ?_; intro x7 ZN hbN hs; clear hs)
                        | (refine wpList_storeLb rfl _ _ rfl rfl x6.heap.size rfl rfl ZN ?_; intro x8 Z8 hT8; have hb8 := hT8.2.1 _ _ hbN (Nat.le_refl _); replace HA := HA.below hb8; replace hbw := bt hbw hb8; clear ZN)
                        | (refine wpList_ldLg (by rfl) _ rfl x6.heap.size rfl Z8 ?_)
                        | (refine wpList_ldLg (by rfl) _ rfl w.heap.size rfl HA ?_))
                      go_ret
                      exact ⟨rfl, hbw⟩
                    · rw [TB.out (hne (by omega))] at LPb
                      clear TB hne
                      generalize K.length = kl at *
                      have z0 : ((kl : Int) == 0) = false := by simp; omega
                      by_cases he1 : 3 < kl
                      · have z1 : decide ((3 : Int) < (kl : Int)) = true := by simp; omega
                        have z2 : (kl : Int) % 2 = 1 := by omega
                        go_wp2_with (first
                          | (go_at_call 7; refine LPb.out.mono ?_; rintro e x6 ⟨rfl, hb6⟩; replace HA := HA.below hb6; replace hbw := bt hbw hb6)
                          | (refine wpList_alLb rfl rfl ?_; intro x7 ZN hbN hs; clear hs)
                          | (refine wpList_storeLb rfl _ _ rfl rfl x6.heap.size rfl rfl ZN ?_; intro x8 Z8 hT8; have hb8 := hT8.2.1 _ _ hbN (Nat.le_refl _); replace HA := HA.below hb8; replace hbw := bt hbw hb8; clear ZN)
                          | (refine wpList_ldLg (by rfl) _ rfl x6.heap.size rfl Z8 ?_)
                          | (refine wpList_ldLg (by rfl) _ rfl w.heap.size rfl HA ?_))
                        go_ret
                        exact ⟨rfl, hbw⟩
                      · have z1 : decide ((3 : Int) < (kl : Int)) = false := by simp; omega
                        go_wp2_with (first
                          | (go_at_call 7; refine LPb.out.mono ?_; rintro e x6 ⟨rfl, hb6⟩; replace HA := HA.below hb6; replace hbw := bt hbw hb6)
                          | (refine wpList_alLb rfl rfl ?_; intro x7 ZN hbN hs; clear hs)
                          | (refine wpList_storeLb rfl _ _ rfl rfl x6.heap.size rfl rfl ZN ?_; intro x8 Z8 hT8; have hb8 := hT8.2.1 _ _ hbN (Nat.le_refl _); replace HA := HA.below hb8; replace hbw := bt hbw hb8; clear ZN)
                          | (refine wpList_ldLg (by rfl) _ rfl x6.heap.size rfl Z8 ?_)
                          | (refine wpList_ldLg (by rfl) _ rfl w.heap.size rfl HA ?_))
                        go_ret
                        exact ⟨rfl, hbw⟩
            · have hbb : (ov 0#32 P == 0#32) = false := by simpa using hbl
              rw [hbb] at BL
              rw [told_pat h P hP hbl] at LPc
              clear hbl hbb
              go_wp2_with (first
                | (go_at_call 7; refine LPc.out.mono ?_; rintro e w6 ⟨rfl, hb6⟩; replace hWP := hWP.below hb6; replace hWB := hWB.below hb6; replace HA := HA.below hb6; replace hbw := bt hbw hb6)
                | (refine wpList_alLb rfl rfl ?_; intro w7 ZN hbN hs; clear hs)
                | (refine wpList_storeLb rfl _ _ rfl rfl w6.heap.size rfl rfl ZN ?_; intro w8 Z8 hT8; have hb8 := hT8.2.1 _ _ hbN (Nat.le_refl _); replace hWP := hWP.below hb8; replace hWB := hWB.below hb8; replace HA := HA.below hb8; replace hbw := bt hbw hb8; clear ZN)
                | (go_at_call 11; refine (BL.out _ hWP).mono ?_; rintro e w9 ⟨rfl, hb9⟩; replace hWB := hWB.below hb9; replace HA := HA.below hb9; replace Z8 := Z8.below hb9; replace hbw := bt hbw hb9)
                | (refine wpList_ldLg (by rfl) _ rfl w6.heap.size rfl Z8 ?_))
              obtain ⟨i0, hi0, hz0, hz1, hz2⟩ := info_parts infoI
              have hBlt := hWB.lt
              have hLlt := HA.lt
              obtain ⟨B, hB⟩ : ∃ B, B = w9.heap.size := ⟨_, rfl⟩
              have HG := (show Hid (gB < B ∧ w.heap.size < B ∧ w.heap.size < gB) from ⟨by omega, by omega, HgB.out⟩)
              have hBw := (show Hid (B ≤ w9.heap.size) from by show _ ≤ _; omega)
              clear hB hBlt hLlt
              go_loopw [15, 16, 17, 18, 19] (fun v i _ _ _ wr => ∃ (a : Nat) (K : List Nat) (L : List (BitVec 8)), a ≤ m ∧ K.length ≤ a ∧ i = .int .i64 a ∧ wr.ownsRow B 3 1 v K.length (vi K) ∧ Hid (Tk h.fm L K ∧ (K = [] → L = h.fm)) ∧ Wr wr gB L ∧ LbAt wr w.heap.size h ∧ Hid (B ≤ wr.heap.size) ∧ Below w.heap.size w wr) (fun _ i _ _ _ _ => m - (intOf i).toNat)
              case atStart => exact ⟨0, [], h.fm, Nat.zero_le _, Nat.le_refl _, rfl, by unfold vi; exact World.ownsRow_nil _ _ _ _, ⟨⟨rfl, fun r => by unfold se; rw [BitVec.xor_zero], List.nodup_nil, fun k hk => by simp at hk⟩, fun _ => rfl⟩, hWB, HA, hBw, hbw⟩
              case round =>
                clear hWB HA hBw hbw
                obtain ⟨a, K, L, ha, hKa, rfl, hO, HT, hWB, HA, hBw, hbw⟩ := hrel
                have hL : L.length = 31 := by rw [HT.out.1.len]; exact hl
                by_cases hlta : a < m
                · have hi : (a : Int) < (m : Int) := by omega
                  obtain ⟨b1, o1, rfl, hc⟩ := H2.out a hlta
                  have g1 := cell_below hc hbw
                  clear hc
                  obtain ⟨k, hk⟩ : ∃ k : Nat, (k : Int) = f a % 248 := ⟨(f a % 248).toNat, by omega⟩
                  have hkb : k < 248 := by omega
                  have hp : (wrap64 ((f a).tmod 248 + 248)).tmod 248 = (k : Int) := by rw [hk]; exact (place_numL (f a) 248 (by decide)).resolve_right (by omega)
                  clear hk
                  go_wp2_with (fail)
                  obtain ⟨pv, cv, rfl, _⟩ := owns_cells hO
                  go_loopw [18, 19] (fun t i wr => ∃ c : Nat, c ≤ K.length ∧ i = .int .i64 c ∧ t = .bool (decide (k ∈ K.take c)) ∧ wr.ownsRow B 3 1 (.slice pv K.length cv) K.length (vi K) ∧ Wr wr gB L ∧ LbAt wr w.heap.size h ∧ Hid (B ≤ wr.heap.size) ∧ Below w.heap.size w wr) (fun _ i _ => K.length - (intOf i).toNat)
                  case atStart => exact ⟨0, Nat.zero_le _, rfl, by simp, hO, hWB, HA, hBw, hbw⟩
                  case round =>
                    clear hO hWB HA hBw hbw g1
                    obtain ⟨c, hc, rfl, rfl, hO, hWB, HA, hBw, hbw⟩ := hrel
                    by_cases hlc : c < K.length
                    · have hic : (c : Int) < (K.length : Int) := by omega
                      obtain ⟨p', c', he, hcell⟩ := owns_cells hO
                      obtain ⟨g', hp', _, hcl⟩ := hcell (by omega)
                      injection he with he1 _ he3
                      rw [← he1] at hp'
                      have g2 := hcl c _ (vi_at K c hlc)
                      clear hcl hcell he3 he1
                      subst hp'
                      have hts := take_mem_succ K k c hlc
                      by_cases hin : k ∈ K.take c
                      · have d1 : decide (k ∈ K.take c) = true := by simpa using hin
                        have d2 : decide (k ∈ K.take (c + 1)) = true := by rw [decide_eq_true_iff, hts]; exact .inl hin
                        rw [d1]
                        clear d1 hts hin
                        go_wp2_with (fail)
                        go_roundw
                        case rel => exact ⟨c + 1, by omega, by go_num, by rw [d2], hO, hWB, HA, hBw, hbw⟩
                        case measure => simp [intOf]; omega
                      · have d1 : decide (k ∈ K.take c) = false := by simpa using hin
                        have d2 : decide (k ∈ K.take (c + 1)) = (((K[c] : Nat) : Int) == (k : Int)) := by
                          rw [Bool.eq_iff_iff, decide_eq_true_iff, hts, beq_iff_eq]
                          exact ⟨fun h => by rcases h with h | h; exact absurd h hin; omega, fun h => .inr (by omega)⟩
                        rw [d1]
                        clear d1 hts hin
                        generalize (K[c] : Nat) = kc at *
                        go_wp2_with (fail)
                        go_roundw
                        case rel => exact ⟨c + 1, by omega, by go_num, by rw [d2], hO, hWB, HA, hBw, hbw⟩
                        case measure => simp [intOf]; omega
                    · obtain rfl : c = K.length := by omega
                      by_cases hin : k ∈ K
                      · have d1 : decide (k ∈ K.take K.length) = true := by simpa using hin
                        rw [d1]
                        clear d1 hin
                        go_wp2_with (fail)
                        go_roundw
                        case rel => exact ⟨a + 1, K, L, by omega, by omega, by go_num, hO, HT, hWB, HA, hBw, hbw⟩
                        case measure => simp [intOf]; omega
                      · have d1 : decide (k ∈ K.take K.length) = false := by simpa using hin
                        rw [d1]
                        have hTn := (show Hid (Tk h.fm (tb L k) (K ++ [k]) ∧ (K ++ [k] = [] → tb L k = h.fm)) from ⟨HT.out.1.next (by rw [hl]; omega) hin, fun e => by simp at e⟩)
                        clear d1
                        have g1 := hWB.cell (i := k / 8) (by omega)
                        have g2 := hWB.frozen (k / 8)
                        have e1 := el_bitx (fn L (k / 8)) (k % 8)
                        have q1 : (k : Int) / 8 < 31 := by omega
                        have WS := (show Hid (∀ X : World, Wr X gB L → Wr (X.setCell ⟨gB, k / 8, none⟩ (.int .u8 (el (fn L (k / 8) ^^^ 1#8 <<< (k % 8))))) gB (tb L k)) from fun X hX => by unfold tb; exact hX.set (by omega) rfl)
                        go_wp2_with (at_builtin; refine wpList_append_own _ rfl (.tmp 124) (.tmp 126) 37 rfl B 3 i0 (.int .i64 0) 1 8 Try.underlying37 hi0 hz0 hz1 hz2 rfl (by decide) _ _ _ rfl (hO.alloc _) ⟨wr.heap.size, 0, none⟩ 1 1 [_] rfl rfl (one_new _ _ _) (one_cell _ _) (by unfold maxLen; omega) (by omega) (Nat.le_trans hBw.out (by simp)) ?_; intro v5 w5 hO5 hg5 _; have hW5 := (hWB.below (al _ _)).grown hg5 (hO.alloc _) HG.out.1; have hA5 := LbAt.keptv15 (HA.below (al _ _)) (fun b hv e => by have := (hO.lt b hv).1; have := HG.out.2.1; omega) hg5; have hb5 := below_append (balloc hbw _) (balloc hbw _).size hg5 (hO.alloc _) (Nat.le_of_lt HG.out.2.1); have hz5 : B ≤ w5.heap.size := Nat.le_trans (Nat.le_trans hBw.out (by simp)) hg5.size; clear g1 g2; have g1 := hW5.cell (i := k / 8) (by omega); have g2 := hW5.frozen (k / 8))
                        go_roundw
                        case rel => exact ⟨a + 1, K ++ [k], tb L k, by omega, by rw [List.length_append]; simp; omega, by go_num, by rw [List.length_append, vi_snoc]; exact owns_setCell hO5 HG.out.1 rfl, hTn, WS.out _ hW5, hA5.other _ _ (by show w.heap.size ≠ gB; have := HG.out.2.2; omega), (by show _ ≤ _; simpa using hz5), hb5.setCell (show w.heap.size ≤ gB by have := HG.out.2.2; omega) _⟩
                        case measure => simp [intOf]; omega
                · obtain rfl : a = m := by omega
                  obtain ⟨pv, cv, rfl, _⟩ := owns_cells hO
                  have LPb := (show Hid _ from lparse_any hWB.rd 31 cB hL hcB)
                  have Q0 := eql_lb00
                  have Q1 := fun W => eql_lbl h h W
                  rw [(lq_iff h h).2 rfl] at Q1
                  have hne := se_ne (8 * h.fm.length) K HT.out.1.nodup HT.out.1.lt (by rw [hl]; decide)
                  have TB := (show Hid _ from fun hs => told_bits h HT.out.1 hs)
                  have HK := (show Hid _ from HT.out.2)
                  clear hO hWB HT hL hBw
                  by_cases hk0 : K = []
                  · subst hk0
                    have hLf := HK.out rfl
                    rw [hLf, pL_fm h ok] at LPb
                    have z0 : ((([] : List Nat).length : Int) == 0) = true := rfl
                    clear hLf hne TB HK
                    go_wp2_with (first
                      | (go_at_call 7; refine LPb.out.mono ?_; rintro e x6 ⟨rfl, hb6⟩; replace HA := HA.below hb6; replace hbw := bt hbw hb6)
                      | (refine wpList_alLb rfl rfl ?_; intro x7 ZN hbN hs; clear hs)
                      | (refine wpList_storeLb rfl _ _ rfl rfl x6.heap.size rfl rfl ZN ?_; intro x8 Z8 hT8; have hb8 := hT8.2.1 _ _ hbN (Nat.le_refl _); replace HA := HA.below hb8; replace hbw := bt hbw hb8; clear ZN)
                      | (refine wpList_ldLg (by rfl) _ rfl x6.heap.size rfl Z8 ?_)
                      | (refine wpList_ldLg (by rfl) _ rfl w.heap.size rfl HA ?_))
                    go_ret
                    exact ⟨rfl, hbw⟩
                  · have hkl : 0 < K.length := List.length_pos_iff.2 hk0
                    clear hk0 HK
                    by_cases he : 3 < K.length ∧ K.length % 2 = 0
                    · clear TB hne
                      generalize pL L = pq at LPb
                      obtain ⟨eL, lL⟩ := pq
                      obtain ⟨he1, he2⟩ := he
                      generalize K.length = kl at *
                      have z0 : ((kl : Int) == 0) = false := by simp; omega
                      have z1 : decide ((3 : Int) < (kl : Int)) = true := by simp; omega
                      have z2 : (kl : Int) % 2 = 0 := by omega
                      go_wp2_with (first
                        | (go_at_call 7; refine LPb.out.mono ?_; rintro e x6 ⟨rfl, hb6⟩; replace HA := HA.below hb6; replace hbw := bt hbw hb6)
                        | (refine wpList_alLb rfl rfl ?_; intro x7 ZN hbN hs; clear hs)
                        | (refine wpList_storeLb rfl _ _ rfl rfl x6.heap.size rfl rfl ZN ?_; intro x8 Z8 hT8; have hb8 := hT8.2.1 _ _ hbN (Nat.le_refl _); replace HA := HA.below hb8; replace hbw := bt hbw hb8; clear ZN)
                        | (refine wpList_ldLg (by rfl) _ rfl x6.heap.size rfl Z8 ?_)
                        | (refine wpList_ldLg (by rfl) _ rfl w.heap.size rfl HA ?_))
                      go_ret
                      exact ⟨rfl, hbw⟩
                    · rw [TB.out (hne (by omega))] at LPb
                      clear TB hne
                      generalize K.length = kl at *
                      have z0 : ((kl : Int) == 0) = false := by simp; omega
                      by_cases he1 : 3 < kl
                      · have z1 : decide ((3 : Int) < (kl : Int)) = true := by simp; omega
                        have z2 : (kl : Int) % 2 = 1 := by omega
                        go_wp2_with (first
                          | (go_at_call 7; refine LPb.out.mono ?_; rintro e x6 ⟨rfl, hb6⟩; replace HA := HA.below hb6; replace hbw := bt hbw hb6)
                          | (refine wpList_alLb rfl rfl ?_; intro x7 ZN hbN hs; clear hs)
                          | (refine wpList_storeLb rfl _ _ rfl rfl x6.heap.size rfl rfl ZN ?_; intro x8 Z8 hT8; have hb8 := hT8.2.1 _ _ hbN (Nat.le_refl _); replace HA := HA.below hb8; replace hbw := bt hbw hb8; clear ZN)
                          | (refine wpList_ldLg (by rfl) _ rfl x6.heap.size rfl Z8 ?_)
                          | (refine wpList_ldLg (by rfl) _ rfl w.heap.size rfl HA ?_))
                        go_ret
                        exact ⟨rfl, hbw⟩
                      · have z1 : decide ((3 : Int) < (kl : Int)) = false := by simp; omega
                        go_wp2_with (first
                          | (go_at_call 7; refine LPb.out.mono ?_; rintro e x6 ⟨rfl, hb6⟩; replace HA := HA.below hb6; replace hbw := bt hbw hb6)
                          | (refine wpList_alLb rfl rfl ?_; intro x7 ZN hbN hs; clear hs)
                          | (refine wpList_storeLb rfl _ _ rfl rfl x6.heap.size rfl rfl ZN ?_; intro x8 Z8 hT8; have hb8 := hT8.2.1 _ _ hbN (Nat.le_refl _); replace HA := HA.below hb8; replace hbw := bt hbw hb8; clear ZN)
                          | (refine wpList_ldLg (by rfl) _ rfl x6.heap.size rfl Z8 ?_)
                          | (refine wpList_ldLg (by rfl) _ rfl w.heap.size rfl HA ?_))
                        go_ret
                        exact ⟨rfl, hbw⟩
theorem labelTold_walk (h : Lbl) (hi : h.In) {w : World} (q1 : Option Addr) (ys : List (BitVec 8)) (h1 : Rd w q1 ys) (n1 k1 : Nat) (hn1 : ys.length = n1)
    (q2 : Option Addr) (m k2 : Nat) (zs : List Int) (hm2 : m ≤ 17592186043904) (h2 : (q2 = none ∧ m = 0) ∨ ∃ x, q2 = some x ∧ ∀ i, i < m → w.cell? (x.add i) = some (.int .i64 (zs.getD i 0))) :
    Calls Try.prog 4 #[.agg h.cs, .slice q1 n1 k1, .slice q2 m k2] w fun e w' => e = .returned (.bool true) ∧ Below w.heap.size w w' := by
  by_cases h0 : h.ck = 0
  · rcases h2 with ⟨rfl, rfl⟩ | ⟨x, rfl, hcl⟩
    · exact labelTold_ok h hi h0 q1 ys h1 n1 k1 hn1 none 0 k2 (fun _ => 0) (by omega) (fun i hi => absurd hi (by omega))
    · refine labelTold_ok h hi h0 q1 ys h1 n1 k1 hn1 (some x) m k2 (fun i => zs.getD i 0) hm2 (fun i hi => ?_)
      obtain ⟨b, off, spot⟩ := x
      have hs : spot = none := by simpa [Addr.add] using World.cell?_spot (hcl 0 (by omega))
      subst hs
      refine ⟨b, off, rfl, ?_⟩
      rw [← add_pl]; exact hcl i hi
  · exact labelTold_no h hi h0 q1 n1 k1 q2 m k2
end
end Go.Proofs.Ytlhacjenpginbab
