/-
  'fit' of layer 8's laws: its blocks lie apart.
-/
import Derived.Test.YtfcjkaigmlfjnaaFv8
import Derived.Test.YtfcjkaigmlfjnaaOwn
import Derived.ArgAppend
import Derived.Deep.Cut
import Derived.Test.YtfcjkaigmlfjnaaEn9
import Derived.Test.YtfcjkaigmlfjnaaKz
import Derived.Deep.RegionLaw
import Derived.Deep.RegionHeld3
import Derived.Test.YtfcjkaigmlfjnaaAw8
import Derived.Test.YtfcjkaigmlfjnaaSi8
import Derived.StillTailTactics
namespace Go.Proofs.Ytfcjkaigmlfjnaa
open Go.RowKit
/-- No two of these rows lie in one block. -/
def Blz (us : List Value) : Prop := ∀ i j g, i < j → j < us.length → (us.getD i (.slice none 0 0)).ownBlock = some g → (us.getD j (.slice none 0 0)).ownBlock ≠ some g
def Bla (w : World) (B : Nat) (v : Value) (bl : List (List (BitVec 8))) : Prop := ∃ us, Or w B v us ∧ us.length = bl.length ∧ (∀ i, i < bl.length → Ow w B (us.getD i (.slice none 0 0)) (bl.getD i [])) ∧ Blz us
theorem Bla.bl {w : World} {B : Nat} {v : Value} {bl : List (List (BitVec 8))} (h : Bla w B v bl) : Bl w B v bl := by
  obtain ⟨us, h1, h2, h3, _⟩ := h
  exact ⟨us, h1, h2, h3⟩
theorem Bla.nil (w : World) (B : Nat) : Bla w B (.slice none 0 0) [] := ⟨[], Or.nil _ _, rfl, fun i hi => by simp at hi, fun i j g _ hj => by simp at hj⟩
theorem Bla.young {w w' : World} {B g : Nat} {v : Value} {bl : List (List (BitVec 8))} (h : Bla w B v bl) (hg : w.grownBy w' (some g)) (hgB : g < B) : Bla w' B v bl := by
  obtain ⟨us, h1, h2, h3, h4⟩ := h
  exact ⟨us, h1.young hg hgB, h2, fun i hi => (h3 i hi).young hg hgB, h4⟩
theorem Bla.mono {w : World} {B B' : Nat} {v : Value} {bl : List (List (BitVec 8))} (h : Bla w B v bl) (hB : B' ≤ B) : Bla w B' v bl := by
  obtain ⟨us, h1, h2, h3, h4⟩ := h
  exact ⟨us, own_mono h1 hB, h2, fun i hi => (h3 i hi).mono hB, h4⟩
theorem Bla.below {w w' : World} {B : Nat} {v : Value} {bl : List (List (BitVec 8))} (h : Bla w B v bl) (hb : Below w.heap.size w w') : Bla w' B v bl := by
  obtain ⟨us, h1, h2, h3, h4⟩ := h
  exact ⟨us, h1.below hb, h2, fun i hi => (h3 i hi).below hb, h4⟩
theorem Bla.push {w w' : World} {B : Nat} {v v' u : Value} {bl : List (List (BitVec 8))} {us : List Value} {x : List (BitVec 8)} (h1 : Or w B v us) (h2 : us.length = bl.length) (h3 : ∀ i, i < bl.length → Ow w B (us.getD i (.slice none 0 0)) (bl.getD i [])) (hu : Ow w B u x) (hO : Or w' B v' (us ++ [u])) (hg : w.grownBy w' v.ownBlock) (hz : Blz us) (hn : ∀ i, i < us.length → ∀ g, (us.getD i (.slice none 0 0)).ownBlock = some g → u.ownBlock ≠ some g) : Bla w' B v' (bl ++ [x]) := by
  refine ⟨us ++ [u], hO, by simp [h2], fun i hi => ?_, fun i j g hij hj hg0 => ?_⟩
  · rw [List.length_append, List.length_singleton] at hi
    by_cases hlt : i < bl.length
    · have := ow_or (h3 i hlt) h1 hg
      simpa [List.getD, List.getElem?_append_left hlt, List.getElem?_append_left (h2 ▸ hlt : i < us.length)] using this
    · have e : i = bl.length := by omega
      subst e
      have := ow_or hu h1 hg
      have e2 : (us ++ [u]).getD bl.length (.slice none 0 0) = u := by rw [← h2]; simp [List.getD]
      have e3 : (bl ++ [x]).getD bl.length [] = x := by simp [List.getD]
      rw [e2, e3]; exact this
  · rw [List.length_append, List.length_singleton] at hj
    have hi : i < us.length := by omega
    have e1 : (us ++ [u]).getD i (.slice none 0 0) = us.getD i (.slice none 0 0) := by simp [List.getD, List.getElem?_append_left hi]
    rw [e1] at hg0
    by_cases hlt : j < us.length
    · have e2 : (us ++ [u]).getD j (.slice none 0 0) = us.getD j (.slice none 0 0) := by simp [List.getD, List.getElem?_append_left hlt]
      rw [e2]
      exact hz i j g hij hlt hg0
    · have e : j = us.length := by omega
      subst e
      have e2 : (us ++ [u]).getD us.length (.slice none 0 0) = u := by simp [List.getD]
      rw [e2]
      exact hn i hi g hg0
section
attribute [local irreducible] Calls el Hd.cs Hd.sh szC szL
set_option maxHeartbeats 16000000 in
set_option maxRecDepth 1000000 in
theorem fit8_apart (h : Hd) (hi : h.In) (ok : h.Ok) {w : World} {p : Option Addr} {bl : List (List (BitVec 8))} (HB : Rws w p bl) (n c : Nat) (hn : bl.length = n) :
    Calls Try.prog 5 #[.agg (h.sh (.slice p n c))] w fun e w' => ∃ v, e = .returned (.tuple #[.agg (h.sh v), .bool true]) ∧ Bla w' w.heap.size v (fitB h.ls bl) ∧ Below w.heap.size w w' := by
  have al : ∀ (W : World) (o : Obj), Below W.heap.size W (W.alloc o) := fun W o => (Below.refl _ _).alloc (Nat.le_refl _) o
  have H0 := (show Hid (SdAt (w.alloc (.cells (h.sh (.slice p n c)) 31)) w.heap.size h (.slice p n c)) from heap_alloc_new w _)
  have CK := (show Hid _ from fun W => rcheck_any h hi (by have := ok.y2; omega) W)
  rw [(chk_ok h).2 ok] at CK
  have SZ := (show Hid _ from fun W => rsizes_any h.k h.m h.b h.sz hi.k hi.m hi.sz W)
  obtain ⟨z1, z2⟩ := h.ls_eq ok
  rw [z1, z2] at SZ
  unfold shC at SZ
  have HBw := (show Hid (Rws w p bl) from HB)
  have hlb := h.ls_bd ok
  have hld := h.len_bd ok
  have hlen : h.len = 40 + h.key.length + tot h.ls := rfl
  obtain ⟨L, HLS⟩ : ∃ L, Hid (h.ls = L) := ⟨_, rfl⟩
  rw [HLS.out] at SZ hlb hlen ⊢
  have htot : Hid (tot L ≤ 140737488355328) := (by show _ ≤ _; omega)
  clear z1 z2 hld hlen HB
  go_enter Try.func5, Try.ntmps5
  go_wp2_with (first
    | (refine wpList_loadIn rfl _ rfl w.heap.size rfl (SdAt.head (SdAt.below H0.out (al _ _))) ?_)
    | (go_at_call 14; refine (CK.out _).mono ?_; rintro e w1 ⟨rfl, hb1⟩; have H1 := (show Hid (SdAt w1 w.heap.size h (.slice p n c)) from SdAt.below (SdAt.below H0.out (al _ _)) hb1); have Z1 := (show Hid (SdAt w1 (w.heap.size + 1) hd0 (.slice none 0 0)) from by have h9 := SdAt.below (sz0 (heap_alloc_new (w.alloc (.cells (h.sh (.slice p n c)) 31)) _)) hb1; rw [al_sz] at h9; exact h9); have hbw1 := (show Hid (Below w.heap.size w w1) from bt (bt (al _ _) (al _ _)) hb1); obtain ⟨q8, q9, q10, q11, q12, q13, q14, q15⟩ := (SdAt.head H1.out).cells; clear H0)
    | (go_at_call 15; refine (SZ.out _).mono ?_; rintro e w2 ⟨vL, rfl, hO2, hb2⟩; have hOL := (show Hid (Oi w2 w1.heap.size vL L) from hO2); obtain ⟨pL, cL, rfl, hcL, VL⟩ := hO2.rd; have V2 := (show Hid (Vr w2 pL (ic L)) from VL); have H2 := (show Hid (SdAt w2 w.heap.size h (.slice p n c)) from SdAt.below H1.out hb2); have Z2 := (show Hid (SdAt w2 (w.heap.size + 1) hd0 (.slice none 0 0)) from SdAt.below Z1.out hb2); have hbw2 := (show Hid (Below w.heap.size w w2) from bt hbw1.out hb2); clear H1 Z1 hO2 VL)
    | (refine wpList_loadIn rfl _ rfl w.heap.size rfl (SdAt.head H2.out) ?_)
    | (refine wpList_bdS rfl _ rfl rfl ?_)
    | (refine wpList_stS h (.slice none 0 0) rfl rfl _ _ rfl rfl w2.heap.size rfl rfl (sz0 (heap_alloc_new w2 _)) ?_; intro w4 H4 hT4))
  have B24 := (show Hid (Below w2.heap.size w2 w4) from hT4.2.1 _ _ (al w2 _) (Nat.le_refl _))
  have hbw4 := (show Hid (Below w.heap.size w w4) from bt hbw2.out B24.out)
  have SZ4 := (show Hid (w.heap.size + 1 < w2.heap.size ∧ w2.heap.size < w4.heap.size) from ⟨Hm.lt Z2.out, Hm.lt H4⟩)
  have hHL := (show Hid _ from HLS.out)
  clear CK SZ hT4 q8 q9 q10 q11 q12 q13 q14 q15 hb1 hb2
  go_loopw [8] (fun i wr => ∃ (t : Nat) (v : Value), t ≤ L.length ∧ i = .int .i64 (t : Int) ∧ SdAt wr w2.heap.size h v ∧ Bla wr w4.heap.size v ((fitB L bl).take t) ∧ w4.grownBy wr (some w2.heap.size)) (fun i _ => L.length - (intOf i).toNat)
  case atStart => exact ⟨0, .slice none 0 0, Nat.zero_le _, rfl, H4, Bla.nil _ _, grefl _ _⟩
  case round =>
    obtain ⟨t, v, ht, rfl, hSd, hBl, hgr⟩ := hrel
    have hbr : Below w2.heap.size w2 wr := B24.out.grown hgr B24.out.size (fun k hk => by injection hk with hk; omega)
    have hbwr := (show Hid (Below w.heap.size w wr) from bt hbw2.out hbr)
    have hsr := hgr.size
    by_cases hlt : t < L.length
    · obtain ⟨pb, po, ep, hc0'⟩ := V2.out.num t hlt
      subst ep
      have hc' := cell_below hc0' hbr
      have s16 := (SdAt.below H2.out hbr).last
      have hi : (t : Int) < (L.length : Int) := by omega
      obtain ⟨us, hOr, hul, hrows, hzz⟩ := hBl
      have HZZ := (show Hid (Blz us) from hzz)
      clear hzz
      have hbl : ((fitB L bl).take t).length = t := by rw [List.length_take, fitB_len]; omega
      obtain ⟨q0, c0, hvq, hcq, _⟩ := hOr.rd
      rw [hul, hbl] at hvq hcq
      subst hvq
      have HRW := (show Hid (∀ i, i < ((fitB L bl).take t).length → Ow wr w4.heap.size (us.getD i (.slice none 0 0)) (((fitB L bl).take t).getD i [])) from hrows)
      have htk := tot_take L (t + 1)
      have hsc := tot_snoc L t hlt
      have FT0 := fitB_take L bl t hlt
      obtain ⟨z, hz⟩ : ∃ z, z = L.getD t 0 := ⟨_, rfl⟩
      rw [← hz] at hc' hsc FT0
      have hzb : z ≤ 140737488355328 := by have := htot.out; omega
      obtain ⟨x, hx⟩ : ∃ x, x = bl.getD t [] := ⟨_, rfl⟩
      rw [← hx] at FT0
      have FT := (show Hid _ from FT0)
      have mk := make_bytes z hzb wr
      have o16 := hSd.last
      have rc := fun W : World => cell_of_row (W.alloc (.cells #[.slice (some ⟨wr.heap.size, 0, none⟩) z z] 35)) W.heap.size 0 _ _ (0, 0) (heap_alloc_new W _)
      have AL := (show Hid (Below wr.heap.size wr (wr.alloc (.cells (Array.replicate z (.int .u8 0)) 5))) from al _ _)
      have s16a := cell_below s16 AL.out
      clear hrows htk hsc FT0 hz hc0'
      by_cases hin : t < n
      · have hin' : (t : Int) < (n : Int) := by omega
        obtain ⟨b1, o1, q1, c1, ep1, hc1, hle1, hRd1⟩ := Rws.row (Rws.below HBw.out hbwr.out) t (by omega)
        rw [← hx] at hc1 hle1 hRd1
        subst ep1
        have hc1a := cell_below hc1 AL.out
        have RX := (show Hid (Rd (wr.alloc (.cells (Array.replicate z (.int .u8 0)) 5)) q1 x) from hRd1.below AL.out)
        clear hc1 hRd1 hx
        go_wp2_with (first
          | (refine wpList_cpT rfl (.tmp 45) (.tmp 50) rfl wr.heap.size z rfl q1 c1 x rfl RX.out (heap_alloc_new wr _) hzb ?_; intro w6 hO6 hT6; have B6 := (show Hid (Below wr.heap.size wr w6) from hT6.2.1 _ _ AL.out (Nat.le_refl _)); have hO6' := (show Hid (Ow w6 w4.heap.size (.slice (some ⟨wr.heap.size, 0, none⟩) z z) (padT z x)) from hO6.mono hsr); have O7 := (show Hid (Or (w6.alloc (.cells #[.slice (some ⟨wr.heap.size, 0, none⟩) z z] 35)) w4.heap.size (.slice q0 t c0) us) from (hOr.below B6.out).below (al _ _)); have o16' := (SdAt.below hSd B6.out).last)
          | (at_builtin; refine wpList_apr rfl (.tmp 53) (.tmp 55) rfl w4.heap.size (.slice q0 t c0) us rfl O7.out ⟨w6.heap.size, 0, none⟩ 1 (.slice (some ⟨wr.heap.size, 0, none⟩) z z) rfl rfl (rc w6) (by omega) (Nat.le_trans (Nat.le_trans hsr B6.out.size) (al _ _).size) ?_; intro v8 w8 ho8 hg8; obtain ⟨p8, c8, hv8, hc8, _⟩ := ho8.rd; rw [List.length_append, hul, hbl, List.length_singleton] at hv8 hc8; subst hv8; have S8 := (show Hid (SdAt w8 w2.heap.size h (.slice q0 t c0)) from sd_or (SdAt.below (SdAt.below hSd B6.out) (al _ _)) O7.out hg8); have k8 := S8.out.last; have f8 := S8.out.frozen 16))
        go_roundw
        case rel =>
          have hd7 := bt B6.out (al w6 (.cells #[.slice (some ⟨wr.heap.size, 0, none⟩) z z] 35))
          have hB8 := Bla.push O7.out hul (fun i hi => (HRW.out i hi).below hd7) ((hO6'.out.below (al _ _))) ho8 hg8 HZZ.out (fun i hi g hg e => by
            have h1 := (HRW.out i (by rw [← hul]; exact hi)).lt hg
            have h2 : wr.heap.size = g := by simpa [Value.ownBlock] using e
            omega)
          have hg9 := grown_or (grown_below hgr hd7) O7.out (Nat.le_refl _) hg8
          refine ⟨t + 1, .slice p8 (t + 1) c8, hlt, by go_num, S8.out.set _, ?_, gtrans hg9 (grown_set _ _ _ _)⟩
          rw [FT.out]
          exact hB8.young (grown_set _ _ _ _) (by have := SZ4.out; omega)
        case measure => simp [intOf]; omega
      · have hin' : ¬ (t : Int) < (n : Int) := by omega
        have hx0 : x = [] := by rw [hx]; simp [List.getD, List.getElem?_eq_none (show bl.length ≤ t by omega)]
        obtain ⟨w6, hw6⟩ : ∃ w6, w6 = wr.alloc (.cells (Array.replicate z (.int .u8 0)) 5) := ⟨_, rfl⟩
        have B6 := (show Hid (Below wr.heap.size wr w6) from by rw [hw6]; exact AL.out)
        have hO6' := (show Hid (Ow w6 w4.heap.size (.slice (some ⟨wr.heap.size, 0, none⟩) z z) (padT z x)) from by rw [hw6, hx0]; exact (Ow.blank wr z hzb).mono hsr)
        rw [← hw6] at mk s16a
        clear hw6 AL hx hx0
        have O7 := (show Hid (Or (w6.alloc (.cells #[.slice (some ⟨wr.heap.size, 0, none⟩) z z] 35)) w4.heap.size (.slice q0 t c0) us) from (hOr.below B6.out).below (al _ _))
        have o16' := (SdAt.below hSd B6.out).last
        go_wp2_with (first
          | (at_builtin; refine wpList_apr rfl (.tmp 53) (.tmp 55) rfl w4.heap.size (.slice q0 t c0) us rfl O7.out ⟨w6.heap.size, 0, none⟩ 1 (.slice (some ⟨wr.heap.size, 0, none⟩) z z) rfl rfl (rc w6) (by omega) (Nat.le_trans (Nat.le_trans hsr B6.out.size) (al _ _).size) ?_; intro v8 w8 ho8 hg8; obtain ⟨p8, c8, hv8, hc8, _⟩ := ho8.rd; rw [List.length_append, hul, hbl, List.length_singleton] at hv8 hc8; subst hv8; have S8 := (show Hid (SdAt w8 w2.heap.size h (.slice q0 t c0)) from sd_or (SdAt.below (SdAt.below hSd B6.out) (al _ _)) O7.out hg8); have k8 := S8.out.last; have f8 := S8.out.frozen 16))
        go_roundw
        case rel =>
          have hd7 := bt B6.out (al w6 (.cells #[.slice (some ⟨wr.heap.size, 0, none⟩) z z] 35))
          have hB8 := Bla.push O7.out hul (fun i hi => (HRW.out i hi).below hd7) ((hO6'.out.below (al _ _))) ho8 hg8 HZZ.out (fun i hi g hg e => by
            have h1 := (HRW.out i (by rw [← hul]; exact hi)).lt hg
            have h2 : wr.heap.size = g := by simpa [Value.ownBlock] using e
            omega)
          have hg9 := grown_or (grown_below hgr hd7) O7.out (Nat.le_refl _) hg8
          refine ⟨t + 1, .slice p8 (t + 1) c8, hlt, by go_num, S8.out.set _, ?_, gtrans hg9 (grown_set _ _ _ _)⟩
          rw [FT.out]
          exact hB8.young (grown_set _ _ _ _) (by have := SZ4.out; omega)
        case measure => simp [intOf]; omega
    · obtain rfl : t = L.length := by omega
      rw [List.take_of_length_le (by rw [fitB_len]; exact Nat.le_refl _)] at hBl
      have ZR := SdAt.below Z2.out hbr
      obtain ⟨q0, c0, rfl, _, _⟩ := hBl.bl.rws
      go_wp2_with (first
        | (refine wpList_ldS rfl _ rfl w2.heap.size rfl hSd ?_)
        | (refine wpList_stS h (.slice q0 (fitB L bl).length c0) rfl rfl _ _ rfl rfl (w.heap.size + 1) rfl rfl ZR ?_; intro wB HB hTB))
      refine bodyPost_ret (v := .tuple #[.agg (h.sh (.slice q0 (fitB L bl).length c0)), .bool true]) (res_sd rfl _ _ (w.heap.size + 1) h (.slice q0 (fitB L bl).length c0) _ rfl rfl HB) rfl ⟨_, rfl, ?_, hTB.2.1 _ _ hbwr.out (by omega)⟩
      exact (hBl.young hTB.grown (by have := SZ4.out; omega)).mono (by have := SZ4.out; omega)
end
end Go.Proofs.Ytfcjkaigmlfjnaa
/-
  Rows that share nothing: what a law's 'apart' keeps while rows of one-cell elements are filled, grown and kept.
-/
namespace Go.Proofs.Ytfcjkaigmlfjnaa
open Go.RowKit

/-- A row of the call's own: the first n of its cap cells read so. -/
structure Mde (te : TypeId) (w : World) (g cap n : Nat) (x : Nat → Value) : Prop where
  cur : ∃ c, w.heap[g]? = some (.cells c te (0, 0)) ∧ c.size = cap ∧ c.toList.take n = (List.range n).map x
  le : n ≤ cap
  lim : cap ≤ maxLen
theorem mde_get (x : Nat → Value) (n i : Nat) (h : i < n) : ((List.range n).map x)[i]? = some (x i) := by rw [List.getElem?_map, List.getElem?_range h]; rfl
theorem Mde.cell {te : TypeId} {w : World} {g cap n : Nat} {x : Nat → Value} (h : Mde te w g cap n x) {i : Nat} (hi : i < n) : w.cell? ⟨g, i, none⟩ = some (x i) := by
  obtain ⟨c, hh, hs, ht⟩ := h.cur
  rw [cell_of_row w g i _ _ _ hh]
  have h1 : (c.toList.take n)[i]? = some (x i) := by rw [ht, mde_get x n i hi]
  rw [List.getElem?_take_of_lt hi] at h1
  simpa using h1
theorem Mde.frozen {te : TypeId} {w : World} {g cap n : Nat} {x : Nat → Value} (h : Mde te w g cap n x) (i : Nat) : w.frozen? ⟨g, i, none⟩ = false := by
  obtain ⟨c, hh, _⟩ := h.cur
  exact frozen_of_row w g i _ _ hh
theorem Mde.lt {te : TypeId} {w : World} {g cap n : Nat} {x : Nat → Value} (h : Mde te w g cap n x) : g < w.heap.size := by
  obtain ⟨c, hh, _⟩ := h.cur
  exact (Array.getElem?_eq_some_iff.1 hh).1
theorem Mde.keep {te : TypeId} {w w' : World} {g cap n : Nat} {x : Nat → Value} (h : Mde te w g cap n x) (e : w'.heap[g]? = w.heap[g]?) : Mde te w' g cap n x := by
  obtain ⟨c, hh, hs⟩ := h.cur
  exact ⟨⟨c, by rw [e]; exact hh, hs⟩, h.le, h.lim⟩
theorem Mde.below {te : TypeId} {w w' : World} {g cap n : Nat} {x : Nat → Value} (h : Mde te w g cap n x) (hb : Below w.heap.size w w') : Mde te w' g cap n x := h.keep (hb.block g h.lt)
theorem Mde.owns {te : TypeId} {w : World} {g cap n : Nat} {x : Nat → Value} (h : Mde te w g cap n x) : w.ownsRow 0 te 1 (.slice (some ⟨g, 0, none⟩) n cap) n ((List.range n).map x) := by
  obtain ⟨c, hh, hs, ht⟩ := h.cur
  exact ⟨by simp, .inr ⟨g, cap, c, rfl, Nat.zero_le _, hh, h.le, h.lim, by omega, by rw [Nat.mul_one]; exact ht⟩⟩
theorem mde_owns {te : TypeId} {w : World} {base g cap n : Nat} {x : Nat → Value} (h : w.ownsRow base te 1 (.slice (some ⟨g, 0, none⟩) n cap) n ((List.range n).map x)) : Mde te w g cap n x := by
  rcases h.2 with ⟨hv, _⟩ | ⟨g', cap', c, hv, hg, hh, hc, hm, hs, ht⟩
  · cases hv
  · cases hv
    exact ⟨⟨c, hh, by omega, by rw [← ht, Nat.mul_one]⟩, hc, hm⟩
theorem mde_of {te : TypeId} {w : World} {base n : Nat} {v : Value} {x : Nat → Value} (h : w.ownsRow base te 1 v n ((List.range n).map x)) (hn : 0 < n) : ∃ g cap, v = .slice (some ⟨g, 0, none⟩) n cap ∧ base ≤ g ∧ Mde te w g cap n x := by
  rcases h.2 with ⟨_, h0⟩ | ⟨g, cap, c, hv, hg, hh, hc, hm, hs, ht⟩
  · omega
  · exact ⟨g, cap, hv, hg, ⟨c, hh, by omega, by rw [← ht, Nat.mul_one]⟩, hc, hm⟩
theorem Mde.short {te : TypeId} {w : World} {g cap n m : Nat} {x : Nat → Value} (h : Mde te w g cap n x) (hm : m ≤ n) : Mde te w g cap m x := by
  obtain ⟨c, hh, hs, ht⟩ := h.cur
  refine ⟨⟨c, hh, hs, ?_⟩, Nat.le_trans hm h.le, h.lim⟩
  have h1 : (c.toList.take n).take m = ((List.range n).map x).take m := by rw [ht]
  rw [List.take_take, Nat.min_eq_left hm] at h1
  rw [h1, ← List.map_take, List.take_range, Nat.min_eq_left hm]
theorem Mde.congr {te : TypeId} {w : World} {g cap n : Nat} {x y : Nat → Value} (h : Mde te w g cap n x) (e : ∀ i, i < n → x i = y i) : Mde te w g cap n y := by
  obtain ⟨c, hh, hs, ht⟩ := h.cur
  refine ⟨⟨c, hh, hs, ?_⟩, h.le, h.lim⟩
  rw [ht]
  apply List.map_congr_left
  intro i hi; exact e i (List.mem_range.1 hi)
theorem Mde.src {te : TypeId} {w : World} {g cap n : Nat} {x : Nat → Value} (h : Mde te w g cap n x) : ∀ j u, ((List.range n).map x)[j]? = some u → w.cell? ((⟨g, 0, none⟩ : Addr).add j) = some u := by
  intro j u hu
  have hj : j < n := by
    have := (List.getElem?_eq_some_iff.1 hu).1
    simpa using this
  rw [mde_get x n j hj] at hu
  cases hu
  rw [show (⟨g, 0, none⟩ : Addr).add j = ⟨g, j, none⟩ by unfold Addr.add; split <;> simp_all]
  exact h.cell hj
/-- A place is written. -/
theorem Mde.set {te : TypeId} {w W : World} {g cap n : Nat} {x : Nat → Value} (h : Mde te w g cap n x) (k : Nat) (v : Value) (e : W.heap = (w.setCell ⟨g, k, none⟩ v).heap) : Mde te W g cap n (fun i => if i = k then v else x i) := by
  obtain ⟨c, hh, hs, ht⟩ := h.cur
  refine ⟨⟨c.setIfInBounds k v, ?_, by simpa using hs, ?_⟩, h.le, h.lim⟩
  · rw [e, heap_setCell_same w g k c te v hh]
  · rw [Array.toList_setIfInBounds, List.take_set, ht]
    apply List.ext_getElem?
    intro i
    by_cases hi : i < n
    · rw [mde_get _ n i hi, List.getElem?_set]
      by_cases ek : k = i
      · subst ek; simp [hi]
      · rw [if_neg ek, mde_get x n i hi, if_neg (fun h => ek h.symm)]
    · rw [List.getElem?_eq_none (by simp; omega), List.getElem?_eq_none (by simp; omega)]

/-- All but these R rows is as it was. -/
structure Kpt (R : Nat) (gs : Nat → Nat) (w w' : World) : Prop where
  os : w'.os = w.os
  tape : w'.tape = w.tape
  output : w'.output = w.output
  size : w.heap.size ≤ w'.heap.size
  block : ∀ k, k < w.heap.size → (∀ m, m < R → k ≠ gs m) → w'.heap[k]? = w.heap[k]?
theorem Kpt.refl (R : Nat) (gs : Nat → Nat) (w : World) : Kpt R gs w w := ⟨rfl, rfl, rfl, Nat.le_refl _, fun _ _ _ => rfl⟩
theorem Kpt.trans {R : Nat} {gs : Nat → Nat} {w w1 w2 : World} (h : Kpt R gs w w1) (k : Kpt R gs w1 w2) : Kpt R gs w w2 :=
  ⟨k.os.trans h.os, k.tape.trans h.tape, k.output.trans h.output, Nat.le_trans h.size k.size, fun j hj hm => (k.block j (Nat.lt_of_lt_of_le hj h.size) hm).trans (h.block j hj hm)⟩
theorem Kpt.set {R : Nat} {gs : Nat → Nat} {w w' : World} (h : Kpt R gs w w') {i j : Nat} (hi : i < R) (v : Value) : Kpt R gs w (w'.setCell ⟨gs i, j, none⟩ v) :=
  ⟨h.os, h.tape, h.output, by have := h.size; simpa using this, fun k hk hm => by rw [Below.heap_setCell _ _ _ _ (hm i hi)]; exact h.block k hk hm⟩
theorem Kpt.cell {R : Nat} {gs : Nat → Nat} {w w' : World} (h : Kpt R gs w w') {G m : Nat} {v : Value} (hc : w.cell? ⟨G, m, none⟩ = some v) (hG : ∀ m, m < R → G ≠ gs m) : w'.cell? ⟨G, m, none⟩ = some v := by
  rw [World.cell?_of_block (w := w) (h.block G (block_lt_of_cell hc) hG)]; exact hc
theorem Kpt.below {R : Nat} {gs : Nat → Nat} {w w1 w' : World} (h : Kpt R gs w w1) (hb : Below w1.heap.size w1 w') : Kpt R gs w w' :=
  ⟨hb.os.trans h.os, hb.tape.trans h.tape, hb.output.trans h.output, Nat.le_trans h.size hb.size, fun k hk hm => by rw [hb.block k (Nat.lt_of_lt_of_le hk h.size)]; exact h.block k hk hm⟩
theorem Kpt.grown {R : Nat} {gs : Nat → Nat} {w w1 w' : World} {row : Option Nat} (h : Kpt R gs w w1) (hg : w1.grownBy w' row) (hr : ∀ k, row = some k → w.heap.size ≤ k ∨ ∃ m, m < R ∧ k = gs m) : Kpt R gs w w' :=
  ⟨hg.os.trans h.os, hg.tape.trans h.tape, hg.output.trans h.output, Nat.le_trans h.size hg.size, fun k hk hm => by
    rw [hg.block k (Nat.lt_of_lt_of_le hk h.size) (fun e => by
      rcases hr k e.symm with h1 | ⟨m, h1, h2⟩
      · omega
      · exact hm m h1 h2)]
    exact h.block k hk hm⟩
theorem Kpt.toBelow {R : Nat} {gs : Nat → Nat} {w w' : World} (h : Kpt R gs w w') {B : Nat} (hB : B ≤ w.heap.size) (hl : ∀ m, m < R → B ≤ gs m) : Below B w w' :=
  ⟨h.os, h.tape, h.output, h.size, fun k hk => h.block k (by omega) (fun m hm e => by have := hl m hm; omega)⟩

/-- The rows while they are filled: those before i, and i up to j. -/
def fiv (a : Nat → Value) (f : Nat → Nat → Value) (i j m t : Nat) : Value := if m < i ∨ (m = i ∧ t < j) then a m else f m t
theorem fiv_start {te : TypeId} {R : Nat} {w : World} {gs cs ns : Nat → Nat} {a : Nat → Value} {f : Nat → Nat → Value} (h : ∀ m, m < R → Mde te w (gs m) (cs m) (ns m) (f m)) : ∀ m, m < R → Mde te w (gs m) (cs m) (ns m) (fiv a f 0 0 m) := fun m hm =>
  (h m hm).congr (fun t ht => by unfold fiv; rw [if_neg (by omega)])
theorem fiv_done {te : TypeId} {R : Nat} {w : World} {gs cs ns : Nat → Nat} {a : Nat → Value} {f : Nat → Nat → Value} (h : ∀ m, m < R → Mde te w (gs m) (cs m) (ns m) (fiv a f R 0 m)) : ∀ m, m < R → Mde te w (gs m) (cs m) (ns m) (fun _ => a m) := fun m hm =>
  (h m hm).congr (fun t ht => by unfold fiv; rw [if_pos (.inl hm)])
theorem fiv_next {te : TypeId} {R : Nat} {w : World} {gs cs ns : Nat → Nat} {a : Nat → Value} {f : Nat → Nat → Value} {i : Nat} (h : ∀ m, m < R → Mde te w (gs m) (cs m) (ns m) (fiv a f i (ns i) m)) : ∀ m, m < R → Mde te w (gs m) (cs m) (ns m) (fiv a f (i + 1) 0 m) := fun m hm =>
  (h m hm).congr (fun t ht => by
    unfold fiv
    by_cases em : m = i
    · subst em; rw [if_pos (.inr ⟨rfl, ht⟩), if_pos (.inl (by omega))]
    · by_cases h2 : m < i ∨ (m = i ∧ t < ns i)
      · rw [if_pos h2, if_pos (by omega)]
      · rw [if_neg h2, if_neg (by omega)])
theorem fiv_set {te : TypeId} {R : Nat} {w W : World} {gs cs ns : Nat → Nat} {a : Nat → Value} {f : Nat → Nat → Value} {i j : Nat} (h : ∀ m, m < R → Mde te w (gs m) (cs m) (ns m) (fiv a f i j m)) (hd : ∀ m m', m < R → m' < R → m ≠ m' → gs m ≠ gs m') (hi : i < R)
    (e : W.heap = (w.setCell ⟨gs i, j, none⟩ (a i)).heap) : ∀ m, m < R → Mde te W (gs m) (cs m) (ns m) (fiv a f i (j + 1) m) := by
  intro m hm
  by_cases em : m = i
  · subst em
    refine ((h m hm).set j (a m) e).congr (fun t ht => ?_)
    show (if t = j then a m else fiv a f m j m t) = fiv a f m (j + 1) m t
    unfold fiv
    by_cases et : t = j
    · subst et; rw [if_pos rfl, if_pos (.inr ⟨rfl, by omega⟩)]
    · rw [if_neg et]
      by_cases h2 : m < m ∨ (m = m ∧ t < j)
      · rw [if_pos h2, if_pos (by omega)]
      · rw [if_neg h2, if_neg (by omega)]
  · refine ((h m hm).congr (y := fiv a f i (j + 1) m) (fun t ht => ?_)).keep (by rw [e, Below.heap_setCell _ _ _ _ (hd m i hm hi em)])
    unfold fiv
    by_cases h2 : m < i ∨ (m = i ∧ t < j)
    · rw [if_pos h2, if_pos (by omega)]
    · rw [if_neg h2, if_neg (by omega)]

/-- What the grown slices of row i read as. -/
def mfv (ns : Nat → Nat) (a b : Nat → Value) (i j : Nat) : Value := if j < ns i then a i else b i
theorem mfv_lt {ns : Nat → Nat} {a b : Nat → Value} {i j : Nat} (h : j < ns i) : mfv ns a b i j = a i := by unfold mfv; rw [if_pos h]
theorem mfv_ge {ns : Nat → Nat} {a b : Nat → Value} {i j : Nat} (h : ns i ≤ j) : mfv ns a b i j = b i := by unfold mfv; rw [if_neg (by omega)]
theorem mfv_succ {ns : Nat → Nat} {a b : Nat → Value} {i n : Nat} (h : ns i ≤ n) : (List.range (n + 1)).map (mfv ns a b i) = (List.range n).map (mfv ns a b i) ++ [b i] := by
  rw [List.range_succ, List.map_append, List.map_cons, List.map_nil, mfv_ge h]
structure Enk where
  i : Nat
  B : Nat
  C : Nat
  L : Nat
def Enk.V (e : Enk) : Value := .slice (some ⟨e.B, 0, none⟩) e.L e.C
def Enk.I (e : Enk) : Value := .int .i64 (e.i : Int)
structure Gdk (te : TypeId) (R wd : Nat) (gs ns : Nat → Nat) (a b : Nat → Value) (b0 : Nat) (w : World) (e : Enk) : Prop where
  lt : e.i < R
  lo : ns e.i ≤ e.L
  hi : e.L ≤ ns e.i + wd
  pl : e.B = gs e.i ∨ b0 ≤ e.B
  made : Mde te w e.B e.C e.L (mfv ns a b e.i)
theorem Gdk.keep {te : TypeId} {R wd : Nat} {gs ns : Nat → Nat} {a b : Nat → Value} {b0 : Nat} {w w' : World} {e : Enk} (h : Gdk te R wd gs ns a b b0 w e) (hk : w'.heap[e.B]? = w.heap[e.B]?) : Gdk te R wd gs ns a b b0 w' e := ⟨h.lt, h.lo, h.hi, h.pl, h.made.keep hk⟩
theorem Gdk.below {te : TypeId} {R wd : Nat} {gs ns : Nat → Nat} {a b : Nat → Value} {b0 : Nat} {w w' : World} {e : Enk} (h : Gdk te R wd gs ns a b b0 w e) (hb : Below w.heap.size w w') : Gdk te R wd gs ns a b b0 w' e := h.keep (hb.block _ h.made.lt)
/-- Rows of unlike element types lie apart. -/
theorem mde_type {te : TypeId} {w w' : World} {base T n : Nat} {v : Value} {xs : List Value} {g cap m : Nat} {x : Nat → Value} (h : Mde te w g cap m x) (ho : w.ownsRow base T 1 v n xs) (hT : T ≠ te) (hg : w.grownBy w' v.ownBlock) : w'.heap[g]? = w.heap[g]? := by
  refine hg.block g h.lt ?_
  obtain ⟨c, hh, _⟩ := h.cur
  rcases ho.2 with ⟨rfl, _⟩ | ⟨g', cap', c', rfl, _, hh', _⟩
  · simp [Value.ownBlock]
  · intro e
    have e' : g = g' := by simpa [Value.ownBlock] using e
    rw [e', hh'] at hh
    simp at hh
    exact hT hh.2
theorem row_type {w w' : World} {base T n : Nat} {v : Value} {xs : List Value} {base' T' n' : Nat} {v' : Value} {xs' : List Value} (h : w.ownsRow base' T' 1 v' n' xs') (ho : w.ownsRow base T 1 v n xs) (hT : T' ≠ T) (hg : w.grownBy w' v.ownBlock) : w'.ownsRow base' T' 1 v' n' xs' := by
  refine h.kept hg ?_
  rcases h.2 with ⟨rfl, _⟩ | ⟨g', cap', c', rfl, _, hh', _⟩
  · exact .inl rfl
  · right
    rcases ho.2 with ⟨rfl, _⟩ | ⟨g, cap, c, rfl, _, hh, _⟩
    · simp [Value.ownBlock]
    · intro e
      have e' : g' = g := by simpa [Value.ownBlock] using e
      rw [e', hh] at hh'
      simp at hh'
      exact hT hh'.2.symm
theorem row_mde {te : TypeId} {w w' : World} {base T n : Nat} {v : Value} {xs : List Value} {B C L : Nat} {x : Nat → Value} (h : w.ownsRow base T 1 v n xs) (hm : Mde te w B C L x) (hT : T ≠ te) (hg : w.grownBy w' (some B)) : w'.ownsRow base T 1 v n xs := by
  refine h.kept hg ?_
  rcases h.2 with ⟨rfl, _⟩ | ⟨g', cap', c', rfl, _, hh', _⟩
  · exact .inl rfl
  · right
    obtain ⟨c, hh, _⟩ := hm.cur
    intro e
    have e' : g' = B := by simpa [Value.ownBlock] using e
    rw [e', hh] at hh'
    simp at hh'
    exact hT hh'.2.symm
theorem row_below {w w' : World} {base T n : Nat} {v : Value} {xs : List Value} (h : w.ownsRow base T 1 v n xs) (hb : Below w.heap.size w w') : w'.ownsRow base T 1 v n xs := by
  rcases h.2 with ⟨hv, h0⟩ | ⟨g, cap, c, hv, hg, hh, hc⟩
  · exact ⟨h.1, .inl ⟨hv, h0⟩⟩
  · refine ⟨h.1, .inr ⟨g, cap, c, hv, hg, ?_, hc⟩⟩
    have hl : g < w.heap.size := (Array.getElem?_eq_some_iff.1 hh).1
    rw [hb.block g hl]; exact hh
theorem grown_bl {w w' : World} (h : w.grownBy w' none) : Below w.heap.size w w' := ⟨h.os, h.tape, h.output, h.size, fun k hk => h.block k hk (by simp)⟩
theorem cell_new (w : World) (v : Value) (t : TypeId) : ∀ j u, ([v] : List Value)[j]? = some u → (w.alloc (.cells #[v] t)).cell? ((⟨w.heap.size, 0, none⟩ : Addr).add j) = some u := by
  intro j u hj
  match j, hj with
  | 0, hj =>
    simp at hj; subst hj
    rw [show (⟨w.heap.size, 0, none⟩ : Addr).add 0 = ⟨w.heap.size, 0, none⟩ by unfold Addr.add; split <;> simp_all, cell_of_row _ _ _ _ _ (0, 0) (heap_alloc_new w _)]; rfl
theorem one_vk (v : Value) (h : v.oneCell' = true) : ∀ u ∈ ([v] : List Value), u.oneCell' = true := by
  intro u hu; simp at hu; subst hu; exact h

/-- The rows that are looked at: unlike blocks, all there. -/
structure Apt (R : Nat) (gs : Nat → Nat) (w1 : World) : Prop where
  ne : ∀ m m', m < R → m' < R → m ≠ m' → gs m ≠ gs m'
  lt : ∀ m, m < R → gs m < w1.heap.size
/-- The state while slices grow and are kept: lists of slices (type tS) and of whose they are (type tI). -/
structure Sta (te tS tI : TypeId) (R wd : Nat) (gs cs ns : Nat → Nat) (a b : Nat → Value) (w1 w : World) (i n B C : Nat) (Kl Kw : List Enk) (vl vw : Value) : Prop where
  long : w.ownsRow w1.heap.size tS 1 vl Kl.length (Kl.map Enk.V)
  whose : w.ownsRow w1.heap.size tI 1 vw Kw.length (Kw.map Enk.I)
  good : ∀ e ∈ Kl, Gdk te R wd gs ns a b w1.heap.size w e
  rows : ∀ m, m < R → Mde te w (gs m) (cs m) (ns m) (fun _ => a m)
  kept : Kpt R gs w1 w
  made : Mde te w B C n (mfv ns a b i)
  pl : (B = gs i ∧ C = cs i) ∨ w1.heap.size ≤ B
  own : ∀ e ∈ Kl, e.B = B → e.i = i ∧ e.L ≤ n ∧ e.C = C
section
variable {te tS tI : TypeId} {R wd : Nat} {gs cs ns : Nat → Nat} {a b : Nat → Value} {w1 w : World} {i n B C : Nat} {Kl Kw : List Enk} {vl vw : Value}
theorem Sta.next {w' : World} (h : Sta te tS tI R wd gs cs ns a b w1 w i n B C Kl Kw vl vw) (hb : Below w.heap.size w w') : Sta te tS tI R wd gs cs ns a b w1 w' i n B C Kl Kw vl vw :=
  ⟨row_below h.long hb, row_below h.whose hb, fun e he => (h.good e he).below hb, fun m hm => (h.rows m hm).below hb, h.kept.below hb, h.made.below hb, h.pl, h.own⟩
theorem Sta.alloc (h : Sta te tS tI R wd gs cs ns a b w1 w i n B C Kl Kw vl vw) (o : Obj) : Sta te tS tI R wd gs cs ns a b w1 (w.alloc o) i n B C Kl Kw vl vw :=
  h.next ((Below.refl _ _).alloc (Nat.le_refl _) o)
theorem Sta.room {w2 : World} (h : Sta te tS tI R wd gs cs ns a b w1 w i n B C Kl Kw vl vw) (ap : Apt R gs w1) (hi : i < R) (hS : tS ≠ te) (hI : tI ≠ te) (hn : ns i ≤ n)
    (ho : w2.ownsRow 0 te 1 (.slice (some ⟨B, 0, none⟩) (n + 1) C) (n + 1) ((List.range n).map (mfv ns a b i) ++ [b i])) (hg : w.grownBy w2 (some B)) : Sta te tS tI R wd gs cs ns a b w1 w2 i (n + 1) B C Kl Kw vl vw := by
  have hM : Mde te w2 B C (n + 1) (mfv ns a b i) := mde_owns (by rw [mfv_succ hn]; exact ho)
  refine ⟨row_mde h.long h.made hS hg, row_mde h.whose h.made hI hg, fun e he => ?_, fun m hm => ?_, h.kept.grown hg (fun k hk => ?_), hM, h.pl, fun e he eb => ?_⟩
  · have hgd := h.good e he
    by_cases eb : e.B = B
    · obtain ⟨h1, h2, h3⟩ := h.own e he eb
      exact ⟨hgd.lt, hgd.lo, hgd.hi, hgd.pl, by rw [eb, h3, h1]; exact hM.short (by omega)⟩
    · exact hgd.keep (hg.block e.B hgd.made.lt (by simpa using eb))
  · by_cases eb : gs m = B
    · have hmi : m = i := by
        rcases h.pl with ⟨h1, _⟩ | h1
        · rcases Nat.decEq m i with h2 | h2
          · exact absurd (eb.trans h1) (ap.ne m i hm hi h2)
          · exact h2
        · have := ap.lt m hm; omega
      subst hmi
      rcases h.pl with ⟨h1, h2⟩ | h1
      · rw [eb, ← h2]
        exact (hM.short (by omega)).congr (fun t ht => mfv_lt ht)
      · have := ap.lt m hm; omega
    · exact (h.rows m hm).keep (hg.block _ (h.rows m hm).lt (by simpa using eb))
  · cases hk
    rcases h.pl with ⟨h1, _⟩ | h1
    · exact .inr ⟨i, hi, h1⟩
    · exact .inl h1
  · obtain ⟨h1, h2, h3⟩ := h.own e he eb
    exact ⟨h1, by omega, h3⟩
theorem Sta.grow {w2 : World} {v2 : Value} (h : Sta te tS tI R wd gs cs ns a b w1 w i n B C Kl Kw vl vw) (hn : ns i ≤ n)
    (ho : w2.ownsRow w.heap.size te 1 v2 (n + 1) ((List.range n).map (mfv ns a b i) ++ [b i])) (hg : w.grownBy w2 none) : ∃ B2 C2, v2 = .slice (some ⟨B2, 0, none⟩) (n + 1) C2 ∧ Sta te tS tI R wd gs cs ns a b w1 w2 i (n + 1) B2 C2 Kl Kw vl vw := by
  have ho' : w2.ownsRow w.heap.size te 1 v2 (n + 1) ((List.range (n + 1)).map (mfv ns a b i)) := by rw [mfv_succ hn]; exact ho
  obtain ⟨B2, C2, hv, hB2, hM⟩ := mde_of ho' (by omega)
  have hb := grown_bl hg
  refine ⟨B2, C2, hv, ⟨row_below h.long hb, row_below h.whose hb, fun e he => (h.good e he).below hb, fun m hm => (h.rows m hm).below hb, h.kept.below hb, hM, .inr (Nat.le_trans h.kept.size hB2), fun e he eb => ?_⟩⟩
  have := (h.good e he).made.lt
  omega
theorem Sta.keepL {w2 : World} {v2 : Value} (h : Sta te tS tI R wd gs cs ns a b w1 w i n B C Kl Kw vl vw) (hR : i < R) (hS : tS ≠ te) (hSI : tI ≠ tS) (hi : ns i ≤ n) (hh : n ≤ ns i + wd)
    (ho : w2.ownsRow w1.heap.size tS 1 v2 (Kl.length + 1) (Kl.map Enk.V ++ [.slice (some ⟨B, 0, none⟩) n C])) (hg : w.grownBy w2 vl.ownBlock) : Sta te tS tI R wd gs cs ns a b w1 w2 i n B C (Kl ++ [⟨i, B, C, n⟩]) Kw v2 vw := by
  have hM := h.made.keep (mde_type h.made h.long hS hg)
  refine ⟨by simpa [Enk.V] using ho, row_type h.whose h.long hSI hg, fun e he => ?_, fun m hm => (h.rows m hm).keep (mde_type (h.rows m hm) h.long hS hg), h.kept.grown hg (fun k hk => .inl (h.long.lt k hk).1), hM, h.pl, fun e he eb => ?_⟩
  · rcases List.mem_append.1 he with he | he
    · exact (h.good e he).keep (mde_type (h.good e he).made h.long hS hg)
    · simp at he; subst he
      refine ⟨hR, hi, hh, ?_, hM⟩
      rcases h.pl with ⟨h1, _⟩ | h1
      · exact .inl h1
      · exact .inr h1
  · rcases List.mem_append.1 he with he | he
    · exact h.own e he eb
    · simp at he; subst he
      exact ⟨rfl, Nat.le_refl _, rfl⟩
theorem Sta.keepW {w2 : World} {v2 : Value} (h : Sta te tS tI R wd gs cs ns a b w1 w i n B C Kl Kw vl vw) (hI : tI ≠ te) (hSI : tI ≠ tS) (e0 : Enk) (h0 : e0.i = i)
    (ho : w2.ownsRow w1.heap.size tI 1 v2 (Kw.length + 1) (Kw.map Enk.I ++ [.int .i64 (i : Int)])) (hg : w.grownBy w2 vw.ownBlock) : Sta te tS tI R wd gs cs ns a b w1 w2 i n B C Kl (Kw ++ [e0]) vl v2 := by
  have hM := h.made.keep (mde_type h.made h.whose hI hg)
  exact ⟨row_type h.long h.whose hSI.symm hg, by simpa [Enk.I, h0] using ho, fun e he => (h.good e he).keep (mde_type (h.good e he).made h.whose hI hg), fun m hm => (h.rows m hm).keep (mde_type (h.rows m hm) h.whose hI hg), h.kept.grown hg (fun k hk => .inl (h.whose.lt k hk).1), hM, h.pl, h.own⟩
end
/-- A list of the call's own as a slice whose cells read so. -/
theorem rowForm {w : World} {base T n : Nat} {v : Value} {xs : List Value} (h : w.ownsRow base T 1 v n xs) : ∃ p cap, v = .slice p n cap ∧ Hid (∀ j u, xs[j]? = some u → ∃ g, p = some ⟨g, 0, none⟩ ∧ w.cell? ⟨g, j, none⟩ = some u) := by
  rcases h.2 with ⟨hv, h0⟩ | ⟨g, cap, c, hv, hg, hh, hc, hm, hs, ht⟩
  · refine ⟨none, 0, by rw [hv, h0], fun j u hu => ?_⟩
    have h1 := h.1
    rw [h0] at h1
    have : xs = [] := List.eq_nil_of_length_eq_zero (by omega)
    subst this; cases hu
  · refine ⟨_, cap, hv, fun j u hu => ⟨g, rfl, ?_⟩⟩
    rw [cell_of_row w g j _ _ _ hh]
    rw [← ht, Nat.mul_one] at hu
    have hj : j < n := by
      have := (List.getElem?_eq_some_iff.1 hu).1
      simp at this; omega
    rw [List.getElem?_take_of_lt hj] at hu
    simpa using hu
theorem entAt {w : World} {p q : Option Addr} {K : List Enk} (Hl : ∀ j u, (K.map Enk.V)[j]? = some u → ∃ g, p = some ⟨g, 0, none⟩ ∧ w.cell? ⟨g, j, none⟩ = some u) (Hw : ∀ j u, (K.map Enk.I)[j]? = some u → ∃ g, q = some ⟨g, 0, none⟩ ∧ w.cell? ⟨g, j, none⟩ = some u) {k : Nat} (hk : k < K.length) :
    ∃ e ∈ K, ∃ gl gw, p = some ⟨gl, 0, none⟩ ∧ q = some ⟨gw, 0, none⟩ ∧ w.cell? ⟨gl, k, none⟩ = some e.V ∧ w.cell? ⟨gw, k, none⟩ = some e.I := by
  obtain ⟨gl, h1, h2⟩ := Hl k (K[k]).V (by rw [List.getElem?_map, List.getElem?_eq_getElem hk]; rfl)
  obtain ⟨gw, h3, h4⟩ := Hw k (K[k]).I (by rw [List.getElem?_map, List.getElem?_eq_getElem hk]; rfl)
  exact ⟨K[k], List.getElem_mem hk, gl, gw, h1, h3, h2, h4⟩
/-- What the kit needs of an element's type. -/
structure Inf (P : Program) (t e : TypeId) (bytes : Nat) (z : Value) : Prop where
  un : P.underlying t = some (.slice e)
  inf : ∃ i, P.info? e = some i ∧ i.zero = some z ∧ i.size = 1 ∧ i.bytes = bytes
  one : z.cells.size = 1
theorem addr0 (g : Nat) : ∀ j u (v : Value), ([v] : List Value)[j]? = some u → (⟨g, 0, none⟩ : Addr).add j = ⟨g, 0, none⟩ ∧ u = v := by
  intro j u v hj
  match j, hj with
  | 0, hj =>
    simp at hj; subst hj
    exact ⟨by unfold Addr.add; split <;> simp_all, rfl⟩
section
variable {P : Program} {ops : Array Oper} {rest : List Oper} {o : Oper} {ac : Act} {Q : Exit → Act → World → Prop} {te tS tI : TypeId} {R wd : Nat} {gs cs ns : Nat → Nat} {a b : Nat → Value} {w1 w : World} {i n B C : Nat} {Kl Kw : List Enk} {vl vw : Value}
/-- 'g = append(g, mark)'. -/
theorem wpList_akG (hgd : o.guard = none) (s x : Operand) {t : TypeId} (ho : o.op = .call { callee := .builtin .append, args := #[s, x], argTypes := #[t, t] }) {by1 : Nat} {z : Value} (hI : Inf P t te by1 z)
    (h : Sta te tS tI R wd gs cs ns a b w1 w i n B C Kl Kw vl vw) (ap : Apt R gs w1) (hi : i < R) (hS : tS ≠ te) (hW : tI ≠ te) (hn : ns i ≤ n) (hs : ac.eval s = .slice (some ⟨B, 0, none⟩) n C) (g c : Nat) (hx : ac.eval x = .slice (some ⟨g, 0, none⟩) 1 c)
    (hc : w.cell? ⟨g, 0, none⟩ = some (b i)) (h1 : (b i).oneCell' = true) (m1 : n + 1 ≤ maxLen) (m2 : (n + 1) * by1 ≤ 140737488355328)
    (K : ∀ B2 C2 w2, Sta te tS tI R wd gs cs ns a b w1 w2 i (n + 1) B2 C2 Kl Kw vl vw → wpList P ops Q rest (ac.put o.dst (.slice (some ⟨B2, 0, none⟩) (n + 1) C2)) w2) : wpList P ops Q (o :: rest) ac w := by
  obtain ⟨inf, hi1, hz, hsz, hby⟩ := hI.inf
  have hnew : ∀ j u, ([b i] : List Value)[j]? = some u → w.cell? ((⟨g, 0, none⟩ : Addr).add j) = some u := fun j u hj => by
    obtain ⟨h2, h3⟩ := addr0 g j u _ hj
    rw [h2, h3]; exact hc
  by_cases hr : n < C
  · refine wpList_append_fits w hgd s x t ho 0 te inf 1 hI.un hi1 hsz B n C ((List.range n).map (mfv ns a b i)) hs h.made.owns ⟨g, 0, none⟩ 1 c [b i] hx rfl hnew (one_vk _ h1) (by omega) ?_
    intro w2 ho2 hg2
    exact K B C w2 (h.room ap hi hS hW hn ho2 hg2)
  · refine wpList_append_grows w hgd s x t ho te inf z 1 by1 hI.un hi1 hz hsz hby hI.one (by decide) (some ⟨B, 0, none⟩) n C ((List.range n).map (mfv ns a b i)) hs (fun h => by cases h) (by simp) (fun b' hb => by cases hb; exact h.made.src) ⟨g, 0, none⟩ 1 c [b i] hx rfl hnew (one_vk _ h1) (by omega) m1 m2 ?_
    intro v2 w2 ho2 hg2
    obtain ⟨B2, C2, rfl, hS2⟩ := h.grow hn ho2 hg2
    exact K B2 C2 w2 hS2
/-- 'more = append(more, g)'. -/
theorem wpList_akL (hgd : o.guard = none) (s x : Operand) {t : TypeId} (ho : o.op = .call { callee := .builtin .append, args := #[s, x], argTypes := #[t, t] }) {z : Value} (hI : Inf P t tS 24 z)
    (h : Sta te tS tI R wd gs cs ns a b w1 w i n B C Kl Kw vl vw) (hi : i < R) (hS : tS ≠ te) (hSI : tI ≠ tS) (hn : ns i ≤ n) (hh : n ≤ ns i + wd) (hs : ac.eval s = vl) (g c : Nat) (hx : ac.eval x = .slice (some ⟨g, 0, none⟩) 1 c)
    (hc : w.cell? ⟨g, 0, none⟩ = some (.slice (some ⟨B, 0, none⟩) n C)) (m1 : (Kl.length + 1) * 24 ≤ 140737488355328)
    (K : ∀ v2 w2, Sta te tS tI R wd gs cs ns a b w1 w2 i n B C (Kl ++ [⟨i, B, C, n⟩]) Kw v2 vw → wpList P ops Q rest (ac.put o.dst v2) w2) : wpList P ops Q (o :: rest) ac w := by
  obtain ⟨inf, hi1, hz, hsz, hby⟩ := hI.inf
  refine wpList_append_own w hgd s x t ho w1.heap.size tS inf z 1 24 hI.un hi1 hz hsz hby hI.one (by decide) _ _ _ hs h.long ⟨g, 0, none⟩ 1 c [.slice (some ⟨B, 0, none⟩) n C] hx rfl (fun j u hj => by
    obtain ⟨h2, h3⟩ := addr0 g j u _ hj
    rw [h2, h3]; exact hc) (one_vk _ rfl) (by unfold maxLen; omega) m1 h.kept.size ?_
  intro v2 w2 ho2 hg2 _
  exact K v2 w2 (h.keepL hi hS hSI hn hh ho2 hg2)
/-- 'whose = append(whose, i)'. -/
theorem wpList_akW (hgd : o.guard = none) (s x : Operand) {t : TypeId} (ho : o.op = .call { callee := .builtin .append, args := #[s, x], argTypes := #[t, t] }) {z : Value} (hI : Inf P t tI 8 z)
    (h : Sta te tS tI R wd gs cs ns a b w1 w i n B C Kl Kw vl vw) (hW : tI ≠ te) (hSI : tI ≠ tS) (e0 : Enk) (h0 : e0.i = i) (hs : ac.eval s = vw) (g c : Nat) (hx : ac.eval x = .slice (some ⟨g, 0, none⟩) 1 c)
    (hc : w.cell? ⟨g, 0, none⟩ = some (.int .i64 (i : Int))) (m1 : (Kw.length + 1) * 8 ≤ 140737488355328)
    (K : ∀ v2 w2, Sta te tS tI R wd gs cs ns a b w1 w2 i n B C Kl (Kw ++ [e0]) vl v2 → wpList P ops Q rest (ac.put o.dst v2) w2) : wpList P ops Q (o :: rest) ac w := by
  obtain ⟨inf, hi1, hz, hsz, hby⟩ := hI.inf
  refine wpList_append_own w hgd s x t ho w1.heap.size tI inf z 1 8 hI.un hi1 hz hsz hby hI.one (by decide) _ _ _ hs h.whose ⟨g, 0, none⟩ 1 c [.int .i64 (i : Int)] hx rfl (fun j u hj => by
    obtain ⟨h2, h3⟩ := addr0 g j u _ hj
    rw [h2, h3]; exact hc) (one_vk _ rfl) (by unfold maxLen; omega) m1 h.kept.size ?_
  intro v2 w2 ho2 hg2 _
  exact K v2 w2 (h.keepW hW hSI e0 h0 ho2 hg2)
end
theorem cell_one (w : World) (v : Value) (t : TypeId) : (w.alloc (.cells #[v] t)).cell? ⟨w.heap.size, 0, none⟩ = some v := by
  rw [cell_of_row _ _ _ _ _ (0, 0) (heap_alloc_new w _)]; rfl
end Go.Proofs.Ytfcjkaigmlfjnaa
/-
  Blocks that lie apart, opened; each byte turned by one.
-/
namespace Go.Proofs.Ytfcjkaigmlfjnaa
open Go.RowKit
theorem bls_pos8 (k s : Nat) (hk : 1 ≤ k) (hs : 1 ≤ s) : ∀ f l t, t < (bls k s f l).length → 0 < (bls k s f l).getD t 0
  | 0, l, t, ht => by unfold bls at ht; simp at ht
  | f + 1, l, t, ht => by
    unfold bls at ht ⊢
    by_cases h0 : l = 0
    · rw [if_pos h0] at ht; simp at ht
    · rw [if_neg h0] at ht ⊢
      cases t with
      | zero =>
        simp only [List.getD_cons_zero]
        apply Nat.div_pos _ (by omega)
        have : 1 ≤ min l s := by omega
        omega
      | succ t =>
        simp only [List.getD_cons_succ]
        exact bls_pos8 k s hk hs f (l - s) t (by simpa using ht)
theorem Hd.ls_pos8 (h : Hd) (ok : h.Ok) : ∀ t, t < h.ls.length → 0 < h.ls.getD t 0 := by
  intro t ht
  have h1 := ok.k1
  have h2 := ok.b1
  refine bls_pos8 _ _ (by omega) ?_ _ _ t ht
  have : 1 * 1 ≤ h.k * h.b := Int.mul_le_mul h1 h2 (by decide) (by omega)
  omega
/-- Each byte is one more. -/
def inc (bl : List (List (BitVec 8))) : List (List (BitVec 8)) := bl.map fun r => r.map (· + 1#8)
theorem inc_len (bl : List (List (BitVec 8))) : (inc bl).length = bl.length := by unfold inc; simp
theorem inc_ls (bl : List (List (BitVec 8))) : (inc bl).map List.length = bl.map List.length := by unfold inc; simp
theorem inc_row (bl : List (List (BitVec 8))) (i : Nat) : (inc bl).getD i [] = (bl.getD i []).map (· + 1#8) := by
  unfold inc
  by_cases hi : i < bl.length
  · simp [List.getD, hi]
  · simp [List.getD, List.getElem?_eq_none (show bl.length ≤ i by omega)]
theorem inc_at (bl : List (List (BitVec 8))) (i t : Nat) (ht : t < (bl.getD i []).length) : fn ((inc bl).getD i []) t = fn (bl.getD i []) t + 1#8 := by
  rw [inc_row]
  unfold fn
  generalize bl.getD i [] = r at ht ⊢
  rw [List.getD, List.getD, List.getElem?_map, List.getElem?_eq_getElem ht]
  rfl
theorem inc_ne {bl : List (List (BitVec 8))} (h0 : 0 < (bl.getD 0 []).length) : inc bl ≠ bl := by
  intro e
  have h1 := inc_at bl 0 0 h0
  rw [e] at h1
  have : ∀ x : BitVec 8, x ≠ x + 1#8 := by decide
  exact this _ h1
theorem el_inc (x : BitVec 8) : IntKind.u8.wrap (el x + 1) = el (x + 1#8) := by
  unfold el
  revert x
  decide
theorem fit_mayE (h : Hd) (ok : h.Ok) (bl : List (List (BitVec 8))) : May h (fitB h.ls bl) := ⟨ok, fitB_ls _ _⟩
theorem inc_may {h : Hd} {bl : List (List (BitVec 8))} (hm : May h bl) : May h (inc bl) := ⟨hm.1, by rw [inc_ls]; exact hm.2⟩
theorem en_mayE {h : Hd} {bl : List (List (BitVec 8))} (hm : May h bl) : enE h bl = 0 ∧ enL h bl = h.fm bl := by
  have e : enE h bl = 0 := by unfold enE; rw [if_neg (by rw [(chk_ok h).2 hm.1]; simp), if_pos hm.2]
  exact ⟨e, by unfold enL; rw [if_pos e]⟩
theorem fitB_row (L : List Nat) (bl : List (List (BitVec 8))) (i : Nat) : ((fitB L bl).getD i []).length = L.getD i 0 := by
  by_cases hi : i < L.length
  · unfold fitB; simp [List.getD, hi, padT_len]
  · rw [List.getD, List.getElem?_eq_none (by rw [fitB_len]; omega), List.getD, List.getElem?_eq_none (by omega)]; rfl
theorem row_tot (L : List Nat) (i : Nat) : L.getD i 0 ≤ tot L := by
  by_cases hi : i < L.length
  · have h1 := tot_take L (i + 1)
    have h2 := tot_snoc L i hi
    omega
  · rw [List.getD, List.getElem?_eq_none (by omega)]; exact Nat.zero_le _
theorem el_inc2 (x : BitVec 8) : (el x + 1) % 256 = el (x + 1#8) := by
  unfold el
  revert x
  decide
/-- Blocks in memory: the list at G, block i at gs i. -/
structure Bo8 (w : World) (B G n : Nat) (gs cs ns : Nat → Nat) (X : Nat → Nat → BitVec 8) : Prop where
  ls : ∀ i, i < n → w.cell? ⟨G, i, none⟩ = some (.slice (some ⟨gs i, 0, none⟩) (ns i) (cs i))
  rows : ∀ i, i < n → Mde 5 w (gs i) (cs i) (ns i) (fun t => .int .u8 (el (X i t)))
  ne : ∀ i j, i < n → j < n → i ≠ j → gs i ≠ gs j
  ge : ∀ i, i < n → B ≤ gs i
  gl : ∀ i, i < n → G ≠ gs i
def capOf8 : Value → Nat
  | .slice _ _ c => c
  | _ => 0
theorem Bla.open8 {w : World} {B : Nat} {v : Value} {bl : List (List (BitVec 8))} (h : Bla w B v bl) (hn : 0 < bl.length) (hp : ∀ i, i < bl.length → 0 < (bl.getD i []).length) :
    ∃ G c gs cs, v = .slice (some ⟨G, 0, none⟩) bl.length c ∧ bl.length ≤ c ∧ B ≤ G ∧ Bo8 w B G bl.length gs cs (fun i => (bl.getD i []).length) (fun i t => fn (bl.getD i []) t) := by
  obtain ⟨us, h1, h2, h3, h4⟩ := h
  rcases h1.2 with ⟨_, h0⟩ | ⟨G, cap, cur, hv, hG, hh, hc, hm, hs, ht⟩
  · omega
  · have R : ∀ i, i < bl.length → ∃ g c, us.getD i (.slice none 0 0) = .slice (some ⟨g, 0, none⟩) (bl.getD i []).length c ∧ B ≤ g ∧ Mde 5 w g c (bl.getD i []).length (fun t => .int .u8 (el (fn (bl.getD i []) t))) := fun i hi => mde_of (h3 i hi) (hp i hi)
    have E : ∀ i, i < bl.length → ∀ g c, us.getD i (.slice none 0 0) = .slice (some ⟨g, 0, none⟩) (bl.getD i []).length c → ((us.getD i (.slice none 0 0)).ownBlock).getD 0 = g ∧ capOf8 (us.getD i (.slice none 0 0)) = c := fun i _ g c e => by rw [e]; exact ⟨rfl, rfl⟩
    refine ⟨G, cap, fun i => ((us.getD i (.slice none 0 0)).ownBlock).getD 0, fun i => capOf8 (us.getD i (.slice none 0 0)), by rw [hv, h2], by omega, hG, ⟨fun i hi => ?_, fun i hi => ?_, fun i j hi hj hne => ?_, fun i hi => ?_, fun i hi => ?_⟩⟩
    · obtain ⟨g, c, e1, e2, e3⟩ := R i hi
      obtain ⟨f1, f2⟩ := E i hi g c e1
      rw [f1, f2, ← e1, cell_of_row w G i _ _ _ hh]
      have hi' : i < us.length := by omega
      have : (cur.toList.take us.length)[i]? = some (us.getD i (.slice none 0 0)) := by
        rw [Nat.mul_one] at ht
        rw [ht, List.getD, List.getElem?_eq_getElem hi']; rfl
      rw [List.getElem?_take_of_lt hi'] at this
      simpa using this
    · obtain ⟨g, c, e1, e2, e3⟩ := R i hi
      obtain ⟨f1, f2⟩ := E i hi g c e1
      rw [f1, f2]; exact e3
    · obtain ⟨g, c, e1, e2, e3⟩ := R i hi
      obtain ⟨f1, f2⟩ := E i hi g c e1
      obtain ⟨g', c', e1', e2', e3'⟩ := R j hj
      obtain ⟨f1', f2'⟩ := E j hj g' c' e1'
      rw [f1, f1']
      intro e
      subst e
      rcases Nat.lt_or_gt_of_ne hne with hl | hl
      · exact h4 i j g hl (by omega) (by rw [e1]; rfl) (by rw [e1']; rfl)
      · exact h4 j i g hl (by omega) (by rw [e1']; rfl) (by rw [e1]; rfl)
    · obtain ⟨g, c, e1, e2, e3⟩ := R i hi
      obtain ⟨f1, f2⟩ := E i hi g c e1
      rw [f1]; exact e2
    · obtain ⟨g, c, e1, e2, e3⟩ := R i hi
      obtain ⟨f1, f2⟩ := E i hi g c e1
      rw [f1]
      intro e
      subst e
      obtain ⟨c0, hc0, _⟩ := e3.cur
      rw [hh] at hc0
      simp at hc0
theorem Bo8.keep {w w' : World} {B G n : Nat} {gs cs ns : Nat → Nat} {X : Nat → Nat → BitVec 8} (h : Bo8 w B G n gs cs ns X) (hb : Below w.heap.size w w') : Bo8 w' B G n gs cs ns X :=
  ⟨fun i hi => cell_below (h.ls i hi) hb, fun i hi => (h.rows i hi).below hb, h.ne, h.ge, h.gl⟩
theorem Bo8.congr {w : World} {B G n : Nat} {gs cs ns : Nat → Nat} {X Y : Nat → Nat → BitVec 8} (h : Bo8 w B G n gs cs ns X) (e : ∀ i t, i < n → t < ns i → X i t = Y i t) : Bo8 w B G n gs cs ns Y :=
  ⟨h.ls, fun i hi => (h.rows i hi).congr (fun t ht => by rw [e i t hi ht]), h.ne, h.ge, h.gl⟩
theorem Bo8.rws {w : World} {B G n : Nat} {gs cs ns : Nat → Nat} {X : Nat → Nat → BitVec 8} (h : Bo8 w B G n gs cs ns X) {bl : List (List (BitVec 8))} (hl : bl.length = n) (hr : ∀ i, i < n → (bl.getD i []).length = ns i) (hX : ∀ i t, i < n → t < ns i → X i t = fn (bl.getD i []) t) : Rws w (some ⟨G, 0, none⟩) bl := by
  refine .inr ⟨G, 0, rfl, fun i hi => ?_⟩
  rw [hl] at hi
  rw [Nat.zero_add, hr i hi]
  refine ⟨_, _, h.ls i hi, (h.rows i hi).le, .inr ⟨gs i, 0, rfl, fun t ht => ?_⟩⟩
  rw [hr i hi] at ht
  rw [Nat.zero_add, (h.rows i hi).cell ht, hX i t hi ht]
  rfl
/-- Turned as far as byte k of block i. -/
def inX (X : Nat → Nat → BitVec 8) (i k m t : Nat) : BitVec 8 := if m < i ∨ (m = i ∧ t < k) then X m t + 1#8 else X m t
theorem inX_next {ns : Nat → Nat} (X : Nat → Nat → BitVec 8) (i m t : Nat) (ht : t < ns m) : inX X i (ns i) m t = inX X (i + 1) 0 m t := by
  unfold inX
  by_cases em : m = i
  · subst em; rw [if_pos (.inr ⟨rfl, ht⟩), if_pos (.inl (by omega))]
  · by_cases h2 : m < i ∨ (m = i ∧ t < ns i)
    · rw [if_pos h2, if_pos (by omega)]
    · rw [if_neg h2, if_neg (by omega)]
theorem Bo8.set {w W : World} {B G n : Nat} {gs cs ns : Nat → Nat} {X : Nat → Nat → BitVec 8} {i k : Nat} (h : Bo8 w B G n gs cs ns (inX X i k)) (hi : i < n)
    (e : W.heap = (w.setCell ⟨gs i, k, none⟩ (.int .u8 (el (inX X i k i k + 1#8)))).heap) : Bo8 W B G n gs cs ns (inX X i (k + 1)) := by
  have hk0 : inX X i k i k = X i k := by unfold inX; rw [if_neg (by omega)]
  refine ⟨fun m hm => ?_, fun m hm => ?_, h.ne, h.ge, h.gl⟩
  · have h1 : W.heap[G]? = w.heap[G]? := by rw [e, Below.heap_setCell _ _ _ _ (h.gl i hi)]
    rw [World.cell?_of_block (w := w) h1]; exact h.ls m hm
  · by_cases em : m = i
    · subst em
      refine ((h.rows m hm).set k _ e).congr (fun t ht => ?_)
      by_cases et : t = k
      · subst et
        rw [if_pos rfl, hk0]
        unfold inX
        rw [if_pos (.inr ⟨rfl, by omega⟩)]
      · rw [if_neg et]
        unfold inX
        by_cases h2 : m < m ∨ (m = m ∧ t < k)
        · rw [if_pos h2, if_pos (by omega)]
        · rw [if_neg h2, if_neg (by omega)]
    · refine ((h.rows m hm).congr (fun t ht => ?_)).keep (by rw [e, Below.heap_setCell _ _ _ _ (h.ne m i hm hi em)])
      unfold inX
      by_cases h2 : m < i ∨ (m = i ∧ t < k)
      · rw [if_pos h2, if_pos (by omega)]
      · rw [if_neg h2, if_neg (by omega)]
end Go.Proofs.Ytfcjkaigmlfjnaa
/-
  Appends in a region that draws its order.
-/
namespace Go.Proofs.Ytfcjkaigmlfjnaa
open Go.RowKit
theorem step_cl {ops : Array Oper} {o : Oper} {a : Act} {w : World} {K : Act → World → Prop} {Q : Exit → Act → World → Prop} {E : Prop} (hgd : o.guard = none) (s x : Operand) (ho : o.op = .call { callee := .builtin .append, args := #[s, x], argTypes := #[35, 35] })
    (hs : a.eval s = .slice none 0 0) (ao : Option Addr) (n c : Nat) (xs : List (BitVec 8)) (hx : a.eval x = .slice ao n c) (hr : Rd w ao xs) (hn : xs.length = n) (hm : n ≤ 140737488355328)
    (h : ∀ v' w', Ow w' w.heap.size v' xs → Below w.heap.size w w' → K (a.put o.dst v') w') : if Region.wanted o (yielded ops a.tmps) = true then Oper.wp Try.prog o a w K Q else E := by
  have hw : Region.wanted o (yielded ops a.tmps) = true := by simp [Region.wanted, hgd]
  rw [if_pos hw]
  obtain ⟨i0, hi, hz0, hz1, hz2⟩ := info_parts info5
  subst hn
  cases ao with
  | none =>
    have hxs : xs = [] := by
      rcases hr with e | ⟨b, off, e, _⟩
      · exact e
      · cases e
    subst hxs
    have hrun := run_append_no (P := Try.prog) (w := w) 35 o.type 5 i0 Try.underlying35 hi c
    unfold Oper.wp
    simp at hx
    simp [execOp, ho, resolve, invoke, builtin, hs, hx, hrun, Result.andThen]
    exact h _ w (Ow.nil _ _) (Below.refl _ _)
  | some ad =>
    have S : ∀ j u, (vs (fn xs) xs.length)[j]? = some u → w.cell? (ad.add j) = some u := by
      rcases hr with e | ⟨b, off, e, hc⟩
      · subst e; intro j u hu; simp [vs] at hu
      · cases e
        exact vs_src hc
    refine wp_append_own w s x 35 ho w.heap.size 5 i0 (.int .u8 0) 1 1 Try.underlying35 hi hz0 hz1 hz2 rfl (by decide) (.slice none 0 0) 0 [] hs (World.ownsRow_nil _ _ _ _) ad xs.length c (vs (fn xs) xs.length) hx (by rw [vs_len, Nat.mul_one]) S (vs_one _ _) (by unfold maxLen; omega) (by omega) (Nat.le_refl _) ?_
    intro v' w' ho' hg _
    refine h v' w' ?_ (below_append (t := 5) (Below.refl _ _) (Nat.le_refl _) hg (World.ownsRow_nil _ _ _ _) (Nat.le_refl _))
    unfold Ow
    simpa using ho'
theorem step_apa {ops : Array Oper} {o : Oper} {a : Act} {w : World} {K : Act → World → Prop} {Q : Exit → Act → World → Prop} {E : Prop} (hgd : o.guard = none) (s x : Operand) (ho : o.op = .call { callee := .builtin .append, args := #[s, x], argTypes := #[35, 35] })
    (base : Nat) (v : Value) (xs : List (BitVec 8)) (hs : a.eval s = v) (hown : Ow w base v xs) (ad : Option Addr) (n c : Nat) (ys : List (BitVec 8)) (hx : a.eval x = .slice ad n c) (hr : Rd w ad ys) (hn : ys.length = n) (hm : xs.length + n ≤ 140737488355328) (hbase : base ≤ w.heap.size)
    (h : ∀ v' w', Ow w' base v' (xs ++ ys) → w.grownBy w' v.ownBlock → K (a.put o.dst v') w') : if Region.wanted o (yielded ops a.tmps) = true then Oper.wp Try.prog o a w K Q else E := by
  have hw : Region.wanted o (yielded ops a.tmps) = true := by simp [Region.wanted, hgd]
  rw [if_pos hw]
  obtain ⟨i0, hi, hz0, hz1, hz2⟩ := info_parts info5
  subst hn
  cases ad with
  | none =>
    have hys : ys = [] := by
      rcases hr with e | ⟨b, off, e, _⟩
      · exact e
      · cases e
    subst hys
    obtain ⟨p, cap, rfl, hcap, _⟩ := hown.rd
    have hrun := run_append_nix (P := Try.prog) (w := w) 35 o.type 5 i0 Try.underlying35 hi p xs.length cap c hcap
    unfold Oper.wp
    have hx' : a.eval x = .slice none 0 c := hx
    simp [execOp, ho, resolve, invoke, builtin, hs, hx', hrun, Result.andThen]
    exact h _ w (by rw [List.append_nil]; exact hown) ⟨rfl, rfl, rfl, Nat.le_refl _, fun _ _ _ => rfl⟩
  | some ad =>
    have S : ∀ j u, (vs (fn ys) ys.length)[j]? = some u → w.cell? (ad.add j) = some u := by
      rcases hr with e | ⟨b, off, e, hc⟩
      · subst e; intro j u hu; simp [vs] at hu
      · cases e
        exact vs_src hc
    refine wp_append_own w s x 35 ho base 5 i0 (.int .u8 0) 1 1 Try.underlying35 hi hz0 hz1 hz2 rfl (by decide) v xs.length (vs (fn xs) xs.length) hs hown ad ys.length c (vs (fn ys) ys.length) hx (by rw [vs_len, Nat.mul_one]) S (vs_one _ _) (by unfold maxLen; omega) (by omega) hbase ?_
    intro v' w' ho' hg _
    refine h v' w' ?_ hg
    unfold Ow
    rw [List.length_append, vs_fn_app]; exact ho'
end Go.Proofs.Ytfcjkaigmlfjnaa
/-
  'copied' of layer 8's laws.
-/
namespace Go.Proofs.Ytfcjkaigmlfjnaa
open Go.RowKit
theorem takeHr {P : Program} {ops : Array Oper} {Q : Exit → Act → World → Prop} {md : Region.Mode} {S : World → Prop} {i : Nat} {oi : Oper} {d : Option Tmp} {v : Value} {fuel : Nat} {listed : Array Bool} {a : Act} {w : World} (hi : ops[i]? = some oi) (hd : oi.dst = d)
    (hs : Region.noSelect ops = true) (hf : Region.free md ops listed i = true) (hr : (Region.ready md ops listed).contains i = true)
    (hQ : ∀ c a w, Q (.panic c) (a.put oi.dst v) w → Q (.panic c) a w) (hy : YieldsIf P ops S oi v a) (hS : S w)
    (h : wpAnyH P md ops Q S fuel (listed.setIfInBounds i true) (a.put d v) w) : wpAnyH P md ops Q S (fuel + 1) listed a w := by
  subst hd; exact wpAnyH_take hi hs hf hr hQ hy hS h
theorem res_sd1 {fn : Func} {p : Tmp} (h : fn.results = #[.cell p 31]) (tmps : Array Value) (w : World) (g : Nat) (hd : Hd) (v : Value) (hp : tmps.getD p undef = .pointer (some ⟨g, 0, none⟩)) (H : SdAt w g hd v) :
    (results fn tmps).run Try.prog w = .ok (.agg (hd.sh v)) w := by
  have hl := run_loadVar_row (P := Try.prog) w g 31 31 (hd.sh v) (0, 0) _ H Try.underlying31 rfl sizeSd
  have hp' : tmps[p]?.getD undef = .pointer (some ⟨g, 0, none⟩) := by simpa using hp
  simp [results, h, hp', asAddr, hl]
theorem SdAt.turned8 {w w' : World} {g r : Nat} {h : Hd} {v : Value} (H : SdAt w g h v) (hne : g ≠ r) (hT : Turned r w w') : SdAt w' g h v := by unfold SdAt at H ⊢; rw [hT.1 g hne]; exact H
theorem heap_al3 (w : World) (o1 o2 o3 : Obj) : (((w.alloc o1).alloc o2).alloc o3).heap[w.heap.size + 1 + 1]? = some o3 := by
  have h := heap_alloc_new ((w.alloc o1).alloc o2) o3
  rw [al_sz, al_sz] at h; exact h
theorem heap_al2 (w : World) (o1 o2 : Obj) : ((w.alloc o1).alloc o2).heap[w.heap.size + 1]? = some o2 := by
  have h := heap_alloc_new (w.alloc o1) o2
  rw [al_sz] at h; exact h
section
attribute [local irreducible] Calls el Hd.cs Hd.sh szC szL
set_option maxHeartbeats 16000000 in
set_option maxRecDepth 1000000 in
theorem copied8_any (h : Hd) {w : World} {p : Option Addr} {bl : List (List (BitVec 8))} (HB : Rws w p bl) (n c : Nat) (hn : bl.length = n) (hnb : n ≤ 1099511627775) (hxb : ∀ i, (bl.getD i []).length ≤ 140737488355328) :
    Calls Try.prog 8 #[.agg (h.sh (.slice p n c))] w fun e w' => ∃ v, e = .returned (.agg (h.sh v)) ∧ Bl w' w.heap.size v bl ∧ Below w.heap.size w w' := by
  have al : ∀ (W : World) (o : Obj), Below W.heap.size W (W.alloc o) := fun W o => (Below.refl _ _).alloc (Nat.le_refl _) o
  have H0 := (show Hid (SdAt (w.alloc (.cells (h.sh (.slice p n c)) 31)) w.heap.size h (.slice p n c)) from heap_alloc_new w _)
  have HBw := (show Hid (Rws w p bl) from HB)
  have HXB := (show Hid _ from hxb)
  have HN := (show Hid _ from hn)
  clear HB hxb hn
  go_enter Try.func8, Try.ntmps8
  go_wp2_with (first
    | (refine wpList_loadIn rfl _ rfl w.heap.size rfl (SdAt.head (SdAt.below H0.out (al _ _))) ?_)
    | (refine wpList_bdS rfl _ rfl rfl ?_)
    | (refine wpList_stS h (.slice none 0 0) rfl rfl _ _ rfl rfl (w.heap.size + 1 + 1) rfl rfl (sz0 (heap_al3 w _ _ _)) ?_; intro w4 H4 hT4; have T4 := (show Hid _ from (⟨hT4.2.1 _ _ (bt (bt (al _ _) (al _ _)) (al _ _)) (by omega), SdAt.turned8 (SdAt.below (SdAt.below H0.out (al _ _)) (al _ _)) (by omega) hT4, SdAt.turned8 (SdAt.below (sz0 (heap_al2 w _ _)) (al _ _)) (by omega) hT4⟩ : Below w.heap.size w w4 ∧ SdAt w4 w.heap.size h (.slice p n c) ∧ SdAt w4 (w.heap.size + 1) hd0 (.slice none 0 0)))))
  obtain ⟨hbw4, hIn4, hZ4⟩ := T4.out
  clear T4 hT4 H0
  obtain ⟨gO, hgO⟩ : ∃ g, g = w.heap.size + 1 + 1 := ⟨_, rfl⟩
  rw [← hgO] at H4 ⊢
  have SZ4 := (show Hid (w.heap.size + 1 < gO ∧ gO < w4.heap.size) from ⟨by omega, Hm.lt H4⟩)
  clear hgO
  have HI4 := (show Hid _ from hIn4)
  have HZ4 := (show Hid _ from hZ4)
  have HB4 := (show Hid _ from hbw4)
  clear hIn4 hZ4 hbw4
  go_loopw [4] (fun i wr => ∃ (t : Nat) (v : Value), t ≤ n ∧ i = .int .i64 (t : Int) ∧ SdAt wr gO h v ∧ Bl wr w4.heap.size v (bl.take t) ∧ w4.grownBy wr (some gO)) (fun i _ => n - (intOf i).toNat)
  case atStart => exact ⟨0, .slice none 0 0, Nat.zero_le _, rfl, H4, by rw [List.take_zero]; exact Bl.nil _ _, grefl _ _⟩
  case round =>
    obtain ⟨t, v, ht, rfl, hSd, hBl, hgr⟩ := hrel
    have hIn : SdAt wr w.heap.size h (.slice p n c) := SdAt.kept HI4.out hgr (by have h8 := SZ4.out; simp; omega)
    have s16 := hIn.last
    have hsr := hgr.size
    by_cases hlt : t < n
    · have hi : (t : Int) < (n : Int) := by omega
      obtain ⟨b1, o1, q1, c1, ep1, cW, hle1, hRd1⟩ := Rws.row HBw.out t (by rw [HN.out]; exact hlt)
      obtain ⟨x, hx⟩ : ∃ x, x = bl.getD t [] := ⟨_, rfl⟩
      rw [← hx] at cW hle1 hRd1
      have hbwr : Below w.heap.size w wr := HB4.out.grown hgr HB4.out.size (fun k hk => by have h8 := SZ4.out; injection hk with hk; omega)
      have hb1l : b1 < w.heap.size := block_lt_of_cell cW
      have cB := cell_below cW hbwr
      have RX := hRd1.below hbwr
      have hxm : x.length ≤ 140737488355328 := by rw [hx]; exact HXB.out t
      have hnt : bl.length = n := HN.out
      have tk : bl.take (t + 1) = bl.take t ++ [x] := by
        rw [hx, List.take_add_one]
        simp [List.getD, List.getElem?_eq_getElem (show t < bl.length by omega)]
      have TK := (show Hid _ from tk)
      clear tk
      obtain ⟨us, hOr, hul, hrows⟩ := hBl
      have hbl : (bl.take t).length = t := by rw [List.length_take]; omega
      obtain ⟨q0, c0, hvq, hcq, _⟩ := hOr.rd
      rw [hul, hbl] at hvq hcq
      subst hvq
      have HRW := (show Hid (∀ i, i < (bl.take t).length → Ow wr w4.heap.size (us.getD i (.slice none 0 0)) ((bl.take t).getD i [])) from hrows)
      have hut : us.length = t := by omega
      subst ep1
      clear hrows hx cW hRd1 hbwr hnt
      go_wp2
      obtain ⟨wd, hwd⟩ : ∃ wq, wq = wr.drew := ⟨_, rfl⟩
      have bd : Below wr.heap.size wr wd := by rw [hwd]; exact (Below.refl _ _).drew
      replace hSd := SdAt.below hSd bd
      replace hIn := SdAt.below hIn bd
      replace s16 := cell_below s16 bd
      replace cB := cell_below cB bd
      replace RX := RX.below bd
      replace hOr := Or.below hOr bd
      replace HRW := (show Hid (∀ i, i < (bl.take t).length → Ow wd w4.heap.size (us.getD i (.slice none 0 0)) ((bl.take t).getD i [])) from fun i hi => (HRW.out i hi).below bd)
      replace hgr := grown_below hgr bd
      replace hsr := Nat.le_trans hsr bd.size
      have HBc := (show Hid (Below wd.heap.size wd wd) from Below.refl _ _)
      refine wp_region_held_drew (S := fun X => X.cell? ⟨w.heap.size, 16, none⟩ = some (.slice (some ⟨b1, o1, none⟩) n c) ∧ X.cell? ⟨b1, o1 + t, none⟩ = some (.slice q1 x.length c1)) (by kernel_rfl) (by rw [← hwd]; exact ⟨s16, cB⟩) (fun hHeld => ?_)
      rw [← hwd] at hHeld ⊢
      clear bd hwd
      refine takeHr (i := 0) (d := some 15) (v := ?v1) rfl rfl (by kernel_rfl) (by kernel_rfl) (by kernel_rfl) (fun _ _ _ h => h) (Or.inl ⟨by rfl, ?hy1⟩) hHeld ?rest1
      case hy1 => intro X hSw; obtain ⟨g0, g1⟩ := hSw; go_simp <;> with_reducible rfl
      try simp only [Act.put, List.setIfInBounds_toArray, List.set_cons_zero, List.set_cons_succ]
      refine takeHr (i := 3) (d := some 18) (v := ?v2) rfl rfl (by kernel_rfl) (by kernel_rfl) (by kernel_rfl) (fun _ _ _ h => h) (Or.inl ⟨by rfl, ?hy2⟩) hHeld ?rest2
      case hy2 => intro X hSw; obtain ⟨g0, g1⟩ := hSw; go_simp <;> with_reducible rfl
      try simp only [Act.put, List.setIfInBounds_toArray, List.set_cons_zero, List.set_cons_succ]
      refine takeHr (i := 4) (d := some 19) (v := ?v3) rfl rfl (by kernel_rfl) (by kernel_rfl) (by kernel_rfl) (fun _ _ _ h => h) (Or.inl ⟨by rfl, ?hy3⟩) hHeld ?rest3
      case hy3 => intro X hSw; obtain ⟨g0, g1⟩ := hSw; go_simp <;> with_reducible rfl
      try simp only [Act.put, List.setIfInBounds_toArray, List.set_cons_zero, List.set_cons_succ]
      refine takeHr (i := 5) (d := some 20) (v := ?v4) rfl rfl (by kernel_rfl) (by kernel_rfl) (by kernel_rfl) (fun _ _ _ h => h) (Or.inl ⟨by rfl, ?hy4⟩) hHeld ?rest4
      case hy4 => intro X hSw; obtain ⟨g0, g1⟩ := hSw; go_simp <;> with_reducible rfl
      try simp only [Act.put, List.setIfInBounds_toArray, List.set_cons_zero, List.set_cons_succ]
      refine takeHr (i := 6) (d := some 21) (v := ?v5) rfl rfl (by kernel_rfl) (by kernel_rfl) (by kernel_rfl) (fun _ _ _ h => h) (Or.inl ⟨by rfl, ?hy5⟩) hHeld ?rest5
      case hy5 => intro X hSw; obtain ⟨g0, g1⟩ := hSw; go_simp <;> with_reducible rfl
      try simp only [Act.put, List.setIfInBounds_toArray, List.set_cons_zero, List.set_cons_succ]
      refine takeHr (i := 7) (d := some 22) (v := ?v6) rfl rfl (by kernel_rfl) (by kernel_rfl) (by kernel_rfl) (fun _ _ _ h => h) (Or.inl ⟨by rfl, ?hy6⟩) hHeld ?rest6
      case hy6 => intro X hSw; obtain ⟨g0, g1⟩ := hSw; go_simp <;> with_reducible rfl
      try simp only [Act.put, List.setIfInBounds_toArray, List.set_cons_zero, List.set_cons_succ]
      refine wpAnyH_ready (rs := [1, 2]) (by kernel_rfl) (by simp) ?_
      refine AllReadyH.cons (o := { dst := some 16, op := Op.load 29 (Operand.tmp 15), type := 29, pos := "outright.go:466", after := #[{ on := 0, ground := Ground.data }], guard := none }) rfl (fun Kq hKq => ?_) (AllReadyH.cons (o := { dst := some 17, op := Op.buildSlice 35 0 #[], type := 35, pos := "outright.go:466", after := #[], guard := none }) rfl (fun Kq hKq => ?_) AllReadyH.nil)
      · skip
        have o16 := (SdAt.below hSd HBc.out).last
        go_simp
        clear o16
        refine hKq.out _ _ ⟨cell_below s16 HBc.out, cell_below cB HBc.out⟩ (fun hHeld => ?_)
        clear hKq Kq
        try simp only [Act.put, List.setIfInBounds_toArray, List.set_cons_zero, List.set_cons_succ]
        refine wpAnyH_ready (rs := [2]) (by kernel_rfl) (by simp) ?_
        refine AllReadyH.cons (o := { dst := some 17, op := Op.buildSlice 35 0 #[], type := 35, pos := "outright.go:466", after := #[], guard := none }) rfl (fun Kq hKq => ?_) AllReadyH.nil
        · go_simp
          have HE : Hid (Ow (wd.alloc (.cells #[] 5)) wd.heap.size (.slice (some ⟨wd.heap.size, 0, none⟩) 0 0) []) := Ow.mono (Ow.made wd 0 (by decide)) HBc.out.size
          obtain ⟨y8, hy8⟩ : ∃ z, z = wd.alloc (.cells #[] 5) := ⟨_, rfl⟩
          have hbt : Below wd.heap.size wd y8 := by rw [hy8]; exact (Below.refl _ _).alloc (Nat.le_refl _) _
          rw [← hy8] at HE ⊢
          replace HBc := (show Hid _ from bt HBc.out hbt)
          clear hbt hy8
          refine hKq.out _ _ ⟨cell_below s16 HBc.out, cell_below cB HBc.out⟩ (fun hHeld => ?_)
          clear hKq Kq
          try simp only [Act.put, List.setIfInBounds_toArray, List.set_cons_zero, List.set_cons_succ]
          refine wpAnyH_ready (rs := [8]) (by kernel_rfl) (by simp) ?_
          refine AllReadyH.cons (o := { dst := some 23, op := Op.call { callee := Callee.builtin Builtin.append, args := #[Operand.tmp 17, Operand.tmp 22], argTypes := #[35, 35] }, type := 35, pos := "outright.go:466", after := #[{ on := 2, ground := Ground.data }, { on := 7, ground := Ground.data }], guard := none }) rfl (fun Kq hKq => ?_) AllReadyH.nil
          · skip
            refine step_apa rfl _ _ rfl wd.heap.size _ [] rfl (show Ow _ _ _ _ from HE.out) _ _ _ x rfl (Rd.below RX HBc.out) rfl (by show 0 + _ ≤ _; omega) HBc.out.size ?_
            intro v9 y9 ho6 hg6
            have hg7 := Ow.below_append (show Ow _ _ _ _ from HE.out) HBc.out HBc.out.size hg6 (Nat.le_refl _)
            replace HBc := (show Hid _ from hg7)
            rw [List.nil_append] at ho6
            have HR : Hid (Ow y9 wd.heap.size v9 x) := ho6
            obtain ⟨q6, d6, hv6, hd6, hr6⟩ := ho6.rd
            subst hv6
            clear HE ho6 hg6 hg7 hr6 hd6
            refine hKq.out _ _ ⟨cell_below s16 HBc.out, cell_below cB HBc.out⟩ (fun hHeld => ?_)
            clear hKq Kq
            try simp only [Act.put, List.setIfInBounds_toArray, List.set_cons_zero, List.set_cons_succ]
            refine wpAnyH_ready (rs := [9]) (by kernel_rfl) (by simp) ?_
            refine AllReadyH.cons (o := { dst := some 24, op := Op.buildSlice 29 1 #[(0, Operand.tmp 23)], type := 29, pos := "outright.go:466", after := #[{ on := 8, ground := Ground.data }], guard := none }) rfl (fun Kq hKq => ?_) AllReadyH.nil
            · go_simp
              have HC : Hid ((y9.alloc (.cells #[.slice q6 x.length d6] 35)).cell? ⟨y9.heap.size, 0, none⟩ = some (.slice q6 x.length d6)) := cell_one _ _ _
              obtain ⟨y10, hy10⟩ : ∃ z, z = y9.alloc (.cells #[.slice q6 x.length d6] 35) := ⟨_, rfl⟩
              have hbt : Below y9.heap.size y9 y10 := by rw [hy10]; exact (Below.refl _ _).alloc (Nat.le_refl _) _
              rw [← hy10] at HC ⊢
              replace HR : Hid (Ow y10 wd.heap.size (.slice q6 x.length d6) x) := Ow.below HR.out hbt
              replace HBc := (show Hid _ from bt HBc.out hbt)
              clear hbt hy10
              refine hKq.out _ _ ⟨cell_below s16 HBc.out, cell_below cB HBc.out⟩ (fun hHeld => ?_)
              clear hKq Kq
              try simp only [Act.put, List.setIfInBounds_toArray, List.set_cons_zero, List.set_cons_succ]
              refine wpAnyH_ready (rs := [10]) (by kernel_rfl) (by simp) ?_
              refine AllReadyH.cons (o := { dst := some 25, op := Op.call { callee := Callee.builtin Builtin.append, args := #[Operand.tmp 16, Operand.tmp 24], argTypes := #[29, 29] }, type := 29, pos := "outright.go:466", after := #[{ on := 1, ground := Ground.data }, { on := 9, ground := Ground.data }, { on := 8, ground := Ground.chain }], guard := none }) rfl (fun Kq hKq => ?_) AllReadyH.nil
              · skip
                have O7 : Hid (Or y10 w4.heap.size (.slice q0 t c0) us) := Or.below hOr HBc.out
                refine step_apr rfl _ _ rfl w4.heap.size (.slice q0 t c0) us rfl (show Or _ _ _ _ from O7.out) _ _ _ rfl rfl HC.out (by omega) (Nat.le_trans hsr HBc.out.size) ?_
                intro v11 y11 ho8 hg8
                obtain ⟨p8, c8, hv8, hc8, _⟩ := ho8.rd
                rw [List.length_append, hul, hbl, List.length_singleton] at hv8 hc8
                subst hv8
                have S8 := (show Hid (SdAt y11 gO h (.slice q0 t c0)) from sd_or (SdAt.below hSd HBc.out) O7.out hg8)
                have I8 := (show Hid (SdAt y11 w.heap.size h (.slice (some ⟨b1, o1, none⟩) n c)) from sd_or (SdAt.below hIn HBc.out) O7.out hg8)
                have C8 := (show Hid (y11.cell? ⟨b1, o1 + t, none⟩ = some (.slice q1 x.length c1)) from (hg8.cell (cell_below cB HBc.out) (fun e => by have h9 : w4.heap.size ≤ b1 := (own_lt O7.out e.symm).1; have h8 := SZ4.out; omega)))
                have P8 := (show Hid (Bl y11 w4.heap.size (.slice p8 (t + 1) c8) ((bl.take t) ++ [x])) from Bl.push O7.out hul (fun i hi => (HRW.out i hi).below HBc.out) (Ow.mono HR.out hsr) ho8 hg8)
                have G8 := (show Hid (w4.grownBy y11 (some gO)) from grown_or (grown_below hgr HBc.out) O7.out (Nat.le_refl _) hg8)
                clear HC HR O7 ho8 hg8
                refine hKq.out _ _ ⟨I8.out.last, C8.out⟩ (fun hHeld => ?_)
                clear hKq Kq
                try simp only [Act.put, List.setIfInBounds_toArray, List.set_cons_zero, List.set_cons_succ]
                refine takeHr (i := 11) (d := some 26) (v := ?v12) rfl rfl (by kernel_rfl) (by kernel_rfl) (by kernel_rfl) (fun _ _ _ h => h) (Or.inl ⟨by rfl, ?hy12⟩) hHeld ?rest12
                case hy12 => intro X hSw; obtain ⟨g0, g1⟩ := hSw; go_simp <;> with_reducible rfl
                try simp only [Act.put, List.setIfInBounds_toArray, List.set_cons_zero, List.set_cons_succ]
                refine wpAnyH_ready (rs := [12]) (by kernel_rfl) (by simp) ?_
                refine AllReadyH.cons (o := { dst := none, op := Op.store 29 (Operand.tmp 26) (Operand.tmp 25), type := 0, pos := "outright.go:466", after := #[{ on := 11, ground := Ground.data }, { on := 10, ground := Ground.data }, { on := 10, ground := Ground.chain }, { on := 0, ground := Ground.phase }, { on := 1, ground := Ground.phase }, { on := 2, ground := Ground.phase }, { on := 3, ground := Ground.phase }, { on := 4, ground := Ground.phase }, { on := 5, ground := Ground.phase }, { on := 6, ground := Ground.phase }, { on := 7, ground := Ground.phase }, { on := 8, ground := Ground.phase }, { on := 9, ground := Ground.phase }, { on := 10, ground := Ground.phase }], guard := none }) rfl (fun Kq hKq => ?_) AllReadyH.nil
                · skip
                  have k8 := S8.out.last
                  have f8 := S8.out.frozen 16
                  go_simp
                  clear k8 f8
                  refine hKq.out _ _ ⟨(SdAt.kept I8.out (grown_set _ _ _ _) (by have h8 := SZ4.out; simp; omega)).last, (grown_set _ _ _ _).cell C8.out (by have h8 := SZ4.out; simp; omega)⟩ (fun hHeld => ?_)
                  clear hKq Kq
                  try simp only [Act.put, List.setIfInBounds_toArray, List.set_cons_zero, List.set_cons_succ]
                  refine wpAnyH_done (by kernel_rfl) ?_ _
                  clear hHeld
                  go_wp2
                  go_roundw
                  case rel =>
                    refine ⟨t + 1, .slice p8 (t + 1) c8, hlt, by go_num, S8.out.set _, ?_, gtrans G8.out (grown_set _ _ _ _)⟩
                    rw [TK.out]
                    exact P8.out.young (grown_set _ _ _ _) (by have := SZ4.out; omega)
                  case measure => simp [intOf]; omega
      · go_simp
        have HE : Hid (Ow (wd.alloc (.cells #[] 5)) wd.heap.size (.slice (some ⟨wd.heap.size, 0, none⟩) 0 0) []) := Ow.mono (Ow.made wd 0 (by decide)) HBc.out.size
        obtain ⟨y14, hy14⟩ : ∃ z, z = wd.alloc (.cells #[] 5) := ⟨_, rfl⟩
        have hbt : Below wd.heap.size wd y14 := by rw [hy14]; exact (Below.refl _ _).alloc (Nat.le_refl _) _
        rw [← hy14] at HE ⊢
        replace HBc := (show Hid _ from bt HBc.out hbt)
        clear hbt hy14
        refine hKq.out _ _ ⟨cell_below s16 HBc.out, cell_below cB HBc.out⟩ (fun hHeld => ?_)
        clear hKq Kq
        try simp only [Act.put, List.setIfInBounds_toArray, List.set_cons_zero, List.set_cons_succ]
        refine wpAnyH_ready (rs := [1, 8]) (by kernel_rfl) (by simp) ?_
        refine AllReadyH.cons (o := { dst := some 16, op := Op.load 29 (Operand.tmp 15), type := 29, pos := "outright.go:466", after := #[{ on := 0, ground := Ground.data }], guard := none }) rfl (fun Kq hKq => ?_) (AllReadyH.cons (o := { dst := some 23, op := Op.call { callee := Callee.builtin Builtin.append, args := #[Operand.tmp 17, Operand.tmp 22], argTypes := #[35, 35] }, type := 35, pos := "outright.go:466", after := #[{ on := 2, ground := Ground.data }, { on := 7, ground := Ground.data }], guard := none }) rfl (fun Kq hKq => ?_) AllReadyH.nil)
        · skip
          have o16 := (SdAt.below hSd HBc.out).last
          go_simp
          clear o16
          refine hKq.out _ _ ⟨cell_below s16 HBc.out, cell_below cB HBc.out⟩ (fun hHeld => ?_)
          clear hKq Kq
          try simp only [Act.put, List.setIfInBounds_toArray, List.set_cons_zero, List.set_cons_succ]
          refine wpAnyH_ready (rs := [8]) (by kernel_rfl) (by simp) ?_
          refine AllReadyH.cons (o := { dst := some 23, op := Op.call { callee := Callee.builtin Builtin.append, args := #[Operand.tmp 17, Operand.tmp 22], argTypes := #[35, 35] }, type := 35, pos := "outright.go:466", after := #[{ on := 2, ground := Ground.data }, { on := 7, ground := Ground.data }], guard := none }) rfl (fun Kq hKq => ?_) AllReadyH.nil
          · skip
            refine step_apa rfl _ _ rfl wd.heap.size _ [] rfl (show Ow _ _ _ _ from HE.out) _ _ _ x rfl (Rd.below RX HBc.out) rfl (by show 0 + _ ≤ _; omega) HBc.out.size ?_
            intro v16 y16 ho6 hg6
            have hg7 := Ow.below_append (show Ow _ _ _ _ from HE.out) HBc.out HBc.out.size hg6 (Nat.le_refl _)
            replace HBc := (show Hid _ from hg7)
            rw [List.nil_append] at ho6
            have HR : Hid (Ow y16 wd.heap.size v16 x) := ho6
            obtain ⟨q6, d6, hv6, hd6, hr6⟩ := ho6.rd
            subst hv6
            clear HE ho6 hg6 hg7 hr6 hd6
            refine hKq.out _ _ ⟨cell_below s16 HBc.out, cell_below cB HBc.out⟩ (fun hHeld => ?_)
            clear hKq Kq
            try simp only [Act.put, List.setIfInBounds_toArray, List.set_cons_zero, List.set_cons_succ]
            refine wpAnyH_ready (rs := [9]) (by kernel_rfl) (by simp) ?_
            refine AllReadyH.cons (o := { dst := some 24, op := Op.buildSlice 29 1 #[(0, Operand.tmp 23)], type := 29, pos := "outright.go:466", after := #[{ on := 8, ground := Ground.data }], guard := none }) rfl (fun Kq hKq => ?_) AllReadyH.nil
            · go_simp
              have HC : Hid ((y16.alloc (.cells #[.slice q6 x.length d6] 35)).cell? ⟨y16.heap.size, 0, none⟩ = some (.slice q6 x.length d6)) := cell_one _ _ _
              obtain ⟨y17, hy17⟩ : ∃ z, z = y16.alloc (.cells #[.slice q6 x.length d6] 35) := ⟨_, rfl⟩
              have hbt : Below y16.heap.size y16 y17 := by rw [hy17]; exact (Below.refl _ _).alloc (Nat.le_refl _) _
              rw [← hy17] at HC ⊢
              replace HR : Hid (Ow y17 wd.heap.size (.slice q6 x.length d6) x) := Ow.below HR.out hbt
              replace HBc := (show Hid _ from bt HBc.out hbt)
              clear hbt hy17
              refine hKq.out _ _ ⟨cell_below s16 HBc.out, cell_below cB HBc.out⟩ (fun hHeld => ?_)
              clear hKq Kq
              try simp only [Act.put, List.setIfInBounds_toArray, List.set_cons_zero, List.set_cons_succ]
              refine wpAnyH_ready (rs := [10]) (by kernel_rfl) (by simp) ?_
              refine AllReadyH.cons (o := { dst := some 25, op := Op.call { callee := Callee.builtin Builtin.append, args := #[Operand.tmp 16, Operand.tmp 24], argTypes := #[29, 29] }, type := 29, pos := "outright.go:466", after := #[{ on := 1, ground := Ground.data }, { on := 9, ground := Ground.data }, { on := 8, ground := Ground.chain }], guard := none }) rfl (fun Kq hKq => ?_) AllReadyH.nil
              · skip
                have O7 : Hid (Or y17 w4.heap.size (.slice q0 t c0) us) := Or.below hOr HBc.out
                refine step_apr rfl _ _ rfl w4.heap.size (.slice q0 t c0) us rfl (show Or _ _ _ _ from O7.out) _ _ _ rfl rfl HC.out (by omega) (Nat.le_trans hsr HBc.out.size) ?_
                intro v18 y18 ho8 hg8
                obtain ⟨p8, c8, hv8, hc8, _⟩ := ho8.rd
                rw [List.length_append, hul, hbl, List.length_singleton] at hv8 hc8
                subst hv8
                have S8 := (show Hid (SdAt y18 gO h (.slice q0 t c0)) from sd_or (SdAt.below hSd HBc.out) O7.out hg8)
                have I8 := (show Hid (SdAt y18 w.heap.size h (.slice (some ⟨b1, o1, none⟩) n c)) from sd_or (SdAt.below hIn HBc.out) O7.out hg8)
                have C8 := (show Hid (y18.cell? ⟨b1, o1 + t, none⟩ = some (.slice q1 x.length c1)) from (hg8.cell (cell_below cB HBc.out) (fun e => by have h9 : w4.heap.size ≤ b1 := (own_lt O7.out e.symm).1; have h8 := SZ4.out; omega)))
                have P8 := (show Hid (Bl y18 w4.heap.size (.slice p8 (t + 1) c8) ((bl.take t) ++ [x])) from Bl.push O7.out hul (fun i hi => (HRW.out i hi).below HBc.out) (Ow.mono HR.out hsr) ho8 hg8)
                have G8 := (show Hid (w4.grownBy y18 (some gO)) from grown_or (grown_below hgr HBc.out) O7.out (Nat.le_refl _) hg8)
                clear HC HR O7 ho8 hg8
                refine hKq.out _ _ ⟨I8.out.last, C8.out⟩ (fun hHeld => ?_)
                clear hKq Kq
                try simp only [Act.put, List.setIfInBounds_toArray, List.set_cons_zero, List.set_cons_succ]
                refine takeHr (i := 11) (d := some 26) (v := ?v19) rfl rfl (by kernel_rfl) (by kernel_rfl) (by kernel_rfl) (fun _ _ _ h => h) (Or.inl ⟨by rfl, ?hy19⟩) hHeld ?rest19
                case hy19 => intro X hSw; obtain ⟨g0, g1⟩ := hSw; go_simp <;> with_reducible rfl
                try simp only [Act.put, List.setIfInBounds_toArray, List.set_cons_zero, List.set_cons_succ]
                refine wpAnyH_ready (rs := [12]) (by kernel_rfl) (by simp) ?_
                refine AllReadyH.cons (o := { dst := none, op := Op.store 29 (Operand.tmp 26) (Operand.tmp 25), type := 0, pos := "outright.go:466", after := #[{ on := 11, ground := Ground.data }, { on := 10, ground := Ground.data }, { on := 10, ground := Ground.chain }, { on := 0, ground := Ground.phase }, { on := 1, ground := Ground.phase }, { on := 2, ground := Ground.phase }, { on := 3, ground := Ground.phase }, { on := 4, ground := Ground.phase }, { on := 5, ground := Ground.phase }, { on := 6, ground := Ground.phase }, { on := 7, ground := Ground.phase }, { on := 8, ground := Ground.phase }, { on := 9, ground := Ground.phase }, { on := 10, ground := Ground.phase }], guard := none }) rfl (fun Kq hKq => ?_) AllReadyH.nil
                · skip
                  have k8 := S8.out.last
                  have f8 := S8.out.frozen 16
                  go_simp
                  clear k8 f8
                  refine hKq.out _ _ ⟨(SdAt.kept I8.out (grown_set _ _ _ _) (by have h8 := SZ4.out; simp; omega)).last, (grown_set _ _ _ _).cell C8.out (by have h8 := SZ4.out; simp; omega)⟩ (fun hHeld => ?_)
                  clear hKq Kq
                  try simp only [Act.put, List.setIfInBounds_toArray, List.set_cons_zero, List.set_cons_succ]
                  refine wpAnyH_done (by kernel_rfl) ?_ _
                  clear hHeld
                  go_wp2
                  go_roundw
                  case rel =>
                    refine ⟨t + 1, .slice p8 (t + 1) c8, hlt, by go_num, S8.out.set _, ?_, gtrans G8.out (grown_set _ _ _ _)⟩
                    rw [TK.out]
                    exact P8.out.young (grown_set _ _ _ _) (by have := SZ4.out; omega)
                  case measure => simp [intOf]; omega
        · skip
          refine step_apa rfl _ _ rfl wd.heap.size _ [] rfl (show Ow _ _ _ _ from HE.out) _ _ _ x rfl (Rd.below RX HBc.out) rfl (by show 0 + _ ≤ _; omega) HBc.out.size ?_
          intro v21 y21 ho6 hg6
          have hg7 := Ow.below_append (show Ow _ _ _ _ from HE.out) HBc.out HBc.out.size hg6 (Nat.le_refl _)
          replace HBc := (show Hid _ from hg7)
          rw [List.nil_append] at ho6
          have HR : Hid (Ow y21 wd.heap.size v21 x) := ho6
          obtain ⟨q6, d6, hv6, hd6, hr6⟩ := ho6.rd
          subst hv6
          clear HE ho6 hg6 hg7 hr6 hd6
          refine hKq.out _ _ ⟨cell_below s16 HBc.out, cell_below cB HBc.out⟩ (fun hHeld => ?_)
          clear hKq Kq
          try simp only [Act.put, List.setIfInBounds_toArray, List.set_cons_zero, List.set_cons_succ]
          refine wpAnyH_ready (rs := [1, 9]) (by kernel_rfl) (by simp) ?_
          refine AllReadyH.cons (o := { dst := some 16, op := Op.load 29 (Operand.tmp 15), type := 29, pos := "outright.go:466", after := #[{ on := 0, ground := Ground.data }], guard := none }) rfl (fun Kq hKq => ?_) (AllReadyH.cons (o := { dst := some 24, op := Op.buildSlice 29 1 #[(0, Operand.tmp 23)], type := 29, pos := "outright.go:466", after := #[{ on := 8, ground := Ground.data }], guard := none }) rfl (fun Kq hKq => ?_) AllReadyH.nil)
          · skip
            have o16 := (SdAt.below hSd HBc.out).last
            go_simp
            clear o16
            refine hKq.out _ _ ⟨cell_below s16 HBc.out, cell_below cB HBc.out⟩ (fun hHeld => ?_)
            clear hKq Kq
            try simp only [Act.put, List.setIfInBounds_toArray, List.set_cons_zero, List.set_cons_succ]
            refine wpAnyH_ready (rs := [9]) (by kernel_rfl) (by simp) ?_
            refine AllReadyH.cons (o := { dst := some 24, op := Op.buildSlice 29 1 #[(0, Operand.tmp 23)], type := 29, pos := "outright.go:466", after := #[{ on := 8, ground := Ground.data }], guard := none }) rfl (fun Kq hKq => ?_) AllReadyH.nil
            · go_simp
              have HC : Hid ((y21.alloc (.cells #[.slice q6 x.length d6] 35)).cell? ⟨y21.heap.size, 0, none⟩ = some (.slice q6 x.length d6)) := cell_one _ _ _
              obtain ⟨y23, hy23⟩ : ∃ z, z = y21.alloc (.cells #[.slice q6 x.length d6] 35) := ⟨_, rfl⟩
              have hbt : Below y21.heap.size y21 y23 := by rw [hy23]; exact (Below.refl _ _).alloc (Nat.le_refl _) _
              rw [← hy23] at HC ⊢
              replace HR : Hid (Ow y23 wd.heap.size (.slice q6 x.length d6) x) := Ow.below HR.out hbt
              replace HBc := (show Hid _ from bt HBc.out hbt)
              clear hbt hy23
              refine hKq.out _ _ ⟨cell_below s16 HBc.out, cell_below cB HBc.out⟩ (fun hHeld => ?_)
              clear hKq Kq
              try simp only [Act.put, List.setIfInBounds_toArray, List.set_cons_zero, List.set_cons_succ]
              refine wpAnyH_ready (rs := [10]) (by kernel_rfl) (by simp) ?_
              refine AllReadyH.cons (o := { dst := some 25, op := Op.call { callee := Callee.builtin Builtin.append, args := #[Operand.tmp 16, Operand.tmp 24], argTypes := #[29, 29] }, type := 29, pos := "outright.go:466", after := #[{ on := 1, ground := Ground.data }, { on := 9, ground := Ground.data }, { on := 8, ground := Ground.chain }], guard := none }) rfl (fun Kq hKq => ?_) AllReadyH.nil
              · skip
                have O7 : Hid (Or y23 w4.heap.size (.slice q0 t c0) us) := Or.below hOr HBc.out
                refine step_apr rfl _ _ rfl w4.heap.size (.slice q0 t c0) us rfl (show Or _ _ _ _ from O7.out) _ _ _ rfl rfl HC.out (by omega) (Nat.le_trans hsr HBc.out.size) ?_
                intro v24 y24 ho8 hg8
                obtain ⟨p8, c8, hv8, hc8, _⟩ := ho8.rd
                rw [List.length_append, hul, hbl, List.length_singleton] at hv8 hc8
                subst hv8
                have S8 := (show Hid (SdAt y24 gO h (.slice q0 t c0)) from sd_or (SdAt.below hSd HBc.out) O7.out hg8)
                have I8 := (show Hid (SdAt y24 w.heap.size h (.slice (some ⟨b1, o1, none⟩) n c)) from sd_or (SdAt.below hIn HBc.out) O7.out hg8)
                have C8 := (show Hid (y24.cell? ⟨b1, o1 + t, none⟩ = some (.slice q1 x.length c1)) from (hg8.cell (cell_below cB HBc.out) (fun e => by have h9 : w4.heap.size ≤ b1 := (own_lt O7.out e.symm).1; have h8 := SZ4.out; omega)))
                have P8 := (show Hid (Bl y24 w4.heap.size (.slice p8 (t + 1) c8) ((bl.take t) ++ [x])) from Bl.push O7.out hul (fun i hi => (HRW.out i hi).below HBc.out) (Ow.mono HR.out hsr) ho8 hg8)
                have G8 := (show Hid (w4.grownBy y24 (some gO)) from grown_or (grown_below hgr HBc.out) O7.out (Nat.le_refl _) hg8)
                clear HC HR O7 ho8 hg8
                refine hKq.out _ _ ⟨I8.out.last, C8.out⟩ (fun hHeld => ?_)
                clear hKq Kq
                try simp only [Act.put, List.setIfInBounds_toArray, List.set_cons_zero, List.set_cons_succ]
                refine takeHr (i := 11) (d := some 26) (v := ?v25) rfl rfl (by kernel_rfl) (by kernel_rfl) (by kernel_rfl) (fun _ _ _ h => h) (Or.inl ⟨by rfl, ?hy25⟩) hHeld ?rest25
                case hy25 => intro X hSw; obtain ⟨g0, g1⟩ := hSw; go_simp <;> with_reducible rfl
                try simp only [Act.put, List.setIfInBounds_toArray, List.set_cons_zero, List.set_cons_succ]
                refine wpAnyH_ready (rs := [12]) (by kernel_rfl) (by simp) ?_
                refine AllReadyH.cons (o := { dst := none, op := Op.store 29 (Operand.tmp 26) (Operand.tmp 25), type := 0, pos := "outright.go:466", after := #[{ on := 11, ground := Ground.data }, { on := 10, ground := Ground.data }, { on := 10, ground := Ground.chain }, { on := 0, ground := Ground.phase }, { on := 1, ground := Ground.phase }, { on := 2, ground := Ground.phase }, { on := 3, ground := Ground.phase }, { on := 4, ground := Ground.phase }, { on := 5, ground := Ground.phase }, { on := 6, ground := Ground.phase }, { on := 7, ground := Ground.phase }, { on := 8, ground := Ground.phase }, { on := 9, ground := Ground.phase }, { on := 10, ground := Ground.phase }], guard := none }) rfl (fun Kq hKq => ?_) AllReadyH.nil
                · skip
                  have k8 := S8.out.last
                  have f8 := S8.out.frozen 16
                  go_simp
                  clear k8 f8
                  refine hKq.out _ _ ⟨(SdAt.kept I8.out (grown_set _ _ _ _) (by have h8 := SZ4.out; simp; omega)).last, (grown_set _ _ _ _).cell C8.out (by have h8 := SZ4.out; simp; omega)⟩ (fun hHeld => ?_)
                  clear hKq Kq
                  try simp only [Act.put, List.setIfInBounds_toArray, List.set_cons_zero, List.set_cons_succ]
                  refine wpAnyH_done (by kernel_rfl) ?_ _
                  clear hHeld
                  go_wp2
                  go_roundw
                  case rel =>
                    refine ⟨t + 1, .slice p8 (t + 1) c8, hlt, by go_num, S8.out.set _, ?_, gtrans G8.out (grown_set _ _ _ _)⟩
                    rw [TK.out]
                    exact P8.out.young (grown_set _ _ _ _) (by have := SZ4.out; omega)
                  case measure => simp [intOf]; omega
          · go_simp
            have HC : Hid ((y21.alloc (.cells #[.slice q6 x.length d6] 35)).cell? ⟨y21.heap.size, 0, none⟩ = some (.slice q6 x.length d6)) := cell_one _ _ _
            obtain ⟨y27, hy27⟩ : ∃ z, z = y21.alloc (.cells #[.slice q6 x.length d6] 35) := ⟨_, rfl⟩
            have hbt : Below y21.heap.size y21 y27 := by rw [hy27]; exact (Below.refl _ _).alloc (Nat.le_refl _) _
            rw [← hy27] at HC ⊢
            replace HR : Hid (Ow y27 wd.heap.size (.slice q6 x.length d6) x) := Ow.below HR.out hbt
            replace HBc := (show Hid _ from bt HBc.out hbt)
            clear hbt hy27
            refine hKq.out _ _ ⟨cell_below s16 HBc.out, cell_below cB HBc.out⟩ (fun hHeld => ?_)
            clear hKq Kq
            try simp only [Act.put, List.setIfInBounds_toArray, List.set_cons_zero, List.set_cons_succ]
            refine wpAnyH_ready (rs := [1]) (by kernel_rfl) (by simp) ?_
            refine AllReadyH.cons (o := { dst := some 16, op := Op.load 29 (Operand.tmp 15), type := 29, pos := "outright.go:466", after := #[{ on := 0, ground := Ground.data }], guard := none }) rfl (fun Kq hKq => ?_) AllReadyH.nil
            · skip
              have o16 := (SdAt.below hSd HBc.out).last
              go_simp
              clear o16
              refine hKq.out _ _ ⟨cell_below s16 HBc.out, cell_below cB HBc.out⟩ (fun hHeld => ?_)
              clear hKq Kq
              try simp only [Act.put, List.setIfInBounds_toArray, List.set_cons_zero, List.set_cons_succ]
              refine wpAnyH_ready (rs := [10]) (by kernel_rfl) (by simp) ?_
              refine AllReadyH.cons (o := { dst := some 25, op := Op.call { callee := Callee.builtin Builtin.append, args := #[Operand.tmp 16, Operand.tmp 24], argTypes := #[29, 29] }, type := 29, pos := "outright.go:466", after := #[{ on := 1, ground := Ground.data }, { on := 9, ground := Ground.data }, { on := 8, ground := Ground.chain }], guard := none }) rfl (fun Kq hKq => ?_) AllReadyH.nil
              · skip
                have O7 : Hid (Or y27 w4.heap.size (.slice q0 t c0) us) := Or.below hOr HBc.out
                refine step_apr rfl _ _ rfl w4.heap.size (.slice q0 t c0) us rfl (show Or _ _ _ _ from O7.out) _ _ _ rfl rfl HC.out (by omega) (Nat.le_trans hsr HBc.out.size) ?_
                intro v29 y29 ho8 hg8
                obtain ⟨p8, c8, hv8, hc8, _⟩ := ho8.rd
                rw [List.length_append, hul, hbl, List.length_singleton] at hv8 hc8
                subst hv8
                have S8 := (show Hid (SdAt y29 gO h (.slice q0 t c0)) from sd_or (SdAt.below hSd HBc.out) O7.out hg8)
                have I8 := (show Hid (SdAt y29 w.heap.size h (.slice (some ⟨b1, o1, none⟩) n c)) from sd_or (SdAt.below hIn HBc.out) O7.out hg8)
                have C8 := (show Hid (y29.cell? ⟨b1, o1 + t, none⟩ = some (.slice q1 x.length c1)) from (hg8.cell (cell_below cB HBc.out) (fun e => by have h9 : w4.heap.size ≤ b1 := (own_lt O7.out e.symm).1; have h8 := SZ4.out; omega)))
                have P8 := (show Hid (Bl y29 w4.heap.size (.slice p8 (t + 1) c8) ((bl.take t) ++ [x])) from Bl.push O7.out hul (fun i hi => (HRW.out i hi).below HBc.out) (Ow.mono HR.out hsr) ho8 hg8)
                have G8 := (show Hid (w4.grownBy y29 (some gO)) from grown_or (grown_below hgr HBc.out) O7.out (Nat.le_refl _) hg8)
                clear HC HR O7 ho8 hg8
                refine hKq.out _ _ ⟨I8.out.last, C8.out⟩ (fun hHeld => ?_)
                clear hKq Kq
                try simp only [Act.put, List.setIfInBounds_toArray, List.set_cons_zero, List.set_cons_succ]
                refine takeHr (i := 11) (d := some 26) (v := ?v30) rfl rfl (by kernel_rfl) (by kernel_rfl) (by kernel_rfl) (fun _ _ _ h => h) (Or.inl ⟨by rfl, ?hy30⟩) hHeld ?rest30
                case hy30 => intro X hSw; obtain ⟨g0, g1⟩ := hSw; go_simp <;> with_reducible rfl
                try simp only [Act.put, List.setIfInBounds_toArray, List.set_cons_zero, List.set_cons_succ]
                refine wpAnyH_ready (rs := [12]) (by kernel_rfl) (by simp) ?_
                refine AllReadyH.cons (o := { dst := none, op := Op.store 29 (Operand.tmp 26) (Operand.tmp 25), type := 0, pos := "outright.go:466", after := #[{ on := 11, ground := Ground.data }, { on := 10, ground := Ground.data }, { on := 10, ground := Ground.chain }, { on := 0, ground := Ground.phase }, { on := 1, ground := Ground.phase }, { on := 2, ground := Ground.phase }, { on := 3, ground := Ground.phase }, { on := 4, ground := Ground.phase }, { on := 5, ground := Ground.phase }, { on := 6, ground := Ground.phase }, { on := 7, ground := Ground.phase }, { on := 8, ground := Ground.phase }, { on := 9, ground := Ground.phase }, { on := 10, ground := Ground.phase }], guard := none }) rfl (fun Kq hKq => ?_) AllReadyH.nil
                · skip
                  have k8 := S8.out.last
                  have f8 := S8.out.frozen 16
                  go_simp
                  clear k8 f8
                  refine hKq.out _ _ ⟨(SdAt.kept I8.out (grown_set _ _ _ _) (by have h8 := SZ4.out; simp; omega)).last, (grown_set _ _ _ _).cell C8.out (by have h8 := SZ4.out; simp; omega)⟩ (fun hHeld => ?_)
                  clear hKq Kq
                  try simp only [Act.put, List.setIfInBounds_toArray, List.set_cons_zero, List.set_cons_succ]
                  refine wpAnyH_done (by kernel_rfl) ?_ _
                  clear hHeld
                  go_wp2
                  go_roundw
                  case rel =>
                    refine ⟨t + 1, .slice p8 (t + 1) c8, hlt, by go_num, S8.out.set _, ?_, gtrans G8.out (grown_set _ _ _ _)⟩
                    rw [TK.out]
                    exact P8.out.young (grown_set _ _ _ _) (by have := SZ4.out; omega)
                  case measure => simp [intOf]; omega
    · obtain rfl : t = n := by omega
      rw [List.take_of_length_le (by rw [HN.out]; exact Nat.le_refl _)] at hBl
      have ZR : SdAt wr (w.heap.size + 1) hd0 (.slice none 0 0) := SdAt.kept HZ4.out hgr (by have h8 := SZ4.out; simp; omega)
      have hbwr : Below w.heap.size w wr := HB4.out.grown hgr HB4.out.size (fun k hk => by have h8 := SZ4.out; injection hk with hk; omega)
      obtain ⟨q0, c0, rfl, _, _⟩ := hBl.rws
      go_wp2_with (first
        | (refine wpList_ldS rfl _ rfl gO rfl hSd ?_)
        | (refine wpList_stS h (.slice q0 bl.length c0) rfl rfl _ _ rfl rfl (w.heap.size + 1) rfl rfl ZR ?_; intro wB HB hTB))
      refine bodyPost_ret (v := .agg (h.sh (.slice q0 bl.length c0))) (res_sd1 rfl _ _ (w.heap.size + 1) h (.slice q0 bl.length c0) rfl HB) rfl ⟨_, rfl, ?_, hTB.2.1 _ _ hbwr (by omega)⟩
      exact (hBl.young hTB.grown (by have := SZ4.out; omega)).mono (by have := SZ4.out; omega)
end
end Go.Proofs.Ytfcjkaigmlfjnaa
/-
  FrameEncodeOwn: the walk.
-/
namespace Go.Proofs.Ytfcjkaigmlfjnaa
open Go.RowKit
def bvk (xs : List (BitVec 8)) (t : Nat) : Value := .int .u8 (el (fn xs t))
theorem ow_mde {w : World} {base : Nat} {v : Value} {xs : List (BitVec 8)} (h : Ow w base v xs) (n : Nat) (hl : xs.length = n) (hn : 0 < n) : ∃ g c, v = .slice (some ⟨g, 0, none⟩) n c ∧ n ≤ c ∧ base ≤ g ∧ Mde 5 w g c n (bvk xs) := by
  unfold Ow at h
  rw [hl] at h
  obtain ⟨g, c, h1, h2, h3⟩ := mde_of (x := bvk xs) h hn
  exact ⟨g, c, h1, h3.le, h2, h3⟩
theorem Mde.rd {w : World} {g c n : Nat} {xs : List (BitVec 8)} (h : Mde 5 w g c n (bvk xs)) (hl : xs.length = n) : Rd w (some ⟨g, 0, none⟩) xs := by
  refine .inr ⟨g, 0, rfl, fun i hi => ?_⟩
  rw [Nat.zero_add]
  exact h.cell (by omega)
theorem SdAt.keep8 {w w' : World} {g : Nat} {h : Hd} {v : Value} (H : SdAt w g h v) (e : w'.heap[g]? = w.heap[g]?) : SdAt w' g h v := by unfold SdAt at H ⊢; rw [e]; exact H
section
attribute [local irreducible] Calls el Hd.cs Hd.sh szC szL cmo
set_option maxHeartbeats 16000000 in
set_option maxRecDepth 1000000 in
theorem frameEncodeOwn_no (h0 : Hd) (hin0 : h0.In) (hy0 : h0.key.length ≤ 9223372036854775807) (a0 : Option Addr) (n0 c0 : Nat) (w : World) (hc0 : chk h0 ≠ 0) :
    Calls Try.prog 3 #[.agg (h0.sh (.slice a0 n0 c0))] w fun e w' => e = .returned (.bool true) ∧ Below w.heap.size w w' := by
  have al : ∀ (W : World) (o : Obj), Below W.heap.size W (W.alloc o) := fun W o => (Below.refl _ _).alloc (Nat.le_refl _) o
  have AW := (show Hid _ from awake_any)
  obtain ⟨W0, hW0⟩ : ∃ W0, W0 = w.alloc (.cells (h0.sh (.slice a0 n0 c0)) 31) := ⟨_, rfl⟩
  have B0 := (show Hid (Below w.heap.size w W0) from by rw [hW0]; exact al _ _)
  have S00 := (show Hid (SdAt W0 w.heap.size h0 (.slice a0 n0 c0)) from by rw [hW0]; exact heap_alloc_new w _)
  have HW0 := (show Hid _ from hW0.symm)
  clear hW0
  go_enter Try.func3, Try.ntmps3
  go_wp2_with (first
    | (go_at_call 4; rw [HW0.out]; refine (AW.out W0).mono ?_; rintro e w1 ⟨rfl, hb1'⟩; have S01 := (show Hid (SdAt w1 w.heap.size h0 (.slice a0 n0 c0)) from SdAt.below S00.out hb1'); have Bw1 := (show Hid (Below w.heap.size w w1) from bt B0.out hb1'); clear S00)
    | (refine wpList_ldS rfl _ rfl w.heap.size rfl S01.out ?_)
    | (go_at_call 5; refine (fit8_no h0 hin0 hy0 a0 n0 c0 w1 hc0).mono ?_; rintro e w2 ⟨rfl, hb2⟩; obtain ⟨v2, hv2⟩ : ∃ v2, v2 = Value.slice a0 n0 c0 := ⟨_, rfl⟩; rw [← hv2]; have ov2 : v2.oneCell' = true := (by rw [hv2]; rfl); clear hv2)
    | (refine wpList_stS h0 v2 ov2 rfl _ _ rfl rfl w2.heap.size rfl rfl (sz0 (heap_alloc_new w2 _)) ?_; intro w3 H3 hT3; have Bw3 := (show Hid (Below w.heap.size w w3) from bt (bt Bw1.out hb2) (hT3.2.1 _ _ (al w2 _) (Nat.le_refl _))); clear hT3 H3))
  go_ret
  exact ⟨rfl, Bw3.out⟩
set_option maxHeartbeats 16000000 in
set_option maxRecDepth 1000000 in
theorem frameEncodeOwn_ok (h0 : Hd) (hin0 : h0.In) (hy0 : h0.key.length ≤ 9223372036854775807) (a0 : Option Addr) (n0 c0 : Nat) (bl0 : List (List (BitVec 8))) (hb0 : bl0.length = n0) (w : World) (hR0 : Rws w a0 bl0) (ok0 : h0.Ok) (hpos : 0 < h0.ls.length) :
    Calls Try.prog 3 #[.agg (h0.sh (.slice a0 n0 c0))] w fun e w' => e = .returned (.bool true) ∧ Below w.heap.size w w' := by
  have al : ∀ (W : World) (o : Obj), Below W.heap.size W (W.alloc o) := fun W o => (Below.refl _ _).alloc (Nat.le_refl _) o
  have AW := (show Hid _ from awake_any)
  have NU := (show Hid _ from fun W => num_any 0 W)
  obtain ⟨F, hF⟩ : ∃ F, F = fitB h0.ls bl0 := ⟨_, rfl⟩
  have FA := (show Hid _ from fun (W : World) (hQ : Rws W a0 bl0) => fit8_apart h0 hin0 ok0 hQ n0 c0 hb0)
  rw [← hF] at FA
  have MF := (show Hid (May h0 F) from by rw [hF]; exact fit_mayE h0 ok0 bl0)
  have hFl : F.length = h0.ls.length := by rw [hF, fitB_len]
  have FP := (show Hid (∀ i, i < F.length → 0 < (F.getD i []).length) from fun i hi => by rw [hF, fitB_row]; exact h0.ls_pos8 ok0 i (by omega))
  have FB := (show Hid (∀ i, (F.getD i []).length ≤ 140737488355328) from fun i => by
    rw [hF, fitB_row]
    have h1 := row_tot h0.ls i
    have h2 := h0.len_bd ok0
    have h3 : h0.len = 40 + h0.key.length + tot h0.ls := rfl
    omega)
  have hlb := h0.ls_bd ok0
  obtain ⟨N, hN⟩ : ∃ N, N = F.length := ⟨_, rfl⟩
  have hNp : 0 < N := by omega
  have hNb : N ≤ 1099511627775 := by omega
  have EN := (show Hid (∀ (W : World) (p : Option Addr) (c : Nat), Rws W p F → Calls Try.prog 6 #[.agg (h0.sh (.slice p N c))] W fun e w' => ∃ v, e = .returned (.tuple #[v, .int .i64 0]) ∧ Ow w' W.heap.size v (h0.fm F) ∧ Below W.heap.size W w') from fun W p c hR => by
    have h1 := encode_any h0 hin0 hy0 hR N c hN.symm
    rw [(en_mayE MF.out).1, (en_mayE MF.out).2] at h1
    exact h1)
  have EI := (show Hid (∀ (W : World) (p : Option Addr) (c : Nat), Rws W p (inc F) → Calls Try.prog 6 #[.agg (h0.sh (.slice p N c))] W fun e w' => ∃ v, e = .returned (.tuple #[v, .int .i64 0]) ∧ Ow w' W.heap.size v (h0.fm (inc F)) ∧ Below W.heap.size W w') from fun W p c hR => by
    have h1 := encode_any h0 hin0 hy0 hR N c (by rw [inc_len]; exact hN.symm)
    rw [(en_mayE (inc_may MF.out)).1, (en_mayE (inc_may MF.out)).2] at h1
    exact h1)
  have CO := (show Hid (∀ (W : World) (p : Option Addr) (c : Nat), Rws W p (inc F) → Calls Try.prog 8 #[.agg (h0.sh (.slice p N c))] W fun e w' => ∃ v, e = .returned (.agg (h0.sh v)) ∧ Bl w' W.heap.size v (inc F) ∧ Below W.heap.size W w') from fun W p c hR =>
    copied8_any h0 hR N c (by rw [inc_len]; exact hN.symm) hNb (fun i => by rw [inc_row, List.length_map]; exact FB.out i))
  obtain ⟨L, hL⟩ : ∃ L, L = (h0.fm F).length := ⟨_, rfl⟩
  have hLp : 0 < L := by rw [hL, h0.fm_len]; omega
  have hLi : (h0.fm (inc F)).length = L := by rw [hL, h0.fm_len, h0.fm_len, inc_ls]
  have hLb : L ≤ 140737488355328 := by
    rw [hL, h0.fm_len, MF.out.2]
    have h2 := h0.len_bd ok0
    have h3 : h0.len = 40 + h0.key.length + tot h0.ls := rfl
    omega
  have NE : h0.fm (inc F) ≠ h0.fm F := fun e => inc_ne (FP.out 0 (by omega)) (fm_inj (inc_may MF.out) MF.out e).2
  obtain ⟨A, hA⟩ : ∃ A, A = h0.fm F := ⟨_, rfl⟩
  obtain ⟨D, hD⟩ : ∃ D, D = h0.fm (inc F) := ⟨_, rfl⟩
  rw [← hA] at EN hL NE
  rw [← hD] at EI hLi NE
  have hLa := hL.symm
  have SA : ((bstr A).toList == (bstr A).toList) = true := by simp
  have SD : ((bstr D).toList == (bstr D).toList) = true := by simp
  have SN : ((bstr D).toList == (bstr A).toList) = false := by rw [bstr_beq]; exact decide_eq_false NE
  obtain ⟨ns, hns⟩ : ∃ ns : Nat → Nat, ns = fun i => (F.getD i []).length := ⟨_, rfl⟩
  obtain ⟨X, hX⟩ : ∃ X : Nat → Nat → BitVec 8, X = fun i t => fn (F.getD i []) t := ⟨_, rfl⟩
  have OP := (show Hid (∀ (W : World) (B : Nat) v, Bla W B v F → ∃ G c gs cs, v = .slice (some ⟨G, 0, none⟩) N c ∧ N ≤ c ∧ B ≤ G ∧ Bo8 W B G N gs cs ns X) from fun W B v hB => by
    rw [hN, hns, hX]
    exact hB.open8 (by omega) FP.out)
  have R0 := (show Hid (∀ (W : World) (B G : Nat) gs cs, Bo8 W B G N gs cs ns X → Rws W (some ⟨G, 0, none⟩) F) from fun W B G gs cs hB => hB.rws hN.symm (fun i _ => by rw [hns]) (fun i t _ _ => by rw [hX]))
  have R1 := (show Hid (∀ (W : World) (B G : Nat) gs cs, Bo8 W B G N gs cs ns (inX X N 0) → Rws W (some ⟨G, 0, none⟩) (inc F)) from fun W B G gs cs hB => hB.rws (by rw [inc_len]; exact hN.symm) (fun i _ => by rw [inc_row, List.length_map, hns]) (fun i t hi ht => by
    rw [inc_at F i t (by rw [hns] at ht; exact ht)]
    unfold inX
    rw [if_pos (.inl hi), hX]))
  have hNi : (inc F).length = N := by rw [inc_len]; exact hN.symm
  have NB := (show Hid (∀ i, ns i ≤ 140737488355328) from fun i => by rw [hns]; exact FB.out i)
  obtain ⟨W0, hW0⟩ : ∃ W0, W0 = w.alloc (.cells (h0.sh (.slice a0 n0 c0)) 31) := ⟨_, rfl⟩
  have B0 := (show Hid (Below w.heap.size w W0) from by rw [hW0]; exact al _ _)
  have S00 := (show Hid (SdAt W0 w.heap.size h0 (.slice a0 n0 c0)) from by rw [hW0]; exact heap_alloc_new w _)
  have Q0 := (show Hid (Rws W0 a0 bl0) from Rws.below hR0 B0.out)
  have HW0 := (show Hid _ from hW0.symm)
  clear hW0 hR0 hF hFl FP FB hlb hN hL hA hD hns hX MF NE ok0 hpos hb0 hin0 hy0
  go_enter Try.func3, Try.ntmps3
  go_wp2_with (first
    | (go_at_call 4; rw [HW0.out]; refine (AW.out W0).mono ?_; rintro e w1 ⟨rfl, hb1'⟩; have S01 := (show Hid (SdAt w1 w.heap.size h0 (.slice a0 n0 c0)) from SdAt.below S00.out hb1'); have Q01 := (show Hid (Rws w1 a0 bl0) from Rws.below Q0.out hb1'); have Bw1 := (show Hid (Below w.heap.size w w1) from bt B0.out hb1'); clear S00 Q0)
    | (refine wpList_ldS rfl _ rfl w.heap.size rfl S01.out ?_)
    | (go_at_call 5; refine (FA.out w1 Q01.out).mono ?_; rintro e w2 ⟨v2, rfl, hB2, hb2⟩; obtain ⟨G, cG, gs, cs, rfl, hcG, hGb, hBo⟩ := OP.out _ _ _ hB2; have OB := (show Hid (Bo8 w2 w1.heap.size G N gs cs ns X) from hBo); clear hB2 hBo S01 Q01 FA)
    | (refine wpList_stS h0 (.slice (some ⟨G, 0, none⟩) N cG) rfl rfl _ _ rfl rfl w2.heap.size rfl rfl (sz0 (heap_alloc_new w2 _)) ?_; intro w3 H3 hT3; have B23 := (show Hid (Below w2.heap.size w2 w3) from hT3.2.1 _ _ (al w2 _) (Nat.le_refl _)); have GL := (show Hid (∀ m, m < N → gs m < w2.heap.size) from fun m hm => (OB.out.rows m hm).lt); have OB3 := (show Hid (Bo8 w3 w1.heap.size G N gs cs ns X) from OB.out.keep B23.out); have H33 := (show Hid (SdAt w3 w2.heap.size h0 (.slice (some ⟨G, 0, none⟩) N cG)) from H3); have Bw3 := (show Hid (Below w.heap.size w w3) from bt (bt Bw1.out hb2) B23.out); clear hT3 H3 OB)
    | (refine wpList_ldS rfl _ rfl w2.heap.size rfl H33.out ?_)
    | (go_at_call 6; revert H33; intro H33; refine (EN.out w3 _ cG (R0.out _ _ _ _ _ OB3.out)).mono ?_; rintro e w4 ⟨v4, rfl, hO4, hb4⟩; obtain ⟨ga, ca, rfl, hca, hga, hMa⟩ := ow_mde hO4 L hLa hLp; have MA4 := (show Hid _ from hMa); have OB4 := (show Hid (Bo8 w4 w1.heap.size G N gs cs ns X) from OB3.out.keep hb4); have H34 := (show Hid (SdAt w4 w2.heap.size h0 (.slice (some ⟨G, 0, none⟩) N cG)) from SdAt.below H33.out hb4); have Bw4 := (show Hid (Below w.heap.size w w4) from bt Bw3.out hb4); have hga2 := (show Hid (w2.heap.size ≤ ga) from Nat.le_trans B23.out.size hga); clear H33 OB3 hO4 hMa hga)
    | (refine wpList_ldS rfl _ rfl w2.heap.size rfl H34.out ?_)
    | (go_at_call 6; revert H34; intro H34; refine (EN.out w4 _ cG (R0.out _ _ _ _ _ OB4.out)).mono ?_; rintro e w5 ⟨v5, rfl, hO5, hb5⟩; obtain ⟨gc, cc, rfl, hcc, hgc, hMc⟩ := ow_mde hO5 L hLa hLp; have MC5 := (show Hid _ from hMc); have MA5 := (show Hid _ from MA4.out.below hb5); have OB5 := (show Hid (Bo8 w5 w1.heap.size G N gs cs ns X) from OB4.out.keep hb5); have H35 := (show Hid (SdAt w5 w2.heap.size h0 (.slice (some ⟨G, 0, none⟩) N cG)) from SdAt.below H34.out hb5); have Bw5 := (show Hid (Below w.heap.size w w5) from bt Bw4.out hb5); have hgc2 := (show Hid (w2.heap.size ≤ gc) from Nat.le_trans (Nat.le_trans B23.out.size hb4.size) hgc); have CVa := conv_rd (MA5.out.rd hLa) L ca hLa; have CVc := conv_rd (MC5.out.rd hLa) L cc hLa; clear H34 OB4 hO5 hMc hgc MA4)
    | (go_at_call 7; refine (NU.out _).mono ?_; rintro e wq ⟨rfl, hq⟩; obtain rfl := hq.symm))
  have KD := (show Hid (∀ wr, Kpt N gs w5 wr → SdAt wr w2.heap.size h0 (.slice (some ⟨G, 0, none⟩) N cG)) from fun wr hk => SdAt.keep8 H35.out (hk.block _ (Hm.lt H35.out) (fun m hm e => by have := GL.out m hm; omega)))
  have KA := (show Hid (∀ wr, Kpt N gs w5 wr → Mde 5 wr ga ca L (bvk A) ∧ Mde 5 wr gc cc L (bvk A)) from fun wr hk => ⟨MA5.out.keep (hk.block _ MA5.out.lt (fun m hm e => by have := GL.out m hm; have := hga2.out; omega)), MC5.out.keep (hk.block _ MC5.out.lt (fun m hm e => by have := GL.out m hm; have := hgc2.out; omega))⟩)
  have KB := (show Hid (∀ wr, Kpt N gs w5 wr → Below w.heap.size w wr) from fun wr hk => Bw5.out.trans (hk.toBelow Bw5.out.size (fun m hm => Nat.le_trans Bw1.out.size (OB5.out.ge m hm))))
  clear CVa CVc MA5 MC5 H35 Bw3 Bw4 Bw5
  go_loopw [11] (fun s11 wr => ∃ i : Nat, i ≤ N ∧ s11 = .int .i64 i ∧ Hid (Bo8 wr w1.heap.size G N gs cs ns (inX X i 0) ∧ Kpt N gs w5 wr)) (fun s11 _ => N - (intOf s11).toNat)
  case atStart => exact ⟨0, Nat.zero_le _, rfl, OB5.out.congr (fun i t _ _ => by unfold inX; rw [if_neg (by omega)]), Kpt.refl _ _ _⟩
  case round =>
    clear OB5
    obtain ⟨i, hiN, rfl, HX⟩ := hrel
    have s16 := (KD.out wr HX.out.2).last
    by_cases hlt : i < N
    · have hii : (i : Int) < (N : Int) := by omega
      go_wp2
      go_loopw [12] (fun s12 wr => ∃ k : Nat, k ≤ ns i ∧ s12 = .int .i64 k ∧ Hid (Bo8 wr w1.heap.size G N gs cs ns (inX X i k) ∧ Kpt N gs w5 wr)) (fun s12 _ => ns i - (intOf s12).toNat)
      case atStart => exact ⟨0, Nat.zero_le _, rfl, HX.out⟩
      case round =>
        clear HX s16
        obtain ⟨k, hkn, rfl, HX⟩ := hrel
        have s16 := (KD.out wr HX.out.2).last
        have cl := HX.out.1.ls i hlt
        have hnb := NB.out i
        by_cases hkl : k < ns i
        · have hki : (k : Int) < (ns i : Int) := by omega
          obtain ⟨x, hx⟩ : ∃ x, x = inX X i k i k := ⟨_, rfl⟩
          have c1 := (HX.out.1.rows i hlt).cell hkl
          rw [← hx] at c1
          have f1 := (HX.out.1.rows i hlt).frozen k
          go_upto_region 18 with fail
          obtain ⟨y, hy⟩ : ∃ y : World, y = { wr with drawn := wr.drawn + 1 } := ⟨_, rfl⟩
          have bd : Below wr.heap.size wr y := by rw [hy]; exact (Below.refl _ _).drew
          have HXy := (show Hid (Bo8 y w1.heap.size G N gs cs ns (inX X i k) ∧ Kpt N gs w5 y) from ⟨HX.out.1.keep bd, HX.out.2.below bd⟩)
          replace s16 := cell_below s16 bd
          replace cl := cell_below cl bd
          replace c1 := cell_below c1 bd
          have f1 := (HXy.out.1.rows i hlt).frozen k
          refine wp_region_still_tail 16 (by kernel_rfl) (by kernel_rfl) ?_
          simp only [List.take_succ_cons, List.take_zero, List.drop_succ_cons, List.drop_zero]
          rw [← hy]
          clear hy bd HX
          repeat still_step
          refine wpStill_nil ?_
          go_wp2
          go_roundw
          case rel => exact ⟨k + 1, by omega, by go_num, HXy.out.1.set hlt (by rw [← hx, el_inc2]), HXy.out.2.set hlt _⟩
          case measure => simp [intOf]; omega
        · have hke : k = ns i := by omega
          have hki : ¬ (k : Int) < (ns i : Int) := by omega
          go_wp2
          go_roundw
          case rel =>
            obtain ⟨y1, y2⟩ := HX.out
            rw [hke] at y1
            exact ⟨i + 1, by omega, by go_num, y1.congr (fun m t _ ht => inX_next X i m t ht), y2⟩
          case measure => simp [intOf]; omega
    · obtain rfl : N = i := by omega
      obtain ⟨hBo, hK⟩ := HX.out
      obtain ⟨hMa, hMc⟩ := KA.out wr hK
      have hbw := KB.out wr hK
      have hSd := KD.out wr hK
      have CVa := conv_rd (hMa.rd hLa) L ca hLa
      have CVc := conv_rd (hMc.rd hLa) L cc hLa
      have RW := (show Hid (Rws wr (some ⟨G, 0, none⟩) (inc F)) from R1.out _ _ _ _ _ hBo)
      have hN0 : ¬ (N : Int) = 0 := by omega
      have hN1 : ((N : Int) == 0) = false := by simpa using hN0
      clear hK HX KA KB KD NB EN OP R0 R1 AW
      go_wp2_with (first
        | (refine wpList_ldS rfl _ rfl w2.heap.size rfl hSd ?_)
        | (revert H8; intro H8; go_at_call 6; refine (EI.out _ _ _ hru).mono ?_; rintro e w9 ⟨v9, rfl, hO9, hb9⟩; obtain ⟨gg, cg, rfl, hcg, _, hMg⟩ := ow_mde hO9 L hLi hLp; replace hMa := hMa.below hb9; replace hMd := hMd.below hb9; replace hSd := SdAt.below hSd hb9; replace hbw := bt hbw hb9; have CVg := conv_rd (hMg.rd hLi) L cg hLi; have CVd := conv_rd (hMd.rd hLi) L cd hLi; have s16 := hSd.last)
        | (go_at_call 6; refine (EI.out _ _ cG RW.out).mono ?_; rintro e w6 ⟨v6, rfl, hO6, hb6⟩; obtain ⟨gd, cd, rfl, hcd, _, hMd⟩ := ow_mde hO6 L hLi hLp; replace hMa := hMa.below hb6; replace hSd := SdAt.below hSd hb6; replace hbw := bt hbw hb6; replace RW := (show Hid _ from Rws.below RW.out hb6); clear hO6 CVa CVc)
        | (go_at_call 8; refine (CO.out _ _ cG RW.out).mono ?_; rintro e w7 ⟨v7, rfl, hB7, hb7⟩; replace hMa := hMa.below hb7; replace hMd := hMd.below hb7; replace hSd := SdAt.below hSd hb7; replace hbw := bt hbw hb7; obtain ⟨pu, cu, ev7, hcu, hru⟩ := hB7.rws; rw [hNi] at ev7; subst ev7)
        | (refine wpList_stS h0 (.slice pu N cu) rfl rfl _ _ rfl rfl w7.heap.size rfl rfl (sz0 (heap_alloc_new w7 _)) ?_; intro w8 H8 hT8; have hb8 := hT8.2.1 _ _ (al w7 _) (Nat.le_refl _); replace hMa := hMa.below hb8; replace hMd := hMd.below hb8; replace hSd := SdAt.below hSd hb8; replace hbw := bt hbw hb8; replace hru := Rws.below hru hb8)
        | (refine wpList_ldS rfl _ rfl w7.heap.size rfl H8 ?_)
        | (go_at_call 7; refine (NU.out _).mono ?_; rintro e wq ⟨rfl, hq⟩; obtain rfl := hq.symm))
      go_ret
      exact ⟨rfl, hbw⟩
set_option maxHeartbeats 16000000 in
set_option maxRecDepth 1000000 in
theorem frameEncodeOwn_zero (h0 : Hd) (hin0 : h0.In) (hy0 : h0.key.length ≤ 9223372036854775807) (a0 : Option Addr) (n0 c0 : Nat) (bl0 : List (List (BitVec 8))) (hb0 : bl0.length = n0) (w : World) (hR0 : Rws w a0 bl0) (ok0 : h0.Ok) (hpos : h0.ls.length = 0) :
    Calls Try.prog 3 #[.agg (h0.sh (.slice a0 n0 c0))] w fun e w' => e = .returned (.bool true) ∧ Below w.heap.size w w' := by
  have al : ∀ (W : World) (o : Obj), Below W.heap.size W (W.alloc o) := fun W o => (Below.refl _ _).alloc (Nat.le_refl _) o
  have AW := (show Hid _ from awake_any)
  have NU := (show Hid _ from fun W => num_any 0 W)
  have hF : fitB h0.ls bl0 = [] := List.eq_nil_of_length_eq_zero (by rw [fitB_len]; exact hpos)
  have MF : May h0 [] := by have h1 := fit_mayE h0 ok0 bl0; rwa [hF] at h1
  have FA := (show Hid (∀ (W : World), Rws W a0 bl0 → Calls Try.prog 5 #[.agg (h0.sh (.slice a0 n0 c0))] W fun e w' => ∃ p c, e = .returned (.tuple #[.agg (h0.sh (.slice p 0 c)), .bool true]) ∧ Below W.heap.size W w') from fun W hQ => (fit8_apart h0 hin0 ok0 hQ n0 c0 hb0).mono (by
    rintro e w' ⟨v, rfl, hB, hb⟩
    rw [hF] at hB
    obtain ⟨p, c, hv, _, _⟩ := hB.bl.rws
    exact ⟨p, c, by rw [hv]; rfl, hb⟩))
  have EN := (show Hid (∀ (W : World) (p : Option Addr) (c : Nat), Calls Try.prog 6 #[.agg (h0.sh (.slice p 0 c))] W fun e w' => ∃ v, e = .returned (.tuple #[v, .int .i64 0]) ∧ Ow w' W.heap.size v (h0.fm []) ∧ Below W.heap.size W w') from fun W p c => by
    have h1 := encode_any h0 hin0 hy0 (w := W) (p := p) (bl := []) (.inl rfl) 0 c rfl
    rw [(en_mayE MF).1, (en_mayE MF).2] at h1
    exact h1)
  have CO := (show Hid (∀ (W : World) (p : Option Addr) (c : Nat), Calls Try.prog 8 #[.agg (h0.sh (.slice p 0 c))] W fun e w' => ∃ q d, e = .returned (.agg (h0.sh (.slice q 0 d))) ∧ Below W.heap.size W w') from fun W p c =>
    (copied8_any h0 (w := W) (p := p) (bl := []) (.inl rfl) 0 c rfl (by decide) (fun i => by simp)).mono (by
      rintro e w' ⟨v, rfl, hB, hb⟩
      obtain ⟨q, d, hv, _, _⟩ := hB.rws
      exact ⟨q, d, by rw [hv]; rfl, hb⟩))
  obtain ⟨L, hL⟩ : ∃ L, L = (h0.fm []).length := ⟨_, rfl⟩
  have hLp : 0 < L := by rw [hL, h0.fm_len]; omega
  obtain ⟨A, hA⟩ : ∃ A, A = h0.fm [] := ⟨_, rfl⟩
  rw [← hA] at EN hL
  have hLa := hL.symm
  have SA : ((bstr A).toList == (bstr A).toList) = true := by simp
  obtain ⟨W0, hW0⟩ : ∃ W0, W0 = w.alloc (.cells (h0.sh (.slice a0 n0 c0)) 31) := ⟨_, rfl⟩
  have B0 := (show Hid (Below w.heap.size w W0) from by rw [hW0]; exact al _ _)
  have S00 := (show Hid (SdAt W0 w.heap.size h0 (.slice a0 n0 c0)) from by rw [hW0]; exact heap_alloc_new w _)
  have Q0 := (show Hid (Rws W0 a0 bl0) from Rws.below hR0 B0.out)
  have HW0 := (show Hid _ from hW0.symm)
  clear hW0 hR0 hF hL hA MF ok0 hpos hb0 hin0 hy0
  go_enter Try.func3, Try.ntmps3
  go_wp2_with (first
    | (go_at_call 4; rw [HW0.out]; refine (AW.out W0).mono ?_; rintro e w1 ⟨rfl, hb1'⟩; have S01 := (show Hid (SdAt w1 w.heap.size h0 (.slice a0 n0 c0)) from SdAt.below S00.out hb1'); have Q01 := (show Hid (Rws w1 a0 bl0) from Rws.below Q0.out hb1'); have Bw1 := (show Hid (Below w.heap.size w w1) from bt B0.out hb1'); clear S00 Q0)
    | (refine wpList_ldS rfl _ rfl w.heap.size rfl S01.out ?_)
    | (go_at_call 5; refine (FA.out w1 Q01.out).mono ?_; rintro e w2 ⟨p2, c2, rfl, hb2⟩; clear S01 Q01 FA)
    | (refine wpList_stS h0 (.slice p2 0 c2) rfl rfl _ _ rfl rfl w2.heap.size rfl rfl (sz0 (heap_alloc_new w2 _)) ?_; intro w3 hSd hT3; have hb3 := hT3.2.1 _ _ (al w2 _) (Nat.le_refl _); have hbw := bt (bt Bw1.out hb2) hb3; clear hT3)
    | (refine wpList_ldS rfl _ rfl w2.heap.size rfl hSd ?_)
    | (revert MA4; intro MA4; go_at_call 6; refine (EN.out w4 _ _).mono ?_; rintro e w5 ⟨v5, rfl, hO5, hb5⟩; obtain ⟨gc, cc, rfl, hcc, hgc, MC5⟩ := ow_mde hO5 L hLa hLp; have MA5 := (show Hid _ from MA4.out.below hb5); replace hSd := SdAt.below hSd hb5; replace hbw := bt hbw hb5; have CVa := conv_rd (MA5.out.rd hLa) L ca hLa; have CVc := conv_rd (MC5.rd hLa) L cc hLa; have s16 := hSd.last; clear MA4)
    | (go_at_call 6; refine (EN.out w3 _ _).mono ?_; rintro e w4 ⟨v4, rfl, hO4, hb4⟩; obtain ⟨ga, ca, rfl, hca, hga, hMa⟩ := ow_mde hO4 L hLa hLp; have MA4 := (show Hid _ from hMa); replace hSd := SdAt.below hSd hb4; replace hbw := bt hbw hb4; clear hMa)
    | (go_at_call 7; refine (NU.out _).mono ?_; rintro e wq ⟨rfl, hq⟩; obtain rfl := hq.symm))
  refine wp_loop_rounds 1 ?_
  rw [rounds_succ]
  go_wp2_with (first
    | (refine wpList_ldS rfl _ rfl w2.heap.size rfl hSd ?_)
    | (revert H8; intro H8; go_at_call 6; refine (EN.out _ _ _).mono ?_; rintro e w9 ⟨v9, rfl, hO9, hb9⟩; obtain ⟨gg, cg, rfl, hcg, _, hMg⟩ := ow_mde hO9 L hLa hLp; replace hMd := hMd.below hb9; replace hSd := SdAt.below hSd hb9; replace hbw := bt hbw hb9; have CVg := conv_rd (hMg.rd hLa) L cg hLa; have CVd := conv_rd (hMd.rd hLa) L cd hLa; have s17 := hSd.last)
    | (go_at_call 6; refine (EN.out _ _ _).mono ?_; rintro e w6 ⟨v6, rfl, hO6, hb6⟩; obtain ⟨gd, cd, rfl, hcd, _, hMd⟩ := ow_mde hO6 L hLa hLp; replace hSd := SdAt.below hSd hb6; replace hbw := bt hbw hb6; clear hO6 CVa CVc s16)
    | (go_at_call 8; refine (CO.out _ _ _).mono ?_; rintro e w7 ⟨pu, cu, rfl, hb7⟩; replace hMd := hMd.below hb7; replace hSd := SdAt.below hSd hb7; replace hbw := bt hbw hb7)
    | (refine wpList_stS h0 (.slice pu 0 cu) rfl rfl _ _ rfl rfl w7.heap.size rfl rfl (sz0 (heap_alloc_new w7 _)) ?_; intro w8 H8 hT8; have hb8 := hT8.2.1 _ _ (al w7 _) (Nat.le_refl _); replace hMd := hMd.below hb8; replace hSd := SdAt.below hSd hb8; replace hbw := bt hbw hb8)
    | (refine wpList_ldS rfl _ rfl w7.heap.size rfl H8 ?_)
    | (go_at_call 7; refine (NU.out _).mono ?_; rintro e wq ⟨rfl, hq⟩; obtain rfl := hq.symm))
  go_ret
  exact ⟨rfl, hbw⟩
theorem frameEncodeOwn_walk (h0 : Hd) (hin0 : h0.In) (hy0 : h0.key.length ≤ 9223372036854775807) (a0 : Option Addr) (n0 c0 : Nat) (bl0 : List (List (BitVec 8))) (hb0 : bl0.length = n0) (w : World) (hR0 : Rws w a0 bl0) :
    Calls Try.prog 3 #[.agg (h0.sh (.slice a0 n0 c0))] w fun e w' => e = .returned (.bool true) ∧ Below w.heap.size w w' := by
  by_cases hc : chk h0 = 0
  · rcases Nat.eq_zero_or_pos h0.ls.length with hp | hp
    · exact frameEncodeOwn_zero h0 hin0 hy0 a0 n0 c0 bl0 hb0 w hR0 ((chk_ok h0).1 hc) hp
    · exact frameEncodeOwn_ok h0 hin0 hy0 a0 n0 c0 bl0 hb0 w hR0 ((chk_ok h0).1 hc) hp
  · exact frameEncodeOwn_no h0 hin0 hy0 a0 n0 c0 w hc
end
end Go.Proofs.Ytfcjkaigmlfjnaa
