/-
  The laws' fit.
-/
import Derived.Test.YtnjgfiiimcacbaaFt8
import Derived.Test.YtnjgfiiimcacbaaQ8f
namespace Go.Proofs.Ytnjgfiiimcacbaa
open Go.RowKit
theorem al_sz (w : World) (o : Obj) : (w.alloc o).heap.size = w.heap.size + 1 := by simp
section
attribute [local irreducible] Calls el Hd.cs Hd.sh szC szL
set_option maxHeartbeats 8000000 in
set_option maxRecDepth 1000000 in
theorem fit8_no (h : Hd) (hi : h.In) (hy : h.key.length ≤ 9223372036854775807) (p : Option Addr) (n c : Nat) (w : World) (hc : chk h ≠ 0) :
    Calls Try.prog 7 #[.agg (h.sh (.slice p n c))] w fun e w' => e = .returned (.tuple #[.agg (h.sh (.slice p n c)), .bool false]) ∧ Below w.heap.size w w' := by
  have al : ∀ (W : World) (o : Obj), Below W.heap.size W (W.alloc o) := fun W o => (Below.refl _ _).alloc (Nat.le_refl _) o
  have H0 := (show Hid (SdAt (w.alloc (.cells (h.sh (.slice p n c)) 31)) w.heap.size h (.slice p n c)) from heap_alloc_new w _)
  have CK := (show Hid _ from fun W => rcheck_any h hi hy W)
  have hc' : (chk h != 0) = true := by simpa using hc
  obtain ⟨z, hz⟩ : ∃ z, z = chk h := ⟨_, rfl⟩
  rw [← hz] at CK hc'
  clear hz hc
  go_enter Try.func7, Try.ntmps7
  go_wp2_with (first
    | (refine wpList_loadIn rfl _ rfl w.heap.size rfl (SdAt.head (SdAt.below H0.out (al _ _))) ?_)
    | (go_at_call 19; refine (CK.out _).mono ?_; rintro e w1 ⟨rfl, hb1⟩; have H1 := (show Hid (SdAt w1 w.heap.size h (.slice p n c)) from SdAt.below (SdAt.below H0.out (al _ _)) hb1); have Z1 := (show Hid (SdAt w1 (w.heap.size + 1) hd0 (.slice none 0 0)) from by have h9 := SdAt.below (sz0 (heap_alloc_new (w.alloc (.cells (h.sh (.slice p n c)) 31)) _)) hb1; rw [al_sz] at h9; exact h9))
    | (refine wpList_ldS rfl _ rfl w.heap.size rfl H1.out ?_)
    | (refine wpList_stS h (.slice p n c) rfl rfl _ _ rfl rfl (w.heap.size + 1) rfl rfl Z1.out ?_; intro wB HB hTB))
  refine bodyPost_ret (v := .tuple #[.agg (h.sh (.slice p n c)), .bool false]) (res_sd rfl _ _ (w.heap.size + 1) h (.slice p n c) _ rfl rfl HB) rfl ⟨rfl, ?_⟩
  exact hTB.2.1 _ _ (bt (bt (al _ _) (al _ _)) hb1) (by omega)
set_option maxHeartbeats 16000000 in
set_option maxRecDepth 1000000 in
theorem fit8_ok (h : Hd) (hi : h.In) (ok : h.Ok) {w : World} {p : Option Addr} {bl : List (List (BitVec 8))} (HB : Rws w p bl) (n c : Nat) (hn : bl.length = n) :
    Calls Try.prog 7 #[.agg (h.sh (.slice p n c))] w fun e w' => ∃ v, e = .returned (.tuple #[.agg (h.sh v), .bool true]) ∧ Bl w' w.heap.size v (fitB h.ls bl) ∧ Below w.heap.size w w' := by
  have al : ∀ (W : World) (o : Obj), Below W.heap.size W (W.alloc o) := fun W o => (Below.refl _ _).alloc (Nat.le_refl _) o
  have H0 := (show Hid (SdAt (w.alloc (.cells (h.sh (.slice p n c)) 31)) w.heap.size h (.slice p n c)) from heap_alloc_new w _)
  have CK := (show Hid _ from fun W => rcheck_any h hi (by have := ok.y2; omega) W)
  rw [(chk_ok h).2 ok] at CK
  have SZ := (show Hid _ from fun W => rsizes_any h.k h.m h.b h.sz hi.k hi.m hi.sz W)
  obtain ⟨z1, z2⟩ := h.ls_eq ok
  rw [z1, z2] at SZ
  unfold shC at SZ
  have HBw := (show Hid (Rws w p bl) from HB)
  have hlb := h.ls_bd ok
  have hld := h.len_bd ok
  have hlen : h.len = 40 + h.key.length + tot h.ls := rfl
  obtain ⟨L, HLS⟩ : ∃ L, Hid (h.ls = L) := ⟨_, rfl⟩
  rw [HLS.out] at SZ hlb hlen ⊢
  have htot : Hid (tot L ≤ 140737488355328) := (by show _ ≤ _; omega)
  clear z1 z2 hld hlen HB
  go_enter Try.func7, Try.ntmps7
  go_wp2_with (first
    | (refine wpList_loadIn rfl _ rfl w.heap.size rfl (SdAt.head (SdAt.below H0.out (al _ _))) ?_)
    | (go_at_call 19; refine (CK.out _).mono ?_; rintro e w1 ⟨rfl, hb1⟩; have H1 := (show Hid (SdAt w1 w.heap.size h (.slice p n c)) from SdAt.below (SdAt.below H0.out (al _ _)) hb1); have Z1 := (show Hid (SdAt w1 (w.heap.size + 1) hd0 (.slice none 0 0)) from by have h9 := SdAt.below (sz0 (heap_alloc_new (w.alloc (.cells (h.sh (.slice p n c)) 31)) _)) hb1; rw [al_sz] at h9; exact h9); have hbw1 := (show Hid (Below w.heap.size w w1) from bt (bt (al _ _) (al _ _)) hb1); obtain ⟨q8, q9, q10, q11, q12, q13, q14, q15⟩ := (SdAt.head H1.out).cells; clear H0)
    | (go_at_call 20; refine (SZ.out _).mono ?_; rintro e w2 ⟨vL, rfl, hO2, hb2⟩; have hOL := (show Hid (Oi w2 w1.heap.size vL L) from hO2); obtain ⟨pL, cL, rfl, hcL, VL⟩ := hO2.rd; have V2 := (show Hid (Vr w2 pL (ic L)) from VL); have H2 := (show Hid (SdAt w2 w.heap.size h (.slice p n c)) from SdAt.below H1.out hb2); have Z2 := (show Hid (SdAt w2 (w.heap.size + 1) hd0 (.slice none 0 0)) from SdAt.below Z1.out hb2); have hbw2 := (show Hid (Below w.heap.size w w2) from bt hbw1.out hb2); clear H1 Z1 hO2 VL)
    | (refine wpList_loadIn rfl _ rfl w.heap.size rfl (SdAt.head H2.out) ?_)
    | (refine wpList_bdS rfl _ rfl rfl ?_)
    | (refine wpList_stS h (.slice none 0 0) rfl rfl _ _ rfl rfl w2.heap.size rfl rfl (sz0 (heap_alloc_new w2 _)) ?_; intro w4 H4 hT4))
  have B24 := (show Hid (Below w2.heap.size w2 w4) from hT4.2.1 _ _ (al w2 _) (Nat.le_refl _))
  have hbw4 := (show Hid (Below w.heap.size w w4) from bt hbw2.out B24.out)
  have SZ4 := (show Hid (w.heap.size + 1 < w2.heap.size ∧ w2.heap.size < w4.heap.size) from ⟨Hm.lt Z2.out, Hm.lt H4⟩)
  have hHL := (show Hid _ from HLS.out)
  clear CK SZ hT4 q8 q9 q10 q11 q12 q13 q14 q15 hb1 hb2
  go_loopw [8] (fun i wr => ∃ (t : Nat) (v : Value), t ≤ L.length ∧ i = .int .i64 (t : Int) ∧ SdAt wr w2.heap.size h v ∧ Bl wr w4.heap.size v ((fitB L bl).take t) ∧ w4.grownBy wr (some w2.heap.size)) (fun i _ => L.length - (intOf i).toNat)
  case atStart => exact ⟨0, .slice none 0 0, Nat.zero_le _, rfl, H4, Bl.nil _ _, grefl _ _⟩
  case round =>
    obtain ⟨t, v, ht, rfl, hSd, hBl, hgr⟩ := hrel
    have hbr : Below w2.heap.size w2 wr := B24.out.grown hgr B24.out.size (fun k hk => by injection hk with hk; omega)
    have hbwr := (show Hid (Below w.heap.size w wr) from bt hbw2.out hbr)
    have hsr := hgr.size
    by_cases hlt : t < L.length
    · obtain ⟨pb, po, ep, hc0'⟩ := V2.out.num t hlt
      subst ep
      have hc' := cell_below hc0' hbr
      have s16 := (SdAt.below H2.out hbr).last
      have hi : (t : Int) < (L.length : Int) := by omega
      obtain ⟨us, hOr, hul, hrows⟩ := hBl
      have hbl : ((fitB L bl).take t).length = t := by rw [List.length_take, fitB_len]; omega
      obtain ⟨q0, c0, hvq, hcq, _⟩ := hOr.rd
      rw [hul, hbl] at hvq hcq
      subst hvq
      have HRW := (show Hid (∀ i, i < ((fitB L bl).take t).length → Ow wr w4.heap.size (us.getD i (.slice none 0 0)) (((fitB L bl).take t).getD i [])) from hrows)
      have htk := tot_take L (t + 1)
      have hsc := tot_snoc L t hlt
      have FT0 := fitB_take L bl t hlt
      obtain ⟨z, hz⟩ : ∃ z, z = L.getD t 0 := ⟨_, rfl⟩
      rw [← hz] at hc' hsc FT0
      have hzb : z ≤ 140737488355328 := by have := htot.out; omega
      obtain ⟨x, hx⟩ : ∃ x, x = bl.getD t [] := ⟨_, rfl⟩
      rw [← hx] at FT0
      have FT := (show Hid _ from FT0)
      have mk := make_bytes z hzb wr
      have o16 := hSd.last
      have rc := fun W : World => cell_of_row (W.alloc (.cells #[.slice (some ⟨wr.heap.size, 0, none⟩) z z] 32)) W.heap.size 0 _ _ (0, 0) (heap_alloc_new W _)
      have AL := (show Hid (Below wr.heap.size wr (wr.alloc (.cells (Array.replicate z (.int .u8 0)) 5))) from al _ _)
      have s16a := cell_below s16 AL.out
      clear hrows htk hsc FT0 hz hc0'
      by_cases hin : t < n
      · have hin' : (t : Int) < (n : Int) := by omega
        obtain ⟨b1, o1, q1, c1, ep1, hc1, hle1, hRd1⟩ := Rws.row (Rws.below HBw.out hbwr.out) t (by omega)
        rw [← hx] at hc1 hle1 hRd1
        subst ep1
        have hc1a := cell_below hc1 AL.out
        have RX := (show Hid (Rd (wr.alloc (.cells (Array.replicate z (.int .u8 0)) 5)) q1 x) from hRd1.below AL.out)
        clear hc1 hRd1 hx
        go_wp2_with (first
          | (refine wpList_cpT rfl (.tmp 45) (.tmp 50) rfl wr.heap.size z rfl q1 c1 x rfl RX.out (heap_alloc_new wr _) hzb ?_; intro w6 hO6 hT6; have B6 := (show Hid (Below wr.heap.size wr w6) from hT6.2.1 _ _ AL.out (Nat.le_refl _)); have hO6' := (show Hid (Ow w6 w4.heap.size (.slice (some ⟨wr.heap.size, 0, none⟩) z z) (padT z x)) from hO6.mono hsr); have O7 := (show Hid (Or (w6.alloc (.cells #[.slice (some ⟨wr.heap.size, 0, none⟩) z z] 32)) w4.heap.size (.slice q0 t c0) us) from (hOr.below B6.out).below (al _ _)); have o16' := (SdAt.below hSd B6.out).last)
          | (at_builtin; refine wpList_apr rfl (.tmp 53) (.tmp 55) rfl w4.heap.size (.slice q0 t c0) us rfl O7.out ⟨w6.heap.size, 0, none⟩ 1 (.slice (some ⟨wr.heap.size, 0, none⟩) z z) rfl rfl (rc w6) (by omega) (Nat.le_trans (Nat.le_trans hsr B6.out.size) (al _ _).size) ?_; intro v8 w8 ho8 hg8; obtain ⟨p8, c8, hv8, hc8, _⟩ := ho8.rd; rw [List.length_append, hul, hbl, List.length_singleton] at hv8 hc8; subst hv8; have S8 := (show Hid (SdAt w8 w2.heap.size h (.slice q0 t c0)) from sd_or (SdAt.below (SdAt.below hSd B6.out) (al _ _)) O7.out hg8); have k8 := S8.out.last; have f8 := S8.out.frozen 16))
        go_roundw
        case rel =>
          have hd7 := bt B6.out (al w6 (.cells #[.slice (some ⟨wr.heap.size, 0, none⟩) z z] 32))
          have hB8 := Bl.push O7.out hul (fun i hi => (HRW.out i hi).below hd7) ((hO6'.out.below (al _ _))) ho8 hg8
          have hg9 := grown_or (grown_below hgr hd7) O7.out (Nat.le_refl _) hg8
          refine ⟨t + 1, .slice p8 (t + 1) c8, hlt, by go_num, S8.out.set _, ?_, gtrans hg9 (grown_set _ _ _ _)⟩
          rw [FT.out]
          exact hB8.young (grown_set _ _ _ _) (by have := SZ4.out; omega)
        case measure => simp [intOf]; omega
      · have hin' : ¬ (t : Int) < (n : Int) := by omega
        have hx0 : x = [] := by rw [hx]; simp [List.getD, List.getElem?_eq_none (show bl.length ≤ t by omega)]
        obtain ⟨w6, hw6⟩ : ∃ w6, w6 = wr.alloc (.cells (Array.replicate z (.int .u8 0)) 5) := ⟨_, rfl⟩
        have B6 := (show Hid (Below wr.heap.size wr w6) from by rw [hw6]; exact AL.out)
        have hO6' := (show Hid (Ow w6 w4.heap.size (.slice (some ⟨wr.heap.size, 0, none⟩) z z) (padT z x)) from by rw [hw6, hx0]; exact (Ow.blank wr z hzb).mono hsr)
        rw [← hw6] at mk s16a
        clear hw6 AL hx hx0
        have O7 := (show Hid (Or (w6.alloc (.cells #[.slice (some ⟨wr.heap.size, 0, none⟩) z z] 32)) w4.heap.size (.slice q0 t c0) us) from (hOr.below B6.out).below (al _ _))
        have o16' := (SdAt.below hSd B6.out).last
        go_wp2_with (first
          | (at_builtin; refine wpList_apr rfl (.tmp 53) (.tmp 55) rfl w4.heap.size (.slice q0 t c0) us rfl O7.out ⟨w6.heap.size, 0, none⟩ 1 (.slice (some ⟨wr.heap.size, 0, none⟩) z z) rfl rfl (rc w6) (by omega) (Nat.le_trans (Nat.le_trans hsr B6.out.size) (al _ _).size) ?_; intro v8 w8 ho8 hg8; obtain ⟨p8, c8, hv8, hc8, _⟩ := ho8.rd; rw [List.length_append, hul, hbl, List.length_singleton] at hv8 hc8; subst hv8; have S8 := (show Hid (SdAt w8 w2.heap.size h (.slice q0 t c0)) from sd_or (SdAt.below (SdAt.below hSd B6.out) (al _ _)) O7.out hg8); have k8 := S8.out.last; have f8 := S8.out.frozen 16))
        go_roundw
        case rel =>
          have hd7 := bt B6.out (al w6 (.cells #[.slice (some ⟨wr.heap.size, 0, none⟩) z z] 32))
          have hB8 := Bl.push O7.out hul (fun i hi => (HRW.out i hi).below hd7) ((hO6'.out.below (al _ _))) ho8 hg8
          have hg9 := grown_or (grown_below hgr hd7) O7.out (Nat.le_refl _) hg8
          refine ⟨t + 1, .slice p8 (t + 1) c8, hlt, by go_num, S8.out.set _, ?_, gtrans hg9 (grown_set _ _ _ _)⟩
          rw [FT.out]
          exact hB8.young (grown_set _ _ _ _) (by have := SZ4.out; omega)
        case measure => simp [intOf]; omega
    · obtain rfl : t = L.length := by omega
      rw [List.take_of_length_le (by rw [fitB_len]; exact Nat.le_refl _)] at hBl
      have ZR := SdAt.below Z2.out hbr
      obtain ⟨q0, c0, rfl, _, _⟩ := hBl.rws
      go_wp2_with (first
        | (refine wpList_ldS rfl _ rfl w2.heap.size rfl hSd ?_)
        | (refine wpList_stS h (.slice q0 (fitB L bl).length c0) rfl rfl _ _ rfl rfl (w.heap.size + 1) rfl rfl ZR ?_; intro wB HB hTB))
      refine bodyPost_ret (v := .tuple #[.agg (h.sh (.slice q0 (fitB L bl).length c0)), .bool true]) (res_sd rfl _ _ (w.heap.size + 1) h (.slice q0 (fitB L bl).length c0) _ rfl rfl HB) rfl ⟨_, rfl, ?_, hTB.2.1 _ _ hbwr.out (by omega)⟩
      exact (hBl.young hTB.grown (by have := SZ4.out; omega)).mono (by have := SZ4.out; omega)
end
end Go.Proofs.Ytnjgfiiimcacbaa
