/-
  Stripe: cut, each block in memory of its own.
-/
import Derived.Test.YtgokkppojhokbaaCu10
import Derived.Test.YtgokkppojhokbaaSp10
namespace Go.Proofs.Ytgokkppojhokbaa
open Go.RowKit
section
attribute [local irreducible] Calls el Ov clE NmE NrE
set_option maxHeartbeats 8000000 in
set_option maxRecDepth 1000000 in
theorem cutb_own {w : World} {p pd : Option Addr} {L : List Nat} {n : Nat} {d : Nat → BitVec 8} (hL : Vr w p (icN L)) (c cd : Nat) (hS : L.sum = n) (hn : n ≤ 140737488355328) (hl : L.length ≤ 1000000000) (hcd : n ≤ cd) (hD : NrE w (.slice pd n cd) n d) :
    Calls Try.prog 17 #[.slice pd n cd, .slice p L.length c] w fun e w' => ∃ (B : Nat) (ρ : Nat → Nat), e = .returned (.slice (some ⟨B, 0, none⟩) L.length L.length) ∧ B = w.heap.size ∧ Ov w' 23 B (fun j => .slice (some ⟨ρ j, 0, none⟩) (L.getD j 0) (L.getD j 0)) L.length ∧ (∀ j, j < L.length → Ov w' 5 (ρ j) (clE (fun x => d ((L.take j).sum + x))) (L.getD j 0)) ∧ (∀ j, j < L.length → B < ρ j ∧ ρ j < w'.heap.size) ∧ (∀ i i', i < i' → i' < L.length → ρ i < ρ i') ∧ B < w'.heap.size ∧ Below w.heap.size w w' := by
  have hD0 : NrE w (.slice pd (n - 0) cd) (n - 0) (fun j => d (0 + j)) := by simpa using hD
  have hm1 := makeYn L.length hl
  have HO0 : Hid (Ov (w.alloc (.cells (Array.replicate L.length (.slice none 0 0)) 23)) 23 w.heap.size (fun i => if i < 0 then .slice (some ⟨0, 0, none⟩) (L.getD i 0) (L.getD i 0) else .slice none 0 0) L.length) := (ov_new w 23 (.slice none 0 0) L.length).congr (fun i _ => by rw [if_neg (by omega)])
  have HB0 : Hid (Below w.heap.size w (w.alloc (.cells (Array.replicate L.length (.slice none 0 0)) 23))) := (Below.refl _ _).alloc (Nat.le_refl _) _
  have HS0 : Hid (w.heap.size < (w.alloc (.cells (Array.replicate L.length (.slice none 0 0)) 23)).heap.size) := by show _ < _; simp
  go_enter Try.func17, Try.ntmps17
  go_wp2
  clear hm1
  go_loopw [0, 13] (fun dv i wr => ∃ (t : Nat) (ρ : Nat → Nat) (p' : Option Addr) (c' : Nat), t ≤ L.length ∧ i = .int .i64 t ∧ dv = .slice p' (n - (L.take t).sum) c' ∧ n - (L.take t).sum ≤ c' ∧ Hid (NrE w (.slice p' (n - (L.take t).sum) c') (n - (L.take t).sum) (fun j => d ((L.take t).sum + j))) ∧ Ov wr 23 w.heap.size (fun i => if i < t then .slice (some ⟨ρ i, 0, none⟩) (L.getD i 0) (L.getD i 0) else .slice none 0 0) L.length ∧ Hid (∀ i, i < t → Ov wr 5 (ρ i) (clE (fun x => d ((L.take i).sum + x))) (L.getD i 0)) ∧ Hid (∀ i, i < t → w.heap.size < ρ i ∧ ρ i < wr.heap.size) ∧ Hid (∀ i i', i < i' → i' < t → ρ i < ρ i') ∧ Hid (w.heap.size < wr.heap.size) ∧ Below w.heap.size w wr) (fun _ i _ => L.length - (intOf i).toNat)
  case atStart => exact ⟨0, fun _ => 0, pd, cd, Nat.zero_le _, rfl, rfl, hcd, hD0, HO0.out, fun i hi => by omega, fun i hi => by omega, fun i i' _ hi => by omega, HS0, HB0.out⟩
  case round =>
    clear HO0 HB0 HS0
    obtain ⟨t, ρ, p', c', ht, rfl, rfl, hc', hN, hO, hR, hP, hI, hSz, hb⟩ := hrel
    by_cases hlt : t < L.length
    · have j1 : (t : Int) < (L.length : Int) := by omega
      obtain ⟨g1, o1, rfl, hc⟩ := hL.num t hlt
      have hA1 := sum_take_lt L t hlt
      have hA2 := sum_take_succ L t hlt
      obtain ⟨A, hA⟩ : ∃ A, A = (L.take t).sum := ⟨_, rfl⟩
      obtain ⟨l, hll⟩ : ∃ l, l = L.getD t 0 := ⟨_, rfl⟩
      rw [← hA] at hA1 hA2 hN hc'
      rw [← hll] at hA1 hA2 hc
      rw [← hA]
      have HA := (show Hid _ from hA)
      have Hll := (show Hid _ from hll)
      clear hA hll
      have hm2 := make_bytes l (by omega)
      obtain ⟨p3, c3, hcf, hc3, hN3⟩ := cut_from (lo := l) hN.out hc' (by omega)
      have g1' := cell_below hc hb
      have B1 := (Below.refl wr.heap.size wr).alloc (Nat.le_refl _) (.cells (Array.replicate l (.int .u8 0)) 5)
      have hO1 := hO.below B1
      have g3 := hO1.cell hlt
      have g4 := hO1.frozen t
      have hsz := hSz.out
      have B2 := (Below.refl (wr.setCell ⟨w.heap.size, t, none⟩ (.slice (some ⟨wr.heap.size, 0, none⟩) l l)).heap.size (wr.setCell ⟨w.heap.size, t, none⟩ (.slice (some ⟨wr.heap.size, 0, none⟩) l l))).alloc (Nat.le_refl _) (.cells (Array.replicate l (.int .u8 0)) 5)
      have HO2 := (show Hid _ from (hO.set hlt (.slice (some ⟨wr.heap.size, 0, none⟩) l l)).below B2)
      have HN0 : Hid (Ov ((wr.setCell ⟨w.heap.size, t, none⟩ (.slice (some ⟨wr.heap.size, 0, none⟩) l l)).alloc (.cells (Array.replicate l (.int .u8 0)) 5)) 5 wr.heap.size (fun _ => .int .u8 0) l) := by
        have h := ov_new (wr.setCell ⟨w.heap.size, t, none⟩ (.slice (some ⟨wr.heap.size, 0, none⟩) l l)) 5 (.int .u8 0) l
        rw [← size_set] at h; exact h
      have HBk : Hid (Below w.heap.size w ((wr.setCell ⟨w.heap.size, t, none⟩ (.slice (some ⟨wr.heap.size, 0, none⟩) l l)).alloc (.cells (Array.replicate l (.int .u8 0)) 5))) := (hb.setCell (Nat.le_refl _) _).alloc (by rw [← size_set]; exact hb.size) _
      have HSV : Hid (Sv ((wr.setCell ⟨w.heap.size, t, none⟩ (.slice (some ⟨wr.heap.size, 0, none⟩) l l)).alloc (.cells (Array.replicate l (.int .u8 0)) 5)) (.slice p' (n - A) c') (n - A) (clE (fun j => d (A + j))) (n - A)) := nr_sv (NrE.below hN.out HBk.out)
      have HRk : Hid (∀ i, i < t → Ov ((wr.setCell ⟨w.heap.size, t, none⟩ (.slice (some ⟨wr.heap.size, 0, none⟩) l l)).alloc (.cells (Array.replicate l (.int .u8 0)) 5)) 5 (ρ i) (clE (fun x => d ((L.take i).sum + x))) (L.getD i 0)) := fun i hi => ((hR.out i hi).other (p := ⟨w.heap.size, t, none⟩) (by show ρ i ≠ w.heap.size; have := (hP.out i hi).1; omega) rfl).below B2
      have gx : ((wr.setCell ⟨w.heap.size, t, none⟩ (.slice (some ⟨wr.heap.size, 0, none⟩) l l)).alloc (.cells (Array.replicate l (.int .u8 0)) 5)).cell? ⟨w.heap.size, t, none⟩ = some (.slice (some ⟨wr.heap.size, 0, none⟩) l l) := by
        have h := HO2.out.cell hlt
        rw [if_pos rfl] at h; exact h
      have HSZ : Hid (wr.heap.size < ((wr.setCell ⟨w.heap.size, t, none⟩ (.slice (some ⟨wr.heap.size, 0, none⟩) l l)).alloc (.cells (Array.replicate l (.int .u8 0)) 5)).heap.size) := by show _ < _; simp
      have HN3 := (show Hid _ from hN3)
      clear hO hO1 hb hR B1 B2 hN hc hN3
      go_wp2_with (refine wpList_copy_at rfl _ _ 23 23 rfl 5 Try.underlying23 (by kernel_rfl) (some ⟨wr.heap.size, 0, none⟩) l l _ rfl rfl wr.heap.size 0 l 5 _ (clE (fun j => d (A + j))) (n - A) l (by omega) HN0.out HSV.out (clE_one _) (fun _ => rfl) (by omega) ?_; intro w2 hO2 hB2)
      have hsz2 := hB2.sz
      have hsz3 := HSZ.out
      go_roundw
      case rel =>
        have eA : (L.take (t + 1)).sum = A + l := hA2
        have en : n - (A + l) = n - A - l := by omega
        refine ⟨t + 1, fun i => if i = t then wr.heap.size else ρ i, p3, c3, by omega, by go_num, by rw [eA, en], by rw [eA]; omega, ?_, (hB2.ov HO2.out (by omega)).congr (fun i _ => ?_), fun i hi => ?_, fun i hi => ?_, fun i i' hii hi => ?_, ?_, But.from HBk.out hB2 (by omega)⟩
        · have h := HN3.out
          rw [eA, en]
          exact (show (fun j => d (A + (l + j))) = (fun j => d (A + l + j)) from funext fun j => by rw [Nat.add_assoc]) ▸ h
        · dsimp only
          by_cases e : i = t
          · subst e
            rw [if_pos rfl, if_pos (by omega), if_pos rfl, ← Hll.out]
          · rw [if_neg e]
            by_cases e2 : i < t
            · rw [if_pos e2, if_pos (by omega), if_neg e]
            · rw [if_neg e2, if_neg (by omega)]
        · show Ov w2 _ (if i = t then wr.heap.size else ρ i) _ _
          by_cases e : i = t
          · subst e; rw [if_pos rfl, ← Hll.out, ← HA.out]
            exact hO2.congr (fun j hj => by unfold ovl; rw [if_pos (by omega), Nat.sub_zero])
          · rw [if_neg e]; exact hB2.ov (HRk.out i (by omega)) (by have := (hP.out i (by omega)).2; omega)
        · show w.heap.size < (if i = t then wr.heap.size else ρ i) ∧ (if i = t then wr.heap.size else ρ i) < w2.heap.size
          by_cases e : i = t
          · rw [if_pos e]; omega
          · rw [if_neg e]; have := hP.out i (by omega); omega
        · show (if i = t then wr.heap.size else ρ i) < (if i' = t then wr.heap.size else ρ i')
          rw [if_neg (show ¬ i = t by omega)]
          by_cases e : i' = t
          · rw [if_pos e]; exact (hP.out i (by omega)).2
          · rw [if_neg e]; exact hI.out i i' hii (by omega)
        · show _ < _
          omega
      case measure => simp [intOf]; omega
    · obtain rfl : t = L.length := by omega
      go_wp2
      go_ret
      exact ⟨_, ρ, rfl, rfl, hO.congr (fun i hi => by rw [if_pos hi]), hR.out, fun j hj => hP.out j hj, fun i i' h1 h2 => hI.out i i' h1 h2, hSz.out, hb⟩
end
end Go.Proofs.Ytgokkppojhokbaa
/-
  Stripe: Split, each block of each shard in memory of its own.
-/
namespace Go.Proofs.Ytgokkppojhokbaa
open Go.RowKit
/-- A shard's blocks, each in a block of its own, all of them from lo on and below hi. -/
def ShO (w : World) (v : Value) (L : List Nat) (N : Nat → Nat → BitVec 8) (lo hi : Nat) : Prop := ∃ (B : Nat) (ρ : Nat → Nat), v = .slice (some ⟨B, 0, none⟩) L.length L.length ∧ Ov w 23 B (fun j => .slice (some ⟨ρ j, 0, none⟩) (L.getD j 0) (L.getD j 0)) L.length ∧ (∀ j, j < L.length → Ov w 5 (ρ j) (clE (N j)) (L.getD j 0)) ∧ (∀ j, j < L.length → B < ρ j ∧ ρ j < hi) ∧ (∀ i i', i < i' → i' < L.length → ρ i < ρ i') ∧ lo ≤ B ∧ B < hi
theorem ShO.below {w w' : World} {v : Value} {L : List Nat} {N : Nat → Nat → BitVec 8} {lo hi : Nat} (h : ShO w v L N lo hi) (hb : Below w.heap.size w w') : ShO w' v L N lo hi := by
  obtain ⟨B, ρ, h1, h2, h3, h4⟩ := h
  exact ⟨B, ρ, h1, h2.below hb, fun j hj => (h3 j hj).below hb, h4⟩
theorem ShO.but {w w' : World} {v : Value} {L : List Nat} {N : Nat → Nat → BitVec 8} {lo hi g : Nat} (h : ShO w v L N lo hi) (hb : But g w w') (hg : g < lo) : ShO w' v L N lo hi := by
  obtain ⟨B, ρ, h1, h2, h3, h4, h5, h6, h7⟩ := h
  exact ⟨B, ρ, h1, hb.ov h2 (by omega), fun j hj => hb.ov (h3 j hj) (by have := (h4 j hj).1; omega), h4, h5, h6, h7⟩
section
attribute [local irreducible] Calls el Ov clE NmE NmC NmT NrE Hd.cs shc flat spc mm dm pad
set_option maxHeartbeats 16000000 in
set_option maxRecDepth 1000000 in
theorem split_own (h : Hd) (hi : h.In) (hy : h.key.length ≤ 9223372036854775807) (p : Option Addr) (n c : Nat) (hn : n ≤ 140737488355328) (hnc : n ≤ c) (d : Nat → BitVec 8) (w : World) (hD : NrE w (.slice p n c) n d) (hc : chk (h.of n) = 0) (K M B : Nat) (L : List Nat) (hu : h.Nu n K M B L) (hz1 : szC h.k h.m h.b n = 0) (hz2 : szL h.k h.m h.b n = L) :
    Calls Try.prog 6 #[.agg h.cs, .slice p n c] w fun e w' => ∃ (g : Nat) (F : Nat → Nat → BitVec 8) (vs : Nat → Value) (bd : Nat → Nat), e = .returned (.tuple #[.slice (some ⟨g, 0, none⟩) (K + M) (K + M), .int .i64 0]) ∧ Fac K F ∧ Ov w' 44 g (flat (spc (h.of n) (K + M) vs)) ((K + M) * 17) ∧ (∀ i, i < K + M → ShO w' (vs i) L (fun j x => mm fdE K F (dm K L (pad n d)) i ((L.take j).sum + x)) (bd i) (bd (i + 1))) ∧ (∀ i, i ≤ K + M → g < bd i) ∧ bd (K + M) ≤ w'.heap.size ∧ w.heap.size ≤ g ∧ Below w.heap.size w w' := by
  have al : ∀ (W : World) (o : Obj), Below W.heap.size W (W.alloc o) := fun W o => (Below.refl _ _).alloc (Nat.le_refl _) o
  have H0 := HdAt.new w h
  have CK := (show Hid _ from fun W => check_any (h.of n) (Hd.of_in hi hn) hy W)
  rw [hc] at CK
  have hnz : In64 (n : Int) := ⟨by omega, by omega⟩
  have BL := (show Hid _ from fun W => blocks_any h.k h.m h.b (n : Int) hi.m hnz W)
  rw [hz1, hz2, hu.k, hu.m, hu.b] at BL
  unfold shC at BL
  have NE := (show Hid _ from fun W => new_ok K M hu.m1 hu.mle hu.km W)
  have H2 := hdAt_of w h n
  have H1 : HdAt (w.alloc (.cells (h.cs.setIfInBounds 12 (.int .i64 (n : Int))) 33)) w.heap.size { h with sz := (n : Int) } := hdAt_sz w h n
  have f1 := H0.frozen 12
  have f2 := H1.frozen 13
  obtain ⟨q8, q9, q10, q11, q12, q13, q14, q15⟩ := H0.cells
  obtain ⟨r8, r9, r10, r11, r12, r13, r14, r15⟩ := H1.cells
  have hS : L.sum ≤ 140737488355328 := by have := hu.s; have := hu.n1; omega
  have hL : L.length ≤ 1000000000 := by have := hu.r; have := hu.n1; omega
  have hm1 := makeSd (K + M) (by have := hu.km; omega)
  rw [Int.natCast_add] at hm1
  go_enter Try.func6, Try.ntmps6
  go_wp2_with (first
    | (refine wpList_loadHd rfl _ rfl w.heap.size rfl H2 ?_)
    | (go_at_call 12; refine (CK.out _).mono ?_; rintro e w3 ⟨rfl, hb3⟩; have H3 := H2.below hb3; obtain ⟨a8, a9, a10, a11, a12, a13, a14, a15⟩ := H3.cells; rw [show (h.of n).k = (K : Int) from hu.k] at a8; rw [show (h.of n).m = (M : Int) from hu.m] at a9; rw [show (h.of n).b = (B : Int) from hu.b] at a10; rw [show (h.of n).sz = (n : Int) from rfl] at a12)
    | (go_at_call 13; refine (BL.out _).mono ?_; rintro e w4 ⟨vL, rfl, hO4, hb4⟩; have H4 := H3.below hb4; obtain ⟨b8, b9, b10, b11, b12, b13, b14, b15⟩ := H4.cells; rw [show (h.of n).k = (K : Int) from hu.k] at b8; rw [show (h.of n).m = (M : Int) from hu.m] at b9; obtain ⟨pL, cL, rfl, hcL, VL⟩ := hO4.rd)
    | (go_at_call 14; refine (NE.out _).mono ?_; rintro e w5 ⟨vC, F, rfl, hC, hF, hb5⟩; have H5 := H4.below hb5; obtain ⟨d8, d9, d10, d11, d12, d13, d14, d15⟩ := H5.cells; rw [show (h.of n).k = (K : Int) from hu.k] at d8; have hD5 := (show Hid (NrE w5 (.slice p n c) n d) from NrE.below (NrE.below (NrE.below (NrE.below hD (al _ _)) hb3) hb4) hb5); have VL5 := (show Hid (Vr w5 pL (icN L)) from VL.below hb5))
    | (go_at_call 16; refine (dataRows_any VL5.out cL c hS (by omega) (by have := hu.km; omega) hnc hD5.out).mono ?_; rintro e w6 ⟨B6, ρ6, rfl, hG6, hB6, hb6⟩)
    | (go_at_call 15; refine (encode_c (hC.below hb6) hF hu.k1 hu.m1 hu.km hS (gr_nm hG6)).mono ?_; rintro e w7 ⟨v7, rfl, hN7, hb7, hcp⟩; obtain ⟨p7, c7, rfl, hc7⟩ := hcp))
  clear hm1 H0 H1 H2 CK BL NE
  have hs3 := hb3.size
  have hs4 := hb4.size
  have hs5 := hb5.size
  have hs6 := hb6.size
  have hs7 := hb7.size
  have hsw : w.heap.size < w3.heap.size := Nat.lt_of_lt_of_le (by simp) hs3
  have hs0 : w.heap.size < w7.heap.size := by omega
  have H7 := (show Hid (HdAt w7 w.heap.size (h.of n)) from (H5.below hb6).below hb7)
  have HB7 := (show Hid (Below w.heap.size w w7) from bt (bt (bt (bt (bt (al _ _) hb3) hb4) hb5) hb6) hb7)
  have HN7 := (show Hid (NmC w7 (.slice p7 (K + M) c7) (K + M) L.sum (mm fdE K F (dm K L (pad n d)))) from hN7)
  have HL7 := (show Hid (Oi w7 w3.heap.size (.slice pL L.length cL) L) from (((hO4.below hb5).below hb6).below hb7))
  clear H3 H4 H5 hN7 hO4 VL VL5 hD5 hG6 hb3 hb4 hb5 hb6 hb7
  have hkm := hu.km
  have hk1 := hu.k1
  have O0 : Hid (Ov (w7.alloc (.cells (rv (flat (fun _ => shc hd0 (.slice none 0 0))) ((K + M) * 17)) 44)) 44 w7.heap.size (flat (spc (h.of n) 0 (fun _ => .slice none 0 0))) ((K + M) * 17)) := by
    have e : (fun _ => shc hd0 (.slice none 0 0)) = spc (h.of n) 0 (fun _ => .slice none 0 0) := by funext i; unfold spc; rw [if_neg (by omega)]
    show Ov _ _ _ _ _
    rw [← e]
    exact ov_alloc w7 _ _ _
  have BU0 : Hid (But w.heap.size w7 (w7.alloc (.cells (rv (flat (fun _ => shc hd0 (.slice none 0 0))) ((K + M) * 17)) 44))) := (But.refl _ _).below (Nat.le_of_lt hs0) (al _ _)
  have H70 : Hid (HdAt (w7.alloc (.cells (rv (flat (fun _ => shc hd0 (.slice none 0 0))) ((K + M) * 17)) 44)) w.heap.size { h.of n with ix := 0 }) := H7.out.below (al _ _)
  have SZ0 : Hid (w7.heap.size < (w7.alloc (.cells (rv (flat (fun _ => shc hd0 (.slice none 0 0))) ((K + M) * 17)) 44)).heap.size) := by show _ < _; simp
  go_loopw [59] (fun i wr => ∃ (t : Nat) (vs : Nat → Value) (bd : Nat → Nat) (z : Int), t ≤ K + M ∧ i = .int .i64 (t : Int) ∧ Hid (Ov wr 44 w7.heap.size (flat (spc (h.of n) t vs)) ((K + M) * 17)) ∧ Hid (∀ i, i < t → ShO wr (vs i) L (fun j x => mm fdE K F (dm K L (pad n d)) i ((L.take j).sum + x)) (bd i) (bd (i + 1))) ∧ Hid ((∀ i, i ≤ t → w7.heap.size < bd i) ∧ bd t ≤ wr.heap.size) ∧ Hid (HdAt wr w.heap.size { h.of n with ix := z }) ∧ Hid (w7.heap.size < wr.heap.size) ∧ Hid (But w.heap.size w7 wr)) (fun i _ => K + M - (intOf i).toNat)
  case atStart => exact ⟨0, fun _ => .slice none 0 0, fun _ => w7.heap.size + 1, 0, Nat.zero_le _, rfl, O0, fun i hi => by omega, ⟨fun i _ => Nat.lt_succ_self _, SZ0.out⟩, H70, SZ0, BU0⟩
  case round =>
    clear O0 BU0 H70 SZ0
    obtain ⟨t, vs, bd, z, ht, rfl, hO, hR, hDd, hH, hSz, hB⟩ := hrel
    by_cases hlt : t < K + M
    · have j1 : (t : Int) < (K : Int) + (M : Int) := by omega
      have NC := (show Hid (NmC wr (.slice p7 (K + M) c7) (K + M) L.sum (mm fdE K F (dm K L (pad n d)))) from HN7.out.but hB.out H7.out (by decide) (by decide))
      obtain ⟨b7, o7, ps, e7, hc7', hr7⟩ := NC.out.at (by omega)
      subst e7
      have g1 := hc7' t hlt
      have g2 := hH.out.frozen 13
      obtain ⟨s8, s9, s10, s11, s12, s13, s14, s15⟩ := hH.out.cells
      have H13 := (show Hid (HdAt (wr.setCell ⟨w.heap.size, 13, none⟩ (.int .i64 (t : Int))) w.heap.size { h.of n with ix := (t : Int) }) from hH.out.index (t : Int))
      have hB1 := (show Hid (But w.heap.size w7 (wr.setCell ⟨w.heap.size, 13, none⟩ (.int .i64 (t : Int)))) from hB.out.set 13 _)
      have hne : w7.heap.size ≠ w.heap.size := by omega
      have H1d := (show Hid (HdAt (wr.setCell ⟨w.heap.size, 13, none⟩ (.int .i64 (t : Int))).drew w.heap.size { h.of n with ix := (t : Int) }) from H13.out.below (bdr _))
      have O1d := (show Hid (Ov (wr.setCell ⟨w.heap.size, 13, none⟩ (.int .i64 (t : Int))).drew 44 w7.heap.size (flat (spc (h.of n) t vs)) ((K + M) * 17)) from (hO.out.other (p := ⟨w.heap.size, 13, none⟩) hne rfl).below (bdr _))
      have B1d := (show Hid (But w.heap.size w7 (wr.setCell ⟨w.heap.size, 13, none⟩ (.int .i64 (t : Int))).drew) from hB1.out.drew)
      have R1d := (show Hid (But w.heap.size wr (wr.setCell ⟨w.heap.size, 13, none⟩ (.int .i64 (t : Int))).drew) from ((But.refl _ _).set 13 _).drew)
      have S1d := (show Hid (w7.heap.size < (wr.setCell ⟨w.heap.size, 13, none⟩ (.int .i64 (t : Int))).drew.heap.size) from by have := hSz.out; show _ < _; simpa using this)
      have X1d := (show Hid (NrE (wr.setCell ⟨w.heap.size, 13, none⟩ (.int .i64 (t : Int))).drew (.slice (ps t) L.sum L.sum) L.sum (mm fdE K F (dm K L (pad n d)) t)) from st_nr ((hr7 t hlt).but R1d.out hH.out (by decide)))
      have V1d := (show Hid (Vr (wr.setCell ⟨w.heap.size, 13, none⟩ (.int .i64 (t : Int))).drew pL (icN L)) from Oi.vr (own_but HL7.out B1d.out hsw))
      have T1d := (show Hid (∀ i, i < t → ShO (wr.setCell ⟨w.heap.size, 13, none⟩ (.int .i64 (t : Int))).drew (vs i) L (fun j x => mm fdE K F (dm K L (pad n d)) i ((L.take j).sum + x)) (bd i) (bd (i + 1))) from fun i hi => (hR.out i hi).but R1d.out (by have := hDd.out.1 i (by omega); omega))
      have Z1d := (show Hid (bd t ≤ (wr.setCell ⟨w.heap.size, 13, none⟩ (.int .i64 (t : Int))).drew.heap.size) from by have := hDd.out.2; show _ ≤ _; simpa using this)
      have CUT := (show Hid _ from cutb_own V1d.out cL L.sum rfl hS hL (Nat.le_refl _) X1d.out)
      clear hc7' hr7 NC hO hR hH hB H13 hB1 R1d
      go_wp2
      refine wp_region_any (by kernel_rfl) ?_
      change wpAny _ _ _ _ _ _ _ (World.drew _)
      refine wpAny_take (i := 0) (v := .slice (some ⟨w7.heap.size, 0, none⟩) (K + M) (K + M)) rfl (by kernel_rfl) (by kernel_rfl) (by kernel_rfl) (fun _ _ _ h => h) (Or.inl ⟨by rfl, fun w => by go_simp⟩) ?_
      refine wpAny_take (i := 1) (v := .int .i64 (t : Int)) rfl (by kernel_rfl) (by kernel_rfl) (by kernel_rfl) (fun _ _ _ h => h) (Or.inl ⟨by rfl, fun w => by go_simp⟩) ?_
      refine wpAny_take (i := 3) (v := .slice (ps t) L.sum L.sum) rfl (by kernel_rfl) (by kernel_rfl) (by kernel_rfl) (fun _ _ _ h => h) (Or.inl ⟨by rfl, fun w => by go_simp⟩) ?_
      refine wpAny_take (i := 4) (v := .slice pL L.length cL) rfl (by kernel_rfl) (by kernel_rfl) (by kernel_rfl) (fun _ _ _ h => h) (Or.inl ⟨by rfl, fun w => by go_simp⟩) ?_
      refine wpAny_ready (rs := [2, 5]) (by kernel_rfl) (by simp) ?_
      refine AllReady.cons (o := { dst := some 68, op := Op.load 33 (Operand.tmp 2), type := 33, pos := "split.go:22", after := #[], guard := none }) rfl (fun Kq hKq => ?_) ?_
      · refine step_ldHd rfl _ rfl w.heap.size rfl H1d.out ?_
        refine hKq _ _ ?_
        clear hKq Kq
        refine wpAny_ready (rs := [5]) (by kernel_rfl) (by simp) ?_
        refine AllReady.cons (o := { dst := some 71, op := Op.call { callee := Callee.value (Operand.func 17), args := #[Operand.tmp 69, Operand.tmp 70], argTypes := #[23, 24] }, type := 42, pos := "split.go:22", after := #[{ on := 3, ground := Ground.data }, { on := 4, ground := Ground.data }], guard := none }) rfl (fun Kq hKq => ?_) AllReady.nil
        refine step_cutb #[.slice (ps t) L.sum L.sum, .slice pL L.length cL] (by simp [Act.eval, Act.put]) ?_
        refine CUT.out.mono ?_
        rintro e w8 ⟨B8, ρ8, rfl, hB8, hO8a, hR8, hP8, hI8, hB8s, hb8⟩
        have HB8 := (show Hid _ from hB8)
        clear hB8
        refine ⟨_, rfl, ?_⟩
        have H8 := (show Hid (HdAt w8 w.heap.size { h.of n with ix := (t : Int) }) from H1d.out.below hb8)
        have O8 := (show Hid (Ov w8 44 w7.heap.size (flat (spc (h.of n) t vs)) ((K + M) * 17)) from O1d.out.below hb8)
        refine hKq _ _ ?_
        clear hKq Kq
        refine wpAny_ready (rs := [6]) (by kernel_rfl) (by simp) ?_
        refine AllReady.cons (o := { dst := some 72, op := Op.build 44 #[(0, Operand.tmp 68), (1, Operand.tmp 71)], type := 44, pos := "split.go:22", after := #[{ on := 2, ground := Ground.data }, { on := 5, ground := Ground.data }], guard := none }) rfl (fun Kq hKq => ?_) AllReady.nil
        refine step_build rfl 44 _ rfl (shc { h.of n with ix := (t : Int) } (.slice (some ⟨B8, 0, none⟩) L.length L.length)) (by simp [Act.eval, Act.put]; exact built_sd _ _ _ _) ?_
        refine hKq _ _ ?_
        clear hKq Kq
        refine wpAny_ready (rs := [7]) (by kernel_rfl) (by simp) ?_
        refine AllReady.cons (o := { dst := some 73, op := Op.indexAddr 36 (Operand.tmp 66) (Operand.tmp 67), type := 0, pos := "split.go:22", after := #[{ on := 0, ground := Ground.data }, { on := 1, ground := Ground.data }, { on := 0, ground := Ground.phase }, { on := 1, ground := Ground.phase }, { on := 2, ground := Ground.phase }, { on := 3, ground := Ground.phase }, { on := 4, ground := Ground.phase }, { on := 5, ground := Ground.phase }, { on := 6, ground := Ground.phase }], guard := none }) rfl (fun Kq hKq => ?_) AllReady.nil
        go_simp
        refine hKq _ _ ?_
        clear hKq Kq
        refine wpAny_ready (rs := [8]) (by kernel_rfl) (by simp) ?_
        refine AllReady.cons (o := { dst := none, op := Op.store 44 (Operand.tmp 73) (Operand.tmp 72), type := 0, pos := "split.go:22", after := #[{ on := 7, ground := Ground.data }, { on := 6, ground := Ground.data }, { on := 5, ground := Ground.chain }, { on := 0, ground := Ground.phase }, { on := 1, ground := Ground.phase }, { on := 2, ground := Ground.phase }, { on := 3, ground := Ground.phase }, { on := 4, ground := Ground.phase }, { on := 5, ground := Ground.phase }, { on := 6, ground := Ground.phase }], guard := none }) rfl (fun Kq hKq => ?_) AllReady.nil
        refine step_stSd rfl _ _ rfl rfl w7.heap.size t (K + M) (shc { h.of n with ix := (t : Int) } (.slice (some ⟨B8, 0, none⟩) L.length L.length)) rfl rfl (shc_size _ _) (shc_all _ _ rfl) 44 _ O8.out hlt ?_
        intro w9 hO9 hB9
        refine hKq _ _ ?_
        clear hKq Kq
        refine wpAny_done (by kernel_rfl) ?_ _
        go_wp2
        go_roundw
        case rel =>
          have hOn := hO9
          rw [spc_put] at hOn
          refine ⟨t + 1, fun i => if i = t then .slice (some ⟨B8, 0, none⟩) L.length L.length else vs i, fun i => if i = t + 1 then w8.heap.size else bd i, (t : Int), by omega, by go_num, hOn, fun i hi => ?_, ⟨fun i hi => ?_, ?_⟩, H8.out.but hB9 (by omega), ?_, ?_⟩
          · show ShO w9 (if i = t then .slice (some ⟨B8, 0, none⟩) L.length L.length else vs i) L _ (if i = t + 1 then w8.heap.size else bd i) (if i + 1 = t + 1 then w8.heap.size else bd (i + 1))
            have hz1 := Z1d.out
            have hB8 := HB8.out
            rw [if_neg (show ¬ i = t + 1 by omega)]
            have hd1 := hDd.out.1 i (by omega)
            by_cases e : i = t
            · subst e; rw [if_pos rfl, if_pos rfl]
              exact ShO.but (g := w7.heap.size) ⟨B8, ρ8, rfl, hO8a, hR8, hP8, hI8, by omega, hB8s⟩ hB9 hd1
            · rw [if_neg e, if_neg (show ¬ i + 1 = t + 1 by omega)]
              exact ((T1d.out i (by omega)).below hb8).but hB9 hd1
          · show w7.heap.size < (if i = t + 1 then w8.heap.size else bd i)
            by_cases e : i = t + 1
            · rw [if_pos e]; have h1 := S1d.out; have h2 := hb8.size; omega
            · rw [if_neg e]; exact hDd.out.1 i (by omega)
          · show (if t + 1 = t + 1 then w8.heap.size else bd (t + 1)) ≤ w9.heap.size
            rw [if_pos rfl]; exact hB9.sz
          · have h1 := S1d.out
            have h2 := hb8.size
            have h3 := hB9.sz
            show w7.heap.size < w9.heap.size
            omega
          · have h1 := S1d.out
            exact (B1d.out.below (by omega) hb8).new hB9 (Nat.le_refl _) (by omega)
        case measure => simp [intOf]; omega
      · refine AllReady.cons (o := { dst := some 71, op := Op.call { callee := Callee.value (Operand.func 17), args := #[Operand.tmp 69, Operand.tmp 70], argTypes := #[23, 24] }, type := 42, pos := "split.go:22", after := #[{ on := 3, ground := Ground.data }, { on := 4, ground := Ground.data }], guard := none }) rfl (fun Kq hKq => ?_) AllReady.nil
        refine step_cutb #[.slice (ps t) L.sum L.sum, .slice pL L.length cL] (by simp [Act.eval, Act.put]) ?_
        refine CUT.out.mono ?_
        rintro e w8 ⟨B8, ρ8, rfl, hB8, hO8a, hR8, hP8, hI8, hB8s, hb8⟩
        have HB8 := (show Hid _ from hB8)
        clear hB8
        refine ⟨_, rfl, ?_⟩
        have H8 := (show Hid (HdAt w8 w.heap.size { h.of n with ix := (t : Int) }) from H1d.out.below hb8)
        have O8 := (show Hid (Ov w8 44 w7.heap.size (flat (spc (h.of n) t vs)) ((K + M) * 17)) from O1d.out.below hb8)
        refine hKq _ _ ?_
        clear hKq Kq
        refine wpAny_ready (rs := [2]) (by kernel_rfl) (by simp) ?_
        refine AllReady.cons (o := { dst := some 68, op := Op.load 33 (Operand.tmp 2), type := 33, pos := "split.go:22", after := #[], guard := none }) rfl (fun Kq hKq => ?_) AllReady.nil
        refine step_ldHd rfl _ rfl w.heap.size rfl H8.out ?_
        refine hKq _ _ ?_
        clear hKq Kq
        refine wpAny_ready (rs := [6]) (by kernel_rfl) (by simp) ?_
        refine AllReady.cons (o := { dst := some 72, op := Op.build 44 #[(0, Operand.tmp 68), (1, Operand.tmp 71)], type := 44, pos := "split.go:22", after := #[{ on := 2, ground := Ground.data }, { on := 5, ground := Ground.data }], guard := none }) rfl (fun Kq hKq => ?_) AllReady.nil
        refine step_build rfl 44 _ rfl (shc { h.of n with ix := (t : Int) } (.slice (some ⟨B8, 0, none⟩) L.length L.length)) (by simp [Act.eval, Act.put]; exact built_sd _ _ _ _) ?_
        refine hKq _ _ ?_
        clear hKq Kq
        refine wpAny_ready (rs := [7]) (by kernel_rfl) (by simp) ?_
        refine AllReady.cons (o := { dst := some 73, op := Op.indexAddr 36 (Operand.tmp 66) (Operand.tmp 67), type := 0, pos := "split.go:22", after := #[{ on := 0, ground := Ground.data }, { on := 1, ground := Ground.data }, { on := 0, ground := Ground.phase }, { on := 1, ground := Ground.phase }, { on := 2, ground := Ground.phase }, { on := 3, ground := Ground.phase }, { on := 4, ground := Ground.phase }, { on := 5, ground := Ground.phase }, { on := 6, ground := Ground.phase }], guard := none }) rfl (fun Kq hKq => ?_) AllReady.nil
        go_simp
        refine hKq _ _ ?_
        clear hKq Kq
        refine wpAny_ready (rs := [8]) (by kernel_rfl) (by simp) ?_
        refine AllReady.cons (o := { dst := none, op := Op.store 44 (Operand.tmp 73) (Operand.tmp 72), type := 0, pos := "split.go:22", after := #[{ on := 7, ground := Ground.data }, { on := 6, ground := Ground.data }, { on := 5, ground := Ground.chain }, { on := 0, ground := Ground.phase }, { on := 1, ground := Ground.phase }, { on := 2, ground := Ground.phase }, { on := 3, ground := Ground.phase }, { on := 4, ground := Ground.phase }, { on := 5, ground := Ground.phase }, { on := 6, ground := Ground.phase }], guard := none }) rfl (fun Kq hKq => ?_) AllReady.nil
        refine step_stSd rfl _ _ rfl rfl w7.heap.size t (K + M) (shc { h.of n with ix := (t : Int) } (.slice (some ⟨B8, 0, none⟩) L.length L.length)) rfl rfl (shc_size _ _) (shc_all _ _ rfl) 44 _ O8.out hlt ?_
        intro w9 hO9 hB9
        refine hKq _ _ ?_
        clear hKq Kq
        refine wpAny_done (by kernel_rfl) ?_ _
        go_wp2
        go_roundw
        case rel =>
          have hOn := hO9
          rw [spc_put] at hOn
          refine ⟨t + 1, fun i => if i = t then .slice (some ⟨B8, 0, none⟩) L.length L.length else vs i, fun i => if i = t + 1 then w8.heap.size else bd i, (t : Int), by omega, by go_num, hOn, fun i hi => ?_, ⟨fun i hi => ?_, ?_⟩, H8.out.but hB9 (by omega), ?_, ?_⟩
          · show ShO w9 (if i = t then .slice (some ⟨B8, 0, none⟩) L.length L.length else vs i) L _ (if i = t + 1 then w8.heap.size else bd i) (if i + 1 = t + 1 then w8.heap.size else bd (i + 1))
            have hz1 := Z1d.out
            have hB8 := HB8.out
            rw [if_neg (show ¬ i = t + 1 by omega)]
            have hd1 := hDd.out.1 i (by omega)
            by_cases e : i = t
            · subst e; rw [if_pos rfl, if_pos rfl]
              exact ShO.but (g := w7.heap.size) ⟨B8, ρ8, rfl, hO8a, hR8, hP8, hI8, by omega, hB8s⟩ hB9 hd1
            · rw [if_neg e, if_neg (show ¬ i + 1 = t + 1 by omega)]
              exact ((T1d.out i (by omega)).below hb8).but hB9 hd1
          · show w7.heap.size < (if i = t + 1 then w8.heap.size else bd i)
            by_cases e : i = t + 1
            · rw [if_pos e]; have h1 := S1d.out; have h2 := hb8.size; omega
            · rw [if_neg e]; exact hDd.out.1 i (by omega)
          · show (if t + 1 = t + 1 then w8.heap.size else bd (t + 1)) ≤ w9.heap.size
            rw [if_pos rfl]; exact hB9.sz
          · have h1 := S1d.out
            have h2 := hb8.size
            have h3 := hB9.sz
            show w7.heap.size < w9.heap.size
            omega
          · have h1 := S1d.out
            exact (B1d.out.below (by omega) hb8).new hB9 (Nat.le_refl _) (by omega)
        case measure => simp [intOf]; omega
    · obtain rfl : t = K + M := by omega
      go_wp2
      go_ret2
      exact ⟨_, rfl, F, hF, vs, hO.out, bd, hR.out, fun i hi => hDd.out.1 i hi, hDd.out.2, by omega, HB7.out.trans hB.out.bl⟩
end
end Go.Proofs.Ytgokkppojhokbaa
