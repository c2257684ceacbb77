/-
  CacheUses: Keys and Weight beside one another; used.
-/
import Derived.Test.YtjefciioaebbeaaUq28
set_option linter.unusedVariables false
namespace Go.Proofs.Ytjefciioaebbeaa
open Go.RowKit
section
attribute [local irreducible] Calls GB RdE Ux Uw Bx UV SS.Tw St Rt
set_option maxHeartbeats 2000000 in
set_option maxRecDepth 1000000 in
theorem used_weight {w0 w : World} {c d : Nat} {r s : Int} {S T : List SS.Ent} {X : Nat → Prop} {p : Option Addr} (cc : Nat) (H : Ux w0 w c r S d s T X p) (hl : S.length * 40 ≤ 140737488355288) (x : Us) (hx : In64 x.wt) (n0 : ¬ x.dk = 0) (n1 : ¬ x.dk = 1) (n2 : ¬ x.dk = 2) (n3 : ¬ x.dk = 3) (n4 : ¬ x.dk = 4) (n5 : x.dk = 5) :
    Calls Try.prog 11 #[.pointer (some ⟨c, 0, none⟩), .agg (rcC r (.slice p S.length cc)), .agg x.cs] w fun e w' => ∃ p' c', e = .returned (.tuple #[.agg (rcC r (.slice p' S.length c')), .bool true]) ∧ Uw w0 w w' c r S d s T X p' := by
  have HU := (show Hid (Ux _ _ _ _ _ _ _ _ _ _) from H)
  obtain ⟨n, hn⟩ : ∃ n, n = S.length := ⟨_, rfl⟩
  rw [← hn] at ⊢
  have HN := (show Hid (n = S.length ∧ n * 40 ≤ 140737488355288) from ⟨hn, by rw [hn]; exact hl⟩)
  clear H hn hl
  go_enter Try.func11, Try.ntmps11
  go_upto_block 0 with (first
    | (refine wpList_bxB (cs := rcC r (.slice p n cc)) rfl _ rfl rfl ?_; intro W1 G1 hb1 hs1)
    | (refine wpList_bxB (cs := x.cs) rfl _ rfl rfl ?_; intro W2 G2 hb2 hs2)
    | (refine wpList_alB rfl rfl rc_zero ?_; intro W3 G3 hb3 hs3; obtain ⟨HV, HB⟩ := bx_of G1 hb1 hs1 G2 hb2 hs2 G3 hb3 hs3; clear G1 hb1 hs1 G2 hb2 hs2 G3 hb3 hs3; obtain ⟨d1, d2, d3, d4, d5⟩ := HV.cells; clear HV d5))
  have HG := (show Hid (GB W3 w.heap.size 28 (rcC r (.slice p n cc)) ∧ GB W3 W2.heap.size 28 (rcC 0 (.slice none 0 0)) ∧ Below w.heap.size w W3 ∧ w.heap.size < W3.heap.size ∧ W2.heap.size < W3.heap.size ∧ w.heap.size < W2.heap.size) from by have := HB.out; unfold Bx at this; exact ⟨this.1, this.2.2.1, this.2.2.2.1, by omega, by omega, by omega⟩)
  have HG1 := (show Hid (w.heap.size < W1.heap.size ∧ W1.heap.size < W2.heap.size) from by have := HB.out; unfold Bx at this; exact ⟨this.2.2.2.2.2.1, this.2.2.2.2.2.2.1⟩)
  have HR3 := (show Hid (RdE W3 p S) from (HU.out.grow HG.out.2.2.1).2.1)
  have HS0 := (show Hid (St w0 W3 W3 c r S d s T (Nx X w W3) W2.heap.size (rcC 0 (.slice none 0 0))) from by
    have hb := HU.out.base
    have h6 := HG.out
    unfold St
    exact ⟨(HU.out.grow h6.2.2.1).1, fun b h => rfl, h6.2.1, .inr ⟨by omega, by omega⟩, by omega⟩)
  have HNX := (show Hid (Nx X w W3 w.heap.size) from .inr ⟨Nat.le_refl _, HG.out.2.2.2.1⟩)
  have ne1 : ¬ w.heap.size = W2.heap.size := Nat.ne_of_lt HG.out.2.2.2.2.2
  have ne2 : ¬ W2.heap.size = w.heap.size := Ne.symm ne1
  obtain ⟨c0, c1⟩ := rc_gb HG.out.1
  obtain ⟨z0, z1, f0, f1⟩ := HS0.out.own
  obtain ⟨z, hz⟩ : ∃ z, z = wsum S := ⟨_, rfl⟩
  have hq : (z == z) = true := by simp
  have HP := (show Hid (∀ (W : World) (cs : Array Value), St w0 W3 W c r S d s T (Nx X w W3) W2.heap.size cs → Calls Try.prog 15 #[.pointer (some ⟨c, 0, none⟩)] W fun e w' => e = .returned (.int .i64 z) ∧ w' = W) from fun W cs h => by
    rw [hz]
    unfold St at h
    exact h.1.weight)
  have HC := (show Hid (∀ (W : World) (cs : Array Value), St w0 W3 W c r S d s T (Nx X w W3) W2.heap.size cs → Calls Try.prog 16 #[.agg #[.int .i64 r, .slice p n cc]] W fun e w' => e = .returned (.int .i64 z) ∧ Hid (St w0 W3 w' c r S d s T (Nx X w W3) W2.heap.size cs)) from fun W cs h => by
    have hR : RdE W p S := by
      have h0 := h
      unfold St at h0
      exact HR3.out.kx (X := fun b => Nx X w W3 b ∧ b ≠ W2.heap.size) (fun hS a ha => ⟨rd_in HU.out HR3.out (.inl ⟨rfl, id⟩) (Nat.le_refl _) hS a ha, rd_ne HU.out (B := W3.heap.size) (.inl ⟨rfl, id⟩) (Nat.le_of_lt HG.out.2.2.2.2.2) HG.out.2.2.2.2.1 hS a ha⟩) h0.2.1
    have hok := HU.out.rok
    rw [hz, HN.out.1]
    exact (rweight_any r cc hR (by rw [← HN.out.1]; exact HN.out.2) hok.1.wt (by have := hok.1.le; omega)).mono (by rintro e w' ⟨rfl, h1⟩; exact ⟨rfl, h.more h1⟩))
  clear hz
  go_upto_region 18 with fail
  clear d1 d2 d3 d4 n0 n1 n2 n3 n4 n5
  go_region_held3 (fun Y => Y.cell? ⟨w.heap.size, 0, none⟩ = some (.int .i64 r) ∧ Y.cell? ⟨w.heap.size, 1, none⟩ = some (.slice p n cc)) (first | exact KS.out | go_keep) (first
    | (go_at_call 15; refine (HP.out _ _ HS0.out.drew).mono ?_; rintro e1 w4 ⟨rfl, h4⟩; obtain rfl := h4.symm)
    | (go_at_call 16; refine (HC.out _ _ HS0.out.drew).mono ?_; rintro e1 w5 ⟨rfl, HS⟩; obtain ⟨y0, y1, y2, y3⟩ := HS.out.own; have KS := (show Hid (_ ∧ _) from ⟨HS.out.cell c0 HNX.out ne1, HS.out.cell c1 HNX.out ne1⟩)))
  go_wp2
  have hS8 := (HS.out.set rfl (.int .i64 r) (.slice p n cc))
  refine bodyPost_ret (res_B2 rfl _ _ W2.heap.size rfl hS8.gbr Try.underlying28 rc_size) rfl ?_
  have hwg : w.heap.size ≤ W2.heap.size := Nat.le_of_lt HG.out.2.2.2.2.2
  have hin := rd_in HU.out HR3.out (.inl ⟨rfl, id⟩) (Nat.le_refl _)
  exact ⟨p, cc, rfl, uw_st HU.out HG.out.2.2.1 hwg hS8 HR3.out hin (rd_ne HU.out (B := W3.heap.size) (.inl ⟨rfl, id⟩) hwg HG.out.2.2.2.2.1)⟩
set_option maxHeartbeats 2000000 in
set_option maxRecDepth 1000000 in
theorem used_keys {w0 w : World} {c d : Nat} {r s : Int} {S T : List SS.Ent} {X : Nat → Prop} {p : Option Addr} (cc : Nat) (H : Ux w0 w c r S d s T X p) (hl : S.length * 40 ≤ 140737488355288) (x : Us) (hx : In64 x.wt) (n0 : ¬ x.dk = 0) (n1 : ¬ x.dk = 1) (n2 : ¬ x.dk = 2) (n3 : ¬ x.dk = 3) (n4 : x.dk = 4) :
    Calls Try.prog 11 #[.pointer (some ⟨c, 0, none⟩), .agg (rcC r (.slice p S.length cc)), .agg x.cs] w fun e w' => ∃ p' c', e = .returned (.tuple #[.agg (rcC r (.slice p' S.length c')), .bool true]) ∧ Uw w0 w w' c r S d s T X p' := by
  have HU := (show Hid (Ux _ _ _ _ _ _ _ _ _ _) from H)
  obtain ⟨n, hn⟩ : ∃ n, n = S.length := ⟨_, rfl⟩
  rw [← hn] at ⊢
  have HN := (show Hid (n = S.length ∧ n * 40 ≤ 140737488355288) from ⟨hn, by rw [hn]; exact hl⟩)
  clear H hn hl
  go_enter Try.func11, Try.ntmps11
  go_upto_block 0 with (first
    | (refine wpList_bxB (cs := rcC r (.slice p n cc)) rfl _ rfl rfl ?_; intro W1 G1 hb1 hs1)
    | (refine wpList_bxB (cs := x.cs) rfl _ rfl rfl ?_; intro W2 G2 hb2 hs2)
    | (refine wpList_alB rfl rfl rc_zero ?_; intro W3 G3 hb3 hs3; obtain ⟨HV, HB⟩ := bx_of G1 hb1 hs1 G2 hb2 hs2 G3 hb3 hs3; clear G1 hb1 hs1 G2 hb2 hs2 G3 hb3 hs3; obtain ⟨d1, d2, d3, d4, d5⟩ := HV.cells; clear HV d5))
  have HG := (show Hid (GB W3 w.heap.size 28 (rcC r (.slice p n cc)) ∧ GB W3 W2.heap.size 28 (rcC 0 (.slice none 0 0)) ∧ Below w.heap.size w W3 ∧ w.heap.size < W3.heap.size ∧ W2.heap.size < W3.heap.size ∧ w.heap.size < W2.heap.size) from by have := HB.out; unfold Bx at this; exact ⟨this.1, this.2.2.1, this.2.2.2.1, by omega, by omega, by omega⟩)
  have HG1 := (show Hid (w.heap.size < W1.heap.size ∧ W1.heap.size < W2.heap.size) from by have := HB.out; unfold Bx at this; exact ⟨this.2.2.2.2.2.1, this.2.2.2.2.2.2.1⟩)
  have HR3 := (show Hid (RdE W3 p S) from (HU.out.grow HG.out.2.2.1).2.1)
  have HS0 := (show Hid (St w0 W3 W3 c r S d s T (Nx X w W3) W2.heap.size (rcC 0 (.slice none 0 0))) from by
    have hb := HU.out.base
    have h6 := HG.out
    unfold St
    exact ⟨(HU.out.grow h6.2.2.1).1, fun b h => rfl, h6.2.1, .inr ⟨by omega, by omega⟩, by omega⟩)
  have HNX := (show Hid (Nx X w W3 w.heap.size) from .inr ⟨Nat.le_refl _, HG.out.2.2.2.1⟩)
  have ne1 : ¬ w.heap.size = W2.heap.size := Nat.ne_of_lt HG.out.2.2.2.2.2
  have ne2 : ¬ W2.heap.size = w.heap.size := Ne.symm ne1
  obtain ⟨c0, c1⟩ := rc_gb HG.out.1
  obtain ⟨z0, z1, f0, f1⟩ := HS0.out.own
  obtain ⟨ks, hks⟩ : ∃ ks, ks = S.map En.key := ⟨_, rfl⟩
  have HP := (show Hid (∀ (W : World) (cs : Array Value), St w0 W3 W c r S d s T (Nx X w W3) W2.heap.size cs → Calls Try.prog 13 #[.pointer (some ⟨c, 0, none⟩)] W fun e w' => ∃ p1 c1, e = .returned (.slice p1 n c1) ∧ Hid (Rt w' p1 ks) ∧ Hid (St w0 W3 w' c r S d s T (Nx X w W3) W2.heap.size cs)) from fun W cs h => by
    rw [hks, HN.out.1]
    have h0 := h
    unfold St at h0
    refine (h0.1.keys (by have := HN.out; omega)).mono ?_
    rintro e w' ⟨v, rfl, k1, k2⟩
    obtain ⟨p1, c1, rfl, _, k3⟩ := rt_own k1
    exact ⟨p1, c1, by rw [List.length_map], k3, h.more k2⟩)
  have HC := (show Hid (∀ (W : World) (cs : Array Value) (p0 : Option Addr), St w0 W3 W c r S d s T (Nx X w W3) W2.heap.size cs → Rt W p0 ks → Calls Try.prog 14 #[.agg #[.int .i64 r, .slice p n cc]] W fun e w' => ∃ p1 c1, e = .returned (.slice p1 n c1) ∧ Hid (Rt w' p0 ks ∧ Rt w' p1 ks) ∧ Hid (St w0 W3 w' c r S d s T (Nx X w W3) W2.heap.size cs)) from fun W cs p0 h hp0 => by
    have hR : RdE W p S := by
      have h0 := h
      unfold St at h0
      exact HR3.out.kx (X := fun b => Nx X w W3 b ∧ b ≠ W2.heap.size) (fun hS a ha => ⟨rd_in HU.out HR3.out (.inl ⟨rfl, id⟩) (Nat.le_refl _) hS a ha, rd_ne HU.out (B := W3.heap.size) (.inl ⟨rfl, id⟩) (Nat.le_of_lt HG.out.2.2.2.2.2) HG.out.2.2.2.2.1 hS a ha⟩) h0.2.1
    rw [hks] at hp0 ⊢
    rw [HN.out.1]
    refine (rkeys_any r cc hR (by rw [← HN.out.1]; exact HN.out.2)).mono ?_
    rintro e w' ⟨v, rfl, k1, k2⟩
    obtain ⟨p1, c1, rfl, _, k3⟩ := rt_own k1
    exact ⟨p1, c1, by rw [List.length_map], ⟨hp0.below k2, k3⟩, h.more k2⟩)
  have HT := (show Hid (∀ (W : World) (cs : Array Value) (pa pb : Option Addr) (ca cb : Nat), St w0 W3 W c r S d s T (Nx X w W3) W2.heap.size cs → Rt W pa ks ∧ Rt W pb ks → Calls Try.prog 12 #[.slice pa n ca, .slice pb n cb] W fun e w' => e = .returned (.bool true) ∧ Hid (St w0 W3 w' c r S d s T (Nx X w W3) W2.heap.size cs)) from fun W cs pa pb ca cb h hr => by
    have hl : n = ks.length := by rw [hks, List.length_map]; exact HN.out.1
    rw [hl]
    refine (sameTexts_any pa pb ca cb ks ks W hr.1 hr.2 (by rw [← hl]; have := HN.out.2; omega)).mono ?_
    rintro e w' ⟨rfl, k2⟩
    exact ⟨by rw [decide_eq_true rfl], h.more k2⟩)
  clear hks
  go_upto_region 16 with fail
  clear d1 d2 d3 d4 n0 n1 n2 n3 n4
  go_region_held3 (fun Y => Y.cell? ⟨w.heap.size, 0, none⟩ = some (.int .i64 r) ∧ Y.cell? ⟨w.heap.size, 1, none⟩ = some (.slice p n cc)) (first | exact KS.out | exact KS1.out | exact KS2.out | go_keep) (first
    | (go_at_call 13; refine (HP.out _ _ HS0.out.drew).mono ?_; rintro e1 w4 ⟨p1, q1, rfl, HR1, HS1⟩; have KS1 := (show Hid (_ ∧ _) from ⟨HS1.out.cell c0 HNX.out ne1, HS1.out.cell c1 HNX.out ne1⟩))
    | (go_at_call 14; refine (HC.out _ _ _ HS1.out HR1.out).mono ?_; rintro e1 w5 ⟨p2, q2, rfl, HR2, HS2⟩; have KS2 := (show Hid (_ ∧ _) from ⟨HS2.out.cell c0 HNX.out ne1, HS2.out.cell c1 HNX.out ne1⟩))
    | (go_at_call 12; refine (HT.out _ _ _ _ _ _ HS2.out HR2.out).mono ?_; rintro e1 w6 ⟨rfl, HS⟩; obtain ⟨y0, y1, y2, y3⟩ := HS.out.own; have KS := (show Hid (_ ∧ _) from ⟨HS.out.cell c0 HNX.out ne1, HS.out.cell c1 HNX.out ne1⟩)))
  go_wp2
  have hS8 := (HS.out.set rfl (.int .i64 r) (.slice p n cc))
  refine bodyPost_ret (res_B2 rfl _ _ W2.heap.size rfl hS8.gbr Try.underlying28 rc_size) rfl ?_
  have hwg : w.heap.size ≤ W2.heap.size := Nat.le_of_lt HG.out.2.2.2.2.2
  have hin := rd_in HU.out HR3.out (.inl ⟨rfl, id⟩) (Nat.le_refl _)
  exact ⟨p, cc, rfl, uw_st HU.out HG.out.2.2.1 hwg hS8 HR3.out hin (rd_ne HU.out (B := W3.heap.size) (.inl ⟨rfl, id⟩) hwg HG.out.2.2.2.2.1)⟩
end
end Go.Proofs.Ytjefciioaebbeaa
