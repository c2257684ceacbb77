/-
  The document's caches: Put.
-/
import Derived.Test.YtjefciioaebbeaaRg28
import Derived.Deep.CutBlock
namespace Go.Proofs.Ytjefciioaebbeaa
open Go.RowKit
theorem RdE.pre {w : World} {p : Option Addr} {S T : List SS.Ent} (h : RdE w p S) (hp : T <+: S) : RdE w p T := by
  rcases h with h | ⟨b, o, e, h⟩
  · subst h; rw [List.prefix_nil.1 hp]; exact .inl rfl
  · refine .inr ⟨b, o, e, fun i x hx => h i x ?_⟩
    obtain ⟨U, rfl⟩ := hp
    rw [List.getElem?_append_left (List.getElem?_eq_some_iff.1 hx).1]
    exact hx
theorem wrap_sm {a b : Int} (h1 : 0 ≤ a) (h2 : a ≤ 4611686018427387904) (h3 : 0 ≤ b) (h4 : b ≤ 1073741824) : IntKind.i64.wrap (a + b) = a + b ∧ wrap64 (a + b) = a + b := by
  constructor
  · rw [IntKind.wrap_i64]; omega
  · unfold wrap64; omega
theorem rde_gr {w w' : World} {g : Nat} {cs : Array Value} (G : GB w g 28 cs) {p : Option Addr} {S : List SS.Ent} (h : RdE w p S) (hn : ∀ a, p = some a → ∀ cs' t, w.heap[a.block]? = some (.cells cs' t (0, 0)) → t ≠ 28) (hg : w.grownBy w' (some g)) : RdE w' p S := by
  rcases h with h | ⟨bk, o, e, h⟩
  · exact .inl h
  · refine .inr ⟨bk, o, e, fun i x hx => ?_⟩
    obtain ⟨h1, h2, h3⟩ := h i x hx
    have hne : bk ≠ g := fun h1 => hn _ e cs 28 (by rw [h1]; exact G) rfl
    have hlt : bk < w.heap.size := block_lt_of_cell h1
    have hb : w'.heap[bk]? = w.heap[bk]? := hg.block bk hlt (fun e => hne (by injection e))
    have hc : ∀ k, w'.cell? ⟨bk, k, none⟩ = w.cell? ⟨bk, k, none⟩ := fun k => by unfold World.cell?; simp only [hb]
    rw [hc, hc, hc]
    exact ⟨h1, h2, h3⟩
section
attribute [local irreducible] Calls GB Le
set_option maxHeartbeats 2000000 in
set_option maxRecDepth 1000000 in
theorem rput_any {w : World} {p : Option Addr} {S : List SS.Ent} (r : Int) (c : Nat) (h : RdE w p S) (hl : S.length * 40 ≤ 140737488355288) (hk : Okc txq r S) (r0 : 0 ≤ r) (r1 : r ≤ 1073741824) (x v : Tx) (wt : Int) :
    Calls Try.prog 19 #[.agg #[.int .i64 r, .slice p S.length c], encStr x, encStr v, .int .i64 wt] w fun e w' => ∃ p' c', e = .returned (.tuple #[.agg (rcC r (.slice p' (cput txq r ⟨0, x, v, wt⟩ S).1.length c')), .bool (cput txq r ⟨0, x, v, wt⟩ S).2]) ∧ RdE w' p' (cput txq r ⟨0, x, v, wt⟩ S).1 ∧ NewP w.heap.size p' ∧ Below w.heap.size w w' := by
  have HW := (show Hid (∀ W, Below w.heap.size w W → Calls Try.prog 39 #[.slice p S.length c, encStr x] W fun e w' => ∃ v, e = .returned v ∧ Le w' W.heap.size v (drp txq x S) ∧ Below W.heap.size W w') from fun W hb => without_any c (h.below hb) hl x)
  have hkd := hk.drp x
  have hdl : (drp txq x S).length ≤ S.length := List.length_filter_le _ _
  obtain ⟨n, hn⟩ : ∃ n, n = S.length := ⟨_, rfl⟩
  rw [← hn] at HW hl hdl ⊢
  unfold cput
  simp only
  obtain ⟨D, hD⟩ : ∃ D, D = drp txq x S := ⟨_, rfl⟩
  rw [← hD] at HW hkd hdl ⊢
  have HN := (show Hid (D.length ≤ n ∧ n * 40 ≤ 140737488355288) from ⟨hdl, hl⟩)
  have HKD := (show Hid (Okc txq r D) from hkd)
  have STEP0 : Hid (∀ (W1 W2 w3 : World) (v0 : Value), GB W1 w.heap.size 28 (rcC r (.slice p n c)) → Below w.heap.size w W1 → GB W2 W1.heap.size 28 (rcC 0 (.slice none 0 0)) → Below W1.heap.size W1 W2 → Le w3 W2.heap.size v0 D → Below W2.heap.size W2 w3 →
      ∃ p' c', v0 = .slice p' D.length c' ∧ w3.cell? ⟨w.heap.size, 0, none⟩ = some (.int .i64 r) ∧ Hid (RdE w3 p' D ∧ NewP w.heap.size p' ∧ D.length ≤ c' ∧ Below w.heap.size w w3 ∧ GB w3 W1.heap.size 28 (rcC 0 (.slice none 0 0)) ∧ GB w3 w.heap.size 28 (rcC r (.slice p n c)) ∧ w.heap.size ≤ W1.heap.size ∧ W1.heap.size < w3.heap.size ∧ ∀ a, p' = some a → ∀ cs' t, w3.heap[a.block]? = some (.cells cs' t (0, 0)) → t ≠ 28)) := by
    intro W1 W2 w3 v0 G1 b1 G2 b2 hL b3
    obtain ⟨p', c', rfl, hc, hR, hN⟩ := hL.newp
    have g1 := (G1.below b2).below b3
    have g2 := G2.below b3
    exact ⟨p', c', rfl, (rc_gb g1).1, hR, fun a ha => Nat.le_trans (Nat.le_trans b1.size b2.size) (hN a ha), hc, (b1.trans (b2.mono b1.size)).trans (b3.mono (Nat.le_trans b1.size b2.size)), g2, g1, b1.size, g2.lt, hL.typ rfl⟩
  clear h hl hk hkd hdl hn hD
  by_cases hbad : wt < 0 ∨ r < wt
  · rw [if_pos hbad]
    have hb2 : wt < 0 ∨ (¬ wt < 0 ∧ r < wt) := by omega
    clear hbad
    rcases hb2 with g1 | ⟨g1, g2⟩
    all_goals
      go_enter Try.func19, Try.ntmps19
      go_wp2_with (first
        | (refine wpList_bxB (cs := rcC r (.slice p n c)) rfl _ rfl rfl ?_; intro W1 G1 hb1 hs1)
        | (refine wpList_alB rfl rfl rc_zero ?_; intro W2 G2 hb2 hs2; have d1 := (rc_gb (G1.below hb2)).2)
        | (go_at_call 39; refine (HW.out _ (hb1.trans (hb2.mono hb1.size))).mono ?_; rintro e1 w3 ⟨v0, rfl, hL, hb3⟩; obtain ⟨p', c', rfl, e0, HF⟩ := STEP0.out W1 W2 w3 v0 G1 hb1 G2 hb2 hL hb3; clear hL hb3 G1 hb1 G2 hb2 d1)
        | (revert HF; intro HF; refine wpList_stB (cs := rcC r (.slice p' D.length c')) rfl _ _ rfl rfl W1.heap.size rfl rfl HF.out.2.2.2.2.1 rc_size rfl (rc_one _ _ _ _) ?_; intro W5 G5 hg5 hs5))
      refine bodyPost_ret (res_B2 rfl _ _ W1.heap.size rfl G5 Try.underlying28 rc_size) rfl ?_
      refine ⟨p', c', rfl, rde_gr HF.out.2.2.2.2.1 HF.out.1 HF.out.2.2.2.2.2.2.2.2 hg5, HF.out.2.1, grown_below HF.out.2.2.2.1 hg5 (Nat.le_of_lt (Nat.lt_of_le_of_lt HF.out.2.2.2.2.2.2.1 HF.out.2.2.2.2.2.2.2.1)) HF.out.2.2.2.2.2.2.1⟩
  · rw [if_neg hbad]
    have g1 : ¬ wt < 0 := by omega
    have g2 : ¬ r < wt := by omega
    have HWT := (show Hid (0 ≤ wt ∧ wt ≤ r ∧ 0 ≤ r ∧ r ≤ 1073741824) from ⟨by omega, by omega, r0, r1⟩)
    clear hbad r0 r1
    go_enter Try.func19, Try.ntmps19
    go_upto_block 0 with (first
      | (refine wpList_bxB (cs := rcC r (.slice p n c)) rfl _ rfl rfl ?_; intro W1 G1 hb1 hs1)
      | (refine wpList_alB rfl rfl rc_zero ?_; intro W2 G2 hb2 hs2; have d1 := (rc_gb (G1.below hb2)).2)
      | (go_at_call 39; refine (HW.out _ (hb1.trans (hb2.mono hb1.size))).mono ?_; rintro e1 w3 ⟨v0, rfl, hL, hb3⟩; obtain ⟨p', c', rfl, e0, HF⟩ := STEP0.out W1 W2 w3 v0 G1 hb1 G2 hb2 hL hb3; clear hL hb3 G1 hb1 G2 hb2 d1))
    go_wp2_with fail
    go_loopg [10] D.length (fun q lv wr => ∃ (L : List SS.Ent), L.length = q ∧ lv = .slice p' L.length c' ∧ Hid (evc (r - wt) L = evc (r - wt) D ∧ L <+: D) ∧ Hid (Below w3.heap.size w3 wr))
    case atStart => exact ⟨D, rfl, rfl, ⟨rfl, List.prefix_refl _⟩, Below.refl _ _⟩
    case round =>
      obtain ⟨L, hq, rfl, hE, hB⟩ := hrel
      have hLw : ∀ e ∈ L, 0 ≤ e.wt := fun e he => HKD.out.wt e (hE.out.2.sublist.subset he)
      have hLs : wsum L ≤ r := Int.le_trans (wsum_sub HKD.out.wt hE.out.2.sublist) HKD.out.le
      have hL0 := wsum_nonneg hLw
      have hLl : L.length * 40 ≤ 140737488355288 := by have h1 := hE.out.2.length_le; have h2 := HN.out; omega
      have hwt := HWT.out
      have hRL : RdE wr p' L := (HF.out.1.below hB.out).pre hE.out.2
      have HS := (show Hid (∀ W, Below wr.heap.size wr W → Calls Try.prog 37 #[.slice p' L.length c'] W fun e w' => e = .returned (.int .i64 (wsum L)) ∧ w' = W) from fun W hb => rsum_any c' (hRL.below hb) hLl hLw (by omega))
      have e1 := (rc_gb (HF.out.2.2.2.2.2.1.below hB.out)).1
      obtain ⟨z, hz⟩ : ∃ z, z = wsum L := ⟨_, rfl⟩
      rw [← hz] at HS hLs hL0
      obtain ⟨zw, hzw⟩ : ∃ zw, zw = z + wt := ⟨_, rfl⟩
      have hwr : IntKind.i64.wrap (z + wt) = zw := by rw [hzw]; exact (wrap_sm hL0 (by omega) hwt.1 (by omega)).1
      have hwr2 : wrap64 (z + wt) = zw := by rw [hzw]; exact (wrap_sm hL0 (by omega) hwt.1 (by omega)).2
      obtain ⟨m, hm⟩ : ∃ m, m = L.length := ⟨_, rfl⟩
      rw [← hm] at HS ⊢
      have HL := (show Hid (L.length = gk ∧ m = L.length ∧ z = wsum L ∧ zw = z + wt ∧ L.length ≤ D.length) from ⟨hq, hm, hz, hzw, hE.out.2.length_le⟩)
      have HR := (show Hid (RdE wr p' L) from hRL)
      clear hq hLw hLs hL0 hLl hwt hRL hz hzw hm
      by_cases hfit : zw ≤ r
      · have hng : ¬ r < zw := by omega
        go_wp2
        go_quiet ((go_at_call 37; exact Calls.quiet_of_same (HS.out _ (below_drewN (Below.refl _ _) _))))
        have hev : evc (r - wt) D = L := by
          rw [← hE.out.1]
          exact evc_fits (by have h1 := HL.out.2.2.1; have h2 := HL.out.2.2.2.1; omega)
        have HEV := (show Hid (evc (r - wt) D = L) from hev)
        clear hev
        obtain ⟨X1, hX1⟩ : ∃ X1, X1 = wr.drewN nq := ⟨_, rfl⟩
        have HX1 := (show Hid (X1 = wr.drewN nq) from hX1)
        rw [← hX1]
        clear hX1 e1
        have hB3 : Below w3.heap.size w3 X1 := by rw [HX1.out]; exact below_drewN hB.out _
        have HR1 := (show Hid (RdE X1 p' L) from by rw [HX1.out]; exact HR.out.below (below_drewN (Below.refl _ _) _))
        have e2 : ∀ o : Obj, (X1.alloc o).cell? ⟨w.heap.size, 0, none⟩ = some (.int .i64 r) := fun o => (rc_gb ((HF.out.2.2.2.2.2.1.below hB3).below ((Below.refl _ _).alloc (Nat.le_refl _) o))).1
        have HB3 := (show Hid (Below w3.heap.size w3 X1) from hB3)
        clear hB3
        have HAL := (show Hid (Below X1.heap.size X1 (X1.alloc (.cells #[encStr x, encStr v, .int .i64 wt] 75))) from (Below.refl _ _).alloc (Nat.le_refl _) _)
        have HROW := (show Hid ((X1.alloc (.cells #[encStr x, encStr v, .int .i64 wt] 75)).ownsRow X1.heap.size 75 3 (.slice (some ⟨X1.heap.size, 0, none⟩) 1 1) 1 [encStr x, encStr v, .int .i64 wt]) from row_one (⟨0, x, v, wt⟩ : SS.Ent) X1.heap.size (Nat.le_refl _))
        have STEP : Hid (∀ (v5 : Value) (w5 : World), w5.ownsRow X1.heap.size 75 3 v5 (1 + m) ([encStr x, encStr v, .int .i64 wt] ++ flE L) → (X1.alloc (.cells #[encStr x, encStr v, .int .i64 wt] 75)).grownBy w5 (some X1.heap.size) →
            ∃ p5 c5, v5 = .slice p5 ((⟨0, x, v, wt⟩ : SS.Ent) :: L).length c5 ∧ w5.cell? ⟨w.heap.size, 0, none⟩ = some (.int .i64 r) ∧ Hid (RdE w5 p5 (⟨0, x, v, wt⟩ :: L) ∧ NewP w.heap.size p5 ∧ Below w.heap.size w w5 ∧ GB w5 W1.heap.size 28 (rcC 0 (.slice none 0 0)) ∧ ∀ a, p5 = some a → ∀ cs' t, w5.heap[a.block]? = some (.cells cs' t (0, 0)) → t ≠ 28)) := by
          intro v5 w5 h5 h6
          have hLe : Le w5 X1.heap.size v5 ((⟨0, x, v, wt⟩ : SS.Ent) :: L) := le_cons (by rw [← HL.out.2.1]; exact h5)
          obtain ⟨p5, c5, hv, _, h8, h9⟩ := hLe.newp
          have hB5 : Below X1.heap.size X1 w5 := HAL.out.grown h6 HAL.out.size (fun j hj => by cases hj; exact Nat.le_refl _)
          have hB35 := HB3.out.trans (hB5.mono HB3.out.size)
          exact ⟨p5, c5, hv, (rc_gb (HF.out.2.2.2.2.2.1.below hB35)).1, h8, fun a ha => Nat.le_trans (Nat.le_trans HF.out.2.2.2.1.size HB3.out.size) (h9 a ha), HF.out.2.2.2.1.trans (hB35.mono HF.out.2.2.2.1.size), HF.out.2.2.2.2.1.below hB35, hLe.typ hv⟩
        go_wp2_with (first
          | (at_builtin; refine wpList_apR rfl _ _ 26 75 rfl Try.underlying26 info_en rfl (by decide) X1.heap.size _ 1 _ rfl HROW.out p' m c' (flE L) rfl (by rw [HL.out.2.1]; exact (HR1.out.below HAL.out).rw) (by rw [HL.out.2.1]; exact flE_len L) (flE_cell L) (by have h1 := HL.out; have h2 := HN.out; unfold maxLen; omega) (by have h1 := HL.out; have h2 := HN.out; omega) HAL.out.size ?_; intro v5 w5 hown5 hg5; obtain ⟨p5, c5, rfl, e5, HZ⟩ := STEP.out v5 w5 hown5 hg5; clear hown5 hg5)
          | (revert HZ; intro HZ; refine wpList_stB (cs := rcC r (.slice p5 (L.length + 1) c5)) rfl _ _ rfl rfl W1.heap.size rfl rfl HZ.out.2.2.2.1 rc_size rfl (rc_one _ _ _ _) ?_; intro W5 G5 hg5 hs5))
        refine bodyPost_ret (res_B2 rfl _ _ W1.heap.size rfl G5 Try.underlying28 rc_size) rfl ?_
        refine ⟨p5, c5, ?_, ?_, HZ.out.2.1, grown_below HZ.out.2.2.1 hg5 HZ.out.2.2.1.size HF.out.2.2.2.2.2.2.1⟩
        · rw [HEV.out]; rfl
        · rw [HEV.out]
          exact rde_gr HZ.out.2.2.2.1 HZ.out.1 HZ.out.2.2.2.2 hg5
      · have hgt : r < zw := by omega
        have hLne : L ≠ [] := by
          rintro rfl
          have h1 := HL.out.2.2.1
          have h2 := HL.out.2.2.2.1
          have h3 := HWT.out
          rw [wsum_nil] at h1
          omega
        obtain ⟨m1, rfl⟩ : ∃ m1, m = m1 + 1 := ⟨m - 1, by have := List.length_pos_iff.2 hLne; have := HL.out.2.1; omega⟩
        have HLL : Hid (L.dropLast.length = m1 ∧ evc (r - wt) L.dropLast = evc (r - wt) D ∧ L.dropLast <+: D ∧ m1 < gk) := ⟨by have := HL.out.2.1; simp; omega, by rw [← hE.out.1, evc_more hLne (by have h1 := HL.out.2.2.1; have h2 := HL.out.2.2.2.1; omega)], (List.dropLast_prefix L).trans hE.out.2, by have h1 := HL.out.1; have h2 := HL.out.2.1; omega⟩
        rcases rde_or HR.out with hR0 | ⟨b0, o0, rfl, _⟩
        · exact absurd hR0 hLne
        have hc1 : m1 ≤ c' := by have h1 := HF.out.2.2.1; have h2 := HL.out; omega
        have hc2 : (m1 : Int) ≤ (c' : Int) := by omega
        have HM2 : Hid (wrap64 (((m1 + 1 : Nat) : Int) - 1) = (m1 : Int) ∧ wrap64 (m1 : Int) = (m1 : Int)) := ⟨by have h1 := HN.out; have h2 := HL.out; unfold wrap64; omega, by have h1 := HN.out; have h2 := HL.out; unfold wrap64; omega⟩
        clear hLne
        go_wp2
        go_quiet ((go_at_call 37; exact Calls.quiet_of_same (HS.out _ (below_drewN (Below.refl _ _) _))))
        clear hwr hwr2
        obtain ⟨hm2, hm3⟩ := HM2.out
        go_wp2
        go_roundg m1
        case measure => exact HLL.out.2.2.2
        case rel => exact ⟨L.dropLast, HLL.out.1, by rw [HLL.out.1], ⟨HLL.out.2.1, HLL.out.2.2.1⟩, below_drewN hB.out _⟩
end
end Go.Proofs.Ytjefciioaebbeaa
