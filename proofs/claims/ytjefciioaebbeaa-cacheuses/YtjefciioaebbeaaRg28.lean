/-
  The document's caches: Get.
-/
import Derived.Test.YtjefciioaebbeaaRe28
namespace Go.Proofs.Ytjefciioaebbeaa
open Go.RowKit
theorem row_one {w : World} (e : SS.Ent) (base : Nat) (h : base ≤ w.heap.size) : (w.alloc (.cells #[encStr e.key, encStr e.val, .int .i64 e.wt] 75)).ownsRow base 75 3 (.slice (some ⟨w.heap.size, 0, none⟩) 1 1) 1 (enC e) :=
  ⟨rfl, .inr ⟨w.heap.size, 1, _, rfl, h, heap_alloc_new w _, Nat.le_refl _, by unfold maxLen; omega, rfl, rfl⟩⟩
theorem le_cons {w : World} {base : Nat} {v : Value} {e : SS.Ent} {S : List SS.Ent} (h : w.ownsRow base 75 3 v (1 + S.length) (enC e ++ flE S)) : Le w base v (e :: S) := by
  unfold Le
  rw [List.length_cons, Nat.add_comm]
  exact h
theorem rde_at {w : World} {b o : Nat} {S : List SS.Ent} {p : Option Addr} (hp : p = some ⟨b, o, none⟩) (h : ∀ i e, S[i]? = some e → w.cell? ⟨b, o + i * 3, none⟩ = some (encStr e.key) ∧ w.cell? ⟨b, o + i * 3 + 1, none⟩ = some (encStr e.val) ∧ w.cell? ⟨b, o + i * 3 + 2, none⟩ = some (.int .i64 e.wt)) : RdE w p S := .inr ⟨b, o, hp, h⟩
theorem fnd_first {x : Tx} {S : List SS.Ent} {k : Nat} {e : SS.Ent} (h : ∀ y ∈ S.take k, ¬ y.key = x) (he : S[k]? = some e) (hx : e.key = x) : fnd txq x S = some e := by
  have h1 : S = S.take k ++ e :: S.drop (k + 1) := by
    obtain ⟨hk, h2⟩ := List.getElem?_eq_some_iff.1 he
    rw [← h2, ← List.drop_eq_getElem_cons hk, List.take_append_drop]
  unfold fnd
  rw [h1, List.find?_append, List.find?_eq_none.2 (fun y hy => by
    have := h y hy
    simp [txq]
    exact fun h => this h.symm)]
  simp [txq, hx]
theorem fnd_never {x : Tx} {S : List SS.Ent} (h : ∀ y ∈ S, ¬ y.key = x) : fnd txq x S = none := by
  unfold fnd
  rw [List.find?_eq_none]
  intro y hy
  have := h y hy
  simp [txq]
  exact fun h => this h.symm
section
attribute [local irreducible] Calls GB Le
set_option maxHeartbeats 2000000 in
set_option maxRecDepth 1000000 in
theorem rget_any {w : World} {p : Option Addr} {S : List SS.Ent} (r : Int) (c : Nat) (h : RdE w p S) (hl : S.length * 40 ≤ 140737488355288) (x : Tx) :
    Calls Try.prog 22 #[.agg #[.int .i64 r, .slice p S.length c], encStr x] w fun e w' => ∃ p' c', e = .returned (.tuple #[.agg (rcC r (.slice p' (cget txq x S).length c')), encStr (((fnd txq x S).map En.val).getD []), .bool (fnd txq x S).isSome]) ∧ RdE w' p' (cget txq x S) ∧ (p' = p ∨ NewP w.heap.size p') ∧ Below w.heap.size w w' := by
  have HW := (show Hid (∀ W, Below w.heap.size w W → Calls Try.prog 39 #[.slice p S.length c, encStr x] W fun e w' => ∃ v, e = .returned v ∧ Le w' W.heap.size v (drp txq x S) ∧ Below W.heap.size W w') from fun W hb => without_any c (h.below hb) hl x)
  have HR := (show Hid (RdE w p S) from h)
  obtain ⟨n, hn⟩ : ∃ n, n = S.length := ⟨_, rfl⟩
  rw [← hn] at HW hl ⊢
  have HN := (show Hid (n = S.length ∧ n * 40 ≤ 140737488355288) from ⟨hn, hl⟩)
  clear hn h hl
  go_enter Try.func22, Try.ntmps22
  go_wp2_with (first
    | (refine wpList_bxB (cs := rcC r (.slice p n c)) rfl _ rfl rfl ?_; intro W1 G1 hb1 hs1)
    | (refine wpList_alB rfl rfl rc_zero ?_; intro W2 G2 hb2 hs2; have d1 := (rc_gb (G1.below hb2)).2))
  have HB := (show Hid (Below w.heap.size w W2 ∧ Below W1.heap.size W1 W2 ∧ Below w.heap.size w W1 ∧ W1.heap.size = w.heap.size + 1 ∧ W2.heap.size = W1.heap.size + 1) from ⟨hb1.trans (hb2.mono hb1.size), hb2, hb1, hs1.out, hs2.out⟩)
  have HG1 := (show Hid (GB W2 w.heap.size _ _) from G1.below hb2)
  have HG2 := (show Hid (GB W2 W1.heap.size _ _) from G2)
  clear G1 G2 hb1 hb2 hs1 hs2
  go_loopg [7] n (fun q i wr => ∃ k : Nat, k ≤ n ∧ q = n - k ∧ i = .int .i64 k ∧ Hid (∀ y ∈ S.take k, ¬ y.key = x) ∧ Hid (wr = W2))
  case atStart => exact ⟨0, Nat.zero_le _, rfl, rfl, by show ∀ y ∈ S.take 0, _; simp, rfl⟩
  case round =>
    obtain ⟨k, hk, hq, rfl, hT, hW⟩ := hrel
    have HK := (show Hid (gk = n - k) from hq)
    clear hq
    obtain rfl := hW.out.symm
    clear hW
    by_cases hlt : k < n
    · have hi : (k : Int) < (n : Int) := by omega
      obtain ⟨e, he⟩ : ∃ e, S[k]? = some e := ⟨S[k]'(by rw [← HN.out.1]; exact hlt), List.getElem?_eq_getElem _⟩
      rcases rde_or HR.out with hR | ⟨b, o, rfl, hR⟩
      · have := HN.out.1; rw [hR] at this; simp at this; omega
      obtain ⟨c0, c1, c2⟩ := hR k e he
      have hblt : b < w.heap.size := block_lt_of_cell c0
      have HC := (show Hid (w.cell? ⟨b, o + k * 3 + 1, none⟩ = some (encStr e.val)) from c1)
      rw [← HB.out.1.cell (block_lt_of_cell c0)] at c0
      rw [← HB.out.1.cell (block_lt_of_cell c1)] at c1
      rw [← HB.out.1.cell (block_lt_of_cell c2)] at c2
      by_cases hxe : e.key = x
      · have hfn := fnd_first hT.out he hxe
        have hcg : cget txq x S = e :: drp txq x S := by unfold cget; rw [hfn]
        have HD := (show Hid _ from loadVar_en c0 c1 c2)
        have hml : (drp txq x S).length ≤ n := Nat.le_trans (List.length_filter_le _ _) (Nat.le_of_eq HN.out.1.symm)
        obtain ⟨D, hD⟩ : ∃ D, D = drp txq x S := ⟨_, rfl⟩
        rw [← hD] at HW hml hcg
        have HFN := (show Hid (fnd txq x S = some e ∧ cget txq x S = e :: D) from ⟨hfn, hcg⟩)
        rw [hxe] at c0
        have HML := (show Hid (D.length ≤ n) from hml)
        have HBL := (show Hid (b < w.heap.size) from hblt)
        clear hfn hcg hD he hR hT hml hxe c1 c2 hblt
        have HAL := (show Hid (Below W2.heap.size W2 (W2.alloc (.cells #[encStr e.key, encStr e.val, .int .i64 e.wt] 75))) from (Below.refl _ _).alloc (Nat.le_refl _) _)
        have STEP : Hid (∀ (v5 : Value) (w4 w5 : World), Below (W2.alloc (.cells #[encStr e.key, encStr e.val, .int .i64 e.wt] 75)).heap.size (W2.alloc (.cells #[encStr e.key, encStr e.val, .int .i64 e.wt] 75)) w4 → w5.ownsRow W2.heap.size 75 3 v5 (1 + D.length) (enC e ++ flE D) → w4.grownBy w5 (some W2.heap.size) →
            ∃ p5 c5, v5 = .slice p5 (e :: D).length c5 ∧ w5.cell? ⟨w.heap.size, 0, none⟩ = some (.int .i64 r) ∧ w5.cell? ⟨w.heap.size, 1, none⟩ = some (.slice (some ⟨b, o, none⟩) n c) ∧ w5.cell? ⟨W1.heap.size, 0, none⟩ = some (.int .i64 0) ∧ w5.cell? ⟨W1.heap.size, 1, none⟩ = some (.slice none 0 0) ∧ w5.frozen? ⟨W1.heap.size, 0, none⟩ = false ∧ w5.frozen? ⟨W1.heap.size, 1, none⟩ = false ∧ w5.cell? ⟨b, o + k * 3 + 1, none⟩ = some (encStr e.val) ∧ Hid (Below w.heap.size w w5 ∧ RdE w5 p5 (e :: D) ∧ NewP w.heap.size p5 ∧ (∀ a, p5 = some a → ∀ cs' t, w5.heap[a.block]? = some (.cells cs' t (0, 0)) → t ≠ 28) ∧ GB w5 W1.heap.size 28 (rcC 0 (.slice none 0 0)))) := by
          intro v5 w4 w5 hb4 h5 h6
          have hLe := le_cons h5
          obtain ⟨p5, c5, hv, _, h8, h9⟩ := hLe.newp
          have hz4 : W2.heap.size ≤ w4.heap.size := Nat.le_trans HAL.out.size hb4.size
          have hB2 : Below W2.heap.size W2 w5 := (HAL.out.trans (hb4.mono HAL.out.size)).grown h6 hz4 (fun j hj => by cases hj; exact Nat.le_refl _)
          have g1 := HG1.out.below hB2
          have g2 := HG2.out.below hB2
          have hBw : Below w.heap.size w w5 := HB.out.1.trans (hB2.mono HB.out.1.size)
          refine ⟨p5, c5, hv, (rc_gb g1).1, (rc_gb g1).2, (rc_gb g2).1, (rc_gb g2).2, gb_frozen g2 0, gb_frozen g2 1, ?_, hBw, h8, fun a ha => Nat.le_trans HB.out.1.size (h9 a ha), hLe.typ hv, g2⟩
          rw [hBw.cell (block_lt_of_cell HC.out)]
          exact HC.out
        have d1a := (rc_gb (HG1.out.below HAL.out)).2
        have ne1 : ¬ w.heap.size = W1.heap.size := by have := HB.out.2.2.2.1; omega
        have ne2 : ¬ W1.heap.size = w.heap.size := by have := HB.out.2.2.2.1; omega
        have ne3 : ¬ b = W1.heap.size := by have := HB.out.2.2.2.1; have := HBL.out; omega
        have ne4 : ¬ W1.heap.size = b := by have := HB.out.2.2.2.1; have := HBL.out; omega
        go_upto_region 7 with (first
          | (refine wpList_ldAt rfl 75 _ rfl b (o + k * 3) rfl #[encStr e.key, encStr e.val, .int .i64 e.wt] HD.out ?_)
          | (go_at_call 39; refine (HW.out _ (HB.out.1.trans (HAL.out.mono HB.out.1.size))).mono ?_; rintro e1 w4 ⟨v, rfl, hL, hb4⟩; obtain ⟨p', c', rfl, hc', hR', hN'⟩ := hL.newp; have HB4 := (show Hid (Below _ _ _) from hb4); have HR4 := (show Hid (RdE w4 p' D) from hR'); clear hL hb4 hc' hR' hN')
          | (at_builtin; refine wpList_apR rfl _ _ 26 75 rfl Try.underlying26 info_en rfl (by decide) W2.heap.size _ 1 _ rfl (own_below (row_one e W2.heap.size (Nat.le_refl _)) HB4.out) p' D.length c' (flE D) rfl HR4.out.rw (flE_len D) (flE_cell D) (by have := HML.out; have := HN.out.2; unfold maxLen; omega) (by have := HML.out; have := HN.out.2; omega) (Nat.le_trans HAL.out.size HB4.out.size) ?_; intro v5 w5 hown5 hg5; obtain ⟨p5, c5, rfl, e0, e1, f0, f1, z0, z1, cv, HF⟩ := STEP.out v5 w4 w5 HB4.out hown5 hg5; clear hown5 hg5))
        go_region
        go_wp2
        refine bodyPost_ret (res_B3 rfl _ _ W1.heap.size rfl (gb_drew (gb_set2 HF.out.2.2.2.2 rfl)) Try.underlying28 rc_size) rfl ?_
        refine ⟨p5, c5, ?_, ?_, .inr HF.out.2.2.1, set2_below HF.out.1 HB.out.2.2.1.size _ _⟩
        · rw [HFN.out.1, HFN.out.2]; rfl
        · rw [HFN.out.2]
          exact rde_set2 HF.out.2.2.2.2 HF.out.2.1 HF.out.2.2.2.1 _ _
      · have HT2 : Hid (∀ y ∈ S.take (k + 1), ¬ y.key = x) := by
          show ∀ y ∈ S.take (k + 1), ¬ y.key = x
          rw [List.take_add_one, he]
          intro y hy
          rcases List.mem_append.1 hy with h | h
          · exact hT.out y h
          · simp at h; rw [h]; exact hxe
        have q2 : (e.key == x) = false := by simpa using hxe
        clear hR he c1 c2 hblt hT
        go_wp2
        go_roundg (n - (k + 1))
        case measure => have := HK.out; omega
        case rel => exact ⟨k + 1, by omega, rfl, by first | go_num | rw [wrap_e HN.out.2 hlt], HT2.out, rfl⟩
    · obtain rfl : k = n := by omega
      have hi : ¬ (k : Int) < (k : Int) := by omega
      have hfn : fnd txq x S = none := fnd_never (by
        have := hT.out
        rwa [show S.take k = S from List.take_of_length_le (by rw [HN.out.1]; exact Nat.le_refl _)] at this)
      have HFN := (show Hid (fnd txq x S = none ∧ cget txq x S = S) from ⟨hfn, by unfold cget; rw [hfn]⟩)
      clear hfn hT
      have HG1' := (show Hid (GB _ _ _ _) from HG1.out)
      go_wp2_with (first
        | (refine wpList_ldB (cs := rcC r (.slice p k c)) rfl _ rfl w.heap.size rfl HG1'.out Try.underlying28 rc_size ?_)
        | (refine wpList_stB (cs := rcC r (.slice p k c)) rfl _ _ rfl rfl W1.heap.size rfl rfl HG2.out rc_size rfl (rc_one _ _ _ _) ?_; intro W3 G3 hg3 hs3))
      refine bodyPost_ret (res_B3 rfl _ _ W1.heap.size rfl G3 Try.underlying28 rc_size) rfl ?_
      have hB3 := grown_below HB.out.2.1 hg3 HB.out.2.1.size (Nat.le_refl _)
      have hBw := HB.out.2.2.1.trans (hB3.mono HB.out.2.2.1.size)
      refine ⟨p, ⟨c, ?_⟩, ?_, .inl rfl, hBw⟩
      · rw [HFN.out.1, HFN.out.2, ← HN.out.1]; rfl
      · rw [HFN.out.2]
        exact HR.out.below hBw
end
end Go.Proofs.Ytjefciioaebbeaa
