/-
  The document's caches: Weight, Keys, Clear, Drop.
-/
import Derived.Test.YtjefciioaebbeaaRc28
namespace Go.Proofs.Ytjefciioaebbeaa
open Go.RowKit
theorem rc_gb {w : World} {g : Nat} {r : Int} {p : Option Addr} {n c : Nat} (G : GB w g 28 (rcC r (.slice p n c))) : w.cell? ⟨g, 0, none⟩ = some (.int .i64 r) ∧ w.cell? ⟨g, 1, none⟩ = some (.slice p n c) := ⟨GB.cell G 0, GB.cell G 1⟩
section
variable {fn : Func} {p : Tmp} {t : TypeId} {cs : Array Value}
theorem res_B1 (h : fn.results = #[.cell p t]) (tmps : Array Value) (w : World) (g : Nat) (hp : tmps.getD p undef = .pointer (some ⟨g, 0, none⟩)) (H : GB w g t cs) {fs : Array Field} (hu : Try.prog.underlying t = some (.struct fs)) (hs : (Try.prog.info? t).map (·.size) = some cs.size) :
    (results fn tmps).run Try.prog w = .ok (.agg cs) w := res_B h tmps w g hp H hu hs
end
theorem rde_or {w : World} {p : Option Addr} {S : List SS.Ent} (h : RdE w p S) : S = [] ∨ ∃ b o, p = some ⟨b, o, none⟩ ∧ ∀ i e, S[i]? = some e → w.cell? ⟨b, o + i * 3, none⟩ = some (encStr e.key) ∧ w.cell? ⟨b, o + i * 3 + 1, none⟩ = some (encStr e.val) ∧ w.cell? ⟨b, o + i * 3 + 2, none⟩ = some (.int .i64 e.wt) := h
section
attribute [local irreducible] Calls GB RdE
set_option maxHeartbeats 1000000 in
set_option maxRecDepth 1000000 in
theorem rweight_any {w : World} {p : Option Addr} {S : List SS.Ent} (r : Int) (c : Nat) (h : RdE w p S) (hl : S.length * 40 ≤ 140737488355288) (hp : ∀ e ∈ S, 0 ≤ e.wt) (hs : wsum S ≤ 4611686018427387904) :
    Calls Try.prog 16 #[.agg #[.int .i64 r, .slice p S.length c]] w fun e w' => e = .returned (.int .i64 (wsum S)) ∧ Below w.heap.size w w' := by
  have HS := (show Hid (∀ W, Below w.heap.size w W → Calls Try.prog 37 #[.slice p S.length c] W fun e w' => e = .returned (.int .i64 (wsum S)) ∧ w' = W) from fun W hb => rsum_any c (h.below hb) hl hp hs)
  obtain ⟨n, hn⟩ : ∃ n, n = S.length := ⟨_, rfl⟩
  rw [← hn] at HS ⊢
  clear hn h hl hp hs
  go_enter Try.func16, Try.ntmps16
  go_wp2_with (first
    | (refine wpList_bxB (cs := rcC r (.slice p n c)) rfl _ rfl rfl ?_; intro W1 G1 hb1 hs1; have d1 := (rc_gb G1).2; have HB := (show Hid (Below _ _ _) from hb1); clear hb1 hs1 G1)
    | (go_at_call 37; refine (HS.out _ HB.out).mono ?_; rintro e1 w2 ⟨rfl, h1⟩; obtain rfl := h1.symm))
  go_ret
  exact ⟨rfl, HB.out⟩
theorem info_st : (Try.prog.info? 9).map (fun i => (i.zero, i.size, i.bytes)) = some (some (.string ⟨#[]⟩), 1, 16) := by kernel_rfl
theorem one_rw (w : World) (x : Value) (t : TypeId) : Rw (w.alloc (.cells #[x] t)) (some ⟨w.heap.size, 0, none⟩) 1 [x] := by
  refine .inr ⟨_, 0, rfl, fun j hj => ?_⟩
  rw [Nat.zero_add, cell_of_row _ _ _ _ _ (0, 0) (heap_alloc_new w _)]
  simp
set_option maxHeartbeats 1000000 in
set_option maxRecDepth 1000000 in
theorem rkeys_any {w : World} {p : Option Addr} {S : List SS.Ent} (r : Int) (c : Nat) (h : RdE w p S) (hl : S.length * 40 ≤ 140737488355288) :
    Calls Try.prog 14 #[.agg #[.int .i64 r, .slice p S.length c]] w fun e w' => ∃ v, e = .returned v ∧ SS.Kl w' w.heap.size v (S.map En.key) ∧ Below w.heap.size w w' := by
  have HR := (show Hid (RdE w p S) from h)
  obtain ⟨n, hn⟩ : ∃ n, n = S.length := ⟨_, rfl⟩
  rw [← hn] at hl ⊢
  have HN := (show Hid (n = S.length ∧ n * 40 ≤ 140737488355288) from ⟨hn, hl⟩)
  clear h hn hl
  go_enter Try.func14, Try.ntmps14
  go_wp2_with (refine wpList_bxB (cs := rcC r (.slice p n c)) rfl _ rfl rfl ?_; intro W1 G1 hb1 hs1; have HG := (show Hid (GB _ _ _ _) from G1); have HB := (show Hid (Below _ _ _) from hb1); clear hb1 hs1 G1)
  go_loopg [3, 4] n (fun q v i wr => ∃ k : Nat, k ≤ n ∧ q = n - k ∧ i = .int .i64 k ∧ Hid (wr.ownsRow W1.heap.size 9 1 v k ((S.take k).map fun e => encStr e.key)) ∧ Hid (Below W1.heap.size W1 wr))
  case atStart => exact ⟨0, Nat.zero_le _, rfl, rfl, World.ownsRow_nil _ _ _ _, Below.refl _ _⟩
  case round =>
    obtain ⟨k, hk, hq, rfl, hL, hW⟩ := hrel
    have HK := (show Hid (gk = n - k) from hq)
    clear hq
    have d1 := (rc_gb (HG.out.below hW.out)).2
    by_cases hlt : k < n
    · have hi : (k : Int) < (n : Int) := by omega
      obtain ⟨e, he⟩ : ∃ e, S[k]? = some e := ⟨S[k]'(by rw [← HN.out.1]; exact hlt), List.getElem?_eq_getElem _⟩
      rcases rde_or HR.out with hR | ⟨b, o, rfl, hR⟩
      · have := HN.out.1; rw [hR] at this; simp at this; omega
      obtain ⟨c0, _, _⟩ := hR k e he
      rw [← HB.out.cell (block_lt_of_cell c0)] at c0
      rw [← hW.out.cell (block_lt_of_cell c0)] at c0
      have hsn : (S.take (k + 1)).map (fun e => encStr e.key) = (S.take k).map (fun e => encStr e.key) ++ [encStr e.key] := by rw [List.take_add_one, he]; simp
      have HO : Hid (wr.ownsRow W1.heap.size 9 1 u3 k ((S.take k).map fun e => encStr e.key)) := hL.out
      have HBB : Hid (k + 1 ≤ maxLen ∧ (k + 1) * 16 ≤ 140737488355328 ∧ W1.heap.size ≤ wr.heap.size) := ⟨by have := HN.out.2; unfold maxLen; omega, by have := HN.out.2; omega, hW.out.size⟩
      have STEP : Hid (∀ (v2 : Value) (w2 : World), w2.ownsRow W1.heap.size 9 1 v2 (k + 1) ((S.take k).map (fun e => encStr e.key) ++ [encStr e.key]) → (wr.alloc (.cells #[encStr e.key] 9)).grownBy w2 u3.ownBlock → Hid (w2.ownsRow W1.heap.size 9 1 v2 (k + 1) ((S.take (k + 1)).map fun e => encStr e.key) ∧ Below W1.heap.size W1 w2)) := by
        intro v2 w2 h1 h2
        refine ⟨?_, own_grown (HO.out.alloc _) (hW.out.alloc HBB.out.2.2 _) (by have := HBB.out.2.2; simp; omega) h2 (Nat.le_refl _)⟩
        rw [hsn]; exact h1
      clear hsn he hR
      go_wp2_with (at_builtin; refine wpList_apR rfl _ _ 38 9 rfl Try.underlying38 info_st rfl (by decide) W1.heap.size _ k _ rfl (HO.out.alloc _) (some ⟨wr.heap.size, 0, none⟩) 1 1 [encStr e.key] rfl (one_rw _ _ _) rfl (by intro u hu; rw [List.mem_singleton.1 hu]; rfl) HBB.out.1 HBB.out.2.1 (by have := HBB.out.2.2; simp; omega) ?_; intro v2 w2 hown2 hg2; have HF := STEP.out v2 w2 hown2 hg2; clear hown2 hg2)
      go_roundg (n - (k + 1))
      case measure => have := HK.out; omega
      case rel => exact ⟨k + 1, by omega, rfl, by first | go_num | rw [wrap_e HN.out.2 hlt], HF.out.1, HF.out.2⟩
    · obtain rfl : k = n := by omega
      have hi : ¬ (k : Int) < (k : Int) := by omega
      go_wp2
      go_ret
      refine ⟨_, rfl, ?_, HB.out.trans (hW.out.mono HB.out.size)⟩
      have h1 := hL.out
      rw [show S.take k = S from List.take_of_length_le (by rw [HN.out.1]; exact Nat.le_refl _)] at h1
      unfold SS.Kl
      rw [List.length_map, List.map_map, ← HN.out.1]
      exact own_mono h1 HB.out.size
set_option maxRecDepth 1000000 in
theorem rclear_any (r : Int) (p : Option Addr) (n c : Nat) (w : World) : Calls Try.prog 35 #[.agg #[.int .i64 r, .slice p n c]] w fun e w' => e = .returned (.agg (rcC r (.slice none 0 0))) ∧ Below w.heap.size w w' := by
  go_enter Try.func35, Try.ntmps35
  go_wp2_with (first
    | (refine wpList_bxB (cs := rcC r (.slice p n c)) rfl _ rfl rfl ?_; intro W1 G1 hb1 hs1)
    | (refine wpList_alB rfl rfl rc_zero ?_; intro W2 G2 hb2 hs2; have d0 := (rc_gb (G1.below hb2)).1)
    | (refine wpList_stB (cs := rcC r (.slice none 0 0)) rfl _ _ rfl rfl W1.heap.size rfl rfl G2 rc_size rfl (rc_one _ _ _ _) ?_; intro W3 G3 hg3 hs3))
  refine bodyPost_ret (res_B1 rfl _ _ W1.heap.size rfl G3 Try.underlying28 rc_size) rfl ?_
  exact ⟨rfl, hb1.trans ((grown_below hb2 hg3 hb2.size (Nat.le_refl _)).mono hb1.size)⟩
end
end Go.Proofs.Ytjefciioaebbeaa
