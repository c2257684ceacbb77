/-
  CacheUses: the law's walk.
-/
import Derived.Test.YtjefciioaebbeaaUt28
import Derived.Test.YtjefciioaebbeaaNw28
import Derived.Deep.CutBlock
import Derived.Deep.LoopGhost
set_option linter.unusedVariables false
namespace Go.Proofs.Ytjefciioaebbeaa
open Go.RowKit
theorem wt_start {w w1 w2 W3 W4 w5 w6 W7 W8 : World} {c d : Nat} {r s : Int} (H1 : SS.Co w w1 c r [] (· < w.heap.size)) (b2 : Below w1.heap.size w1 w2) (b3 : Below w2.heap.size w2 W3) (s3 : Hid (W3.heap.size = w2.heap.size + 1)) (G4 : GB W4 w2.heap.size 28 (rcC r (.slice none 0 0))) (g4 : W3.grownBy W4 (some w2.heap.size)) (s4 : Hid (W4.heap.size = W3.heap.size)) : Below w.heap.size w W4 ∧ SS.Co w W4 c r [] (· = w2.heap.size) := by
  have h3 := s3.out; have h4 := s4.out
  have hz := b2.size
  have hb : Below w1.heap.size w1 W4 := b2.trans ((grown_below b3 g4 b3.size (Nat.le_refl _)).mono b2.size)
  exact ⟨H1.base.trans (hb.mono H1.base.size), H1.more hb (fun b h => .inr (by rw [h]; exact ⟨hz, by omega⟩))⟩
theorem wt_start2 {w w2 W4 w5 w6 W7 W8 : World} {c d : Nat} {r s : Int} (hz2 : w.heap.size ≤ w2.heap.size) (h24 : w2.heap.size < W4.heap.size) (G4 : GB W4 w2.heap.size 28 (rcC r (.slice none 0 0))) (H5 : SS.Tw w w5 c r [] d s [] (· = w2.heap.size)) (b5 : Below W4.heap.size W4 w5) (b6 : Below w5.heap.size w5 w6) (b7 : Below w6.heap.size w6 W7) (s7 : Hid (W7.heap.size = w6.heap.size + 1)) (G8 : GB W8 w6.heap.size 28 (rcC s (.slice none 0 0))) (g8 : W7.grownBy W8 (some w6.heap.size)) (s8 : Hid (W8.heap.size = W7.heap.size)) : Wt w W8 c r [] d s [] w2.heap.size w6.heap.size none none 0 0 := by
  have h7 := s7.out; have h8 := s8.out
  have hz5 := b5.size; have hz6 := b6.size
  have hb : Below w5.heap.size w5 W8 := b6.trans ((grown_below b7 g8 b7.size (Nat.le_refl _)).mono b6.size)
  refine ⟨fun b => b = w2.heap.size ∨ b = w6.heap.size, H5.more hb (fun b h => ?_), rde_nil _, rde_nil _, fun h => absurd rfl h, fun h => absurd rfl h, .inl rfl, .inr rfl, by omega, (G4.below b5).below hb, G8, fun b h => ?_⟩
  · rcases h with h | h
    · exact .inl h
    · exact .inr (by rw [h]; exact ⟨hz6, by omega⟩)
  · rcases h with h | h <;> omega
theorem wt_keys {w wr W : World} {c d bm bn cp cq : Nat} {r s : Int} {S T : List SS.Ent} {p q : Option Addr} (H : Wt w wr c r S d s T bm bn p q cp cq) (hl : S.length * 40 ≤ 140737488355288) (hb : Below wr.heap.size wr W) : Calls Try.prog 13 #[.pointer (some ⟨c, 0, none⟩)] W fun e w' => ∃ p1 c1, e = .returned (.slice p1 S.length c1) ∧ Hid (Rt w' p1 (S.map En.key)) ∧ Hid (Below wr.heap.size wr w') := by
  obtain ⟨X, h1, _⟩ := H.more hb
  refine (h1.keys (by omega)).mono ?_
  rintro e w' ⟨v, rfl, k1, k2⟩
  obtain ⟨p1, c1, rfl, _, k3⟩ := rt_own k1
  exact ⟨p1, c1, by rw [List.length_map], k3, hb.trans (k2.mono hb.size)⟩
theorem wt_rkeys {w wr W : World} {c d bm bn cp cq : Nat} {r s : Int} {S T : List SS.Ent} {p q : Option Addr} (H : Wt w wr c r S d s T bm bn p q cp cq) (hl : S.length * 40 ≤ 140737488355288) (hb : Below wr.heap.size wr W) (p0 : Option Addr) (h0 : Rt W p0 (S.map En.key)) : Calls Try.prog 14 #[.agg #[.int .i64 r, .slice p S.length cp]] W fun e w' => ∃ p1 c1, e = .returned (.slice p1 S.length c1) ∧ Hid (Rt w' p0 (S.map En.key) ∧ Rt w' p1 (S.map En.key)) ∧ Hid (Below wr.heap.size wr w') := by
  obtain ⟨X, _, h2, _⟩ := H.more hb
  refine (rkeys_any r cp h2 hl).mono ?_
  rintro e w' ⟨v, rfl, k1, k2⟩
  obtain ⟨p1, c1, rfl, _, k3⟩ := rt_own k1
  exact ⟨p1, c1, by rw [List.length_map], ⟨h0.below k2, k3⟩, hb.trans (k2.mono hb.size)⟩
theorem wt_same {wr W : World} {S : List SS.Ent} (hl : S.length * 40 ≤ 140737488355288) (hb : Below wr.heap.size wr W) (pa pb : Option Addr) (ca cb : Nat) (h0 : Rt W pa (S.map En.key) ∧ Rt W pb (S.map En.key)) : Calls Try.prog 12 #[.slice pa S.length ca, .slice pb S.length cb] W fun e w' => e = .returned (.bool true) ∧ Hid (Below wr.heap.size wr w') := by
  have hm : S.length = (S.map En.key).length := by rw [List.length_map]
  rw [hm]
  refine (sameTexts_any pa pb ca cb _ _ W h0.1 h0.2 (by rw [← hm]; omega)).mono ?_
  rintro e w' ⟨rfl, k2⟩
  exact ⟨by rw [decide_eq_true rfl], hb.trans (k2.mono hb.size)⟩
theorem wt_weight {w wr W : World} {c d bm bn cp cq : Nat} {r s : Int} {S T : List SS.Ent} {p q : Option Addr} (H : Wt w wr c r S d s T bm bn p q cp cq) (hb : Below wr.heap.size wr W) : Calls Try.prog 15 #[.pointer (some ⟨c, 0, none⟩)] W fun e w' => e = .returned (.int .i64 (wsum S)) ∧ w' = W := by
  obtain ⟨X, h1, _⟩ := H.more hb
  exact h1.weight
theorem wt_rweight {w wr W : World} {c d bm bn cp cq : Nat} {r s : Int} {S T : List SS.Ent} {p q : Option Addr} (H : Wt w wr c r S d s T bm bn p q cp cq) (hl : S.length * 40 ≤ 140737488355288) (hb : Below wr.heap.size wr W) : Calls Try.prog 16 #[.agg #[.int .i64 r, .slice p S.length cp]] W fun e w' => e = .returned (.int .i64 (wsum S)) ∧ Hid (Below wr.heap.size wr w') := by
  obtain ⟨X, ⟨F, G, k1, _⟩, h2, _⟩ := H.more hb
  have hok := k1.ok
  refine (rweight_any r cp h2 hl hok.1.wt (by have := hok.1.le; omega)).mono ?_
  rintro e w' ⟨rfl, k2⟩
  exact ⟨rfl, hb.trans (k2.mono hb.size)⟩
theorem UL.five {w wr : World} {p : Option Addr} {n : Nat} {f : Nat → Us} (h : UL w p n f) {k : Nat} (hk : k < n) : ∃ b o, p = some ⟨b, o, none⟩ ∧ ∀ W, Below w.heap.size w W → W.cell? ⟨b, o + k * 5, none⟩ = some (.bool (f k).sec) ∧ W.cell? ⟨b, o + k * 5 + 1, none⟩ = some (.int .i64 (f k).dk) ∧ W.cell? ⟨b, o + k * 5 + 2, none⟩ = some (encStr (f k).key) ∧ W.cell? ⟨b, o + k * 5 + 3, none⟩ = some (encStr (f k).val) ∧ W.cell? ⟨b, o + k * 5 + 4, none⟩ = some (.int .i64 (f k).wt) := by
  rcases h with h | ⟨b, o, e, h⟩
  · omega
  · refine ⟨b, o, e, fun W hb => ?_⟩
    have h1 := h k hk
    have hc : ∀ j u, (f k).cs.toList[j]? = some u → W.cell? ⟨b, o + k * 5 + j, none⟩ = some u := fun j u hu => by
      have h2 := h1 j u hu
      rw [hb.cell (block_lt_of_cell h2)]; exact h2
    exact ⟨hc 0 _ rfl, hc 1 _ rfl, hc 2 _ rfl, hc 3 _ rfl, hc 4 _ rfl⟩
theorem wrap_u {n k : Nat} (h : n * 56 ≤ 140737488351232) (hk : k < n) : wrap64 ((k : Int) + 1) = ((k + 1 : Nat) : Int) := by unfold wrap64; omega
section
attribute [local irreducible] Calls GB RdE SS.Co SS.Tw Wt Rt UL
theorem nb_any {r : Int} (h : ¬ (0 ≤ r ∧ r ≤ 1073741824)) (W : World) : Calls Try.prog 9 #[.int .i64 r] W fun e w' => e = .returned (.tuple #[.pointer none, .int .i64 2]) ∧ Below W.heap.size W w' :=
  (SS.new_bad r (by omega) W).mono (by rintro e w' ⟨rfl, rfl⟩; exact ⟨rfl, Below.refl _ _⟩)
theorem ng_any {r : Int} (h : 0 ≤ r ∧ r ≤ 1073741824) (W : World) : Calls Try.prog 9 #[.int .i64 r] W fun e w' => (∃ cb, e = .returned (.tuple #[.pointer (some ⟨cb, 0, none⟩), .int .i64 0])) ∧ Below W.heap.size W w' :=
  (SS.new_ok r h.1 h.2 W).mono (by rintro e w' ⟨cb, _, _, _, _, _, rfl, _, hb⟩; exact ⟨⟨cb, rfl⟩, hb⟩)
set_option maxHeartbeats 4000000 in
set_option maxRecDepth 1000000 in
theorem cacheUses_bad {w : World} (room second : Int) {p : Option Addr} {n c : Nat} (h : ¬ (0 ≤ room ∧ room ≤ 1073741824) ∨ ¬ (0 ≤ second ∧ second ≤ 1073741824)) :
    Calls Try.prog 4 #[.int .i64 room, .int .i64 second, .slice p n c] w fun e w' => e = .returned (.bool true) ∧ Below w.heap.size w w' := by
  have HR1 := (show Hid _ from fun W => rnew_any room W)
  have HR2 := (show Hid _ from fun W => rnew_any second W)
  by_cases h1 : 0 ≤ room ∧ room ≤ 1073741824
  · have h2 : ¬ (0 ≤ second ∧ second ≤ 1073741824) := h.resolve_left (fun h => h h1)
    simp only [if_pos h1] at HR1
    simp only [if_neg h2] at HR2
    have HN1 := (show Hid (∀ W, _) from fun W => ng_any h1 W)
    have HN2 := (show Hid (∀ W, _) from fun W => nb_any h2 W)
    clear h h1 h2
    go_enter Try.func4, Try.ntmps4
    go_wp2_with (first
      | (go_at_call 9; refine (HN2.out W4).mono ?_; rintro e1 w5 ⟨rfl, hb5⟩; have HB5 := (show Hid (Below w.heap.size w w5) from HB4.out.trans (hb5.mono HB4.out.size)); clear hb5)
      | (go_at_call 9; refine (HN1.out w).mono ?_; rintro e1 w1 ⟨⟨cb, rfl⟩, hb1⟩; have HB1 := (show Hid (Below w.heap.size w w1) from hb1); clear hb1)
      | (go_at_call 10; refine (HR2.out w5).mono ?_; rintro e1 w6 ⟨rfl, hb6⟩; have HB6 := (show Hid (Below w.heap.size w w6) from HB5.out.trans (hb6.mono HB5.out.size)); clear hb6)
      | (go_at_call 10; refine (HR1.out w1).mono ?_; rintro e1 w2 ⟨rfl, hb2⟩; have HB2 := (show Hid (Below w.heap.size w w2) from HB1.out.trans (hb2.mono HB1.out.size)); clear hb2)
      | (revert HB6; intro HB6; refine wpList_alB rfl rfl rc_zero ?_; intro W7 G7 hb7 hs7)
      | (refine wpList_alB rfl rfl rc_zero ?_; intro W3 G3 hb3 hs3)
      | (refine wpList_stB (cs := rcC 0 (.slice none 0 0)) rfl _ _ rfl rfl w6.heap.size rfl rfl G7 rc_size rfl (rc_one _ _ _ _) ?_; intro W8 G8 hg8 hs8; have HB8 := (show Hid (Below w.heap.size w W8) from HB6.out.trans ((grown_below hb7 hg8 hb7.size (Nat.le_refl _)).mono HB6.out.size)))
      | (refine wpList_stB (cs := rcC room (.slice none 0 0)) rfl _ _ rfl rfl w2.heap.size rfl rfl G3 rc_size rfl (rc_one _ _ _ _) ?_; intro W4 G4 hg4 hs4; have HB4 := (show Hid (Below w.heap.size w W4) from HB2.out.trans ((grown_below hb3 hg4 hb3.size (Nat.le_refl _)).mono HB2.out.size))))
    go_ret
    exact ⟨rfl, HB8.out⟩
  · by_cases h2 : 0 ≤ second ∧ second ≤ 1073741824
    · simp only [if_neg h1] at HR1
      simp only [if_pos h2] at HR2
      have HN1 := (show Hid (∀ W, _) from fun W => nb_any h1 W)
      have HN2 := (show Hid (∀ W, _) from fun W => ng_any h2 W)
      clear h h1 h2
      go_enter Try.func4, Try.ntmps4
      go_wp2_with (first
        | (go_at_call 9; refine (HN2.out W4).mono ?_; rintro e1 w5 ⟨⟨db, rfl⟩, hb5⟩; have HB5 := (show Hid (Below w.heap.size w w5) from HB4.out.trans (hb5.mono HB4.out.size)); clear hb5)
        | (go_at_call 9; refine (HN1.out w).mono ?_; rintro e1 w1 ⟨rfl, hb1⟩; have HB1 := (show Hid (Below w.heap.size w w1) from hb1); clear hb1)
        | (go_at_call 10; refine (HR2.out w5).mono ?_; rintro e1 w6 ⟨rfl, hb6⟩; have HB6 := (show Hid (Below w.heap.size w w6) from HB5.out.trans (hb6.mono HB5.out.size)); clear hb6)
        | (go_at_call 10; refine (HR1.out w1).mono ?_; rintro e1 w2 ⟨rfl, hb2⟩; have HB2 := (show Hid (Below w.heap.size w w2) from HB1.out.trans (hb2.mono HB1.out.size)); clear hb2)
        | (revert HB6; intro HB6; refine wpList_alB rfl rfl rc_zero ?_; intro W7 G7 hb7 hs7)
        | (refine wpList_alB rfl rfl rc_zero ?_; intro W3 G3 hb3 hs3)
        | (refine wpList_stB (cs := rcC second (.slice none 0 0)) rfl _ _ rfl rfl w6.heap.size rfl rfl G7 rc_size rfl (rc_one _ _ _ _) ?_; intro W8 G8 hg8 hs8; have HB8 := (show Hid (Below w.heap.size w W8) from HB6.out.trans ((grown_below hb7 hg8 hb7.size (Nat.le_refl _)).mono HB6.out.size)))
        | (refine wpList_stB (cs := rcC 0 (.slice none 0 0)) rfl _ _ rfl rfl w2.heap.size rfl rfl G3 rc_size rfl (rc_one _ _ _ _) ?_; intro W4 G4 hg4 hs4; have HB4 := (show Hid (Below w.heap.size w W4) from HB2.out.trans ((grown_below hb3 hg4 hb3.size (Nat.le_refl _)).mono HB2.out.size))))
      go_ret
      exact ⟨rfl, HB8.out⟩
    · simp only [if_neg h1] at HR1
      simp only [if_neg h2] at HR2
      have HN1 := (show Hid (∀ W, _) from fun W => nb_any h1 W)
      have HN2 := (show Hid (∀ W, _) from fun W => nb_any h2 W)
      clear h h1 h2
      go_enter Try.func4, Try.ntmps4
      go_wp2_with (first
        | (go_at_call 9; refine (HN2.out W4).mono ?_; rintro e1 w5 ⟨rfl, hb5⟩; have HB5 := (show Hid (Below w.heap.size w w5) from HB4.out.trans (hb5.mono HB4.out.size)); clear hb5)
        | (go_at_call 9; refine (HN1.out w).mono ?_; rintro e1 w1 ⟨rfl, hb1⟩; have HB1 := (show Hid (Below w.heap.size w w1) from hb1); clear hb1)
        | (go_at_call 10; refine (HR2.out w5).mono ?_; rintro e1 w6 ⟨rfl, hb6⟩; have HB6 := (show Hid (Below w.heap.size w w6) from HB5.out.trans (hb6.mono HB5.out.size)); clear hb6)
        | (go_at_call 10; refine (HR1.out w1).mono ?_; rintro e1 w2 ⟨rfl, hb2⟩; have HB2 := (show Hid (Below w.heap.size w w2) from HB1.out.trans (hb2.mono HB1.out.size)); clear hb2)
        | (revert HB6; intro HB6; refine wpList_alB rfl rfl rc_zero ?_; intro W7 G7 hb7 hs7)
        | (refine wpList_alB rfl rfl rc_zero ?_; intro W3 G3 hb3 hs3)
        | (refine wpList_stB (cs := rcC 0 (.slice none 0 0)) rfl _ _ rfl rfl w6.heap.size rfl rfl G7 rc_size rfl (rc_one _ _ _ _) ?_; intro W8 G8 hg8 hs8; have HB8 := (show Hid (Below w.heap.size w W8) from HB6.out.trans ((grown_below hb7 hg8 hb7.size (Nat.le_refl _)).mono HB6.out.size)))
        | (refine wpList_stB (cs := rcC 0 (.slice none 0 0)) rfl _ _ rfl rfl w2.heap.size rfl rfl G3 rc_size rfl (rc_one _ _ _ _) ?_; intro W4 G4 hg4 hs4; have HB4 := (show Hid (Below w.heap.size w W4) from HB2.out.trans ((grown_below hb3 hg4 hb3.size (Nat.le_refl _)).mono HB2.out.size))))
      go_ret
      exact ⟨rfl, HB8.out⟩
end
end Go.Proofs.Ytjefciioaebbeaa
