/-
  The document's caches: Drop, Get.
-/
import Derived.Test.YtjefciioaebbeaaRd28
namespace Go.Proofs.Ytjefciioaebbeaa
open Go.RowKit
/-- What lies in new memory. -/
def NewP (B : Nat) (p : Option Addr) : Prop := ∀ a, p = some a → B ≤ a.block
theorem Le.newp {w : World} {base : Nat} {v : Value} {S : List SS.Ent} (h : Le w base v S) : ∃ p c, v = .slice p S.length c ∧ S.length ≤ c ∧ RdE w p S ∧ NewP base p := by
  obtain ⟨p, c, h1, h2, h3⟩ := h.read
  refine ⟨p, c, h1, h2, h3, fun a ha => ?_⟩
  rcases h.2 with ⟨hv, _⟩ | ⟨g, cap, cur, hv, hg, _⟩
  · rw [h1] at hv; injection hv with e1; rw [ha] at e1; cases e1
  · rw [h1] at hv; injection hv with e1; rw [ha] at e1; injection e1 with e1; rw [e1]; exact hg
theorem drp_less (x : Tx) (S : List SS.Ent) : decide ((drp txq x S).length < S.length) = (fnd txq x S).isSome := by
  cases hf : fnd txq x S with
  | none => rw [drp_none hf]; simp
  | some e =>
    have h := fnd_some hf
    rw [decide_eq_true]
    · rfl
    · exact List.length_filter_lt_length_iff_exists.2 ⟨e, h.1, by simp [h.2]⟩
theorem gb_set2 {w : World} {g : Nat} {a b : Value} {cs : Array Value} (G : GB w g 28 cs) (h : cs.size = 2) : GB ((w.setCell ⟨g, 0, none⟩ a).setCell ⟨g, 1, none⟩ b) g 28 #[a, b] := by
  unfold GB at G ⊢
  obtain ⟨x, y, rfl⟩ : ∃ x y, cs = #[x, y] := ⟨cs[0], cs[1], by apply Array.ext; simp [h]; intro i h1 h2; match i, h1 with | 0, _ => rfl | 1, _ => rfl | (n + 2), h1 => omega⟩
  rw [heap_setCell_same _ g 1 _ _ _ (heap_setCell_same w g 0 _ _ _ G)]
  rfl
theorem gb_frozen {w : World} {g : Nat} {t : TypeId} {cs : Array Value} (G : GB w g t cs) (i : Nat) : w.frozen? ⟨g, i, none⟩ = false := frozen_of_row w g i _ _ G
theorem gb_drew {w : World} {g : Nat} {t : TypeId} {cs : Array Value} (G : GB w g t cs) : GB w.drew g t cs := G
theorem set2_below {w0 w : World} {B g : Nat} (hb : Below B w0 w) (hg : B ≤ g) (a b : Value) : Below B w0 ((w.setCell ⟨g, 0, none⟩ a).setCell ⟨g, 1, none⟩ b).drew := below_drewN ((hb.setCell hg a).setCell hg b) 1
theorem rde_set2 {w : World} {g : Nat} {cs : Array Value} (G : GB w g 28 cs) {p : Option Addr} {S : List SS.Ent} (h : RdE w p S) (hn : ∀ a, p = some a → ∀ cs' t, w.heap[a.block]? = some (.cells cs' t (0, 0)) → t ≠ 28) (a b : Value) : RdE ((w.setCell ⟨g, 0, none⟩ a).setCell ⟨g, 1, none⟩ b).drew p S := by
  rcases h with h | ⟨bk, o, e, h⟩
  · exact .inl h
  · refine .inr ⟨bk, o, e, fun i x hx => ?_⟩
    have hne : ∀ k, (⟨bk, k, none⟩ : Addr) ≠ ⟨g, 0, none⟩ ∧ (⟨bk, k, none⟩ : Addr) ≠ ⟨g, 1, none⟩ := by
      intro k
      have : bk ≠ g := fun h1 => hn _ e cs 28 (by rw [h1]; exact G) rfl
      exact ⟨fun h2 => this (by injection h2), fun h2 => this (by injection h2)⟩
    have hc : ∀ k, ((w.setCell ⟨g, 0, none⟩ a).setCell ⟨g, 1, none⟩ b).drew.cell? ⟨bk, k, none⟩ = w.cell? ⟨bk, k, none⟩ := by
      intro k
      show ((w.setCell ⟨g, 0, none⟩ a).setCell ⟨g, 1, none⟩ b).cell? ⟨bk, k, none⟩ = _
      rw [SS.cell_other (hne k).2, SS.cell_other (hne k).1]
    rw [hc, hc, hc]
    exact h i x hx
theorem Le.typ {w : World} {base : Nat} {v : Value} {S : List SS.Ent} (h : Le w base v S) {p : Option Addr} {n c : Nat} (hv : v = .slice p n c) : ∀ a, p = some a → ∀ cs' t, w.heap[a.block]? = some (.cells cs' t (0, 0)) → t ≠ 28 := by
  intro a ha cs' t ht
  rcases h.2 with ⟨h1, _⟩ | ⟨g, cap, cur, h1, hg, hb, _⟩
  · rw [h1] at hv; injection hv with e1; rw [ha] at e1; cases e1
  · rw [h1] at hv; injection hv with e1; rw [ha] at e1; injection e1 with e1
    rw [← e1] at ht
    have ht2 : w.heap[g]? = some (.cells cs' t (0, 0)) := ht
    rw [hb] at ht2
    injection ht2 with ht2
    injection ht2 with _ ht2
    rw [← ht2]
    decide
section
attribute [local irreducible] Calls GB RdE Le
set_option maxHeartbeats 1000000 in
set_option maxRecDepth 1000000 in
theorem rdrop_any {w : World} {p : Option Addr} {S : List SS.Ent} (r : Int) (c : Nat) (h : RdE w p S) (hl : S.length * 40 ≤ 140737488355288) (x : Tx) :
    Calls Try.prog 24 #[.agg #[.int .i64 r, .slice p S.length c], encStr x] w fun e w' => ∃ p' c', e = .returned (.tuple #[.agg (rcC r (.slice p' (drp txq x S).length c')), .bool (fnd txq x S).isSome]) ∧ RdE w' p' (drp txq x S) ∧ NewP w.heap.size p' ∧ Below w.heap.size w w' := by
  have HW := (show Hid (∀ W, Below w.heap.size w W → Calls Try.prog 39 #[.slice p S.length c, encStr x] W fun e w' => ∃ v, e = .returned v ∧ Le w' W.heap.size v (drp txq x S) ∧ Below W.heap.size W w') from fun W hb => without_any c (h.below hb) hl x)
  rw [← drp_less]
  obtain ⟨n, hn⟩ : ∃ n, n = S.length := ⟨_, rfl⟩
  rw [← hn] at HW ⊢
  obtain ⟨D, hD⟩ : ∃ D, D = drp txq x S := ⟨_, rfl⟩
  rw [← hD] at HW ⊢
  obtain ⟨m, hm⟩ : ∃ m, m = D.length := ⟨_, rfl⟩
  rw [← hm]
  have HM := (show Hid (m = D.length) from hm)
  clear hn h hl hD hm
  go_enter Try.func24, Try.ntmps24
  go_wp2_with (first
    | (refine wpList_bxB (cs := rcC r (.slice p n c)) rfl _ rfl rfl ?_; intro W1 G1 hb1 hs1)
    | (refine wpList_alB rfl rfl rc_zero ?_; intro W2 G2 hb2 hs2; have d1 := (rc_gb (G1.below hb2)).2; have HB := (show Hid (Below w.heap.size w W2) from hb1.trans (hb2.mono hb1.size)))
    | (go_at_call 39; refine (HW.out _ HB.out).mono ?_; rintro e1 w3 ⟨v, rfl, hL, hb3⟩; obtain ⟨p', c', rfl, hc', hR, hN⟩ := hL.newp; rw [← HM.out]; have HTY := (show Hid (∀ a, p' = some a → ∀ cs' t, w3.heap[a.block]? = some (.cells cs' t (0, 0)) → t ≠ 28) from hL.typ rfl); have HF := (show Hid (RdE w3 p' D ∧ NewP W2.heap.size p' ∧ Below W2.heap.size W2 w3) from ⟨hR, hN, hb3⟩); have G3 := G2.below hb3; have e0 := (rc_gb ((G1.below hb2).below hb3)).1; have e1 := (rc_gb ((G1.below hb2).below hb3)).2; have f0 := (rc_gb G3).1; have f1 := (rc_gb G3).2; have z0 := gb_frozen G3 0; have z1 := gb_frozen G3 1; have hne : ¬ w.heap.size = W1.heap.size := (by have := hs1.out; omega); have hne2 : ¬ W1.heap.size = w.heap.size := (by have := hs1.out; omega); have HG := (show Hid (GB w3 _ _ _) from G3); have HB0 := (show Hid (Below _ W1 W2) from hb2); have HB1 := (show Hid (Below _ w W1) from hb1); clear hL hb3 hR hN G3 G1 G2 hb1 hb2 d1 hs1 hs2 hc'))
  go_region
  go_wp2
  refine bodyPost_ret (res_B2 rfl _ _ W1.heap.size rfl (gb_drew (gb_set2 HG.out rfl)) Try.underlying28 rc_size) rfl ?_
  refine ⟨p', c', ?_, rde_set2 HG.out HF.out.1 HTY.out _ _, ?_, ?_⟩
  · rw [show decide (m < n) = decide ((m : Int) < (n : Int)) from by simp]; rfl
  · intro a ha; exact Nat.le_trans (Nat.le_trans HB1.out.size HB0.out.size) (HF.out.2.1 a ha)
  · exact set2_below ((HB1.out.trans (HB0.out.mono HB1.out.size)).trans (HF.out.2.2.mono (Nat.le_trans HB1.out.size HB0.out.size))) HB1.out.size _ _
end
end Go.Proofs.Ytjefciioaebbeaa
