/-
  CacheUses: used, any call; two caches and the law's two variables.
-/
import Derived.Test.YtjefciioaebbeaaUr28
set_option linter.unusedVariables false
namespace Go.Proofs.Ytjefciioaebbeaa
open Go.RowKit
theorem cput_len (r : Int) (e : SS.Ent) (S : List SS.Ent) : (cput txq r e S).1.length ≤ S.length + 1 := by
  have hl : (drp txq e.key S).length ≤ S.length := List.length_filter_le _ _
  unfold cput
  split
  · exact Nat.le_succ_of_le hl
  · exact Nat.succ_le_succ (Nat.le_trans (evc_pre' _ _).length_le hl)
theorem cget_len (x : Tx) (S : List SS.Ent) : (cget txq x S).length ≤ S.length + 1 := by
  have hl : (drp txq x S).length ≤ S.length := List.length_filter_le _ _
  unfold cget
  split
  · omega
  · exact Nat.succ_le_succ hl
theorem used_any {w0 w : World} {c d : Nat} {r s : Int} {S T : List SS.Ent} {X : Nat → Prop} {p : Option Addr} (cc : Nat) (H : Ux w0 w c r S d s T X p) (hl : S.length * 40 ≤ 140737488355288) (x : Us) (hx : In64 x.wt) :
    Calls Try.prog 11 #[.pointer (some ⟨c, 0, none⟩), .agg (rcC r (.slice p S.length cc)), .agg x.cs] w fun e w' => ∃ S' p' c', e = .returned (.tuple #[.agg (rcC r (.slice p' S'.length c')), .bool true]) ∧ S'.length ≤ S.length + 1 ∧ Uw w0 w w' c r S' d s T X p' := by
  have hdl : (drp txq x.key S).length ≤ S.length := List.length_filter_le _ _
  by_cases n0 : x.dk = 0
  · exact (used_put cc H hl x hx n0).mono (fun e w' ⟨p', c', h1, h2⟩ => ⟨_, p', c', h1, cput_len _ _ _, h2⟩)
  by_cases n1 : x.dk = 1
  · exact (used_get cc H hl x hx n0 n1).mono (fun e w' ⟨p', c', h1, h2⟩ => ⟨_, p', c', h1, cget_len _ _, h2⟩)
  by_cases n2 : x.dk = 2
  · exact (used_drop cc H hl x hx n0 n1 n2).mono (fun e w' ⟨p', c', h1, h2⟩ => ⟨_, p', c', h1, by omega, h2⟩)
  by_cases n3 : x.dk = 3
  · exact (used_clear cc H hl x hx n0 n1 n2 n3).mono (fun e w' ⟨p', c', h1, h2⟩ => ⟨_, p', c', h1, Nat.zero_le _, h2⟩)
  by_cases n4 : x.dk = 4
  · exact (used_keys cc H hl x hx n0 n1 n2 n3 n4).mono (fun e w' ⟨p', c', h1, h2⟩ => ⟨_, p', c', h1, Nat.le_succ _, h2⟩)
  by_cases n5 : x.dk = 5
  · exact (used_weight cc H hl x hx n0 n1 n2 n3 n4 n5).mono (fun e w' ⟨p', c', h1, h2⟩ => ⟨_, p', c', h1, Nat.le_succ _, h2⟩)
  exact (used_else cc H hl x hx n0 n1 n2 n3 n4 n5).mono (fun e w' ⟨p', c', h1, h2⟩ => ⟨_, p', c', h1, Nat.le_succ _, h2⟩)
theorem rde_off {w : World} {p : Option Addr} {S : List SS.Ent} {g : Nat} {r : Int} {q : Option Addr} {n c : Nat} (h : RdE w p S) (G : GB w g 28 (rcC r (.slice q n c))) (hS : S ≠ []) : ∀ a, p = some a → a.block ≠ g := by
  intro a ha hg
  rcases rde_or h with h | ⟨b, o, e, h⟩
  · exact hS h
  · obtain ⟨y, L, hL⟩ := List.exists_cons_of_ne_nil hS
    have h9 := (h 0 y (by rw [hL]; rfl)).1
    rw [ha] at e; injection e with e
    rw [e] at hg
    have hg : b = g := hg
    rw [hg, G.cell, Nat.zero_mul, Nat.add_zero] at h9
    match o, h9 with
    | 0, h9 => simp [rcC, encStr] at h9
    | 1, h9 => simp [rcC, encStr] at h9
    | (k + 2), h9 => simp [rcC] at h9
/-- Two caches, the document's two lists, the law's two variables. -/
def Wt (w wr : World) (c : Nat) (r : Int) (S : List SS.Ent) (d : Nat) (s : Int) (T : List SS.Ent) (bm bn : Nat) (p q : Option Addr) (cp cq : Nat) : Prop := ∃ X : Nat → Prop, SS.Tw w wr c r S d s T X ∧ RdE wr p S ∧ RdE wr q T ∧ (S ≠ [] → ∀ a, p = some a → X a.block) ∧ (T ≠ [] → ∀ a, q = some a → X a.block) ∧ X bm ∧ X bn ∧ bm ≠ bn ∧ GB wr bm 28 (rcC r (.slice p S.length cp)) ∧ GB wr bn 28 (rcC s (.slice q T.length cq)) ∧ ∀ b, X b → w.heap.size ≤ b
section
variable {w wr : World} {c d bm bn cp cq : Nat} {r s : Int} {S T : List SS.Ent} {p q : Option Addr}
theorem Wt.swap (H : Wt w wr c r S d s T bm bn p q cp cq) : Wt w wr d s T c r S bn bm q p cq cp := by
  obtain ⟨X, h1, h2, h3, h4, h5, h6, h7, h8, h9, h10, h11⟩ := H
  exact ⟨X, h1.swap, h3, h2, h5, h4, h7, h6, Ne.symm h8, h10, h9, h11⟩
theorem Wt.base (H : Wt w wr c r S d s T bm bn p q cp cq) : Below w.heap.size w wr := by
  obtain ⟨X, h1, _⟩ := H; exact h1.base
theorem Wt.more (H : Wt w wr c r S d s T bm bn p q cp cq) {W : World} (hb : Below wr.heap.size wr W) : Wt w W c r S d s T bm bn p q cp cq := by
  obtain ⟨X, h1, h2, h3, h4, h5, h6, h7, h8, h9, h10, h11⟩ := H
  exact ⟨X, h1.more hb (fun b h => .inl h), h2.below hb, h3.below hb, h4, h5, h6, h7, h8, h9.below hb, h10.below hb, h11⟩
theorem Wt.drew (H : Wt w wr c r S d s T bm bn p q cp cq) : Wt w wr.drew c r S d s T bm bn p q cp cq := H.more ((Below.refl _ _).drew)
theorem Wt.cells (H : Wt w wr c r S d s T bm bn p q cp cq) : wr.cell? ⟨bm, 0, none⟩ = some (.int .i64 r) ∧ wr.cell? ⟨bm, 1, none⟩ = some (.slice p S.length cp) ∧ wr.frozen? ⟨bm, 0, none⟩ = false ∧ wr.frozen? ⟨bm, 1, none⟩ = false := by
  obtain ⟨X, h1, h2, h3, h4, h5, h6, h7, h8, h9, h10, h11⟩ := H
  exact ⟨(rc_gb h9).1, (rc_gb h9).2, gb_frozen h9 0, gb_frozen h9 1⟩
theorem Wt.used (H : Wt w wr c r S d s T bm bn p q cp cq) (hl : S.length * 40 ≤ 140737488355288) (x : Us) (hx : In64 x.wt) :
    Calls Try.prog 11 #[.pointer (some ⟨c, 0, none⟩), .agg #[.int .i64 r, .slice p S.length cp], .agg #[.bool x.sec, .int .i64 x.dk, encStr x.key, encStr x.val, .int .i64 x.wt]] wr fun e w' => ∃ S' p' c', e = .returned (.tuple #[.agg #[.int .i64 r, .slice p' S'.length c'], .bool true]) ∧ Hid (S'.length ≤ S.length + 1) ∧ (w'.cell? ⟨bm, 0, none⟩ = some (.int .i64 r) ∧ w'.cell? ⟨bm, 1, none⟩ = some (.slice p S.length cp) ∧ w'.frozen? ⟨bm, 0, none⟩ = false ∧ w'.frozen? ⟨bm, 1, none⟩ = false) ∧ Hid (Below w.heap.size w w') ∧ Hid (Wt w ((w'.setCell ⟨bm, 0, none⟩ (.int .i64 r)).setCell ⟨bm, 1, none⟩ (.slice p' S'.length c')) c r S' d s T bm bn p' q c' cq) := by
  obtain ⟨X, h1, h2, h3, h4, h5, h6, h7, h8, h9, h10, h11⟩ := H
  refine (used_any cp ⟨h1, h2, h4⟩ hl x hx).mono ?_
  rintro e w' ⟨S', p', c', rfl, hl', Y, ⟨k1, k2, k3⟩, k4, k5, k6⟩
  have g9 := h9.kx h6 k6
  have g10 := h10.kx h7 k6
  have r3 := h3.kx h5 k6
  have hk : SS.Kx (fun b => b ≠ bm) w' ((w'.setCell ⟨bm, 0, none⟩ (.int .i64 r)).setCell ⟨bm, 1, none⟩ (.slice p' S'.length c')) := fun b hb => by
    rw [Below.heap_setCell _ _ _ _ hb, Below.heap_setCell _ _ _ _ hb]
  have hY : ∀ b, Y b → w.heap.size ≤ b := fun b hb => by
    rcases k5 b hb with h | h
    · exact h11 b h
    · exact Nat.le_trans h1.base.size h
  have ht : Tn Y w' ((w'.setCell ⟨bm, 0, none⟩ (.int .i64 r)).setCell ⟨bm, 1, none⟩ (.slice p' S'.length c')) := ⟨rfl, rfl, rfl, by simp, fun k hk1 hne => hk k (fun h => hne (by rw [h]; exact k4 _ h6))⟩
  refine ⟨S', p', c', rfl, hl', ⟨(rc_gb g9).1, (rc_gb g9).2, gb_frozen g9 0, gb_frozen g9 1⟩, k1.base, Y, k1.turn ht hY, k2.kx (fun hS a ha => rde_off k2 g9 hS a ha) hk, r3.kx (fun hS a ha => rde_off r3 g9 hS a ha) hk, k3, fun hT a ha => k4 _ (h5 hT a ha), k4 _ h6, k4 _ h7, h8, gb_set2 g9 rfl, g10.kx (X := fun b => b ≠ bm) (Ne.symm h8) hk, hY⟩
end
end Go.Proofs.Ytjefciioaebbeaa
