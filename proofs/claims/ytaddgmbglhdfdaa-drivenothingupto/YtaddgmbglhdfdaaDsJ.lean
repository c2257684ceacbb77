/-
  Cut of a drive.
-/
import Derived.Test.YtaddgmbglhdfdaaDsI
namespace Go.Proofs.Ytaddgmbglhdfdaa
open Go.RowKit Go.Maps Go.Sort
/-- A file's first bytes are left. -/
def Ds.cut (σ : Ds) (x : Tx) (n : Int) : Nat × Ds := match σ.harm x n with
  | .inl e => (e, σ)
  | .inr i => (0, { (σ.setBody i ⟨(σ.body i).data.take n.toNat, min (σ.body i).safe (min n.toNat (σ.body i).data.length)⟩) with used := σ.used - (((σ.body i).data.length : Int) - (min n.toNat (σ.body i).data.length : Nat)) })
theorem ob_take {w : World} {base : Nat} {p : Option Addr} {n c : Nat} {d : Tx} (h : Ob w base (.slice p n c) d) (k : Nat) (hk : k ≤ n) : Ob w base (.slice p k c) (d.take k) := by
  have hl : d.length = n := by
    rcases h.2 with ⟨hv, h1⟩ | ⟨g, cap, cur, hv, _⟩
    · injection hv with _ e; omega
    · injection hv with _ e; omega
  have hkl : (d.take k).length = k := by rw [List.length_take]; omega
  refine ⟨by simp, ?_⟩
  rw [hkl]
  rcases h.2 with ⟨hv, h1⟩ | ⟨g, cap, cur, hv, h1, h2, h3, h4, h5, h6⟩
  · injection hv with e1 e2 e3
    subst e1 e2 e3
    have : k = 0 := by omega
    subst this
    exact .inl ⟨rfl, rfl⟩
  · injection hv with e1 e2 e3
    subst e1 e3
    refine .inr ⟨g, c, cur, rfl, h1, h2, by omega, h4, h5, ?_⟩
    rw [List.map_take, ← h6, List.take_take, Nat.min_eq_left (by omega)]
    simp
theorem cut_end {w1 : World} {db i : Nat} {F : Nat → Prop} {σ : Ds} {m : List Nat} {rv : Nat → Value} {st sf : Option Nat} {pv : Value} (S : StAt w1 db σ.room σ.used st sf pv) (R : Rest w1 F σ m rv st sf pv) (hFd : F db) (hFw : ∀ b, F b → b < w1.heap.size) (hi : i < σ.bs.length) {p : Option Addr} {c : Nat} (hv : rv i = .slice p (σ.body i).data.length c) (k s' : Nat) (hk : k ≤ (σ.body i).data.length) (u' : Int) (w' : World)
    (hw : w' = ((w1.setCell ⟨db, 1, none⟩ (.int .i64 u')).setCell ⟨m.getD i 0, 0, none⟩ (.slice p k c)).setCell ⟨m.getD i 0, 1, none⟩ (.int .i64 (s' : Int))) : DrAt w' db { (σ.setBody i ⟨(σ.body i).data.take k, s'⟩) with used := u' } F ∧ Tn F w1 w' := by
  have B := R.bod i hi
  have hnd : db ≠ m.getD i 0 := fun e => by
    have h1 : w1.heap[db]? = _ := S
    rw [e, B.blk] at h1
    injection h1 with h1
    revert h1
    exact cells_ne (by decide)
  have T : Tn F w1 w' := by
    rw [hw]
    exact (Tn.setCell w1 ⟨db, 1, none⟩ hFd _).trans ((Tn.setCell _ ⟨m.getD i 0, 0, none⟩ B.inF _).trans (Tn.setCell _ ⟨m.getD i 0, 1, none⟩ B.inF _))
  have oth : ∀ b, b ≠ db → b ≠ m.getD i 0 → w'.heap[b]? = w1.heap[b]? := fun b h1 h2 => by
    rw [hw, Below.heap_setCell _ _ _ _ h2, Below.heap_setCell _ _ _ _ h2, Below.heap_setCell _ _ _ _ h1]
  have hs' : w'.heap.size = w1.heap.size := by rw [hw]; simp [World.setCell]
  refine ⟨⟨hFd, fun b hb => by have := hFw b hb; omega, m, (fun j => if j = i then .slice p k c else rv j), st, sf, pv, ?_, ?_⟩, T⟩
  · have := S.set1 u'
    unfold StAt at this ⊢
    rw [hw, Below.heap_setCell _ _ _ _ hnd, Below.heap_setCell _ _ _ _ hnd]
    exact this
  · have hrow : Ob w1 0 (.slice p k c) ((σ.body i).data.take k) := ob_take (by have := B.row; rw [hv] at this; exact this) k hk
    refine R.setBody (w' := w') (G := F) hFw (fun b hb => hb) i hi ⟨(σ.body i).data.take k, s'⟩ (.slice p k c) ?_ ?_ ?_ (.inl ?_) u'
    · intro bl o hF ho n1 n2 n3
      exact oth bl (fun e => by
        have h9 : w1.heap[db]? = _ := S
        rw [← e, ho] at h9
        injection h9 with h9
        exact n3 _ _ h9) n1
    · have h1 := (Below.heap_setCell w1 ⟨db, 1, none⟩ (.int .i64 u') (m.getD i 0) (fun e => hnd e.symm)).trans B.blk
      rw [hw, heap_setCell_same _ _ 1 _ _ _ (heap_setCell_same _ _ 0 _ _ _ h1)]
      rfl
    · refine ob_same hrow (fun g hg => oth g (fun e => ?_) (fun e => ?_))
      · exact row_typed hrow S (fun c r => cells_ne (by decide)) (by rw [hg, e])
      · exact row_typed hrow B.blk (fun c r => cells_ne (by decide)) (by rw [hg, e])
    · rw [hv]
      cases p <;> rfl
section
attribute [local irreducible] Calls
set_option maxHeartbeats 4000000 in
set_option maxRecDepth 1000000 in
theorem cut_any {w : World} {db : Nat} {σ : Ds} {F : Nat → Prop} (h : DrAt w db σ F) (x : Tx) (hx : x.length ≤ 9223372036854775807) (n : Int) (hu : -1152921504606846976 ≤ σ.used ∧ σ.used ≤ 1152921504606846976) (hm : ∀ i, (σ.body i).data.length ≤ 140737488355328) : Calls Try.prog 52 #[.pointer (some ⟨db, 0, none⟩), encStr x, .int .i64 n] w fun e w' => e = .returned (.int .i64 (σ.cut x n).1) ∧ DrAt w' db (σ.cut x n).2 F ∧ Tn F w w' := by
  have h0 := (show Hid (DrAt w db σ F) from h)
  obtain ⟨hFd, hFw, m, rv, st, sf, pv, S, R⟩ := h
  have hF := (show Hid _ from harmed_any S R hFw x hx n)
  unfold Ds.cut
  cases hf : σ.harm x n with
  | inl e9 =>
    dsimp only
    rw [hf] at hF
    unfold fndv at hF
    have he := harm_inl hf
    have g1 : ((e9 : Int) != 0) = true := by
      rcases he with rfl | rfl | rfl <;> rfl
    have g2 : ¬ (e9 : Int) = 0 := by rcases he with rfl | rfl | rfl <;> decide
    clear S R he hf hFw hFd
    go_enter Try.func52, Try.ntmps52
    go_wp2_with (go_at_call 70; refine hF.out.mono ?_; rintro e w1 ⟨rfl, hb⟩)
    go_ret
    exact ⟨rfl, h0.out.below hb, Tn.of_below hb⟩
  | inr i =>
    dsimp only
    obtain ⟨_, hn0, hfi⟩ := harm_inr hf
    have hi := R.found hfi
    rw [hf] at hF
    unfold fndv ptv pta at hF
    simp only at hF
    obtain ⟨p, c, hv⟩ := (R.bod i hi).row.len
    have hcap : (σ.body i).data.length ≤ c := by
      rcases (R.bod i hi).row.2 with ⟨e, h1⟩ | ⟨g, cap, cur, e, _, _, h1, _⟩
      · rw [hv] at e; injection e with _ _ e; omega
      · rw [hv] at e; injection e with _ _ e; omega
    have h2 := hm i
    have CE := (show Hid (∀ w1 w' k s' u', Below w.heap.size w w1 → k ≤ (σ.body i).data.length → _) from fun w1 w' k s' u' (hb : Below w.heap.size w w1) hk hw => cut_end (w' := w') (S.below hb) (R.below hb) hFd (fun b hF => Nat.lt_of_lt_of_le (hFw b hF) hb.size) hi hv k s' hk u' hw)
    have KB := (show Hid (∀ w1, Below w.heap.size w w1 → (w1.cell? ⟨m.getD i 0, 0, none⟩ = some (.slice p (σ.body i).data.length c) ∧ w1.cell? ⟨m.getD i 0, 1, none⟩ = some (.int .i64 ((σ.body i).safe : Int)) ∧ w1.cell? ⟨db, 1, none⟩ = some (.int .i64 σ.used) ∧ w1.frozen? ⟨db, 1, none⟩ = false ∧ (∀ j, w1.frozen? ⟨m.getD i 0, j, none⟩ = false))) from fun w1 (hb : Below w.heap.size w w1) => by
      have hB := ((R.below hb).bod i hi)
      have := hB.cells
      rw [hv] at this
      have hS : StAt w1 db _ _ _ _ _ := S.below hb
      exact ⟨this.1, this.2, hS.cell.2.1, frozen_of_row w1 db 1 _ _ hS, fun j => frozen_of_row w1 _ j _ _ hB.blk⟩)
    have hnd : db ≠ m.getD i 0 := fun e => by
      have h1 : w.heap[db]? = _ := S
      rw [e, (R.bod i hi).blk] at h1
      injection h1 with h1
      revert h1
      exact cells_ne (by decide)
    have hnd2 : m.getD i 0 ≠ db := fun e => hnd e.symm
    obtain ⟨k, hk⟩ : ∃ k : Nat, k = min n.toNat (σ.body i).data.length := ⟨_, rfl⟩
    have htk : (σ.body i).data.take n.toNat = (σ.body i).data.take k := by
      rw [hk, Nat.min_def]
      split
      · rfl
      · rw [List.take_of_length_le (by omega), List.take_of_length_le (Nat.le_refl _)]
    rw [htk, ← hk]
    have hkn : (k : Int) = min n ((σ.body i).data.length : Int) := by omega
    have hkL : k ≤ (σ.body i).data.length := by omega
    clear hFd hFw hi hv hf htk hk S R hfi
    generalize m.getD i 0 = q at *
    have HL := (show Hid _ from hkn)
    generalize (σ.body i).data.length = L at *
    generalize (σ.body i).safe = sa at *
    generalize (σ.body i).data = dd at *
    generalize σ.used = us at *
    go_enter Try.func52, Try.ntmps52
    go_wp2_with (go_at_call 70; refine hF.out.mono ?_; rintro e w1 ⟨rfl, hb⟩; obtain ⟨k0, k1, k2, k3, k4⟩ := KB.out w1 hb; have HB := (show Hid _ from hb); clear hb)
    rw [← hkn]
    clear hkn
    go_region
    have hkc : (k : Int) ≤ (c : Int) := by omega
    have hk0 : (0 : Int) ≤ (k : Int) := by omega
    go_wp2
    go_ret
    refine ⟨rfl, ?_⟩
    have h9 := CE.out w1.drew _ k (min sa k) (us - ((L : Int) - (k : Int))) (bt HB.out ⟨rfl, rfl, rfl, Nat.le_refl _, fun _ _ => rfl⟩) hkL rfl
    rw [show (((min sa k : Nat) : Int)) = min (sa : Int) (k : Int) by omega] at h9
    have h8 : Tn F w w1.drew := Tn.of_below (bt HB.out ⟨rfl, rfl, rfl, Nat.le_refl _, fun _ _ => rfl⟩)
    exact ⟨h9.1, h8.trans h9.2⟩
end
end Go.Proofs.Ytaddgmbglhdfdaa
