/-
  The laws' 'back' of texts.
-/
import Derived.Test.YtmcbeikgdcgdcaaTb
import Derived.Test.YtmcbeikgdcgdcaaTc
namespace Go.Proofs.Ytmcbeikgdcgdcaa
open Go.RowKit
theorem tl_cnt (ts : List (List (BitVec 8))) : ts.length ≤ (tl ts).length := by
  induction ts with
  | nil => simp
  | cons t ts ih =>
    unfold tl at *
    rw [List.flatMap_cons, List.length_append, List.length_cons]
    have : 1 ≤ (bl t).length := by unfold bl; rw [List.length_append]; have := sb_pos 9 t.length; omega
    omega
theorem texts_len (f : Int) (l : List (BitVec 8)) (a b : Int) (m k : Nat) : (res [] f l (ge0 a (ge0 b (tx m k l)))).1.length ≤ l.length := by
  unfold res
  by_cases e : f = 0
  · rw [if_pos e]
    cases hR : ge0 a (ge0 b (tx m k l)) with
    | error c => exact Nat.zero_le _
    | ok al =>
      obtain ⟨xs, l'⟩ := al
      have h1 := tx_app (ge0_inv (ge0_inv hR))
      have h2 := congrArg List.length h1
      rw [List.length_append, List.length_append] at h2
      have h3 := tl_cnt xs
      show xs.length ≤ l.length
      omega
  · rw [if_neg e]; exact Nat.zero_le _
section
attribute [local irreducible] Calls el sb lb bstr
set_option maxHeartbeats 16000000 in
set_option maxRecDepth 1000000 in
theorem back8 {w : World} {r : Nat} {l : List (BitVec 8)} {f : Int} (h : Rdr w r l f) (hl : l.length ≤ 1099511627000) (kk : Int) (hk : kk % 9 = 8) (U : Nat) (S : Int) (B : List (BitVec 8)) (T : List (List (BitVec 8))) (pB pT : Option Addr) (cB cT : Nat) (hT : Rs' w pT T) (hlT : tz T ≤ 40000000000000) :
    Calls Try.prog 39 #[.pointer (some ⟨r, 0, none⟩), .agg #[.int .i64 kk, .int .u64 (U : Int), .int .i64 S, .slice pB B.length cB, .slice pT T.length cT]] w fun e' w' => Backs w r (res [] f l (ge0 (T.length : Int) (ge0 (lgt T : Int) (tx (T.length : Int).toNat (lgt T : Int).toNat l)))) T e' w' := by
  have al : ∀ (W : World) (o : Obj), Below W.heap.size W (W.alloc o) := fun W o => (Below.refl _ _).alloc (Nat.le_refl _) o
  have PK := (show Hid _ from pick_any kk 9 (by omega) (by omega))
  rw [hk] at PK
  have hlt := h.lt
  have htl := tz_len T
  have hgl := lgt_le T
  obtain ⟨W, hWd⟩ : ∃ W, W = w.alloc (.cells #[.int .i64 kk, .int .u64 (U : Int), .int .i64 S, .slice pB B.length cB, .slice pT T.length cT] 80) := ⟨_, rfl⟩
  have hWb : Below w.heap.size w W := by rw [hWd]; exact al _ _
  have hWn : W.heap[w.heap.size]? = some (.cells #[.int .i64 kk, .int .u64 (U : Int), .int .i64 S, .slice pB B.length cB, .slice pT T.length cT] 80 (0, 0)) := by rw [hWd]; exact heap_alloc_new w _
  have hWs : W.heap.size = w.heap.size + 1 := by rw [hWd, alloc_size]
  have hR := h.below hWb
  have gq : ∀ X w1 : World, X.grownBy w1 (some r) → X.heap = W.heap → X.os = W.os → X.tape = W.tape → X.output = W.output → W.grownBy w1 (some r) := fun X w1 hg e1 e2 e3 e4 => ⟨hg.os.trans e2, hg.tape.trans e3, hg.output.trans e4, by have := hg.size; rwa [e1] at this, fun i hi hne => by have := hg.block i (by rw [e1]; exact hi) hne; rwa [e1] at this⟩
  obtain ⟨⟨u, l2, f2⟩, hx⟩ : ∃ x, res [] f l (ge0 (T.length : Int) (ge0 (lgt T : Int) (tx (T.length : Int).toNat (lgt T : Int).toNat l))) = x := ⟨_, rfl⟩
  rw [hx]
  have M := (show Hid (∀ X : World, X.heap = W.heap → Calls Try.prog 78 #[.pointer (some ⟨r, 0, none⟩), .int .i64 (T.length : Int), .int .i64 (lgt T : Int)] X fun e' w' => Says X r (fun ts W2 v => Ot W2 X.heap.size v ts) (u, l2, f2) e' w') from fun X e => hx ▸ mtx_any (hR.heap e) hl (T.length : Int) (lgt T : Int) (by omega) (by omega))
  have ul : Hid (u.length ≤ 140737488350000) := by
    have := texts_len f l (T.length : Int) (lgt T : Int) (T.length : Int).toNat (lgt T : Int).toNat
    rw [hx] at this
    exact (show u.length ≤ 140737488350000 by have h2 : u.length ≤ l.length := this; omega)
  clear hx
  have rT := hT.below hWb
  have LG := (show Hid (∀ X : World, X.heap = W.heap → Calls Try.prog 79 #[.slice pT T.length cT] X fun e w' => e = .returned (.int .i64 (lgt T : Int)) ∧ w' = X) from fun X e => longest_any (rT.heap e) T.length cT rfl hlT)
  have rTk : Hid (∀ w1 : World, W.grownBy w1 (some r) → Rs' w1 pT T) := by
    intro w1 hg
    rcases rT with h1 | ⟨b, of, ha, hc⟩
    · exact .inl h1
    · refine .inr ⟨b, of, ha, fun i hi => hg.cell (hc i hi) (fun e3 => ?_)⟩
      injection e3 with e3
      have e4 : b = r := e3
      obtain ⟨v, hv, hs, _⟩ := hR
      have hcc := hc i hi
      rw [e4, cell_of_row W r (of + i) _ _ (0, 0) hv] at hcc
      obtain ⟨q, hq⟩ : ∃ q, of + i = q := ⟨_, rfl⟩
      rw [hq] at hcc
      match q, hcc with
      | 0, hcc => simp at hcc; rcases hs with ⟨_, rfl⟩ | ⟨b', o', c', rfl, _⟩ <;> cases hcc
      | 1, hcc => simp at hcc
      | q + 2, hcc => simp at hcc
  have k1 : W.cell? ⟨w.heap.size, 4, none⟩ = some (.slice pT T.length cT) := cell_of_row W w.heap.size 4 _ _ (0, 0) hWn
  clear hT rT hgl htl
  go_enter Try.func39, Try.ntmps39
  go_wp2_with (first | (go_at_call 31; refine (PK.out _).mono ?_; rintro e2 w2 ⟨rfl, h9⟩; obtain rfl := h9.symm))
  rw [← hWd]
  clear hWd
  go_region_with (first
    | (go_at_call 79; refine Calls.mono (LG.out _ ?_) ?_; exact rfl; rintro e2 w2 ⟨rfl, h9⟩; obtain rfl := h9.symm)
    | (go_at_call 78; refine Calls.mono (M.out _ ?_) ?_; exact rfl; rintro e2 w1 ⟨hG1, hR1, v1, rfl, ho1⟩; obtain ⟨p1, c1, rfl, _, r1⟩ := ho1.rs; have hG2 := gq _ _ hG1 rfl rfl rfl rfl; have k2 := hG2.cell k1 (fun e3 => by injection e3 with e3; have e4 : w.heap.size = r := e3; omega))
    | (go_at_call 57; refine Calls.mono (sameT_any (Rs'.heap r1 ?_) (Rs'.heap (rTk.out w1 hG2) ?_) u.length c1 T.length cT rfl rfl ul.out) ?_; exact rfl; exact rfl; rintro e2 w5 ⟨rfl, hb5⟩))
  all_goals
    go_wp2
    go_ret
    exact ⟨grown_below (gtrans (grown_below (grefl w _) hWb) hG2) hb5, hR1.below hb5, rfl⟩
end
end Go.Proofs.Ytmcbeikgdcgdcaa
