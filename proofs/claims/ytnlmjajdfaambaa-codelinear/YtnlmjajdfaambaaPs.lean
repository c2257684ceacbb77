/-
  'plus': rows of the call's own that are written.
-/
import Derived.Test.YtnlmjajdfaambaaTu
namespace Go.Proofs.Ytnlmjajdfaambaa
open Go.RowKit
set_option maxRecDepth 100000 in
theorem wpList_clone_own {w : World} {ops : Array Oper} {rest : List Oper} {o : Oper} {a : Act} {Q : Exit → Act → World → Prop} (hgd : o.guard = none) (s x : Operand) (ho : o.op = .call { callee := .builtin .append, args := #[s, x], argTypes := #[37, 37] })
    (hs : a.eval s = .slice none 0 0) (b off n c : Nat) (f : Nat → BitVec 8) (hx : a.eval x = .slice (some ⟨b, off, none⟩) n c) (hc : ∀ j, j < n → w.cell? ⟨b, off + j, none⟩ = some (clE f j)) (hm : n ≤ 140737488355328)
    (h : ∀ v' w', w'.ownsRow w.heap.size 5 1 v' n (lv (clE f) n) → Below w.heap.size w w' → wpList Try.prog ops Q rest (a.put o.dst v') w') : wpList Try.prog ops Q (o :: rest) a w := by
  obtain ⟨i0, hi, hz0, hz1, hz2⟩ := info_parts info5
  have S : ∀ j u, (lv (clE f) n)[j]? = some u → w.cell? ((⟨b, off, none⟩ : Addr).add j) = some u := by
    intro j u hu
    have hjn : j < n := by
      rcases Nat.lt_or_ge j n with h | h
      · exact h
      · rw [List.getElem?_eq_none (by rw [lv_len]; exact h)] at hu; cases hu
    rw [lv_at _ n j hjn] at hu
    injection hu with hu
    rw [add_pl, hc j hjn]; exact congrArg some hu
  refine wpList_append_own _ hgd _ _ 37 ho w.heap.size 5 i0 (.int .u8 0) 1 1 Try.underlying37 hi hz0 hz1 hz2 rfl (by decide) (.slice none 0 0) 0 [] hs (World.ownsRow_nil _ _ _ _) ⟨b, off, none⟩ n c (lv (clE f) n) hx (by rw [lv_len, Nat.mul_one]) S (fun u hu => by unfold lv at hu; obtain ⟨i, _, rfl⟩ := List.mem_map.1 hu; rfl) (by unfold maxLen; omega) (by omega) (Nat.le_refl _) ?_
  intro v' w' ho' hg _
  rw [Nat.zero_add, List.nil_append] at ho'
  exact h v' w' ho' (below_append (t := 5) (base := w.heap.size) (k := 1) (n := 0) (xs := []) (Below.refl _ _) (Nat.le_refl _) hg (World.ownsRow_nil _ _ _ _) (Nat.le_refl _))
/-- Rows of bytes, each in a block of its own. -/
def Rw (w : World) (r n : Nat) (ρ : Nat → Nat) (M : Nat → Nat → BitVec 8) : Prop := ∀ i, i < r → ∃ (N : Nat) (h : Nat → Value), n ≤ N ∧ Ov w 5 (ρ i) h N ∧ ∀ j, j < n → h j = .int .u8 (el (M i j))
theorem Rw.below {w w' : World} {r n : Nat} {ρ : Nat → Nat} {M : Nat → Nat → BitVec 8} (h : Rw w r n ρ M) (hb : Below w.heap.size w w') : Rw w' r n ρ M := fun i hi => by
  obtain ⟨N, f, h1, h2, h3⟩ := h i hi
  exact ⟨N, f, h1, h2.below hb, h3⟩
theorem Rw.congr {w : World} {r n : Nat} {ρ : Nat → Nat} {M M' : Nat → Nat → BitVec 8} (h : Rw w r n ρ M) (e : ∀ i, i < r → ∀ j, j < n → M i j = M' i j) : Rw w r n ρ M' := fun i hi => by
  obtain ⟨N, f, h1, h2, h3⟩ := h i hi
  exact ⟨N, f, h1, h2, fun j hj => by rw [h3 j hj, e i hi j hj]⟩
theorem Rw.cell {w : World} {r n : Nat} {ρ : Nat → Nat} {M : Nat → Nat → BitVec 8} (h : Rw w r n ρ M) {i j : Nat} (hi : i < r) (hj : j < n) : w.cell? ⟨ρ i, j, none⟩ = some (.int .u8 (el (M i j))) := by
  obtain ⟨N, f, h1, h2, h3⟩ := h i hi
  rw [h2.cell (by omega), h3 j hj]
theorem Rw.frozen {w : World} {r n : Nat} {ρ : Nat → Nat} {M : Nat → Nat → BitVec 8} (h : Rw w r n ρ M) {i : Nat} (hi : i < r) (j : Nat) : w.frozen? ⟨ρ i, j, none⟩ = false := by
  obtain ⟨N, f, h1, h2, h3⟩ := h i hi
  exact h2.frozen j
theorem Rw.set {w W : World} {r n : Nat} {ρ : Nat → Nat} {M : Nat → Nat → BitVec 8} (h : Rw w r n ρ M) (inj : ∀ i, i < r → ∀ j, j < r → ρ i = ρ j → i = j) {t j : Nat} (ht : t < r) (hj : j < n) (x : BitVec 8) (e : W.heap = (w.setCell ⟨ρ t, j, none⟩ (.int .u8 (el x))).heap) : Rw W r n ρ (fun i c => if i = t ∧ c = j then x else M i c) := fun i hi => by
  obtain ⟨N, f, h1, h2, h3⟩ := h i hi
  by_cases e2 : i = t
  · subst e2
    refine ⟨N, _, h1, (h2.set (show j < N by omega) (.int .u8 (el x))).heap e, fun c hc => ?_⟩
    dsimp only
    by_cases e3 : c = j
    · rw [if_pos e3, if_pos ⟨rfl, e3⟩]
    · rw [if_neg e3, if_neg (fun h => e3 h.2)]; exact h3 c hc
  · refine ⟨N, f, h1, h2.other (p := ⟨ρ t, j, none⟩) (u := .int .u8 (el x)) (fun e3 => e2 (inj i hi t ht e3)) e, fun c hc => ?_⟩
    dsimp only
    rw [if_neg (fun h => e2 h.1)]; exact h3 c hc
theorem Rw.nm {w : World} {r n B c NB : Nat} {ρ κ : Nat → Nat} {M : Nat → Nat → BitVec 8} {F : Nat → Value} (h : Rw w r n ρ M) (hO : Ov w 37 B F NB) (hr : r ≤ NB) (hF : ∀ i, i < r → F i = .slice (some ⟨ρ i, 0, none⟩) n (κ i)) : NmE w (.slice (some ⟨B, 0, none⟩) r c) r (fun _ => n) M := by
  refine ⟨F, ⟨_, _, rfl, .inr ⟨_, _, rfl, fun i hi => by rw [Nat.zero_add]; exact hO.cell (by omega)⟩⟩, fun i hi => ?_⟩
  rw [hF i hi]
  exact ⟨_, _, rfl, .inr ⟨_, _, rfl, fun j hj => by rw [Nat.zero_add, h.cell hi hj]; rfl⟩⟩
section
attribute [local irreducible] Calls NmE NrE lv clE Rw Ov
set_option maxHeartbeats 8000000 in
set_option maxRecDepth 1000000 in
theorem copied_own (p : Option Addr) (r c n : Nat) (M : Nat → Nat → BitVec 8) (w : World) (hr : r ≤ 255) (hn0 : 0 < n) (hn : n ≤ 140737488355328) (H1 : Hid (NmE w (.slice p r c) r (fun _ => n) M)) :
    Calls Try.prog 20 #[.slice p r c] w fun e w' => ∃ (v : Value) (ρ κ : Nat → Nat), e = .returned v ∧ w'.ownsRow w.heap.size 37 1 v r (lv (fun i => .slice (some ⟨ρ i, 0, none⟩) n (κ i)) r) ∧ Rw w' r n ρ M ∧ (∀ i, i < r → w.heap.size ≤ ρ i ∧ ρ i < w'.heap.size) ∧ (∀ i, i < r → ∀ j, j < r → ρ i = ρ j → i = j) ∧ Below w.heap.size w w' := by
  obtain ⟨i0, hif, hz0, hz1, hz2⟩ := info_parts infoY
  go_enter Try.func20, Try.ntmps20
  go_wp2
  go_loopw [3, 4] (fun v i wr => ∃ (k : Nat) (ρ κ : Nat → Nat), k ≤ r ∧ i = .int .i64 k ∧ wr.ownsRow w.heap.size 37 1 v k (lv (fun i => .slice (some ⟨ρ i, 0, none⟩) n (κ i)) k) ∧ Hid (Rw wr k n ρ M) ∧ Hid (∀ i, i < k → w.heap.size ≤ ρ i ∧ ρ i < wr.heap.size) ∧ Hid (∀ i, i < k → ∀ j, j < k → ρ i = ρ j → i = j) ∧ Below w.heap.size w wr) (fun _ i _ => r - (intOf i).toNat)
  case atStart => exact ⟨0, fun _ => 0, fun _ => 0, Nat.zero_le _, rfl, lv_none _ _ _ _ _, (by unfold Rw; exact fun i hi => by omega), fun i hi => by omega, fun i hi => by omega, Below.refl _ _⟩
  case round =>
    obtain ⟨k, ρ, κ, hk, rfl, hown, hR, hP, hI, hb⟩ := hrel
    by_cases hlt : k < r
    · have j1 : (k : Int) < (r : Int) := by omega
      have M1 : Hid (k + 1 ≤ maxLen) := by show _ ≤ _; unfold maxLen; omega
      obtain ⟨b1, o1, rows1, ep, hc1, hn1⟩ := nm_at H1.out (by omega)
      subst ep
      obtain ⟨px, cx, ex, hxx⟩ := nr_un (NrE.below (hn1 k hlt) hb)
      obtain ⟨bx, ox, epx, hcx⟩ := hxx hn0
      subst epx
      have g1 : wr.cell? ⟨b1, o1 + k, none⟩ = some (.slice (some ⟨bx, ox, none⟩) n cx) := by rw [cell_below (hc1 k hlt) hb, ex]
      have HCX : Hid (∀ j, j < n → wr.cell? ⟨bx, ox + j, none⟩ = some (clE (M k) j)) := fun j hj => by rw [hcx j hj]; unfold clE; rfl
      clear hc1 hn1 hxx hcx ex
      go_wp2_with (first
        | (at_builtin; refine wpList_clone_own rfl _ _ rfl rfl bx ox n cx (M k) rfl HCX.out hn ?_; intro v1 w2 ho1 hb2; obtain ⟨g, cap, N, f, ev, hg, hN, hO, hf⟩ := owned_ov ho1 hn0; subst ev; have hown2 := owns_below hown hb2)
        | (at_builtin; refine wpList_append_own _ rfl _ _ 27 rfl w.heap.size 37 i0 (.slice none 0 0) 1 24 Try.underlying27 hif hz0 hz1 hz2 rfl (by decide) _ _ _ rfl (hown2.alloc _) ⟨_, 0, none⟩ 1 1 [.slice (some ⟨g, 0, none⟩) n cap] rfl rfl (one_new _ _ _) (one_cellv rfl) M1.out (by omega) (by have := hb.size; have := hb2.size; simp at *; omega) ?_; intro v' w3 hown' hgrow _))
      have hs1 := hb.size
      have hs2 := hb2.size
      have hs3 := hgrow.size
      have hglt := hO.lt
      have hb3 := below_append ((bt hb hb2).alloc (by omega) _) (by simp at *; omega) hgrow (hown2.alloc _) (Nat.le_refl _)
      rw [push_lv] at hown'
      have hal : Below w2.heap.size w2 (w2.alloc (.cells #[.slice (some ⟨g, 0, none⟩) n cap] 37)) := (Below.refl _ _).alloc (Nat.le_refl _) _
      have hO3 := Ov.grown (hO.below hal) (hown2.alloc _) hgrow (by decide)
      have hR3 : Hid (Rw w3 (k + 1) n (fun i => if i = k then g else ρ i) M) := by
        have h0 := hR.out
        unfold Rw at h0 ⊢
        intro i hi
        dsimp only
        by_cases e : i = k
        · subst e
          rw [if_pos rfl]
          exact ⟨N, f, hN, hO3, fun j hj => by rw [hf j hj]; unfold clE; rfl⟩
        · rw [if_neg e]
          obtain ⟨N', f', h1, h2, h3⟩ := h0 i (by omega)
          exact ⟨N', f', h1, Ov.grown ((h2.below hb2).below hal) (hown2.alloc _) hgrow (by decide), h3⟩
      have hsz3 : w2.heap.size < w3.heap.size := by simp at hs3; omega
      clear hgrow g1 hs3
      go_roundw
      case rel =>
        refine ⟨k + 1, fun i => if i = k then g else ρ i, fun i => if i = k then cap else κ i, by omega, by go_num, ?_, hR3, fun i hi => ?_, fun i hi j hj => ?_, hb3⟩
        · rw [lv_congr (f := fun i => if i = k then .slice (some ⟨g, 0, none⟩) n cap else .slice (some ⟨ρ i, 0, none⟩) n (κ i)) (g := fun i => .slice (some ⟨if i = k then g else ρ i, 0, none⟩) n (if i = k then cap else κ i)) (fun i _ => by by_cases e : i = k; simp only [if_pos e]; simp only [if_neg e])] at hown'
          exact hown'
        · show w.heap.size ≤ (if i = k then g else ρ i) ∧ (if i = k then g else ρ i) < w3.heap.size
          by_cases e : i = k
          · rw [if_pos e]; omega
          · rw [if_neg e]; have := hP.out i (by omega); omega
        · show (if i = k then g else ρ i) = (if j = k then g else ρ j) → i = j
          by_cases e : i = k
          · rw [if_pos e]
            by_cases e2 : j = k
            · intro _; omega
            · rw [if_neg e2]; have := hP.out j (by omega); intro; omega
          · rw [if_neg e]
            by_cases e2 : j = k
            · rw [if_pos e2]; have := hP.out i (by omega); intro; omega
            · rw [if_neg e2]; exact hI.out i (by omega) j (by omega)
      case measure => simp [intOf]; omega
    · obtain rfl : k = r := by omega
      go_wp2
      go_ret
      exact ⟨_, ρ, κ, rfl, hown, hR.out, hP.out, hI.out, hb⟩
end
end Go.Proofs.Ytnlmjajdfaambaa
