/-
  The document's caches: without, sum, Keys, Weight.
-/
import Derived.Test.YtjefciioaebbeaaOw28
import Derived.Deep.LoopGhost
namespace Go.Proofs.Ytjefciioaebbeaa
open Go.RowKit
theorem loadVar_en {w : World} {b o : Nat} {x : SS.Ent} (h1 : w.cell? ⟨b, o, none⟩ = some (encStr x.key)) (h2 : w.cell? ⟨b, o + 1, none⟩ = some (encStr x.val)) (h3 : w.cell? ⟨b, o + 2, none⟩ = some (.int .i64 x.wt)) : (loadVar 75 ⟨b, o, none⟩).run Try.prog w = .ok (.agg #[encStr x.key, encStr x.val, .int .i64 x.wt]) w := by
  refine run_loadVar_at w b o 75 _ _ (fun j v hv => ?_) Try.underlying75 rfl (by kernel_rfl)
  match j, hv with
  | 0, hv => simp at hv; subst hv; exact h1
  | 1, hv => simp at hv; subst hv; exact h2
  | 2, hv => simp at hv; subst hv; exact h3
theorem drp_snoc (x : Tx) (S : List SS.Ent) (k : Nat) (e : SS.Ent) (he : S[k]? = some e) : drp txq x (S.take (k + 1)) = drp txq x (S.take k) ++ (if txq x e.key = true then [] else [e]) := by
  rw [List.take_add_one, he]
  unfold drp
  rw [List.filter_append]
  congr 1
  by_cases h : txq x e.key = true
  · simp [h]
  · simp [h]
theorem wrap_e {n k : Nat} (h : n * 40 ≤ 140737488355288) (hk : k < n) : wrap64 ((k : Int) + 1) = ((k + 1 : Nat) : Int) := by unfold wrap64; omega
section
attribute [local irreducible] Calls
set_option maxHeartbeats 1000000 in
set_option maxRecDepth 1000000 in
theorem without_any {w : World} {p : Option Addr} {S : List SS.Ent} (c : Nat) (h : RdE w p S) (hl : S.length * 40 ≤ 140737488355288) (x : Tx) :
    Calls Try.prog 39 #[.slice p S.length c, encStr x] w fun e w' => ∃ v, e = .returned v ∧ Le w' w.heap.size v (drp txq x S) ∧ Below w.heap.size w w' := by
  have HR := (show Hid (RdE w p S) from h)
  obtain ⟨n, hn⟩ : ∃ n, n = S.length := ⟨_, rfl⟩
  rw [← hn] at hl ⊢
  have HN := (show Hid (n = S.length ∧ n * 40 ≤ 140737488355288) from ⟨hn, hl⟩)
  clear h hn hl
  go_enter Try.func39, Try.ntmps39
  go_wp2
  go_loopg [5, 6] n (fun q v i wr => ∃ k : Nat, k ≤ n ∧ q = n - k ∧ i = .int .i64 k ∧ Hid (Le wr w.heap.size v (drp txq x (S.take k))) ∧ Hid (Below w.heap.size w wr))
  case atStart => exact ⟨0, Nat.zero_le _, rfl, rfl, World.ownsRow_nil _ _ _ _, Below.refl _ _⟩
  case round =>
    obtain ⟨k, hk, hq, rfl, hL, hW⟩ := hrel
    have HK := (show Hid (gk = n - k) from hq)
    clear hq
    by_cases hlt : k < n
    · have hi : (k : Int) < (n : Int) := by omega
      obtain ⟨e, he⟩ : ∃ e, S[k]? = some e := ⟨S[k]'(by rw [← HN.out.1]; exact hlt), List.getElem?_eq_getElem _⟩
      rcases HR.out with hR | ⟨b, o, rfl, hR⟩
      · have := HN.out.1; rw [hR] at this; simp at this; omega
      obtain ⟨c0, c1, c2⟩ := hR k e he
      rw [← hW.out.cell (block_lt_of_cell c0)] at c0
      rw [← hW.out.cell (block_lt_of_cell c1)] at c1
      rw [← hW.out.cell (block_lt_of_cell c2)] at c2
      have hld := loadVar_en c0 c1 c2
      have hsn := drp_snoc x S k e he
      have hlen : (drp txq x (S.take k)).length ≤ k := Nat.le_trans (List.length_filter_le _ _) (by rw [List.length_take]; omega)
      by_cases hxe : e.key = x
      · rw [if_pos (by rw [hxe]; simp [txq]), List.append_nil] at hsn
        have HS := (show Hid (drp txq x (S.take (k + 1)) = drp txq x (S.take k)) from hsn)
        rw [hxe] at c0
        clear hsn hld hxe hlen he hR
        go_wp2
        go_roundg (n - (k + 1))
        case measure => have := HK.out; omega
        case rel => exact ⟨k + 1, by omega, rfl, by first | go_num | rw [wrap_e HN.out.2 hlt], by rw [HS.out]; exact hL.out, hW.out⟩
      · rw [if_neg (fun h => hxe (txq_iff.1 h).symm)] at hsn
        have q2 : (e.key == x) = false := by simpa using hxe
        have HS := (show Hid (drp txq x (S.take (k + 1)) = drp txq x (S.take k) ++ [e]) from hsn)
        have HD := (show Hid _ from hld)
        obtain ⟨D, hD⟩ : ∃ D, D = drp txq x (S.take k) := ⟨_, rfl⟩
        rw [← hD] at hL hlen
        have HDD := (show Hid (D = drp txq x (S.take k)) from hD)
        have HO : Hid (wr.ownsRow w.heap.size 75 3 u5 D.length (flE D)) := hL.out
        have HB : Hid (D.length + 1 ≤ maxLen ∧ (D.length + 1) * 40 ≤ 140737488355328 ∧ w.heap.size ≤ wr.heap.size) := ⟨by have := HN.out.2; unfold maxLen; omega, by have := HN.out.2; omega, hW.out.size⟩
        have STEP : Hid (∀ (v2 : Value) (w2 : World), w2.ownsRow w.heap.size 75 3 v2 (D.length + 1) (flE D ++ [encStr e.key, encStr e.val, .int .i64 e.wt]) → (wr.alloc (.cells #[encStr e.key, encStr e.val, .int .i64 e.wt] 75)).grownBy w2 u5.ownBlock → Hid (Le w2 w.heap.size v2 (drp txq x (S.take (k + 1))) ∧ Below w.heap.size w w2)) := by
          intro v2 w2 h1 h2
          refine ⟨?_, own_grown (HO.out.alloc _) (hW.out.alloc HB.out.2.2 _) (by have := HB.out.2.2; simp; omega) h2 (Nat.le_refl _)⟩
          rw [HS.out, ← HDD.out]
          unfold Le
          rw [flE_app, flE_one, List.length_append]
          exact h1
        clear hsn hld he hR hD hlen
        go_wp2_with (first
          | (refine wpList_ldAt rfl 75 _ rfl b (o + k * 3) rfl #[encStr e.key, encStr e.val, .int .i64 e.wt] HD.out ?_)
          | (at_builtin; refine wpList_apR rfl _ _ 26 75 rfl Try.underlying26 info_en rfl (by decide) w.heap.size _ D.length _ rfl (HO.out.alloc _) (some ⟨wr.heap.size, 0, none⟩) 1 1 [encStr e.key, encStr e.val, .int .i64 e.wt] rfl (three_new _ _ _ _ _) rfl (by intro u hu; simp at hu; rcases hu with rfl | rfl | rfl <;> rfl) HB.out.1 HB.out.2.1 (by have := HB.out.2.2; simp; omega) ?_; intro v2 w2 hown2 hg2; have HF := STEP.out v2 w2 hown2 hg2; clear hown2 hg2))
        go_roundg (n - (k + 1))
        case measure => have := HK.out; omega
        case rel => exact ⟨k + 1, by omega, rfl, by first | go_num | rw [wrap_e HN.out.2 hlt], HF.out.1, HF.out.2⟩
    · obtain rfl : k = n := by omega
      have hi : ¬ (k : Int) < (k : Int) := by omega
      go_wp2
      go_ret
      refine ⟨_, rfl, ?_, hW.out⟩
      have h1 := hL.out
      rw [show S.take k = S from List.take_of_length_le (by rw [HN.out.1]; exact Nat.le_refl _)] at h1
      exact h1
set_option maxHeartbeats 1000000 in
set_option maxRecDepth 1000000 in
theorem rsum_any {w : World} {p : Option Addr} {S : List SS.Ent} (c : Nat) (h : RdE w p S) (hl : S.length * 40 ≤ 140737488355288) (hp : ∀ e ∈ S, 0 ≤ e.wt) (hs : wsum S ≤ 4611686018427387904) :
    Calls Try.prog 37 #[.slice p S.length c] w fun e w' => e = .returned (.int .i64 (wsum S)) ∧ w' = w := by
  have HR := (show Hid (RdE w p S) from h)
  obtain ⟨n, hn⟩ : ∃ n, n = S.length := ⟨_, rfl⟩
  rw [← hn] at hl ⊢
  obtain ⟨tot, ht⟩ : ∃ tot, tot = wsum S := ⟨_, rfl⟩
  rw [← ht]
  have HN := (show Hid (n = S.length ∧ n * 40 ≤ 140737488355288 ∧ tot = wsum S ∧ wsum S ≤ 4611686018427387904 ∧ ∀ e ∈ S, 0 ≤ e.wt) from ⟨hn, hl, ht, hs, hp⟩)
  clear h hn hl ht hs hp
  go_enter Try.func37, Try.ntmps37
  go_wp2
  go_loopg [3, 4] n (fun q s i wr => ∃ (k : Nat) (z : Int), k ≤ n ∧ q = n - k ∧ i = .int .i64 k ∧ s = .int .i64 z ∧ Hid (z = wsum (S.take k)) ∧ Hid (wr = w))
  case atStart => exact ⟨0, 0, Nat.zero_le _, rfl, rfl, rfl, by show (0 : Int) = _; simp [wsum], rfl⟩
  case round =>
    obtain ⟨k, z, hk, hq, rfl, rfl, hz, hW⟩ := hrel
    have HK := (show Hid (gk = n - k) from hq)
    clear hq
    obtain rfl := hW.out.symm
    clear hW
    by_cases hlt : k < n
    · have hi : (k : Int) < (n : Int) := by omega
      obtain ⟨e, he⟩ : ∃ e, S[k]? = some e := ⟨S[k]'(by rw [← HN.out.1]; exact hlt), List.getElem?_eq_getElem _⟩
      rcases HR.out with hR | ⟨b, o, rfl, hR⟩
      · have := HN.out.1; rw [hR] at this; simp at this; omega
      obtain ⟨c0, c1, c2⟩ := hR k e he
      obtain ⟨z', hz'⟩ : ∃ z', z' = wsum (S.take (k + 1)) := ⟨_, rfl⟩
      have hwr : wrap64 (z + e.wt) = z' := by
        obtain ⟨_, _, _, h4, h5⟩ := HN.out
        have h1 : S.take (k + 1) = S.take k ++ [e] := by rw [List.take_add_one, he]; rfl
        have h2 := wsum_sub h5 (List.take_sublist (k + 1) S)
        have h3 := wsum_nonneg (fun y hy => h5 y (List.take_subset (k + 1) S hy))
        have h6 := wsum_nonneg (fun y hy => h5 y (List.take_subset k S hy))
        have h7 := h5 e (List.mem_of_getElem? he)
        rw [h1, wsum_app, wsum_cons, wsum_nil] at h2 h3
        rw [hz', h1, wsum_app, wsum_cons, wsum_nil, hz.out]
        unfold wrap64
        omega
      have HZ := (show Hid (z' = wsum (S.take (k + 1))) from hz')
      clear he hR hz'
      go_wp2
      go_roundg (n - (k + 1))
      case measure => have := HK.out; omega
      case rel => exact ⟨k + 1, z', by omega, rfl, by first | go_num | rw [wrap_e HN.out.2.1 hlt], by first | rfl | rw [hwr], HZ.out, rfl⟩
    · obtain rfl : k = n := by omega
      have hi : ¬ (k : Int) < (k : Int) := by omega
      obtain rfl : z = tot := by
        have h1 := hz.out
        rw [show S.take k = S from List.take_of_length_le (by rw [HN.out.1]; exact Nat.le_refl _)] at h1
        rw [h1, HN.out.2.2.1]
      go_wp2
      go_ret
      exact ⟨rfl, rfl⟩
end
end Go.Proofs.Ytjefciioaebbeaa
