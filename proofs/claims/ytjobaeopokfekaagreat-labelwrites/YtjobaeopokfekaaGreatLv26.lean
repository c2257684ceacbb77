/-
  The same drives.
-/
import Derived.Test.YtjobaeopokfekaaGreatKj26
namespace Go.Proofs.YtjobaeopokfekaaGreat
open Go.RowKit Go.Maps Go.Sort
/-- string(row) of a slice that reads as these bytes. -/
theorem conv_tv {w : World} {v : Value} {d : Tx} (h : Tv w v d) : (convert 22 9 v).run Tryz.prog w = .ok (encStr d) w := by
  rcases h with ⟨rfl, rfl⟩ | ⟨g, c, rfl, hc⟩
  · kernel_rfl
  · exact conv_at hc d.length c rfl
theorem own_cell2 {w : World} {base : Nat} {e : TypeId} {n : Nat} {v : Value} {xs : List Value} (h : w.ownsRow base e 2 v n xs) (i : Nat) (hi : i < n) : ∃ g c cur, v = .slice (some ⟨g, 0, none⟩) n c ∧ w.heap[g]? = some (.cells cur e (0, 0)) ∧ w.cell? ⟨g, i * 2, none⟩ = xs[i * 2]? ∧ w.cell? ⟨g, i * 2 + 1, none⟩ = xs[i * 2 + 1]? := by
  have hl := h.1
  rcases h.2 with ⟨hv, h1⟩ | ⟨g, cap, cur, hv, hg, hb, h1, h2, h3, h4⟩
  · omega
  · refine ⟨g, cap, cur, hv, hb, ?_, ?_⟩
    · rw [cell_of_row w g _ _ _ _ hb, ← h4, List.getElem?_take, if_pos (by omega), Array.getElem?_toList]
    · rw [cell_of_row w g _ _ _ _ hb, ← h4, List.getElem?_take, if_pos (by omega), Array.getElem?_toList]
/-- A file of a list in memory. -/
theorem FsAt.file {w : World} {base : Nat} {v : Value} {L : List (Tx × Tx)} (h : FsAt w base v L) (i : Nat) (hi : i < L.length) : ∃ g c pd nd cd, v = .slice (some ⟨g, 0, none⟩) L.length c ∧ w.cell? ⟨g, i * 2, none⟩ = some (encStr (L.getD i ([], [])).1) ∧ w.cell? ⟨g, i * 2 + 1, none⟩ = some (.slice pd nd cd) ∧ ∀ z, (convert 22 9 (.slice pd nd cd)).run Tryz.prog (w.drewN z) = .ok (encStr (L.getD i ([], [])).2) (w.drewN z) := by
  obtain ⟨dv, h1, h2, h3⟩ := h.ex
  obtain ⟨g, c, cur, e1, _, e2, e3⟩ := own_cell2 h2 i hi
  have hz : i < ((L.map (·.1)).zip dv).length := by simp [h1, hi]
  obtain ⟨f1, f2⟩ := flc_at _ i hz
  have hO := h3 i hi
  obtain ⟨p, c', hv⟩ := hO.len
  have e4 : ((L.map (·.1)).zip dv).getD i ([], undef) = ((L.getD i ([], [])).1, dv.getD i undef) := by
    have hd : i < dv.length := by omega
    rw [List.getD, List.getElem?_eq_getElem hz, List.getElem_zip]
    simp [hi, hd]
  rw [e4] at f1 f2
  refine ⟨g, c, p, (L.getD i ([], [])).2.length, c', e1, e2.trans f1, ?_, ?_⟩
  · rw [e3.trans f2, ← hv]
  · intro z; rw [← hv]; exact conv_tv (hO.tv.below ⟨rfl, rfl, rfl, Nat.le_refl _, fun _ _ => rfl⟩)
section
attribute [local irreducible] Calls
set_option maxHeartbeats 1000000 in
set_option maxRecDepth 1000000 in
theorem files_same {w : World} {b1 b2 : Nat} {u v : Value} {L : List (Tx × Tx)} (h1 : FsAt w b1 u L) (h2 : FsAt w b2 v L) (hL : L.length ≤ 1000000000) : Calls Tryz.prog 28 #[u, v] w fun e w' => e = .returned (.bool true) ∧ Below w.heap.size w w' := by
  obtain ⟨n, hn⟩ : ∃ n, n = L.length := ⟨_, rfl⟩
  obtain ⟨p1, c1, rfl⟩ : ∃ p c, u = .slice p n c := by rw [hn]; exact own_len h1.ex.choose_spec.2.1
  obtain ⟨p2, c2, rfl⟩ : ∃ p c, v = .slice p n c := by rw [hn]; exact own_len h2.ex.choose_spec.2.1
  have HH := (show Hid (_ ∧ _ ∧ _) from ⟨h1, h2, hn⟩)
  rw [← hn] at hL
  clear h1 h2 hn
  go_enter Tryz.func28, Tryz.ntmps28
  go_wp2
  go_loopw [5] (fun i wr => ∃ k : Nat, k ≤ n ∧ i = .int .i64 k ∧ Hid (Below w.heap.size w wr)) (fun i _ => n - (intOf i).toNat)
  case atStart => exact ⟨0, Nat.zero_le _, rfl, Below.refl _ _⟩
  case round =>
    obtain ⟨k, hk, rfl, hB⟩ := hrel
    by_cases hlt : k < n
    · have hi : (k : Int) < (n : Int) := by omega
      obtain ⟨h1, h2, hn⟩ := HH.out
      obtain ⟨g, cg, pd, nd, cd, e1, e2, e3, e4⟩ := (h1.below hB.out).file k (by omega)
      obtain ⟨g', cg', pd', nd', cd', e1', e2', e3', e4'⟩ := (h2.below hB.out).file k (by omega)
      injection e1 with e1 en ec
      injection e1' with e1' en' ec'
      subst e1 ec e1' ec'
      clear en en'
      generalize (L.getD k ([], [])).1 = x at *
      generalize (L.getD k ([], [])).2 = d at *
      have hxx : (x == x) = true := by simp
      have hdd : (d == d) = true := by simp
      clear h1 h2 hn
      go_wp2
      go_quiet (fail)
      go_wp2
      go_roundw
      case rel => exact ⟨k + 1, by omega, by go_num, hB.out.trans ⟨rfl, rfl, rfl, Nat.le_refl _, fun _ _ => rfl⟩⟩
      case measure => simp [intOf]; omega
    · obtain rfl : k = n := by omega
      have hi : ¬ (k : Int) < (k : Int) := by omega
      go_wp2
      go_ret
      exact ⟨rfl, hB.out⟩
set_option maxHeartbeats 2000000 in
set_option maxRecDepth 1000000 in
theorem level_same {w : World} {db tb k : Nat} {σ : Ds} {F G : Nat → Prop} (h1 : DrAt w db σ F) (h2 : DrAt w tb σ G) (ok : Okk k σ) (hk : k ≤ 134217728) : Calls Tryz.prog 14 #[.pointer (some ⟨db, 0, none⟩), .pointer (some ⟨tb, 0, none⟩)] w fun e w' => e = .returned (.bool true) ∧ Below w.heap.size w w' := by
  have hl1 : (tol σ (·.data) σ.st).length ≤ 1000000000 := by
    rw [tol_len, nms_len]
    obtain ⟨es, e, _⟩ := ok.ts
    have := ok.ss
    rw [e] at this ⊢
    simp [strKeys, Maps.size] at this ⊢
    omega
  have hl2 : (tol σ (fun b => b.data.take b.safe) σ.sf).length ≤ 1000000000 := by
    rw [tol_len, nms_len]
    obtain ⟨es, e, _⟩ := ok.tf
    have := ok.sp
    rw [e] at this ⊢
    simp [strKeys, Maps.size] at this ⊢
    omega
  have I1 := (show Hid (∀ W, Below w.heap.size w W → _) from fun W (hb : Below w.heap.size w W) => image_any (h1.below hb) ok hk)
  have I2 := (show Hid (∀ W, Below w.heap.size w W → _) from fun W (hb : Below w.heap.size w W) => image_any (h2.below hb) ok hk)
  have S1 := (show Hid (∀ W, Below w.heap.size w W → _) from fun W (hb : Below w.heap.size w W) => safe_any (h1.below hb) ok hk)
  have S2 := (show Hid (∀ W, Below w.heap.size w W → _) from fun W (hb : Below w.heap.size w W) => safe_any (h2.below hb) ok hk)
  have P1 := (show Hid (∀ W, Below w.heap.size w W → _) from fun W (hb : Below w.heap.size w W) => pending_any (h1.below hb))
  have P2 := (show Hid (∀ W, Below w.heap.size w W → _) from fun W (hb : Below w.heap.size w W) => pending_any (h2.below hb))
  have U1 := (show Hid (∀ W, Below w.heap.size w W → _) from fun W (hb : Below w.heap.size w W) => used_any (h1.below hb))
  have U2 := (show Hid (∀ W, Below w.heap.size w W → _) from fun W (hb : Below w.heap.size w W) => used_any (h2.below hb))
  have HL := (show Hid (_ ∧ _) from ⟨hl1, hl2⟩)
  have B0 := (show Hid (Below w.heap.size w w) from Below.refl _ _)
  clear h1 h2 ok hl1 hl2
  go_enter Tryz.func14, Tryz.ntmps14
  go_wp2_with (first
    | (go_at_call 29; refine (I1.out _ B0.out).mono ?_; rintro e w1 ⟨v1, rfl, f1, hb1⟩; have B1 := (show Hid _ from btD B0.out hb1); have F1 := (show Hid _ from f1); clear hb1 f1 I1 B0)
    | (go_at_call 29; refine (I2.out _ B1.out).mono ?_; rintro e w2 ⟨v2, rfl, f2, hb2⟩; have B2 := (show Hid _ from btD B1.out hb2); have F2 := (show Hid (_ ∧ _) from ⟨F1.out.below hb2, f2⟩); clear hb2 f2 I2 B1 F1)
    | (go_at_call 28; refine (files_same F2.out.1 F2.out.2 HL.out.1).mono ?_; rintro e w3 ⟨rfl, hb3⟩; have B3 := (show Hid _ from btD B2.out hb3); clear hb3 B2 F2)
    | (go_at_call 30; refine (S1.out _ B3.out).mono ?_; rintro e w4 ⟨v4, rfl, f4, hb4⟩; have B4 := (show Hid _ from btD B3.out hb4); have F4 := (show Hid _ from f4); clear hb4 f4 S1 B3)
    | (go_at_call 30; refine (S2.out _ B4.out).mono ?_; rintro e w5 ⟨v5, rfl, f5, hb5⟩; have B5 := (show Hid _ from btD B4.out hb5); have F5 := (show Hid (_ ∧ _) from ⟨F4.out.below hb5, f5⟩); clear hb5 f5 S2 B4 F4)
    | (go_at_call 28; refine (files_same F5.out.1 F5.out.2 HL.out.2).mono ?_; rintro e w6 ⟨rfl, hb6⟩; have B6 := (show Hid _ from btD B5.out hb6); clear hb6 B5 F5)
    | (go_at_call 31; refine (P1.out _ B6.out).mono ?_; rintro e w7 ⟨rfl, rfl⟩; clear P1)
    | (go_at_call 31; refine (P2.out _ B6.out).mono ?_; rintro e w7 ⟨rfl, rfl⟩; clear P2)
    | (go_at_call 32; refine (U1.out _ B6.out).mono ?_; rintro e w7 ⟨rfl, rfl⟩; clear U1)
    | (go_at_call 32; refine (U2.out _ B6.out).mono ?_; rintro e w7 ⟨rfl, rfl⟩; clear U2))
  go_ret
  exact ⟨rfl, B6.out⟩
end
end Go.Proofs.YtjobaeopokfekaaGreat
