/-
  follow.
-/
import Derived.Test.YtaddgmbglhdfdaaDd
namespace Go.Proofs.Ytaddgmbglhdfdaa
open Go.RowKit Go.Maps
theorem ldc_len (m : List Nat) (c : List Ld) : (ldc m c).length = 2 * c.length := by
  unfold ldc
  induction c with
  | nil => rfl
  | cons l c ih => rw [List.flatMap_cons, List.length_append, ih]; simp; omega
theorem ldc_at (m : List Nat) (c : List Ld) (k : Nat) (hk : k < c.length) : (ldc m c)[2 * k]? = some (encStr (c.getD k ([], none)).1) ∧ (ldc m c)[2 * k + 1]? = some (ptv m (c.getD k ([], none)).2) := by
  unfold ldc
  induction c generalizing k with
  | nil => simp at hk
  | cons l c ih =>
    cases k with
    | zero => exact ⟨rfl, rfl⟩
    | succ k =>
      have := ih k (by simpa using hk)
      rw [List.flatMap_cons]
      refine ⟨?_, ?_⟩
      · rw [List.getElem?_append_right (by simp; omega)]
        simpa [Nat.mul_add] using this.1
      · rw [List.getElem?_append_right (by simp; omega)]
        have e : 2 * (k + 1) + 1 - [encStr l.1, ptv m l.2].length = 2 * k + 1 := by simp; omega
        rw [e]
        simpa using this.2
theorem ldc_cell {w : World} {m : List Nat} {c : List Ld} {g : Nat} {t : TypeId} {r : Nat × Nat} (h : w.heap[g]? = some (.cells (ldc m c).toArray t r)) {k : Nat} (hk : k < c.length) : w.cell? ⟨g, k * 2, none⟩ = some (encStr (c.getD k ([], none)).1) ∧ w.cell? ⟨g, k * 2 + 1, none⟩ = some (ptv m (c.getD k ([], none)).2) := by
  obtain ⟨h1, h2⟩ := ldc_at m c k hk
  rw [Nat.mul_comm k 2, cell_of_row w g _ _ _ _ h, cell_of_row w g _ _ _ _ h]
  exact ⟨by simpa using h1, by simpa using h2⟩
theorem fol_snoc (D : Dir) (c : List Ld) (l : Ld) : fol D (c ++ [l]) = fol1 (fol D c) l := by simp [fol, List.foldl_append]
theorem om_upto {w w' : World} {P : Program} {k : TypeId} {R : Value → Option (DataW Unit × List MemPlace)} {b n : Nat} {D : DataW Unit} (h : w.ownsMap P k R b n D) (hb : Below w.heap.size w w') : w'.ownsMap P k R b n D := om_same h (hb.block b h.lt)
section
attribute [local irreducible] Calls
set_option maxHeartbeats 4000000 in
set_option maxRecDepth 1000000 in
theorem follow_any {w : World} {m : List Nat} (hnd : m.Nodup) {s : Nat} {D : Dir} (hM : MpAt w m s D) (c : List Ld) (g cap : Nat) (hb : w.heap[g]? = some (.cells (ldc m c).toArray 97 (0, 0))) (ids : ∀ l ∈ c, ∀ i, l.2 = some i → i < m.length) (txt : ∀ l ∈ c, l.1.length ≤ 1024) (hsz : Maps.size D + c.length ≤ 1000000000000) :
    Calls Try.prog 46 #[.map (some s), .slice (some ⟨g, 0, none⟩) c.length cap] w fun e w' => (∃ v, e = .returned v) ∧ MpAt w' m s (fol D c) ∧ Tn (· = s) w w' := by
  obtain ⟨n, hN⟩ : ∃ n, n = c.length := ⟨_, rfl⟩
  rw [← hN]
  rw [← hN] at hsz
  have HN := (show Hid (n = c.length) from hN)
  have HB := (show Hid _ from hb)
  have HI := (show Hid _ from And.intro ids txt)
  have hgs : g ≠ s := by
    intro e
    subst e
    obtain ⟨es, clock, hh, _⟩ := hM
    rw [hb] at hh
    cases hh
  clear hN hb ids txt
  go_enter Try.func46, Try.ntmps46
  go_wp2
  go_loopw [8] (fun i wr => ∃ k : Nat, k ≤ n ∧ i = .int .i64 k ∧ Hid (wr.ownsMap Try.prog 9 (ptR m) s (Maps.size D + k) (fol D (c.take k))) ∧ Hid (Tn (· = s) w wr)) (fun i _ => n - (intOf i).toNat)
  case atStart => exact ⟨0, Nat.zero_le _, rfl, hM, Tn.refl _ _⟩
  case round =>
    obtain ⟨k, hk, rfl, hO, hT⟩ := hrel
    by_cases hlt : k < n
    · have hi : (k : Int) < (n : Int) := by omega
      have hkx : k < c.length := by rw [← HN.out]; exact hlt
      have hgw : wr.heap[g]? = some (.cells (ldc m c).toArray 97 (0, 0)) := (hT.out.block g (blt HB.out) hgs).trans HB.out
      obtain ⟨l, hl⟩ : ∃ l, l = c.getD k ([], none) := ⟨_, rfl⟩
      obtain ⟨g1, g2⟩ := ldc_cell hgw hkx
      rw [← hl] at g1 g2
      have hlm : l ∈ c := by rw [hl]; simp [hkx]
      have hsn := (show Hid (c.take (k + 1) = c.take k ++ [l]) from by
        show _ = _
        rw [List.take_add_one, hl]; simp [hkx])
      have hkey : keyOf Try.prog 9 (encStr l.1) = some (.string l.1) := key_enc (by have := HI.out.2 l hlm; unfold maxLen; omega)
      have hid := HI.out.1 l hlm
      obtain ⟨x, o⟩ := l
      clear hl hkx hgw hlm
      cases o with
      | none =>
        unfold ptv pta at g2
        go_wp2_with (at_delete; refine wpList_delete_own _ rfl _ _ 86 9 rfl 94 lawS Try.underlying86 (ptR m) s (Maps.size D + k) _ rfl (hO.out.alloc _) _ _ rfl hkey ?_; intro w1 hown1 hturn1)
        go_roundw
        case rel =>
          refine ⟨k + 1, by omega, by go_num, ?_, ?_⟩
          · show World.ownsMap _ _ _ _ _ _ _
            rw [hsn.out, fol_snoc]
            exact hown1.mono (by omega)
          · exact hT.out.trans ((Tn.of_below ((Below.refl _ wr).alloc (Nat.le_refl _) _)).trans (Tn.grown hturn1.grown (fun g hg => by cases hg; rfl)))
        case measure => simp [intOf]; omega
      | some i =>
        have hval := ptR_some hnd (hid i rfl)
        unfold ptv pta at g2 hval
        simp only at g2 hval
        generalize m.getD i 0 = q at g2 hval
        clear hid
        go_wp2_with (at_mapUpdate; refine wpList_mapUpdate_own _ rfl _ _ _ 86 rfl 9 94 lawS Try.underlying86 (ptR m) s (Maps.size D + k) _ rfl (hO.out.alloc _) (by unfold maxLen; omega) _ _ (.string x) rfl rfl hkey (ip i) [] hval ?_; intro w1 hown1 hg1)
        go_roundw
        case rel =>
          refine ⟨k + 1, by omega, by go_num, ?_, ?_⟩
          · show World.ownsMap _ _ _ _ _ _ _
            rw [hsn.out, fol_snoc]
            exact hown1
          · exact hT.out.trans ((Tn.of_below ((Below.refl _ wr).alloc (Nat.le_refl _) _)).trans (Tn.grown hg1 (fun g hg => by cases hg; rfl)))
        case measure => simp [intOf]; omega
    · obtain rfl : k = n := by omega
      have hi : ¬ (k : Int) < (k : Int) := by omega
      go_wp2
      go_end0
      refine ⟨⟨_, rfl⟩, ?_, hT.out⟩
      have := hO.out
      rw [HN.out, List.take_length] at this
      exact om_tight this
end
end Go.Proofs.Ytaddgmbglhdfdaa
