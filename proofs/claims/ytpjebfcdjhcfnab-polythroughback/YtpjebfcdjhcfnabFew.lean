/-
  Roots as a list; 'unlike', 'values'.
-/
import Derived.Test.YtpjebfcdjhcfnabAwake
import Derived.Test.YtpjebfcdjhcfnabPq
namespace Go.Proofs.Ytpjebfcdjhcfnab
open Go.RowKit

theorem sub_len : ∀ (a b : List (BitVec 8)), a.Nodup → (∀ x ∈ a, x ∈ b) → a.length ≤ b.length := by
  intro a
  induction a with
  | nil => intro b _ _; exact Nat.zero_le _
  | cons x a ih =>
    intro b hn hs
    have hx := hs x (by simp)
    have h1 := ih (b.erase x) (List.nodup_cons.1 hn).2 (fun y hy => (List.mem_erase_of_ne (a := y) (b := x) (fun (e : y = x) => (List.nodup_cons.1 hn).1 (by rw [← e]; exact hy))).2 (hs y (by simp [hy])))
    rw [List.length_erase_of_mem hx] at h1
    have := List.length_pos_of_mem hx
    simp only [List.length_cons]; omega
theorem rts_mem (xs : List (BitVec 8)) (x : BitVec 8) : x ∈ rts xs 256 ↔ ev x xs = 0#8 := by
  unfold rts
  rw [List.mem_filter, List.mem_map]
  constructor
  · rintro ⟨_, h⟩; simpa using h
  · intro h; exact ⟨⟨x.toNat, List.mem_range.2 x.isLt, by unfold nb; simp⟩, by simpa using h⟩
theorem nb_inj {i j : Nat} (hi : i < 256) (hj : j < 256) (h : nb i = nb j) : i = j := by
  have := congrArg BitVec.toNat h
  unfold nb at this
  rw [BitVec.toNat_ofNat, BitVec.toNat_ofNat] at this; omega
theorem rts_nodup (xs : List (BitVec 8)) : (rts xs 256).Nodup := by
  unfold rts
  refine (show (List.map nb (List.range 256)).Nodup from ?_).sublist List.filter_sublist
  rw [List.nodup_iff_pairwise_ne, List.pairwise_map]
  refine List.Pairwise.imp_of_mem ?_ (List.nodup_range (n := 256))
  intro a b ha hb hne e
  exact hne (nb_inj (List.mem_range.1 ha) (List.mem_range.1 hb) e)
theorem rts_pre (xs : List (BitVec 8)) (a b : Nat) : ∃ t, rts xs (a + b) = rts xs a ++ t := by
  unfold rts
  rw [List.range_add, List.map_append, List.filter_append]
  exact ⟨_, rfl⟩
theorem rts_at {xs : List (BitVec 8)} {i : Nat} (hi : i < 256) (h : ev (nb i) xs = 0#8) : (rts xs i).length < (rts xs 256).length ∧ co (rts xs 256) (rts xs i).length = nb i := by
  obtain ⟨t, ht⟩ := rts_pre xs (i + 1) (256 - (i + 1))
  rw [show i + 1 + (256 - (i + 1)) = 256 by omega, rts_in h] at ht
  rw [ht]
  constructor
  · simp only [List.length_append, List.length_singleton]; omega
  · unfold co; simp [List.getD_eq_getElem?_getD, List.append_assoc]
theorem rts_not {xs : List (BitVec 8)} {i k : Nat} (h : ev (nb i) xs ≠ 0#8) (hk : k < (rts xs 256).length) : co (rts xs 256) k ≠ nb i := fun e => by
  refine h ((rts_mem xs (nb i)).1 ?_)
  rw [← e]; unfold co
  rw [List.getD_eq_getElem?_getD, List.getElem?_eq_getElem hk]
  exact List.getElem_mem hk
theorem rts_all {xs : List (BitVec 8)} (h : trim xs = []) : (rts xs 256).length = 256 := by
  unfold rts
  rw [List.filter_eq_self.2 (fun a _ => by rw [ev_zero a (zero_of_trim h)]; rfl)]; simp
theorem rts_few {xs : List (BitVec 8)} (h : trim xs ≠ []) : (rts xs 256).length < (trim xs).length := by
  rcases Nat.lt_or_ge (rts xs 256).length (trim xs).length with h1 | h1
  · exact h1
  · exfalso
    have h2 := few (rts xs 256) (trim xs) h1 (rts_nodup xs) (fun x hx => by rw [ev_trim]; exact (rts_mem xs x).1 hx)
    exact h (by rw [← trim_trim]; exact trim_nil_of h2)
theorem rts_van {u : List (BitVec 8)} (h : u.Nodup) : (rts (van u) 256).length = u.length :=
  Nat.le_antisymm (sub_len _ _ (rts_nodup _) (fun x hx => (ev_van x u).1 ((rts_mem _ x).1 hx))) (sub_len _ _ h (fun x hx => (rts_mem _ x).2 ((ev_van x u).2 hx)))
/-- Each element once. -/
def onc (xs : List (BitVec 8)) : Nat → List (BitVec 8)
  | 0 => []
  | k + 1 => if co xs k ∈ xs.take k then onc xs k else onc xs k ++ [co xs k]
theorem onc_succ (xs : List (BitVec 8)) (k : Nat) : onc xs (k + 1) = if co xs k ∈ xs.take k then onc xs k else onc xs k ++ [co xs k] := rfl
theorem onc_mem {xs : List (BitVec 8)} {k : Nat} (hk : k ≤ xs.length) (a : BitVec 8) : a ∈ onc xs k ↔ a ∈ xs.take k := by
  induction k with
  | zero => simp [onc]
  | succ k ih =>
    rw [take_succ_co (by omega), List.mem_append, List.mem_singleton, ← ih (by omega)]
    rw [onc_succ]
    split
    · rename_i h
      constructor
      · exact .inl
      · rintro (h1 | h1)
        · exact h1
        · exact (ih (by omega)).2 (by rw [h1]; exact h)
    · rw [List.mem_append, List.mem_singleton]
theorem onc_nodup {xs : List (BitVec 8)} {k : Nat} (hk : k ≤ xs.length) : (onc xs k).Nodup := by
  induction k with
  | zero => simp [onc]
  | succ k ih =>
    rw [onc_succ]
    split
    · exact ih (by omega)
    · rename_i h
      rw [List.nodup_append]
      refine ⟨ih (by omega), by simp, fun a ha b hb => ?_⟩
      rw [List.mem_singleton] at hb
      rw [hb]; exact fun e => h ((onc_mem (by omega) _).1 (e ▸ ha))
theorem onc_len (xs : List (BitVec 8)) (k : Nat) : (onc xs k).length ≤ k := by
  induction k with
  | zero => simp [onc]
  | succ k ih => rw [onc_succ]; split; omega; simp; omega
theorem owns_other {t : TypeId} {B n : Nat} {w : World} {v : Value} {l : List Value} (h : w.ownsRow B t 1 v n l) {p : Addr} (hp : p.block < B) (u : Value) : (w.setCell p u).ownsRow B t 1 v n l := ownsRow_setCell_below h hp u
section
attribute [local irreducible] Calls el gm co OwnB met toN Rs onc vs
set_option maxHeartbeats 8000000 in
set_option maxRecDepth 1000000 in
theorem unlike_core (b o n c : Nat) (xs : List (BitVec 8)) (w : World) (hl : Hid (xs.length = n)) (hn : n ≤ 140737488351232)
    (H1 : Hid (∀ i, i < n → w.cell? ⟨b, o + i, none⟩ = some (.int .u8 (el (co xs i))))) :
    Calls Try.prog 23 #[.slice (some ⟨b, o, none⟩) n c] w fun e w' => ∃ v, e = .returned v ∧ Rs 28 (w.heap.size + 1) w' v (onc xs n) ∧ Below w.heap.size w w' := by
  obtain ⟨i0, hi, hz0, hz1, hz2⟩ := info_parts infoE
  have hz := zero256
  have he0 : onc xs 0 = [] := by unfold onc; rfl
  go_enter Try.func23, Try.ntmps23
  go_wp2
  clear hz
  go_loopw [3, 5] (fun v i wr => ∃ k : Nat, k ≤ n ∧ i = .int .i64 k ∧ OwnB wr 61 w.heap.size (met xs k) 256 ∧ Rs 28 (w.heap.size + 1) wr v (onc xs k) ∧ Below w.heap.size w wr) (fun _ i _ => n - (intOf i).toNat)
  case atStart => exact ⟨0, Nat.zero_le _, rfl, by have h3 := ownB_new w; unfold OwnB at *; rw [h3, rowB_congr (g := met xs 0) (fun i _ => by unfold met; simp)], by rw [he0]; exact Rs.nil _ _ _, (Below.refl _ _).alloc (Nat.le_refl _) _⟩
  case round =>
    clear he0
    obtain ⟨k, hk, rfl, hO, hR, hb⟩ := hrel
    by_cases hlt : k < n
    · have HK : Hid (k < xs.length) := by show _ < _; rw [hl.out]; exact hlt
      obtain ⟨t, ht⟩ : ∃ t, t = toN (co xs k) := ⟨_, rfl⟩
      have e1 : el (co xs k) = (t : Int) := by rw [ht]; exact el_toN _
      have ht2 : t < 256 := by rw [ht]; exact toN_lt _
      have g1 := cell_below (H1.out k hlt) hb
      rw [e1] at g1
      have g2 := hO.cell ht2
      have g3 := hO.frozen t
      have i1 : (k : Int) < (n : Int) := by omega
      have i2 : (t : Int) < 256 := by omega
      have HT : Hid (t = (co xs k).toNat) := by show _ = _; rw [ht]; unfold toN; rfl
      have HE : Hid (el (co xs k) = (t : Int)) := e1
      have hol := onc_len xs k
      clear ht e1
      cases hm : met xs k t with
      | true =>
        rw [hm] at g2
        have hmem : co xs k ∈ xs.take k := met_mem.1 (by rw [← HT.out]; exact hm)
        have HO : Hid (OwnB wr 61 w.heap.size (met xs (k + 1)) 256) := by
          show OwnB _ _ _ _ _
          unfold OwnB at *
          rw [hO, rowB_congr (g := met xs (k + 1)) (fun i _ => by
            rw [met_succ HK.out]
            by_cases e : i = (co xs k).toNat
            · rw [if_pos e, e, ← HT.out, hm]
            · rw [if_neg e])]
        have HR : Hid (Rs 28 (w.heap.size + 1) wr u3 (onc xs (k + 1))) := by
          show Rs _ _ _ _ _
          rw [show onc xs (k + 1) = onc xs k by rw [onc_succ, if_pos hmem]]; exact hR
        clear hO hR hmem
        go_wp2
        go_roundw
        case rel => exact ⟨k + 1, by omega, by go_num, HO.out, HR.out, hb⟩
        case measure => simp [intOf]; omega
      | false =>
        rw [hm] at g2
        have hnm : co xs k ∉ xs.take k := fun h => by have := met_mem.2 h; rw [← HT.out, hm] at this; cases this
        have HO := (show Hid (∀ W : World, W.heap = (wr.setCell ⟨w.heap.size, t, none⟩ (.bool true)).heap → OwnB W 61 w.heap.size (met xs (k + 1)) 256) from fun W e => by
          have h3 := hO.set1 (v := true) ht2 e
          unfold OwnB at *
          rw [h3, rowB_congr (g := met xs (k + 1)) (fun i _ => by rw [met_succ HK.out, HT.out])])
        have HI : Hid (onc xs (k + 1) = onc xs k ++ [co xs k]) := by show _ = _; rw [onc_succ, if_neg hnm]
        have g4 : (wr.setCell ⟨w.heap.size, t, none⟩ (.bool true)).cell? ⟨b, o + k, none⟩ = some (.int .u8 (t : Int)) := by
          have := cell_below (H1.out k hlt) (hb.setCell (p := ⟨w.heap.size, t, none⟩) (Nat.le_refl _) (.bool true))
          rw [HE.out] at this; exact this
        have hO2 := HO.out _ rfl
        unfold Rs at hR
        have hR2 := owns_other hR (p := ⟨w.heap.size, t, none⟩) (Nat.lt_succ_self _) (.bool true)
        have hb2 := hb.setCell (p := ⟨w.heap.size, t, none⟩) (Nat.le_refl _) (.bool true)
        have M1 : Hid ((onc xs k).length + 1 ≤ maxLen) := by show _ ≤ _; unfold maxLen; omega
        have M3 : Hid (((onc xs k).length + 1) * 1 ≤ 140737488355328) := by show _ ≤ _; omega
        have M2 : Hid (∀ o : Obj, w.heap.size + 1 ≤ ((wr.setCell ⟨w.heap.size, t, none⟩ (.bool true)).alloc o).heap.size) := fun o => by
          have h3 := hO2
          unfold OwnB at h3
          have := lt_of_block h3
          simp at this ⊢; omega
        have hsz : (wr.setCell ⟨w.heap.size, t, none⟩ (.bool true)).heap.size = wr.heap.size := by simp
        have HN : Hid (∀ j u, ([.int .u8 (t : Int)] : List Value)[j]? = some u → ((wr.setCell ⟨w.heap.size, t, none⟩ (.bool true)).alloc (.cells #[.int .u8 (t : Int)] 28)).cell? ((⟨wr.heap.size, 0, none⟩ : Addr).add j) = some u) := by
          have h3 := one_new (wr.setCell ⟨w.heap.size, t, none⟩ (.bool true)) (.int .u8 (t : Int)) 28
          rw [hsz] at h3; exact h3
        clear hR hnm hO hsz
        go_wp2_with (at_builtin; refine wpList_append_own _ rfl _ _ 26 rfl (w.heap.size + 1) 28 i0 (.int .u8 0) 1 1 Try.underlying26 hi hz0 hz1 hz2 rfl (by decide) _ _ _ rfl (hR2.alloc _) ⟨wr.heap.size, 0, none⟩ 1 1 [.int .u8 (t : Int)] rfl rfl HN.out (one_cell _ _) M1.out M3.out (M2.out _) ?_; intro v' w3 hown' hgrow _)
        have hb' := Below.grown (hb2.alloc hb2.size _) hgrow (Nat.le_trans hb2.size (by simp)) (fun g hg => Nat.le_trans (Nat.le_succ _) (hR2.lt g hg).1)
        have hO3 : OwnB w3 61 w.heap.size (met xs (k + 1)) 256 := by
          unfold OwnB at hO2 ⊢
          have hlt3 := lt_of_block hO2
          rw [hgrow.block w.heap.size (by simp at hlt3 ⊢; omega) (fun e => by have := (hR2.lt _ e.symm).1; omega)]
          rw [Below.heap_alloc _ _ _ hlt3]; exact hO2
        rw [← HE.out] at hown'
        have hP := Rs.push hown'
        rw [← HI.out] at hP
        clear hown' hgrow hR2 hO2 hb2 g4 HN
        go_roundw
        case rel => exact ⟨k + 1, by omega, by go_num, hO3, hP, hb'⟩
        case measure => simp [intOf]; omega
    · obtain rfl : k = n := by omega
      go_wp2
      go_ret
      exact ⟨_, rfl, hR, hb⟩
set_option maxRecDepth 1000000 in
theorem unlike_nil (a : Option Addr) (c : Nat) (w : World) :
    Calls Try.prog 23 #[.slice a 0 c] w fun e w' => e = .returned (.slice none 0 0) ∧ Below w.heap.size w w' := by
  have hz := zero256
  go_enter Try.func23, Try.ntmps23
  go_wp2
  refine wp_loop_rounds 1 ?_
  rw [rounds_succ]
  go_wp2
  go_ret
  exact ⟨rfl, (Below.refl _ _).alloc (Nat.le_refl _) _⟩
end
theorem unlike_any {w : World} {v : Value} {xs : List (BitVec 8)} (h : Sr w v xs) (hn : xs.length ≤ 140737488351232) :
    Calls Try.prog 23 #[v] w fun e w' => ∃ v' u, e = .returned v' ∧ Hid (u.Nodup) ∧ Hid (u.length ≤ xs.length) ∧ Rs 28 w.heap.size w' v' u ∧ Below w.heap.size w w' := by
  by_cases h0 : xs = []
  · subst h0
    obtain ⟨p, c, rfl⟩ := h.empty
    exact (unlike_nil p c w).mono fun e w' ⟨he, hb⟩ => ⟨_, [], he, List.nodup_nil, Nat.le_refl 0, Rs.nil _ _ _, hb⟩
  · obtain ⟨b, o, c, rfl, _, hc⟩ := h.cells h0
    exact (unlike_core b o _ c xs w rfl hn hc).mono fun e w' ⟨v, he, hr, hb⟩ => ⟨v, _, he, onc_nodup (Nat.le_refl _), onc_len _ _, hr.mono (Nat.le_succ _), hb⟩
end Go.Proofs.Ytpjebfcdjhcfnab
