/-
  'twice'.
-/
import Derived.Test.YtbjmdijphciliaaPVan
namespace Go.Proofs.Ytbjmdijphciliaa
open Go.RowKit

def rowB (f : Nat → Bool) (n : Nat) : Array Value := ((List.range n).map fun i => Value.bool (f i)).toArray
theorem rowB_size (f : Nat → Bool) (n : Nat) : (rowB f n).size = n := by simp [rowB]
theorem rowB_get (f : Nat → Bool) (n i : Nat) (h : i < n) : (rowB f n)[i]? = some (.bool (f i)) := by
  unfold rowB; rw [List.getElem?_toArray, List.getElem?_map, List.getElem?_range h]; rfl
theorem rowB_congr {f g : Nat → Bool} {n : Nat} (h : ∀ i, i < n → f i = g i) : rowB f n = rowB g n := by
  unfold rowB; congr 1
  apply List.map_congr_left
  intro i hi; rw [h i (List.mem_range.1 hi)]
theorem rowB_set (f : Nat → Bool) (n k : Nat) (v : Bool) (hk : k < n) : (rowB f n).setIfInBounds k (.bool v) = rowB (fun i => if i = k then v else f i) n := by
  apply Array.ext_getElem?
  intro i
  rw [Array.getElem?_setIfInBounds, rowB_size]
  by_cases hi : i < n
  · rw [rowB_get (fun i => if i = k then v else f i) n i hi]
    by_cases e : k = i
    · subst e; simp [hk]
    · rw [if_neg e, rowB_get f n i hi, if_neg (fun h => e h.symm)]
  · have h1 : (rowB f n)[i]? = none := by rw [Array.getElem?_eq_none]; rw [rowB_size]; omega
    have h2 : (rowB (fun i => if i = k then v else f i) n)[i]? = none := by rw [Array.getElem?_eq_none]; rw [rowB_size]; omega
    rw [h1, h2, if_neg (by omega)]
theorem rowB_false (n : Nat) : rowB (fun _ => false) n = Array.replicate n (.bool false) := by
  apply Array.ext_getElem?
  intro i
  by_cases hi : i < n
  · rw [rowB_get _ n i hi]; simp [hi]
  · rw [Array.getElem?_eq_none (by rw [rowB_size]; omega), Array.getElem?_eq_none (by simp; omega)]
/-- A row of bools of the call's own. -/
def OwnB (w : World) (t : TypeId) (g : Nat) (f : Nat → Bool) (n : Nat) : Prop := w.heap[g]? = some (.cells (rowB f n) t (0, 0))
theorem OwnB.cell {w : World} {t : TypeId} {g : Nat} {f : Nat → Bool} {n : Nat} (h : OwnB w t g f n) {i : Nat} (hi : i < n) : w.cell? ⟨g, i, none⟩ = some (.bool (f i)) := by
  rw [cell_of_row w g i _ _ _ h, rowB_get f n i hi]
theorem OwnB.frozen {w : World} {t : TypeId} {g : Nat} {f : Nat → Bool} {n : Nat} (h : OwnB w t g f n) (i : Nat) : w.frozen? ⟨g, i, none⟩ = false := frozen_of_row w g i _ _ h
theorem OwnB.set1 {w W : World} {t : TypeId} {g n k : Nat} {f : Nat → Bool} {v : Bool} (h : OwnB w t g f n) (hk : k < n) (e : W.heap = (w.setCell ⟨g, k, none⟩ (.bool v)).heap) : OwnB W t g (fun i => if i = k then v else f i) n := by
  unfold OwnB at *; rw [e, heap_setCell_same w g k _ _ _ h, rowB_set f n k v hk]
theorem info256 : (Try.prog.info? 87).map (fun i => (i.zero, i.size)) = some (some (.agg (Array.replicate 256 (.bool false))), 256) := by kernel_rfl
theorem zero256 : ∀ w, (zeroValue 87).run Try.prog w = .ok (.agg (Array.replicate 256 (.bool false))) w := (zero_of_info info256).1
theorem ownB_new (w : World) : OwnB (w.alloc (.cells (Array.replicate 256 (.bool false)) 87)) 87 w.heap.size (fun _ => false) 256 := by
  unfold OwnB; rw [heap_alloc_new, rowB_false]
/-- What has been met. -/
def met (xs : List (BitVec 8)) (k i : Nat) : Bool := (xs.take k).any (fun a => a.toNat == i)
theorem met_succ {xs : List (BitVec 8)} {k : Nat} (h : k < xs.length) (i : Nat) : met xs (k + 1) i = if i = (co xs k).toNat then true else met xs k i := by
  unfold met
  rw [take_succ_co h, List.any_append]
  by_cases e : i = (co xs k).toNat
  · rw [if_pos e]; simp [e]
  · rw [if_neg e]
    have : ((co xs k).toNat == i) = false := by simpa using fun h => e h.symm
    simp [this]
theorem met_mem {xs : List (BitVec 8)} {k : Nat} {a : BitVec 8} : met xs k a.toNat = true ↔ a ∈ xs.take k := by
  unfold met
  rw [List.any_eq_true]
  constructor
  · rintro ⟨b, hb, he⟩
    have : b = a := BitVec.eq_of_toNat_eq (by simpa using he)
    rw [← this]; exact hb
  · intro h; exact ⟨a, h, by simp⟩
theorem nodup_succ {xs : List (BitVec 8)} {k : Nat} (h : k < xs.length) (hn : (xs.take k).Nodup) (ha : co xs k ∉ xs.take k) : (xs.take (k + 1)).Nodup := by
  rw [take_succ_co h, List.nodup_append]
  exact ⟨hn, by simp, fun a ha' b hb => by rw [List.mem_singleton] at hb; rw [hb]; exact fun e => ha (e ▸ ha')⟩
theorem not_nodup {xs : List (BitVec 8)} {k : Nat} (h : k < xs.length) (ha : co xs k ∈ xs.take k) : ¬ xs.Nodup := fun hn => by
  have h1 : (xs.take (k + 1)).Nodup := hn.sublist (List.take_sublist _ _)
  rw [take_succ_co h, List.nodup_append] at h1
  exact h1.2.2 _ ha _ (by simp) rfl
def toN (a : BitVec 8) : Nat := a.toNat
theorem el_toN (a : BitVec 8) : el a = (toN a : Int) := rfl
theorem toN_lt (a : BitVec 8) : toN a < 256 := a.isLt
section
attribute [local irreducible] Calls el gm co OwnB met toN
set_option maxHeartbeats 4000000 in
set_option maxRecDepth 1000000 in
theorem twice_core (b o n c : Nat) (xs : List (BitVec 8)) (w : World) (hl : Hid (xs.length = n)) (hn : n ≤ 281474976710656)
    (H1 : Hid (∀ i, i < n → w.cell? ⟨b, o + i, none⟩ = some (.int .u8 (el (co xs i))))) :
    Calls Try.prog 43 #[.slice (some ⟨b, o, none⟩) n c] w fun e w' => ∃ r, e = .returned (.bool r) ∧ Hid (r = true ↔ ¬ xs.Nodup) ∧ Below w.heap.size w w' := by
  have hz := zero256
  go_enter Try.func43, Try.ntmps43
  go_wp2
  clear hz
  go_loopw [8] (fun i wr => ∃ k : Nat, k ≤ n ∧ i = .int .i64 k ∧ OwnB wr 87 w.heap.size (met xs k) 256 ∧ Below w.heap.size w wr ∧ Hid ((xs.take k).Nodup)) (fun i _ => n - (intOf i).toNat)
  case atStart => exact ⟨0, Nat.zero_le _, rfl, by have h3 := ownB_new w; unfold OwnB at *; rw [h3, rowB_congr (g := met xs 0) (fun i _ => by unfold met; simp)], (Below.refl _ _).alloc (Nat.le_refl _) _, by show List.Nodup _; simp⟩
  case round =>
    obtain ⟨k, hk, rfl, hO, hb, D⟩ := hrel
    by_cases hlt : k < n
    · have hk' : k < xs.length := by rw [hl.out]; exact hlt
      have HK : Hid (k < xs.length) := hk'
      obtain ⟨t, ht⟩ : ∃ t, t = toN (co xs k) := ⟨_, rfl⟩
      have e1 : el (co xs k) = (t : Int) := by rw [ht]; exact el_toN _
      have ht2 : t < 256 := by rw [ht]; exact toN_lt _
      have g1 := cell_below (H1.out k hlt) hb
      rw [e1] at g1
      have g2 := hO.cell ht2
      have g3 := hO.frozen t
      have i1 : (k : Int) < (n : Int) := by omega
      have i2 : (t : Int) < 256 := by omega
      have HT : Hid (t = (co xs k).toNat) := by show _ = _; rw [ht]; unfold toN; rfl
      clear ht hk' e1
      cases hm : met xs k t with
      | true =>
        rw [hm] at g2
        have HN : Hid (¬ xs.Nodup) := not_nodup HK.out (met_mem.1 (by rw [← HT.out]; exact hm))
        go_wp2
        go_ret
        exact ⟨true, rfl, ⟨fun _ => HN.out, fun _ => rfl⟩, hb⟩
      | false =>
        rw [hm] at g2
        have HN : Hid ((xs.take (k + 1)).Nodup) := nodup_succ HK.out D.out (fun h => by have := met_mem.2 h; rw [← HT.out, hm] at this; cases this)
        have HO := (show Hid (∀ W : World, W.heap = (wr.setCell ⟨w.heap.size, t, none⟩ (.bool true)).heap → OwnB W 87 w.heap.size (met xs (k + 1)) 256) from fun W e => by
          have h3 := hO.set1 (v := true) ht2 e
          unfold OwnB at *
          rw [h3, rowB_congr (g := met xs (k + 1)) (fun i _ => by rw [met_succ HK.out, HT.out])])
        clear hO D
        go_wp2
        go_roundw
        case rel => exact ⟨k + 1, by omega, by go_num, HO.out _ rfl, hb.setCell (Nat.le_refl _) _, HN⟩
        case measure => simp [intOf]; omega
    · obtain rfl : k = n := by omega
      have HN : Hid (xs.Nodup) := by
        have h3 := D.out
        rw [← hl.out, List.take_length] at h3; exact h3
      go_wp2
      go_ret
      exact ⟨false, rfl, ⟨fun h => (by cases h), fun h => absurd HN.out h⟩, hb⟩
set_option maxRecDepth 1000000 in
theorem twice_nil (a : Option Addr) (c : Nat) (w : World) :
    Calls Try.prog 43 #[.slice a 0 c] w fun e w' => e = .returned (.bool false) ∧ Below w.heap.size w w' := by
  have hz := zero256
  go_enter Try.func43, Try.ntmps43
  go_wp2
  refine wp_loop_rounds 1 ?_
  rw [rounds_succ]
  go_wp2
  go_ret
  exact ⟨rfl, (Below.refl _ _).alloc (Nat.le_refl _) _⟩
end
theorem twice_any {w : World} {v : Value} {xs : List (BitVec 8)} (h : Sr w v xs) (hn : xs.length ≤ 281474976710656) :
    Calls Try.prog 43 #[v] w fun e w' => ∃ r, e = .returned (.bool r) ∧ Hid (r = true ↔ ¬ xs.Nodup) ∧ Below w.heap.size w w' := by
  by_cases h0 : xs = []
  · subst h0
    obtain ⟨p, c, rfl⟩ := h.empty
    exact (twice_nil p c w).mono fun e w' ⟨he, hb⟩ => ⟨false, he, ⟨fun h => (by cases h), fun h => absurd List.nodup_nil h⟩, hb⟩
  · obtain ⟨b, o, c, rfl, _, hc⟩ := h.cells h0
    exact twice_core b o _ c xs w rfl hn hc
end Go.Proofs.Ytbjmdijphciliaa
