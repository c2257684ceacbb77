/-
  'join', for each of the three pairs of functions that it is handed; 'Plus', 'Scale', 'Derive'.
-/
import Derived.Test.YtbjmdijphciliaaPAdd
namespace Go.Proofs.Ytbjmdijphciliaa
open Go.RowKit

theorem co_ls (f : Nat → BitVec 8) (n i : Nat) : co (ls f n) i = if i < n then f i else 0#8 := by
  by_cases h : i < n
  · rw [if_pos h]; exact ls_get f n i h
  · rw [if_neg h, co_ge (by rw [ls_len]; omega)]
theorem Own.rdo {w : World} {t : TypeId} {g : Nat} {f : Nat → BitVec 8} {n : Nat} (h : Own w t g f n) : Rd w (some ⟨g, 0, none⟩) (ls f n) := h.rdl
/-- A row of the call's own behind 'cut'. -/
theorem cut_own {w : World} {B g n : Nat} {f : Nat → BitVec 8} (h : Own w 48 g f n) (hg : B ≤ g) (hn : n ≤ 281474976710656) :
    Calls Try.prog 31 #[.slice (some ⟨g, 0, none⟩) n n] w fun e w' => ∃ v, e = .returned v ∧ Rs 48 B w v (trim (ls f n)) ∧ w' = w := by
  refine (cut_some g 0 n n (ls f n) w h.rdo (ls_len f n) hn (Nat.le_refl _) (by omega)).mono fun e w' ⟨he, hw⟩ => ⟨_, he, ?_, hw⟩
  have hl : (trim (ls f n)).length ≤ n := by have := trim_len (ls f n); rw [ls_len] at this; exact this
  exact h.rs hg hn hl (fun i hi => by rw [co_trim, co_ls, if_pos (by omega)])
section
attribute [local irreducible] Calls el gm trim co
set_option maxRecDepth 1000000 in
theorem plus1_in (B b o L c k : Nat) (x : BitVec 8) (w : World) (hk : k < L) (h1 : w.cell? ⟨B, 0, none⟩ = some (.slice (some ⟨b, o, none⟩) L c)) (h2 : w.cell? ⟨b, o + k, none⟩ = some (.int .u8 (el x))) :
    Calls Try.prog 28 #[.int .i64 (k : Int), .pointer (some ⟨B, 0, none⟩)] w fun e w' => e = .returned (.int .u8 (el x)) ∧ w' = w := by
  have i1 : (k : Int) < (L : Int) := by omega
  go_enter Try.func28, Try.ntmps28
  go_wp2
  go_ret
  exact ⟨rfl, rfl⟩
set_option maxRecDepth 1000000 in
theorem plus1_out (B L c k : Nat) (p : Option Addr) (w : World) (hk : ¬ k < L) (h1 : w.cell? ⟨B, 0, none⟩ = some (.slice p L c)) :
    Calls Try.prog 28 #[.int .i64 (k : Int), .pointer (some ⟨B, 0, none⟩)] w fun e w' => e = .returned (.int .u8 0) ∧ w' = w := by
  have i1 : ¬ (k : Int) < (L : Int) := by omega
  go_enter Try.func28, Try.ntmps28
  go_wp2
  go_ret
  exact ⟨rfl, rfl⟩
end
theorem plus1_any {w : World} {B L c : Nat} {p : Option Addr} {qs : List (BitVec 8)} (h1 : w.cell? ⟨B, 0, none⟩ = some (.slice p L c)) (hl : qs.length = L) (hr : Rd w p qs) (k : Nat) :
    Calls Try.prog 28 #[.int .i64 (k : Int), .pointer (some ⟨B, 0, none⟩)] w fun e w' => e = .returned (.int .u8 (el (co qs k))) ∧ w' = w := by
  by_cases hk : k < L
  · rcases hr with h | ⟨b, o, rfl, hc⟩
    · subst h; simp at hl; omega
    · exact plus1_in B b o L c k _ w hk h1 (hc k (by omega))
  · rw [co_ge (by omega), el_0]; exact plus1_out B L c k p w hk h1
section
attribute [local irreducible] Calls el gm trim co
set_option maxRecDepth 1000000 in
theorem scale1_any (B k : Nat) (c : BitVec 8) (w : World) (h1 : w.cell? ⟨B, 0, none⟩ = some (.int .u8 (el c))) :
    Calls Try.prog 61 #[.int .i64 (k : Int), .pointer (some ⟨B, 0, none⟩)] w fun e w' => e = .returned (.int .u8 (el c)) ∧ w' = w := by
  go_enter Try.func61, Try.ntmps61
  go_wp2
  go_ret
  exact ⟨rfl, rfl⟩
/-- 1 at even powers, 0 at odd ones. -/
def oft (k : Nat) : BitVec 8 := if k % 2 = 0 then 1#8 else 0#8
theorem el_oft (k : Nat) : el (oft k) = ((k : Int) + 1) % 2 := by
  unfold oft el
  by_cases h : k % 2 = 0
  · rw [if_pos h]; show ((1 : Nat) : Int) = _; omega
  · rw [if_neg h]; show ((0 : Nat) : Int) = _; omega
attribute [local irreducible] oft
set_option maxRecDepth 1000000 in
theorem derive1_any (k : Nat) (hk : k ≤ 281474976710656) (w : World) :
    Calls Try.prog 62 #[.int .i64 (k : Int)] w fun e w' => e = .returned (.int .u8 (el (oft k))) ∧ w' = w := by
  have e := el_oft k
  have i1 : wrap64 ((k : Int) + 1) = (k : Int) + 1 := by unfold wrap64; omega
  have i2 : ((k : Int) + 1).tmod 2 = ((k : Int) + 1) % 2 := Int.tmod_eq_emod_of_nonneg (by omega)
  have i3 : ((k : Int) + 1) % 2 % 256 = ((k : Int) + 1) % 2 := by omega
  go_enter Try.func62, Try.ntmps62
  go_wp2
  go_ret
  exact ⟨by rw [e]; first | rfl | simp, rfl⟩
end
section
attribute [local irreducible] Calls el gm trim co Own Rs oft
set_option maxHeartbeats 2000000 in
set_option maxRecDepth 1000000 in
theorem join_nil (a : Option Addr) (c : Nat) (f1 f2 : Value) (w : World) :
    Calls Try.prog 29 #[.slice a 0 c, f1, f2] w fun e w' => ∃ v, e = .returned v ∧ Rs 48 w.heap.size w' v [] ∧ Below w.heap.size w w' := by
  have hmk : ∀ w, (Instr.makeSlice 25 (.int .i64 0) (.int .i64 0)).run Try.prog w = .ok (.slice (some ⟨w.heap.size, 0, none⟩) 0 0) (w.alloc (.cells #[] 48)) := fun w => by simpa using make_el 0 (by omega) w
  have HC0 : (Calls Try.prog 31 #[.slice (some ⟨w.heap.size, 0, none⟩) 0 0] (w.alloc (.cells #[] 48)) fun e w' => ∃ v, e = .returned v ∧ Rs 48 w.heap.size (w.alloc (.cells #[] 48)) v [] ∧ w' = (w.alloc (.cells #[] 48))) := by
    have h0 := own_newE w 0
    rw [Array.replicate_zero] at h0
    have := cut_own (B := w.heap.size) h0 (Nat.le_refl _) (by omega)
    simpa [ls, trim] using this
  have HC := (show Hid _ from HC0)
  clear HC0
  go_enter Try.func29, Try.ntmps29
  go_wp2
  refine wp_loop_rounds 1 ?_
  rw [rounds_succ]
  go_wp2_with (go_at_call 31; refine HC.out.mono ?_; rintro e w' ⟨v, rfl, hR, h⟩; obtain rfl := h.symm)
  go_ret
  exact ⟨v, rfl, hR, (Below.refl _ _).alloc (Nat.le_refl _) _⟩
end
section
attribute [local irreducible] Calls el gm trim co Own Rs oft
set_option maxHeartbeats 2000000 in
set_option maxRecDepth 1000000 in
theorem joinPlus_core (b o n c : Nat) (x : Nat → BitVec 8) (B L cq : Nat) (p : Option Addr) (qs : List (BitVec 8)) (w : World) (hn : n ≤ 281474976710656)
    (H1 : Hid (∀ i, i < n → w.cell? ⟨b, o + i, none⟩ = some (.int .u8 (el (x i))))) (HB : Hid (w.cell? ⟨B, 0, none⟩ = some (.slice p L cq))) (hl : Hid (qs.length = L)) (hr : Hid (Rd w p qs)) :
    Calls Try.prog 29 #[.slice (some ⟨b, o, none⟩) n c, .func (.func 28) #[] #[.pointer (some ⟨B, 0, none⟩)], .func (.func 30) #[] #[]] w fun e w' => ∃ v, e = .returned v ∧ Rs 48 w.heap.size w' v (trim (ls (fun i => x i ^^^ co qs i) n)) ∧ Below w.heap.size w w' := by
  have hmk := make_el n hn
  go_enter Try.func29, Try.ntmps29
  go_wp2
  clear hmk
  go_loopw [14] (fun i wr => ∃ k : Nat, k ≤ n ∧ i = .int .i64 k ∧ Own wr 48 w.heap.size (fun i => if i < k then x i ^^^ co qs i else 0#8) n ∧ Below w.heap.size w wr) (fun i _ => n - (intOf i).toNat)
  case atStart => exact ⟨0, Nat.zero_le _, rfl, own_newE w n, (Below.refl _ _).alloc (Nat.le_refl _) _⟩
  case round =>
    obtain ⟨k, hk, rfl, hO, hb⟩ := hrel
    by_cases hlt : k < n
    · have g1 := cell_below (H1.out k hlt) hb
      have g3 := hO.cell hlt
      have g4 := hO.frozen k
      have hi : (k : Int) < (n : Int) := by omega
      go_wp2
      go_region_with (first | (go_at_call 28; refine (plus1_any (cell_below HB.out (by first | exact hb | exact hb.drew)) hl.out (hr.out.below (by first | exact hb | exact hb.drew)) k).mono ?_; rintro e w' ⟨rfl, h⟩; obtain rfl := h.symm) | (go_at_call 30; refine (plus_any _ _ _).mono ?_; rintro e w' ⟨rfl, h⟩; obtain rfl := h.symm))
      all_goals
        go_wp2
        go_roundw
        case rel => exact ⟨k + 1, by omega, by go_num, hO.fill (f := fun i => x i ^^^ co qs i) hlt rfl, (hb.setCell (Nat.le_refl _) _).drew⟩
        case measure => simp [intOf]; omega
    · obtain rfl : k = n := by omega
      have hO2 : Own wr 48 w.heap.size (fun i => x i ^^^ co qs i) k := hO.congr (fun i hi => by rw [if_pos hi])
      have HC : Hid (Calls Try.prog 31 #[.slice (some ⟨w.heap.size, 0, none⟩) k k] wr fun e w' => ∃ v, e = .returned v ∧ Rs 48 w.heap.size wr v (trim (ls (fun i => x i ^^^ co qs i) k)) ∧ w' = wr) := cut_own hO2 (Nat.le_refl _) hn
      clear hO hO2
      go_wp2_with (go_at_call 31; refine HC.out.mono ?_; rintro e w' ⟨v, rfl, hR, h⟩; obtain rfl := h.symm)
      go_ret
      exact ⟨v, rfl, hR, hb⟩
end
section
attribute [local irreducible] Calls el gm trim co Own Rs oft
set_option maxHeartbeats 2000000 in
set_option maxRecDepth 1000000 in
theorem joinScale_core (b o n c : Nat) (x : Nat → BitVec 8) (B : Nat) (cc : BitVec 8) (w : World) (hn : n ≤ 281474976710656)
    (H1 : Hid (∀ i, i < n → w.cell? ⟨b, o + i, none⟩ = some (.int .u8 (el (x i))))) (HB : Hid (w.cell? ⟨B, 0, none⟩ = some (.int .u8 (el cc)))) :
    Calls Try.prog 29 #[.slice (some ⟨b, o, none⟩) n c, .func (.func 61) #[] #[.pointer (some ⟨B, 0, none⟩)], .func (.func 34) #[] #[]] w fun e w' => ∃ v, e = .returned v ∧ Rs 48 w.heap.size w' v (trim (ls (fun i => gm (x i) cc) n)) ∧ Below w.heap.size w w' := by
  have hmk := make_el n hn
  go_enter Try.func29, Try.ntmps29
  go_wp2
  clear hmk
  go_loopw [14] (fun i wr => ∃ k : Nat, k ≤ n ∧ i = .int .i64 k ∧ Own wr 48 w.heap.size (fun i => if i < k then gm (x i) cc else 0#8) n ∧ Below w.heap.size w wr) (fun i _ => n - (intOf i).toNat)
  case atStart => exact ⟨0, Nat.zero_le _, rfl, own_newE w n, (Below.refl _ _).alloc (Nat.le_refl _) _⟩
  case round =>
    obtain ⟨k, hk, rfl, hO, hb⟩ := hrel
    by_cases hlt : k < n
    · have g1 := cell_below (H1.out k hlt) hb
      have g3 := hO.cell hlt
      have g4 := hO.frozen k
      have hi : (k : Int) < (n : Int) := by omega
      go_wp2
      go_region_with (first | (go_at_call 61; refine (scale1_any B k cc _ (cell_below HB.out (by first | exact hb | exact hb.drew))).mono ?_; rintro e w' ⟨rfl, h⟩; obtain rfl := h.symm) | (go_at_call 34; refine (times_any _ _ _).mono ?_; rintro e w' ⟨rfl, h⟩; obtain rfl := h.symm))
      all_goals
        go_wp2
        go_roundw
        case rel => exact ⟨k + 1, by omega, by go_num, hO.fill (f := fun i => gm (x i) cc) hlt rfl, (hb.setCell (Nat.le_refl _) _).drew⟩
        case measure => simp [intOf]; omega
    · obtain rfl : k = n := by omega
      have hO2 : Own wr 48 w.heap.size (fun i => gm (x i) cc) k := hO.congr (fun i hi => by rw [if_pos hi])
      have HC : Hid (Calls Try.prog 31 #[.slice (some ⟨w.heap.size, 0, none⟩) k k] wr fun e w' => ∃ v, e = .returned v ∧ Rs 48 w.heap.size wr v (trim (ls (fun i => gm (x i) cc) k)) ∧ w' = wr) := cut_own hO2 (Nat.le_refl _) hn
      clear hO hO2
      go_wp2_with (go_at_call 31; refine HC.out.mono ?_; rintro e w' ⟨v, rfl, hR, h⟩; obtain rfl := h.symm)
      go_ret
      exact ⟨v, rfl, hR, hb⟩
end
section
attribute [local irreducible] Calls el gm trim co Own Rs oft
set_option maxHeartbeats 2000000 in
set_option maxRecDepth 1000000 in
theorem joinDerive_core (b o n c : Nat) (x : Nat → BitVec 8)  (w : World) (hn : n ≤ 281474976710656)
    (H1 : Hid (∀ i, i < n → w.cell? ⟨b, o + i, none⟩ = some (.int .u8 (el (x i)))))  :
    Calls Try.prog 29 #[.slice (some ⟨b, o, none⟩) n c, .func (.func 62) #[] #[], .func (.func 34) #[] #[]] w fun e w' => ∃ v, e = .returned v ∧ Rs 48 w.heap.size w' v (trim (ls (fun i => gm (x i) (oft i)) n)) ∧ Below w.heap.size w w' := by
  have hmk := make_el n hn
  go_enter Try.func29, Try.ntmps29
  go_wp2
  clear hmk
  go_loopw [14] (fun i wr => ∃ k : Nat, k ≤ n ∧ i = .int .i64 k ∧ Own wr 48 w.heap.size (fun i => if i < k then gm (x i) (oft i) else 0#8) n ∧ Below w.heap.size w wr) (fun i _ => n - (intOf i).toNat)
  case atStart => exact ⟨0, Nat.zero_le _, rfl, own_newE w n, (Below.refl _ _).alloc (Nat.le_refl _) _⟩
  case round =>
    obtain ⟨k, hk, rfl, hO, hb⟩ := hrel
    by_cases hlt : k < n
    · have g1 := cell_below (H1.out k hlt) hb
      have g3 := hO.cell hlt
      have g4 := hO.frozen k
      have hi : (k : Int) < (n : Int) := by omega
      go_wp2
      go_region_with (first | (go_at_call 62; refine (derive1_any k (by omega) _).mono ?_; rintro e w' ⟨rfl, h⟩; obtain rfl := h.symm) | (go_at_call 34; refine (times_any _ _ _).mono ?_; rintro e w' ⟨rfl, h⟩; obtain rfl := h.symm))
      all_goals
        go_wp2
        go_roundw
        case rel => exact ⟨k + 1, by omega, by go_num, hO.fill (f := fun i => gm (x i) (oft i)) hlt rfl, (hb.setCell (Nat.le_refl _) _).drew⟩
        case measure => simp [intOf]; omega
    · obtain rfl : k = n := by omega
      have hO2 : Own wr 48 w.heap.size (fun i => gm (x i) (oft i)) k := hO.congr (fun i hi => by rw [if_pos hi])
      have HC : Hid (Calls Try.prog 31 #[.slice (some ⟨w.heap.size, 0, none⟩) k k] wr fun e w' => ∃ v, e = .returned v ∧ Rs 48 w.heap.size wr v (trim (ls (fun i => gm (x i) (oft i)) k)) ∧ w' = wr) := cut_own hO2 (Nat.le_refl _) hn
      clear hO hO2
      go_wp2_with (go_at_call 31; refine HC.out.mono ?_; rintro e w' ⟨v, rfl, hR, h⟩; obtain rfl := h.symm)
      go_ret
      exact ⟨v, rfl, hR, hb⟩
end

end Go.Proofs.Ytbjmdijphciliaa
