/-
  The document's Plus, Scale, Derive, shifted, Inv.
-/
import Derived.Test.YtbjmdijphciliaaRefA
import Derived.Test.YtbjmdijphciliaaJoin
namespace Go.Proofs.Ytbjmdijphciliaa
open Go.RowKit

section
attribute [local irreducible] Calls el gm trim co
set_option maxRecDepth 1000000 in
theorem coef_in (b o L c k : Nat) (x : BitVec 8) (w : World) (hk : k < L) (h2 : w.cell? ⟨b, o + k, none⟩ = some (.int .u8 (el x))) :
    Calls Try.prog 57 #[.slice (some ⟨b, o, none⟩) L c, .int .i64 (k : Int)] w fun e w' => e = .returned (.int .u8 (el x)) ∧ w' = w := by
  have i1 : (k : Int) < (L : Int) := by omega
  go_enter Try.func57, Try.ntmps57
  go_wp2
  go_ret
  exact ⟨rfl, rfl⟩
set_option maxRecDepth 1000000 in
theorem coef_out (p : Option Addr) (L c k : Nat) (w : World) (hk : ¬ k < L) :
    Calls Try.prog 57 #[.slice p L c, .int .i64 (k : Int)] w fun e w' => e = .returned (.int .u8 0) ∧ w' = w := by
  have i1 : ¬ (k : Int) < (L : Int) := by omega
  go_enter Try.func57, Try.ntmps57
  go_wp2
  go_ret
  exact ⟨rfl, rfl⟩
end
theorem coef_any {w : World} {p : Option Addr} {L c : Nat} {xs : List (BitVec 8)} (hr : Rd w p xs) (hl : xs.length = L) (k : Nat) :
    Calls Try.prog 57 #[.slice p L c, .int .i64 (k : Int)] w fun e w' => e = .returned (.int .u8 (el (co xs k))) ∧ w' = w := by
  by_cases hk : k < L
  · rcases hr with h | ⟨b, o, rfl, hc⟩
    · subst h; simp at hl; omega
    · exact coef_in b o L c k _ w hk (hc k (by omega))
  · rw [co_ge (by omega), el_0]; exact coef_out p L c k w hk
/-- What is appended so far reads so; its Trim. -/
theorem trim_owned {w : World} {B n : Nat} {v : Value} {f : Nat → BitVec 8} {ys : List (BitVec 8)} (h : w.ownsRow B 5 1 v n (vs f n)) (hn : n ≤ 140737488355328) (hy : ∀ i, co (ls f n) i = co ys i) :
    Calls Try.prog 39 #[v] w fun e w' => ∃ v, e = .returned v ∧ Rs 5 w.heap.size w' v (trim ys) ∧ Below w.heap.size w w' := by
  obtain ⟨p, cap, rfl, _, hr⟩ := rd_owns h
  have := refTrim_any hr n cap (ls_len f n) hn
  rw [trim_congr hy] at this; exact this
section
attribute [local irreducible] Calls el gm trim co vs Rs Rd
set_option maxHeartbeats 4000000 in
set_option maxRecDepth 1000000 in
theorem refPlus_core (p1 p2 : Option Addr) (n1 n2 n c1 c2 : Nat) (xs ys : List (BitVec 8)) (w : World) (h1 : Hid (Rd w p1 xs)) (h2 : Hid (Rd w p2 ys)) (hl1 : Hid (xs.length = n1)) (hl2 : Hid (ys.length = n2)) (hn : n ≤ 140737488355328) (hd : n = if n1 < n2 then n2 else n1) :
    Calls Try.prog 41 #[.slice p1 n1 c1, .slice p2 n2 c2] w fun e w' => ∃ v, e = .returned v ∧ Rs 5 w.heap.size w' v (trim (add xs ys)) ∧ Below w.heap.size w w' := by
  obtain ⟨i0, hi, hz0, hz1, hz2⟩ := info_parts info5
  have hx := el_xor
  have HY : Hid (∀ i, co (ls (fun i => co xs i ^^^ co ys i) n) i = co (add xs ys) i) := fun i => by
    have h3 := hl1.out
    have h4 := hl2.out
    rw [co_ls, co_add]
    by_cases hi : i < n
    · rw [if_pos hi]
    · rw [if_neg hi, co_ge (p := xs) (by split at hd <;> omega), co_ge (p := ys) (by split at hd <;> omega)]; rfl
  have HD : Hid ((n : Int) = if (n1 : Int) < (n2 : Int) then (n2 : Int) else (n1 : Int)) := by
    show _ = _
    rw [hd]; split <;> split <;> omega
  by_cases hlt : n1 < n2
  · have l1 : (n1 : Int) < (n2 : Int) := by omega
    obtain rfl : n = n2 := by rw [hd, if_pos hlt]
    clear hd HD
    go_enter Try.func41, Try.ntmps41
    go_wp2
    go_loopw [6, 7] (fun v i wr => ∃ k : Nat, k ≤ n ∧ i = .int .i64 k ∧ wr.ownsRow w.heap.size 5 1 v k (vs (fun i => co xs i ^^^ co ys i) k) ∧ Below w.heap.size w wr) (fun _ i _ => n - (intOf i).toNat)
    case atStart => exact ⟨0, Nat.zero_le _, rfl, own_none _ _ _ _, Below.refl _ _⟩
    case round =>
      obtain ⟨k, hk, rfl, hown, hb⟩ := hrel
      by_cases hkn : k < n
      · have j1 : (k : Int) < (n : Int) := by omega
        have M1 : Hid (k + 1 ≤ maxLen) := by show _ ≤ _; unfold maxLen; omega
        have M2 : Hid (∀ o : Obj, w.heap.size ≤ (wr.alloc o).heap.size) := fun o => by have := hb.size; simp; omega
        have C1 := (show Hid _ from coef_any (c := c1) (h1.out.below hb) hl1.out k)
        have C2 := (show Hid _ from coef_any (c := c2) (h2.out.below hb) hl2.out k)
        go_wp2_with (first | (go_at_call 57; refine C1.out.mono ?_; rintro e w' ⟨rfl, h⟩; obtain rfl := h.symm; clear C1) | (go_at_call 57; refine C2.out.mono ?_; rintro e w' ⟨rfl, h⟩; obtain rfl := h.symm) | (at_builtin; refine wpList_append_own _ rfl _ _ 22 rfl w.heap.size 5 i0 (.int .u8 0) 1 1 Try.underlying22 hi hz0 hz1 hz2 rfl (by decide) _ _ _ rfl (hown.alloc _) ⟨wr.heap.size, 0, none⟩ 1 1 [.int .u8 (el (co xs k ^^^ co ys k))] rfl rfl (one_new _ _ _) (one_cell _ _) M1.out (by omega) (M2.out _) ?_; intro v' w1 hown' hgrow _))
        rw [← vs_succ (fun i => co xs i ^^^ co ys i) k] at hown'
        have hb' := below_append (hb.alloc hb.size _) (M2.out _) hgrow (hown.alloc _) (Nat.le_refl _)
        clear hown hgrow
        go_roundw
        case rel => exact ⟨k + 1, by omega, by go_num, hown', hb'⟩
        case measure => simp [intOf]; omega
      · obtain rfl : k = n := by omega
        have HT := (show Hid _ from trim_owned hown hn HY.out)
        clear hown
        go_wp2_with (go_at_call 39; refine HT.out.mono ?_; rintro e w' ⟨v, rfl, hR, hb2⟩)
        go_ret
        exact ⟨v, rfl, hR.mono hb.size, bt hb hb2⟩
  · have l1 : ¬ (n1 : Int) < (n2 : Int) := by omega
    obtain rfl : n = n1 := by rw [hd, if_neg hlt]
    clear hd HD
    go_enter Try.func41, Try.ntmps41
    go_wp2
    go_loopw [6, 7] (fun v i wr => ∃ k : Nat, k ≤ n ∧ i = .int .i64 k ∧ wr.ownsRow w.heap.size 5 1 v k (vs (fun i => co xs i ^^^ co ys i) k) ∧ Below w.heap.size w wr) (fun _ i _ => n - (intOf i).toNat)
    case atStart => exact ⟨0, Nat.zero_le _, rfl, own_none _ _ _ _, Below.refl _ _⟩
    case round =>
      obtain ⟨k, hk, rfl, hown, hb⟩ := hrel
      by_cases hkn : k < n
      · have j1 : (k : Int) < (n : Int) := by omega
        have M1 : Hid (k + 1 ≤ maxLen) := by show _ ≤ _; unfold maxLen; omega
        have M2 : Hid (∀ o : Obj, w.heap.size ≤ (wr.alloc o).heap.size) := fun o => by have := hb.size; simp; omega
        have C1 := (show Hid _ from coef_any (c := c1) (h1.out.below hb) hl1.out k)
        have C2 := (show Hid _ from coef_any (c := c2) (h2.out.below hb) hl2.out k)
        go_wp2_with (first | (go_at_call 57; refine C1.out.mono ?_; rintro e w' ⟨rfl, h⟩; obtain rfl := h.symm; clear C1) | (go_at_call 57; refine C2.out.mono ?_; rintro e w' ⟨rfl, h⟩; obtain rfl := h.symm) | (at_builtin; refine wpList_append_own _ rfl _ _ 22 rfl w.heap.size 5 i0 (.int .u8 0) 1 1 Try.underlying22 hi hz0 hz1 hz2 rfl (by decide) _ _ _ rfl (hown.alloc _) ⟨wr.heap.size, 0, none⟩ 1 1 [.int .u8 (el (co xs k ^^^ co ys k))] rfl rfl (one_new _ _ _) (one_cell _ _) M1.out (by omega) (M2.out _) ?_; intro v' w1 hown' hgrow _))
        rw [← vs_succ (fun i => co xs i ^^^ co ys i) k] at hown'
        have hb' := below_append (hb.alloc hb.size _) (M2.out _) hgrow (hown.alloc _) (Nat.le_refl _)
        clear hown hgrow
        go_roundw
        case rel => exact ⟨k + 1, by omega, by go_num, hown', hb'⟩
        case measure => simp [intOf]; omega
      · obtain rfl : k = n := by omega
        have HT := (show Hid _ from trim_owned hown hn HY.out)
        clear hown
        go_wp2_with (go_at_call 39; refine HT.out.mono ?_; rintro e w' ⟨v, rfl, hR, hb2⟩)
        go_ret
        exact ⟨v, rfl, hR.mono hb.size, bt hb hb2⟩
end
theorem refPlus_any {w : World} {v1 v2 : Value} {xs ys : List (BitVec 8)} (h1 : Sr w v1 xs) (h2 : Sr w v2 ys) (hn1 : xs.length ≤ 140737488355328) (hn2 : ys.length ≤ 140737488355328) :
    Calls Try.prog 41 #[v1, v2] w fun e w' => ∃ v, e = .returned v ∧ Rs 5 w.heap.size w' v (trim (add xs ys)) ∧ Below w.heap.size w w' := by
  obtain ⟨p1, c1, rfl, hr1⟩ := h1
  obtain ⟨p2, c2, rfl, hr2⟩ := h2
  exact refPlus_core p1 p2 _ _ _ c1 c2 xs ys w hr1 hr2 rfl rfl (by split <;> omega) rfl
section
attribute [local irreducible] Calls el gm trim co vs Rs
end
theorem gm_oft (a : BitVec 8) (k : Nat) : gm a (oft k) = if k % 2 = 0 then a else 0#8 := by
  unfold oft; split
  · rw [gm_one]
  · rw [gm_zero]
section
attribute [local irreducible] Calls el gm trim co vs Rs oft
end
end Go.Proofs.Ytbjmdijphciliaa
