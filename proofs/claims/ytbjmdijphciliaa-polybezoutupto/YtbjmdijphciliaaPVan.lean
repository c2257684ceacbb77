/-
  'Vanish'.
-/
import Derived.Test.YtbjmdijphciliaaPTimes
namespace Go.Proofs.Ytbjmdijphciliaa
open Go.RowKit

/-- The row of Vanish behind k points: from place n - k on the product so far. -/
def vr (xs : List (BitVec 8)) (n k i : Nat) : BitVec 8 := if i < n - k then 0#8 else co (van ((xs.take k).reverse)) (i - (n - k))
theorem take_rev {xs : List (BitVec 8)} {k : Nat} (h : k < xs.length) : (xs.take (k + 1)).reverse = co xs k :: (xs.take k).reverse := by
  rw [take_succ_co h, List.reverse_append]; rfl
theorem co_van_succ (a : BitVec 8) (p : List (BitVec 8)) (i : Nat) : co (van (a :: p)) i = gm a (co (van p) i) ^^^ (if i = 0 then 0#8 else co (van p) (i - 1)) := by
  show co (mul (van p) [a, 1#8]) i = _
  rw [mul_comm, co_lin]
theorem vr_step {xs : List (BitVec 8)} {n k : Nat} (hl : xs.length = n) (hk : k < n) (i : Nat) (hi : i < n + 1) :
    (if n - 1 - k ≤ i ∧ i < n - 1 - k + (k + 1) then vr xs n k i ^^^ gm (co xs k) (vr xs n k (i + 1)) else vr xs n k i) = vr xs n (k + 1) i := by
  have hlen : (van ((xs.take k).reverse)).length = k + 1 := by rw [van_len, List.length_reverse, List.length_take]; omega
  unfold vr
  rw [take_rev (by omega)]
  by_cases h1 : i < n - (k + 1)
  · rw [if_neg (by omega), if_pos (by omega), if_pos h1]
  · rw [if_neg h1, co_van_succ]
    by_cases h2 : i < n - k
    · have e : i = n - (k + 1) := by omega
      rw [if_pos (by omega), if_pos h2, if_neg (by omega), e]
      rw [show n - (k + 1) + 1 - (n - k) = 0 by omega, show n - (k + 1) - (n - (k + 1)) = 0 by omega]; simp
    · rw [if_neg h2]
      by_cases h3 : i < n
      · rw [if_pos (by omega), if_neg (by omega), show i + 1 - (n - k) = i - (n - (k + 1)) by omega, if_neg (by omega), show i - (n - (k + 1)) - 1 = i - (n - k) by omega, BitVec.xor_comm]
      · rw [if_neg (by omega), if_neg (by omega), co_ge (p := van ((xs.take k).reverse)) (i := i - (n - (k + 1))) (by omega), gm_zero, show i - (n - (k + 1)) - 1 = i - (n - k) by omega]; simp
theorem vr_zero (xs : List (BitVec 8)) (n i : Nat) (hi : i < n + 1) : vr xs n 0 i = if i = n then 1#8 else 0#8 := by
  unfold vr
  by_cases h : i = n
  · subst h; rw [if_neg (by omega), if_pos rfl]; simp [van, co]
  · rw [if_pos (by omega), if_neg h]
theorem vr_all {xs : List (BitVec 8)} {n : Nat} (hl : xs.length = n) (i : Nat) : vr xs n n i = co (van xs.reverse) i := by
  unfold vr
  rw [if_neg (by omega), Nat.sub_self, Nat.sub_zero, ← hl, List.take_length]
theorem van_nums {n k p : Nat} (hp : p = n - 1 - k) (hk : k < n) : (k : Int) < (n : Int) ∧ (n : Int) - 1 - (k : Int) = (p : Int) ∧ (p : Int) ≤ (n : Int) + 1 ∧ (¬ n + 1 = p) ∧ (¬ (n : Int) + 1 = (p : Int)) ∧ (p : Int) + 1 ≤ (n : Int) + 1 ∧ (¬ n + 1 = p + 1) ∧ (¬ (n : Int) + 1 = (p : Int) + 1) ∧ (0 : Int) ≤ (p : Int) + 1 ∧ (¬ n = p) ∧ (¬ (n : Int) = (p : Int)) ∧ (p : Int) ≤ (n : Int) ∧ p ≤ n ∧ p < n ∧ (¬ n ≤ p) ∧ (¬ (n : Int) ≤ (p : Int)) ∧ (¬ n - p = 0) ∧ (¬ (n : Int) - (p : Int) = 0) ∧ (p : Int) < (n : Int) := by omega
theorem van_num2 {n k p : Nat} (hp : p = n - 1 - k) (hk : k < n) (hn : n + 1 ≤ 281474976710656) : n - p ≤ n + 1 - p ∧ p + (n + 1 - p) ≤ n + 1 ∧ p + 1 + (n - p) ≤ n + 1 ∧ n + 1 - p ≤ 281474976710656 := by omega
theorem wrap_p1 {p : Nat} (h : p ≤ 281474976710656) : IntKind.i64.wrap ((p : Int) + 1) = (p : Int) + 1 := by rw [IntKind.wrap_i64]; omega
section
attribute [local irreducible] Calls el gm co Own Rs vr van
set_option maxHeartbeats 8000000 in
set_option maxRecDepth 1000000 in
theorem vanish_core (b o n c : Nat) (xs : List (BitVec 8)) (w : World) (hl : Hid (xs.length = n)) (hn : n + 1 ≤ 281474976710656)
    (H1 : Hid (∀ i, i < n → w.cell? ⟨b, o + i, none⟩ = some (.int .u8 (el (co xs i))))) :
    Calls Try.prog 53 #[.slice (some ⟨b, o, none⟩) n c] w fun e w' => e = .returned (.slice (some ⟨w.heap.size, 0, none⟩) (n + 1) (n + 1)) ∧ Own w' 48 w.heap.size (co (van xs.reverse)) (n + 1) ∧ Below w.heap.size w w' := by
  have hmk : ∀ w, (Instr.makeSlice 25 (.int .i64 ((n : Int) + 1)) (.int .i64 ((n : Int) + 1))).run Try.prog w = .ok (.slice (some ⟨w.heap.size, 0, none⟩) (n + 1) (n + 1)) (w.alloc (.cells (Array.replicate (n + 1) (.int .u8 0)) 48)) := fun w => make_el (n + 1) hn w
  have l1 : (n : Int) < (n : Int) + 1 := by omega
  have hO := own_newE w (n + 1)
  have g1 := hO.cell (i := n) (by omega)
  have g2 := hO.frozen n
  have hb0 : Below w.heap.size w (w.alloc (.cells ((Array.replicate (n + 1) (Value.int .u8 0)).setIfInBounds n (.int .u8 1)) 48)) := (Below.refl _ _).alloc (Nat.le_refl _) _
  have hO1 : Own (w.alloc (.cells ((Array.replicate (n + 1) (Value.int .u8 0)).setIfInBounds n (.int .u8 1)) 48)) 48 w.heap.size (vr xs n 0) (n + 1) := by
    unfold Own
    rw [heap_alloc_new, ← rowC_zero, show Value.int .u8 1 = .int .u8 (el 1#8) by unfold el; rfl, rowC_set _ _ _ _ (by omega)]
    congr 2
    exact rowC_congr (fun i hi => by rw [vr_zero xs n i hi])
  clear hO
  go_enter Try.func53, Try.ntmps53
  go_wp2
  clear hmk g1 g2
  go_loopw [18] (fun i wr => ∃ k : Nat, k ≤ n ∧ i = .int .i64 k ∧ Own wr 48 w.heap.size (vr xs n k) (n + 1) ∧ Below w.heap.size w wr) (fun i _ => n - (intOf i).toNat)
  case atStart => exact ⟨0, Nat.zero_le _, rfl, hO1, hb0⟩
  case round =>
    clear hO1 hb0
    obtain ⟨k, hk, rfl, hO, hb⟩ := hrel
    by_cases hlt : k < n
    · obtain ⟨p, hp⟩ : ∃ p, p = n - 1 - k := ⟨_, rfl⟩
      have HP : Hid (p = n - 1 - k) := hp
      have g1 := cell_below (H1.out k hlt) hb
      obtain ⟨i1, i3, i4, i5, i6, i7, i8, i9, i10, i11, i12, i13, i14, i15, i16, i17, i18, i19, i20⟩ := van_nums hp hlt
      have Q := (show Hid _ from van_num2 hp hlt hn)
      have HA : Hid (∀ (W : World) (c1 c2 : Nat), (∃ d, W = wr.drewN d) → Calls Try.prog 32 #[.slice (some ⟨w.heap.size, p, none⟩) (n + 1 - p) c1, .slice (some ⟨w.heap.size, p + 1, none⟩) (n - p) c2, .int .u8 (el (co xs k))] W fun e w' => e = .returned (.tuple #[]) ∧ Own w' 48 w.heap.size (vr xs n (k + 1)) (n + 1) ∧ Below w.heap.size w w') := fun W c1 c2 hW => by
        obtain ⟨d, rfl⟩ := hW
        have q := Q.out
        have hb3 := below_drewN hb d
        refine (add_over (cap := c1) (cp := c2) (hO.drewN d) (co xs k) q.1 q.2.1 q.2.2.1 q.2.2.2).mono ?_
        rintro e w' ⟨he, ho, hB⟩
        refine ⟨he, ho.congr (fun i hi => ?_), hB.below hb3 hb3.size (Nat.le_refl _)⟩
        rw [← vr_step hl.out hlt i hi, HP.out]
        have e2 : n - (n - 1 - k) = k + 1 := by omega
        rw [e2]
      clear hp
      have j1 : IntKind.i64.wrap ((p : Int) + 1) = (p : Int) + 1 := wrap_p1 (by omega)
      have j2 : ((p : Int) + 1).toNat = p + 1 := rfl
      go_wp2
      go_region_with (first | (go_at_call 32; refine (HA.out _ _ _ ⟨_, rfl⟩).mono ?_; rintro e w' ⟨rfl, hO', hb'⟩))
      all_goals
        go_wp2
        go_roundw
        case rel => exact ⟨k + 1, by omega, by go_num, hO', hb'⟩
        case measure => simp [intOf]; omega
    · obtain rfl : k = n := by omega
      go_wp2
      go_ret
      exact ⟨rfl, hO.congr (fun i _ => vr_all hl.out i), hb⟩
set_option maxHeartbeats 2000000 in
set_option maxRecDepth 1000000 in
theorem vanish_nil (a : Option Addr) (c : Nat) (w : World) :
    Calls Try.prog 53 #[.slice a 0 c] w fun e w' => e = .returned (.slice (some ⟨w.heap.size, 0, none⟩) 1 1) ∧ w' = w.alloc (.cells #[.int .u8 1] 48) := by
  have hmk : ∀ w, (Instr.makeSlice 25 (.int .i64 1) (.int .i64 1)).run Try.prog w = .ok (.slice (some ⟨w.heap.size, 0, none⟩) 1 1) (w.alloc (.cells #[.int .u8 0] 48)) := fun w => make_el 1 (by omega) w
  go_enter Try.func53, Try.ntmps53
  go_wp2
  refine wp_loop_rounds 1 ?_
  rw [rounds_succ]
  go_wp2
  go_ret
  exact ⟨rfl, rfl⟩
end
theorem van_rev (xs : List (BitVec 8)) : ∀ i, co (van xs.reverse) i = co (van xs) i := by
  have key : ∀ (l m : List (BitVec 8)) (i : Nat), co (van (l ++ m)) i = co (mul (van l) (van m)) i := by
    intro l m
    induction l with
    | nil => intro i; show co (van m) i = co (mul [1#8] (van m)) i; rw [mul_one_l]
    | cons a l ih =>
      intro i
      show co (mul (van (l ++ m)) [a, 1#8]) i = co (mul (mul (van l) [a, 1#8]) (van m)) i
      rw [mul_congr ih (fun _ => rfl), mul_assoc, mul_assoc, mul_congr_r _ (mul_comm (van m) [a, 1#8])]
  induction xs with
  | nil => intro i; rfl
  | cons a xs ih =>
    intro i
    rw [List.reverse_cons, key, mul_congr ih (fun j => by show co (mul [1#8] [a, 1#8]) j = co [a, 1#8] j; rw [mul_one_l])]
    rfl
theorem van_rev_eq (xs : List (BitVec 8)) : van xs.reverse = van xs := by
  rw [← van_trim xs.reverse, ← van_trim xs]; exact trim_congr (van_rev xs)
theorem pvanish_any {w : World} {v : Value} {xs : List (BitVec 8)} (h : Sl w v xs) (hn : xs.length + 1 ≤ 281474976710656) :
    Calls Try.prog 53 #[v] w fun e w' => ∃ v', e = .returned v' ∧ Rs 48 w.heap.size w' v' (van xs) ∧ Below w.heap.size w w' := by
  by_cases h0 : xs = []
  · subst h0
    obtain ⟨p, c, rfl⟩ := h.empty
    refine (vanish_nil p c w).mono ?_
    rintro e w' ⟨he, rfl⟩
    refine ⟨_, he, ?_, (Below.refl _ _).alloc (Nat.le_refl _) _⟩
    have ho : Own (w.alloc (.cells #[.int .u8 1] 48)) 48 w.heap.size (fun _ => 1#8) 1 := by
      unfold Own; rw [heap_alloc_new]; rfl
    exact ho.rs (xs := [1#8]) (Nat.le_refl _) (by omega) (Nat.le_refl _) (fun i hi => by
      have h1 : i = 0 := by simpa using hi
      subst h1; rfl)
  · obtain ⟨b, o, c, rfl, _, _, _, hc⟩ := h.cells h0
    refine (vanish_core b o _ c xs w rfl hn hc).mono ?_
    rintro e w' ⟨he, ho, hb⟩
    refine ⟨_, he, ?_, hb⟩
    have hl := van_len xs
    rw [← hl] at ho ⊢
    exact ho.rs (Nat.le_refl _) (by omega) (Nat.le_refl _) (fun i _ => van_rev xs i)
end Go.Proofs.Ytbjmdijphciliaa
