/-
  'Plus', 'Scale', 'Derive'.
-/
import Derived.Test.YtbjmdijphciliaaJoin
namespace Go.Proofs.Ytbjmdijphciliaa
open Go.RowKit

theorem joinPlus_any {w : World} {B L cq n c : Nat} {p pq : Option Addr} {xs qs : List (BitVec 8)} (h : Rd w p xs) (hl : xs.length = n) (hn : n ≤ 281474976710656) (HB : w.cell? ⟨B, 0, none⟩ = some (.slice pq L cq)) (hlq : qs.length = L) (hr : Rd w pq qs) (hle : L ≤ n) :
    Calls Try.prog 29 #[.slice p n c, .func (.func 28) #[] #[.pointer (some ⟨B, 0, none⟩)], .func (.func 30) #[] #[]] w fun e w' => ∃ v, e = .returned v ∧ Rs 48 w.heap.size w' v (trim (add xs qs)) ∧ Below w.heap.size w w' := by
  rcases h with h | ⟨b, o, rfl, hc⟩
  · subst h; subst hl
    have : qs = [] := List.length_eq_zero_iff.1 (by simp at hle; omega)
    subst this
    exact join_nil p c _ _ w
  · have := joinPlus_core b o n c (co xs) B L cq pq qs w hn (by rw [hl] at hc; exact hc) HB hlq hr
    rw [trim_congr (p := ls (fun i => co xs i ^^^ co qs i) n) (q := add xs qs) (fun i => by
      rw [co_ls, co_add]
      by_cases hi : i < n
      · rw [if_pos hi]
      · rw [if_neg hi, co_ge (p := xs) (by omega), co_ge (p := qs) (by omega)]; rfl)] at this
    exact this
theorem joinScale_any {w : World} {B n c : Nat} {p : Option Addr} {xs : List (BitVec 8)} {cc : BitVec 8} (h : Rd w p xs) (hl : xs.length = n) (hn : n ≤ 281474976710656) (HB : w.cell? ⟨B, 0, none⟩ = some (.int .u8 (el cc))) :
    Calls Try.prog 29 #[.slice p n c, .func (.func 61) #[] #[.pointer (some ⟨B, 0, none⟩)], .func (.func 34) #[] #[]] w fun e w' => ∃ v, e = .returned v ∧ Rs 48 w.heap.size w' v (trim (smul cc xs)) ∧ Below w.heap.size w w' := by
  rcases h with h | ⟨b, o, rfl, hc⟩
  · subst h; subst hl
    exact join_nil p c _ _ w
  · have := joinScale_core b o n c (co xs) B cc w hn (by rw [hl] at hc; exact hc) HB
    rw [trim_congr (p := ls (fun i => gm (co xs i) cc) n) (q := smul cc xs) (fun i => by
      rw [co_ls, co_smul, gm_comm cc]
      by_cases hi : i < n
      · rw [if_pos hi]
      · rw [if_neg hi, co_ge (p := xs) (by omega), gm_zero_l])] at this
    exact this
/-- The derivative. -/
def der (p : List (BitVec 8)) : List (BitVec 8) := ls (fun i => gm (co p (i + 1)) (oft i)) (p.length - 1)
section
attribute [local irreducible] Calls el gm trim co Own Rs Rd oft der add smul
set_option maxHeartbeats 1000000 in
set_option maxRecDepth 1000000 in
theorem plus_ge (p1 p2 : Option Addr) (n1 n2 c1 c2 : Nat) (xs ys : List (BitVec 8)) (w : World) (h1 : Rd w p1 xs) (h2 : Rd w p2 ys) (hl1 : Hid (xs.length = n1)) (hl2 : Hid (ys.length = n2)) (hn1 : n1 ≤ 281474976710656) (hge : n2 ≤ n1) :
    Calls Try.prog 16 #[.slice p1 n1 c1, .slice p2 n2 c2] w fun e w' => ∃ v, e = .returned v ∧ Rs 48 w.heap.size w' v (trim (add xs ys)) ∧ Below w.heap.size w w' := by
  have i1 : ¬ (n1 : Int) < (n2 : Int) := by omega
  have hb : Below w.heap.size w (w.alloc (.cells #[.slice p2 n2 c2] 25)) := (Below.refl _ _).alloc (Nat.le_refl _) _
  have hc : (w.alloc (.cells #[.slice p2 n2 c2] 25)).cell? ⟨w.heap.size, 0, none⟩ = some (.slice p2 n2 c2) := cell_of_row _ _ _ _ _ (0, 0) (heap_alloc_any _ _ _)
  have hj := joinPlus_any (c := c1) (h1.below hb) hl1.out hn1 hc hl2.out (h2.below hb) hge
  have HJ := (show Hid _ from hj)
  clear hj hc
  go_enter Try.func16, Try.ntmps16
  go_wp2_with (go_at_call 29; refine HJ.out.mono ?_; rintro e w' ⟨v, rfl, hR, hb2⟩)
  go_ret
  exact ⟨v, rfl, hR.mono (by simp), bt hb hb2⟩
set_option maxHeartbeats 1000000 in
set_option maxRecDepth 1000000 in
theorem plus_lt (p1 p2 : Option Addr) (n1 n2 c1 c2 : Nat) (xs ys : List (BitVec 8)) (w : World) (h1 : Rd w p1 xs) (h2 : Rd w p2 ys) (hl1 : Hid (xs.length = n1)) (hl2 : Hid (ys.length = n2)) (hn2 : n2 ≤ 281474976710656) (hlt : n1 < n2) :
    Calls Try.prog 16 #[.slice p1 n1 c1, .slice p2 n2 c2] w fun e w' => ∃ v, e = .returned v ∧ Rs 48 w.heap.size w' v (trim (add ys xs)) ∧ Below w.heap.size w w' := by
  have i1 : (n1 : Int) < (n2 : Int) := by omega
  have hb : Below w.heap.size w (w.alloc (.cells #[.slice p1 n1 c1] 25)) := (Below.refl _ _).alloc (Nat.le_refl _) _
  have hc : (w.alloc (.cells #[.slice p1 n1 c1] 25)).cell? ⟨w.heap.size, 0, none⟩ = some (.slice p1 n1 c1) := cell_of_row _ _ _ _ _ (0, 0) (heap_alloc_any _ _ _)
  have hj := joinPlus_any (c := c2) (h2.below hb) hl2.out hn2 hc hl1.out (h1.below hb) (by omega)
  have HJ := (show Hid _ from hj)
  clear hj hc
  go_enter Try.func16, Try.ntmps16
  go_wp2_with (go_at_call 29; refine HJ.out.mono ?_; rintro e w' ⟨v, rfl, hR, hb2⟩)
  go_ret
  exact ⟨v, rfl, hR.mono (by simp), bt hb hb2⟩
set_option maxHeartbeats 1000000 in
set_option maxRecDepth 1000000 in
theorem scale_any (p1 : Option Addr) (n1 c1 : Nat) (xs : List (BitVec 8)) (cc : BitVec 8) (w : World) (h1 : Rd w p1 xs) (hl1 : Hid (xs.length = n1)) (hn1 : n1 ≤ 281474976710656) :
    Calls Try.prog 51 #[.slice p1 n1 c1, .int .u8 (el cc)] w fun e w' => ∃ v, e = .returned v ∧ Rs 48 w.heap.size w' v (trim (smul cc xs)) ∧ Below w.heap.size w w' := by
  have hb : Below w.heap.size w (w.alloc (.cells #[.int .u8 (el cc)] 48)) := (Below.refl _ _).alloc (Nat.le_refl _) _
  have hc : (w.alloc (.cells #[.int .u8 (el cc)] 48)).cell? ⟨w.heap.size, 0, none⟩ = some (.int .u8 (el cc)) := cell_of_row _ _ _ _ _ (0, 0) (heap_alloc_any _ _ _)
  have hj := joinScale_any (c := c1) (h1.below hb) hl1.out hn1 hc
  have HJ := (show Hid _ from hj)
  clear hj hc
  go_enter Try.func51, Try.ntmps51
  go_wp2_with (go_at_call 29; refine HJ.out.mono ?_; rintro e w' ⟨v, rfl, hR, hb2⟩)
  go_ret
  exact ⟨v, rfl, hR.mono (by simp), bt hb hb2⟩
set_option maxRecDepth 1000000 in
theorem derive_nil (p1 : Option Addr) (c1 : Nat) (w : World) :
    Calls Try.prog 52 #[.slice p1 0 c1] w fun e w' => e = .returned (.slice none 0 0) ∧ w' = w := by
  go_enter Try.func52, Try.ntmps52
  go_wp2
  go_ret
  exact ⟨rfl, rfl⟩
set_option maxHeartbeats 1000000 in
set_option maxRecDepth 1000000 in
theorem derive_core (b o n c1 : Nat) (xs : List (BitVec 8)) (w : World) (hl1 : Hid (xs.length = n)) (hn : n ≤ 281474976710656) (hc : n ≤ c1) (h0 : 0 < n) (hc1 : c1 ≠ 1)
    (H1 : Hid (∀ i, i < n → w.cell? ⟨b, o + i, none⟩ = some (.int .u8 (el (co xs i))))) :
    Calls Try.prog 52 #[.slice (some ⟨b, o, none⟩) n c1] w fun e w' => ∃ v, e = .returned v ∧ Rs 48 w.heap.size w' v (trim (der xs)) ∧ Below w.heap.size w w' := by
  have HJ : Hid (∀ c2 : Nat, Calls Try.prog 29 #[.slice (some ⟨b, o + 1, none⟩) (n - 1) c2, .func (.func 62) #[] #[], .func (.func 34) #[] #[]] w fun e w' => ∃ v, e = .returned v ∧ Rs 48 w.heap.size w' v (trim (der xs)) ∧ Below w.heap.size w w') := fun c2 => by
    have := joinDerive_core b (o + 1) (n - 1) c2 (fun i => co xs (i + 1)) w (by omega) (fun i hi => by rw [show o + 1 + i = o + (i + 1) by omega]; exact H1.out (i + 1) (by omega))
    rw [← hl1.out] at this
    unfold der
    rw [← hl1.out]; exact this
  have i1 : ¬ (n : Int) = 0 := by omega
  have i2 : ((n : Int) == 0) = false := by simp; omega
  have i3 : (1 : Int) ≤ (n : Int) := by omega
  have i4 : (n : Int) ≤ (c1 : Int) := by omega
  have i5 : ¬ (c1 : Int) = 1 := by omega
  clear H1 hl1
  go_enter Try.func52, Try.ntmps52
  go_wp2_with (go_at_call 29; refine (HJ.out _).mono ?_; rintro e w' ⟨v, rfl, hR, hb2⟩)
  go_ret
  exact ⟨v, rfl, hR, hb2⟩
set_option maxHeartbeats 1000000 in
set_option maxRecDepth 1000000 in
theorem derive_one (b o : Nat) (w : World) :
    Calls Try.prog 52 #[.slice (some ⟨b, o, none⟩) 1 1] w fun e w' => ∃ v, e = .returned v ∧ Rs 48 w.heap.size w' v [] ∧ Below w.heap.size w w' := by
  have HJ : Hid (∀ (a : Option Addr) (c2 : Nat) (f1 f2 : Value), Calls Try.prog 29 #[.slice a 0 c2, f1, f2] w fun e w' => ∃ v, e = .returned v ∧ Rs 48 w.heap.size w' v [] ∧ Below w.heap.size w w') := fun a c2 f1 f2 => join_nil a c2 f1 f2 w
  go_enter Try.func52, Try.ntmps52
  go_wp2_with (go_at_call 29; refine (HJ.out _ _ _ _).mono ?_; rintro e w' ⟨v, rfl, hR, hb2⟩)
  go_ret
  exact ⟨v, rfl, hR, hb2⟩
end
theorem pplus_any {w : World} {v1 v2 : Value} {xs ys : List (BitVec 8)} (h1 : Sl w v1 xs) (h2 : Sl w v2 ys) (hn1 : xs.length ≤ 281474976710656) (hn2 : ys.length ≤ 281474976710656) :
    Calls Try.prog 16 #[v1, v2] w fun e w' => ∃ v, e = .returned v ∧ Rs 48 w.heap.size w' v (trim (add xs ys)) ∧ Below w.heap.size w w' := by
  obtain ⟨p1, c1, rfl, _, _, hr1, _⟩ := h1
  obtain ⟨p2, c2, rfl, _, _, hr2, _⟩ := h2
  by_cases h : xs.length < ys.length
  · rw [trim_congr (p := add xs ys) (q := add ys xs) (fun i => by rw [co_add, co_add, BitVec.xor_comm])]
    exact plus_lt p1 p2 _ _ c1 c2 xs ys w hr1 hr2 rfl rfl hn2 h
  · exact plus_ge p1 p2 _ _ c1 c2 xs ys w hr1 hr2 rfl rfl hn1 (by omega)
theorem pscale_any {w : World} {v1 : Value} {xs : List (BitVec 8)} (h1 : Sl w v1 xs) (cc : BitVec 8) (hn1 : xs.length ≤ 281474976710656) :
    Calls Try.prog 51 #[v1, .int .u8 (el cc)] w fun e w' => ∃ v, e = .returned v ∧ Rs 48 w.heap.size w' v (trim (smul cc xs)) ∧ Below w.heap.size w w' := by
  obtain ⟨p1, c1, rfl, _, _, hr1, _⟩ := h1
  exact scale_any p1 _ c1 xs cc w hr1 rfl hn1
theorem pderive_any {w : World} {v1 : Value} {xs : List (BitVec 8)} (h1 : Sl w v1 xs) (hn1 : xs.length ≤ 281474976710656) :
    Calls Try.prog 52 #[v1] w fun e w' => ∃ v, e = .returned v ∧ Rs 48 w.heap.size w' v (trim (der xs)) ∧ Below w.heap.size w w' := by
  obtain ⟨p1, c1, rfl, hc, _, hr1, _⟩ := h1
  rcases hr1 with h | ⟨b, o, rfl, hcell⟩
  · subst h
    exact (derive_nil p1 c1 w).mono fun e w' ⟨he, hw⟩ => ⟨_, he, by rw [hw]; exact Rs.nil _ _ _, by rw [hw]; exact Below.refl _ _⟩
  · by_cases h0 : xs.length = 0
    · have : xs = [] := List.length_eq_zero_iff.1 h0
      subst this
      exact (derive_nil _ c1 w).mono fun e w' ⟨he, hw⟩ => ⟨_, he, by rw [hw]; exact Rs.nil _ _ _, by rw [hw]; exact Below.refl _ _⟩
    · by_cases hc1 : c1 = 1
      · have h1 : xs.length = 1 := by omega
        rw [hc1, h1, show trim (der xs) = [] from trim_nil_of (fun i => by unfold der; rw [co_ls, if_neg (by omega)])]
        exact derive_one b o w
      · exact derive_core b o _ c1 xs w rfl hn1 hc (by omega) hc1 hcell
end Go.Proofs.Ytbjmdijphciliaa
