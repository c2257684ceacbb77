/-
  The document's 'Powers'.
-/
import Derived.Test.YtchmggehbajebabKf
namespace Go.Proofs.Ytchmggehbajebab
open Go.RowKit
/-- x, x times p, .. -/
def pwk {K : Type} (ti : K → K → K) (p x : K) : Nat → K
  | 0 => x
  | j + 1 => ti (pwk ti p x j) p
theorem pwk_succ {K : Type} (ti : K → K → K) (p x : K) (j : Nat) : pwk ti p x (j + 1) = ti (pwk ti p x j) p := rfl
def pc (cols : Int) (n : Nat) : Int := if cols < 0 then 2 else if 255 < cols then 3 else if 255 < n then 3 else 0
theorem refPowers_err (s cols one c : Int) (p : Option Addr) (n cap : Nat) (h : (cols < 0 ∧ c = 2) ∨ (¬ cols < 0 ∧ 255 < cols ∧ c = 3) ∨ (¬ cols < 0 ∧ ¬ 255 < cols ∧ 255 < (n : Int) ∧ c = 3)) (w : World) :
    Calls Try.prog 40 #[.int .i64 s, .slice p n cap, .int .i64 cols, .int .i64 one] w fun e w' => e = .returned (.tuple #[.slice none 0 0, .int .i64 c]) ∧ w' = w := by
  rcases h with ⟨h, rfl⟩ | ⟨h, h2, rfl⟩ | ⟨h, h2, h3, rfl⟩
  · go_enter Try.func40, Try.ntmps40
    go_wp2
    go_ret2
    exact ⟨rfl, rfl⟩
  · go_enter Try.func40, Try.ntmps40
    go_wp2
    go_ret2
    exact ⟨rfl, rfl⟩
  · go_enter Try.func40, Try.ntmps40
    go_wp2
    go_ret2
    exact ⟨rfl, rfl⟩
theorem own_ir {w : World} {base n : Nat} {v : Value} {f : Nat → Int} (h : w.ownsRow base 3 1 v n (lv (fun j => .int .i64 (f j)) n)) : Ir w v n f := owns_st1 h
section
attribute [local irreducible] Calls lv Ir pwk
set_option maxHeartbeats 4000000 in
set_option maxRecDepth 1000000 in
theorem refPowers_core {K : Type} (nu : K → Int) (ti : K → K → K) (s : Int) (HM : Hid (∀ x y (w : World), Calls Try.prog 71 #[.int .i64 s, .int .i64 (nu x), .int .i64 (nu y)] w fun e w' => e = .returned (.int .i64 (nu (ti x y))) ∧ w' = w))
    (b o n c m : Nat) (f : Nat → K) (x : K) (w : World) (hn : n ≤ 255) (hm : m ≤ 255) (H1 : Hid (∀ i, i < n → w.cell? ⟨b, o + i, none⟩ = some (.int .i64 (nu (f i))))) :
    Calls Try.prog 40 #[.int .i64 s, .slice (some ⟨b, o, none⟩) n c, .int .i64 (m : Int), .int .i64 (nu x)] w fun e w' => ∃ v, e = .returned (.tuple #[v, .int .i64 0]) ∧ Im w' v n (fun _ => m) (fun i j => nu (pwk ti (f i) x j)) ∧ Below w.heap.size w w' := by
  obtain ⟨i0, hi, hz0, hz1, hz2⟩ := info_parts infoIR
  obtain ⟨ii0, hii, hiz0, hiz1, hiz2⟩ := info_parts infoI
  have k0 : ¬ (m : Int) < 0 := by omega
  have k1 : ¬ 255 < (m : Int) := by omega
  have k2 : ¬ 255 < (n : Int) := by omega
  go_enter Try.func40, Try.ntmps40
  go_wp2
  go_loopw [10, 11] (fun v i wr => ∃ (k : Nat) (rows : Nat → Value), k ≤ n ∧ i = .int .i64 k ∧ wr.ownsRow w.heap.size 23 1 v k (lv rows k) ∧ Hid (∀ i, i < k → Ir wr (rows i) m (fun j => nu (pwk ti (f i) x j))) ∧ Below w.heap.size w wr) (fun _ i _ => n - (intOf i).toNat)
  case atStart => exact ⟨0, fun _ => .bool false, Nat.zero_le _, rfl, lv_none _ _ _ _ _, fun i hi => by omega, Below.refl _ _⟩
  case round =>
    obtain ⟨k, rows, hk, rfl, hown, hR, hb⟩ := hrel
    by_cases hlt : k < n
    · have g1 := cell_below (H1.out k hlt) hb
      have j1 : (k : Int) < (n : Int) := by omega
      have M1 : Hid (k + 1 ≤ maxLen) := by show _ ≤ _; unfold maxLen; omega
      have G1 := (show Hid _ from g1)
      have HB := (show Hid _ from hb)
      have HOW := (show Hid _ from hown)
      obtain ⟨W0, hW0⟩ : ∃ W0, W0 = wr := ⟨_, rfl⟩
      subst hW0
      clear g1 hb hown
      go_wp2
      go_loopw [12, 13, 14] (fun v y j wq => ∃ t : Nat, t ≤ m ∧ j = .int .i64 t ∧ y = .int .i64 (nu (pwk ti (f k) x t)) ∧ wq.ownsRow W0.heap.size 3 1 v t (lv (fun j => .int .i64 (nu (pwk ti (f k) x j))) t) ∧ Below W0.heap.size W0 wq) (fun _ _ j _ => m - (intOf j).toNat)
      case atStart => exact ⟨0, Nat.zero_le _, rfl, by unfold pwk; rfl, lv_none _ _ _ _ _, Below.refl _ _⟩
      case round =>
        obtain ⟨t, ht, rfl, rfl, hownr, hbq⟩ := hrel
        by_cases hltm : t < m
        · have i1 : (t : Int) < (m : Int) := by omega
          have M2 : Hid (t + 1 ≤ maxLen) := by show _ ≤ _; unfold maxLen; omega
          have M3 : Hid (∀ o : Obj, W0.heap.size ≤ (wr.alloc o).heap.size) := fun o => by have := hbq.size; simp; omega
          go_wp2_with (first
            | (at_builtin; refine wpList_append_own _ rfl _ _ 23 rfl W0.heap.size 3 ii0 (.int .i64 0) 1 8 Try.underlying23 hii hiz0 hiz1 hiz2 rfl (by decide) _ _ _ rfl (hownr.alloc _) ⟨wr.heap.size, 0, none⟩ 1 1 [.int .i64 (nu (pwk ti (f k) x t))] rfl rfl (one_new _ _ _) (one_cellv rfl) M2.out (by omega) (M3.out _) ?_; intro v' w1 hown' hgrow _; have hb' := below_append (hbq.alloc hbq.size _) (M3.out _) hgrow (hownr.alloc _) (Nat.le_refl _); have g5 := cell_below G1.out hb')
            | (go_at_call 71; refine (HM.out (pwk ti (f k) x t) (f k) _).mono ?_; rintro e w' ⟨rfl, h⟩; obtain rfl := h.symm))
          rw [← lv_succ (fun j => .int .i64 (nu (pwk ti (f k) x j))) t] at hown'
          clear hownr hgrow g5
          go_roundw
          case rel => exact ⟨t + 1, by omega, by go_num, by rw [pwk_succ], hown', hb'⟩
          case measure => simp [intOf]; omega
        · obtain rfl : t = m := by omega
          have hI1 : Ir wr _ t (fun j => nu (pwk ti (f k) x j)) := own_ir hownr
          obtain ⟨px, cx, ex⟩ := hI1.form
          subst ex
          have hown1 := owns_below HOW.out hbq
          have hsz := HB.out.size
          have hsz2 := hbq.size
          go_wp2_with (at_builtin; refine wpList_append_own _ rfl _ _ 22 rfl w.heap.size 23 i0 (.slice none 0 0) 1 24 Try.underlying22 hi hz0 hz1 hz2 rfl (by decide) _ _ _ rfl (hown1.alloc _) ⟨_, 0, none⟩ 1 1 [.slice px t cx] rfl rfl (one_new _ _ _) (one_cellv rfl) M1.out (by omega) (by simp at *; omega) ?_; intro v' w3 hown' hgrow _)
          have hb3 := below_append ((bt HB.out hbq).alloc (by omega) _) (by simp at *; omega) hgrow (hown1.alloc _) (Nat.le_refl _)
          rw [push_lv] at hown'
          have hR3 : Hid (∀ i, i < k + 1 → Ir w3 ((fun i => if i = k then .slice px t cx else rows i) i) t (fun j => nu (pwk ti (f i) x j))) := push_ir (l := fun _ => t) (M := fun i j => nu (pwk ti (f i) x j)) hown1 hgrow (fun i hi => (hR.out i hi).below hbq) hI1
          clear hgrow hR hown1 hI1 hownr
          exact ⟨⟨k + 1, _, by omega, by go_num, hown', hR3, hb3⟩, by simp [intOf]; omega⟩
    · obtain rfl : k = n := by omega
      go_wp2
      go_ret2
      exact ⟨_, rfl, ⟨rows, owns_st1 hown, hR.out⟩, hb⟩
set_option maxRecDepth 1000000 in
theorem refPowers_nil (s one : Int) (m : Nat) (hm : m ≤ 255) (p : Option Addr) (cap : Nat) (w : World) :
    Calls Try.prog 40 #[.int .i64 s, .slice p 0 cap, .int .i64 (m : Int), .int .i64 one] w fun e w' => e = .returned (.tuple #[.slice none 0 0, .int .i64 0]) ∧ w' = w := by
  have k0 : ¬ (m : Int) < 0 := by omega
  have k1 : ¬ 255 < (m : Int) := by omega
  go_enter Try.func40, Try.ntmps40
  go_wp2
  refine wp_loop_rounds 1 ?_
  rw [rounds_succ]
  go_wp2
  go_ret2
  exact ⟨rfl, rfl⟩
end
/-- How many rows, and how long, are answered. -/
def pn (cols : Int) (n : Nat) : Nat := if pc cols n = 0 then n else 0
theorem refPowers_any {K : Type} (nu : K → Int) (ti : K → K → K) (s : Int) (HM : ∀ x y (w : World), Calls Try.prog 71 #[.int .i64 s, .int .i64 (nu x), .int .i64 (nu y)] w fun e w' => e = .returned (.int .i64 (nu (ti x y))) ∧ w' = w)
    {w : World} {v : Value} {n : Nat} {f : Nat → K} (h : Jr w v n (fun j => nu (f j))) (cols : Int) (x : K) :
    Calls Try.prog 40 #[.int .i64 s, v, .int .i64 cols, .int .i64 (nu x)] w fun e w' => ∃ v', e = .returned (.tuple #[v', .int .i64 (pc cols n)]) ∧ Im w' v' (pn cols n) (fun _ => cols.toNat) (fun i j => nu (pwk ti (f i) x j)) ∧ Below w.heap.size w w' := by
  have bad : ∀ c : Int, pc cols n = c → ¬ c = 0 → ((cols < 0 ∧ c = 2) ∨ (¬ cols < 0 ∧ 255 < cols ∧ c = 3) ∨ (¬ cols < 0 ∧ ¬ 255 < cols ∧ 255 < (n : Int) ∧ c = 3)) → Calls Try.prog 40 #[.int .i64 s, v, .int .i64 cols, .int .i64 (nu x)] w fun e w' => ∃ v', e = .returned (.tuple #[v', .int .i64 (pc cols n)]) ∧ Im w' v' (pn cols n) (fun _ => cols.toNat) (fun i j => nu (pwk ti (f i) x j)) ∧ Below w.heap.size w w' := by
    intro c hc h0 hh
    obtain ⟨p, cap, rfl, _⟩ := h
    have e2 : pn cols n = 0 := by unfold pn; rw [hc, if_neg h0]
    rw [hc, e2]
    exact (refPowers_err s cols (nu x) c p n cap hh w).mono fun e w' ⟨he, hw⟩ => ⟨_, he, Im.nil _ _ _, by rw [hw]; exact Below.refl _ _⟩
  by_cases h1 : cols < 0
  · exact bad 2 (by unfold pc; rw [if_pos h1]) (by decide) (.inl ⟨h1, rfl⟩)
  · by_cases h2 : 255 < cols
    · exact bad 3 (by unfold pc; rw [if_neg h1, if_pos h2]) (by decide) (.inr (.inl ⟨h1, h2, rfl⟩))
    · by_cases h3 : 255 < n
      · exact bad 3 (by unfold pc; rw [if_neg h1, if_neg h2, if_pos h3]) (by decide) (.inr (.inr ⟨h1, h2, by omega, rfl⟩))
      · have e1 : pc cols n = 0 := by unfold pc; rw [if_neg h1, if_neg h2, if_neg h3]
        have e2 : pn cols n = n := by unfold pn; rw [e1, if_pos rfl]
        obtain ⟨m, rfl⟩ : ∃ m : Nat, cols = m := ⟨cols.toNat, by omega⟩
        rw [e1, e2, Int.toNat_natCast]
        by_cases h0 : n = 0
        · subst h0
          obtain ⟨p, cap, rfl, _⟩ := h
          exact (refPowers_nil s (nu x) m (by omega) p cap w).mono fun e w' ⟨he, hw⟩ => ⟨_, he, Im.nil _ _ _, by rw [hw]; exact Below.refl _ _⟩
        · obtain ⟨b, o, c, rfl, hc⟩ := Sv.cells h (by omega)
          exact refPowers_core nu ti s HM b o n c m f x w (by omega) (by omega) hc
end Go.Proofs.Ytchmggehbajebab
