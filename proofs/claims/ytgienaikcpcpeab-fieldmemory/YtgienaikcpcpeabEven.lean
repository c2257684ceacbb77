/-
  'even': two rows cut to one length, copied.
-/
import Derived.Test.YtgienaikcpcpeabOwn
import Derived.Deep.RegionLawGrows
namespace Go.Proofs.Ytgienaikcpcpeab
open Go.RowKit

def vals (x : Nat → BitVec 8) (m : Nat) : List Value := (List.range m).map fun i => Value.int .u8 (el (x i))
theorem vals_len (x : Nat → BitVec 8) (m : Nat) : (vals x m).length = m := by simp [vals]
theorem vals_get {x : Nat → BitVec 8} {m j : Nat} {u : Value} (h : (vals x m)[j]? = some u) : j < m ∧ u = .int .u8 (el (x j)) := by
  unfold vals at h
  rw [List.getElem?_map] at h
  by_cases hj : j < m
  · rw [List.getElem?_range hj] at h; simp at h; exact ⟨hj, h.symm⟩
  · rw [List.getElem?_eq_none (by simp; omega)] at h; cases h
theorem vals_at (x : Nat → BitVec 8) (m j : Nat) (h : j < m) : (vals x m)[j]? = some (.int .u8 (el (x j))) := by
  unfold vals; rw [List.getElem?_map, List.getElem?_range h]; rfl
theorem vals_one (x : Nat → BitVec 8) (m : Nat) : ∀ u ∈ vals x m, u.oneCell' = true := by
  intro u hu
  unfold vals at hu
  obtain ⟨i, _, rfl⟩ := List.mem_map.1 hu
  rfl
theorem below_of_grown {w w' : World} (h : w.grownBy w' none) : Below w.heap.size w w' := ⟨h.os, h.tape, h.output, h.size, fun k hk => h.block k hk (by simp)⟩
theorem add_plain (b o j : Nat) : (⟨b, o, none⟩ : Addr).add j = ⟨b, o + j, none⟩ := by unfold Addr.add; split <;> simp_all
/-- What an append made: a row of the call's own that reads so. -/
structure Made (w : World) (g cap n : Nat) (x : Nat → BitVec 8) : Prop where
  cur : ∃ c, w.heap[g]? = some (.cells c 5 (0, 0)) ∧ c.size = cap ∧ c.toList.take n = vals x n
  le : n ≤ cap
  lim : cap ≤ maxLen
theorem made_of {w : World} {base n : Nat} {v : Value} {x : Nat → BitVec 8} (h : w.ownsRow base 5 1 v n (vals x n)) (hn : 0 < n) : ∃ g cap, v = .slice (some ⟨g, 0, none⟩) n cap ∧ base ≤ g ∧ Made w g cap n x := by
  rcases h.2 with ⟨_, h0⟩ | ⟨g, cap, c, hv, hg, hh, hc, hm, hs, ht⟩
  · omega
  · exact ⟨g, cap, hv, hg, ⟨c, hh, by omega, by rw [← ht, Nat.mul_one]⟩, hc, hm⟩
theorem Made.cell {w : World} {g cap n : Nat} {x : Nat → BitVec 8} (h : Made w g cap n x) {i : Nat} (hi : i < n) : w.cell? ⟨g, i, none⟩ = some (.int .u8 (el (x i))) := by
  obtain ⟨c, hh, hs, ht⟩ := h.cur
  rw [cell_of_row w g i _ _ _ hh]
  have h1 : (c.toList.take n)[i]? = some (.int .u8 (el (x i))) := by rw [ht, vals_at x n i hi]
  rw [List.getElem?_take_of_lt hi] at h1
  simpa using h1
theorem Made.lt {w : World} {g cap n : Nat} {x : Nat → BitVec 8} (h : Made w g cap n x) : g < w.heap.size := by
  obtain ⟨c, hh, _⟩ := h.cur
  rcases Nat.lt_or_ge g w.heap.size with h1 | h1
  · exact h1
  · rw [Array.getElem?_eq_none h1] at hh; cases hh
theorem Made.below {w w' : World} {g cap n : Nat} {x : Nat → BitVec 8} (h : Made w g cap n x) (hb : Below w.heap.size w w') : Made w' g cap n x := by
  obtain ⟨c, hh, hs⟩ := h.cur
  exact ⟨⟨c, by rw [hb.block g h.lt]; exact hh, hs⟩, h.le, h.lim⟩
theorem Made.rd {w : World} {g cap n : Nat} {x : Nat → BitVec 8} (h : Made w g cap n x) : Rd w (some ⟨g, 0, none⟩) ((List.range n).map x) := by
  refine .inr ⟨g, 0, rfl, fun i hi => ?_⟩
  have hi' : i < n := by simpa using hi
  rw [Nat.zero_add, h.cell hi']; simp [hi']

section
attribute [local irreducible] Calls el gm Own
set_option maxHeartbeats 1000000 in
set_option maxRecDepth 1000000 in
theorem even_r (b1 o1 n1 c1 b2 o2 n2 c2 : Nat) (x y : Nat → BitVec 8) (w : World) (hn1 : n1 ≤ c1) (hn2 : n2 ≤ c2) (hlt : n2 < n1) (h0 : 0 < n2) (hl2 : n2 ≤ 140737488355328)
    (H1 : Hid (∀ W, Below w.heap.size w W → ∀ j u, (vals x n2)[j]? = some u → W.cell? ((⟨b1, o1, none⟩ : Addr).add j) = some u)) (H2 : Hid (∀ W, Below w.heap.size w W → ∀ j u, (vals y n2)[j]? = some u → W.cell? ((⟨b2, o2, none⟩ : Addr).add j) = some u)) :
    Calls Try.prog 6 #[.slice (some ⟨b1, o1, none⟩) n1 c1, .slice (some ⟨b2, o2, none⟩) n2 c2] w fun e w' => ∃ g1 k1 g2 k2, e = .returned (.tuple #[.slice (some ⟨g1, 0, none⟩) n2 k1, .slice (some ⟨g2, 0, none⟩) n2 k2]) ∧ w.heap.size ≤ g1 ∧ w.heap.size ≤ g2 ∧ g1 ≠ g2 ∧ Made w' g1 k1 n2 x ∧ Made w' g2 k2 n2 y ∧ Below w.heap.size w w' := by
  obtain ⟨i0, hi, hz0, hz1, hz2⟩ := info_parts info5
  have L1 : Hid ((vals x n2).length = n2 * 1) := by show _ = _; rw [vals_len, Nat.mul_one]
  have L2 : Hid ((vals y n2).length = n2 * 1) := by show _ = _; rw [vals_len, Nat.mul_one]
  have M1 : Hid (0 + n2 ≤ maxLen) := by show _ ≤ _; unfold maxLen; omega
  have q1 : n2 ≤ c1 := by omega
  have q2 : n2 ≤ c2 := by omega
  have hbw : Below w.heap.size w w.drew := (Below.refl _ _).drew
  go_enter Try.func6, Try.ntmps6
  go_wp2_with fail
  go_region_law (first | (refine step_append_grows rfl (.const (.slice none 0 0)) (.tmp 14) 22 rfl 5 i0 (.int .u8 0) 1 1 Try.underlying22 hi hz0 hz1 hz2 rfl (by decide) none 0 0 [] rfl (fun _ => ⟨rfl, rfl⟩) rfl (fun _ h => by cases h) ⟨b1, o1, none⟩ n2 c1 (vals x n2) (by first | (simp [Act.eval]; done) | simp [Act.eval, Act.put]) L1.out (H1.out _ (by assumption)) (vals_one _ _) (by omega) M1.out (by omega) ?_; intro v1 w1 hown1 hgrow1; obtain ⟨g1, k1, hv1, hg1, hM1⟩ := made_of (by simpa using hown1) h0; rw [hv1]; have hbA : Below w.heap.size w w1 := Below.trans (by assumption) ((below_of_grown hgrow1).mono (Below.size (by assumption))); clear hown1 hv1) | (refine step_append_grows rfl (.const (.slice none 0 0)) (.tmp 18) 22 rfl 5 i0 (.int .u8 0) 1 1 Try.underlying22 hi hz0 hz1 hz2 rfl (by decide) none 0 0 [] rfl (fun _ => ⟨rfl, rfl⟩) rfl (fun _ h => by cases h) ⟨b2, o2, none⟩ n2 c2 (vals y n2) (by first | (simp [Act.eval]; done) | simp [Act.eval, Act.put]) L2.out (H2.out _ (by assumption)) (vals_one _ _) (by omega) M1.out (by omega) ?_; intro v2 w2 hown2 hgrow2; obtain ⟨g2, k2, hv2, hg2, hM2⟩ := made_of (by simpa using hown2) h0; rw [hv2]; have hbB : Below w.heap.size w w2 := Below.trans (by assumption) ((below_of_grown hgrow2).mono (Below.size (by assumption))); clear hown2 hv2))
  go_wp2
  go_ret2
  exact ⟨g1, k1, g2, k2, rfl, hg1, Nat.le_trans hbA.size hg2, Nat.ne_of_lt (Nat.lt_of_lt_of_le hM1.lt hg2), hM1.below (below_of_grown hgrow2), hM2, hbB⟩
set_option maxHeartbeats 1000000 in
set_option maxRecDepth 1000000 in
theorem even_l (b1 o1 n1 c1 b2 o2 n2 c2 : Nat) (x y : Nat → BitVec 8) (w : World) (hn1 : n1 ≤ c1) (hn2 : n2 ≤ c2) (hlt : ¬ n2 < n1) (h0 : 0 < n1) (hl1 : n1 ≤ 140737488355328)
    (H1 : Hid (∀ W, Below w.heap.size w W → ∀ j u, (vals x n1)[j]? = some u → W.cell? ((⟨b1, o1, none⟩ : Addr).add j) = some u)) (H2 : Hid (∀ W, Below w.heap.size w W → ∀ j u, (vals y n1)[j]? = some u → W.cell? ((⟨b2, o2, none⟩ : Addr).add j) = some u)) :
    Calls Try.prog 6 #[.slice (some ⟨b1, o1, none⟩) n1 c1, .slice (some ⟨b2, o2, none⟩) n2 c2] w fun e w' => ∃ g1 k1 g2 k2, e = .returned (.tuple #[.slice (some ⟨g1, 0, none⟩) n1 k1, .slice (some ⟨g2, 0, none⟩) n1 k2]) ∧ w.heap.size ≤ g1 ∧ w.heap.size ≤ g2 ∧ g1 ≠ g2 ∧ Made w' g1 k1 n1 x ∧ Made w' g2 k2 n1 y ∧ Below w.heap.size w w' := by
  obtain ⟨i0, hi, hz0, hz1, hz2⟩ := info_parts info5
  have L1 : Hid ((vals x n1).length = n1 * 1) := by show _ = _; rw [vals_len, Nat.mul_one]
  have L2 : Hid ((vals y n1).length = n1 * 1) := by show _ = _; rw [vals_len, Nat.mul_one]
  have M1 : Hid (0 + n1 ≤ maxLen) := by show _ ≤ _; unfold maxLen; omega
  have q1 : n1 ≤ c1 := by omega
  have q2 : n1 ≤ c2 := by omega
  have hbw : Below w.heap.size w w.drew := (Below.refl _ _).drew
  go_enter Try.func6, Try.ntmps6
  go_wp2_with fail
  go_region_law (first | (refine step_append_grows rfl (.const (.slice none 0 0)) (.tmp 14) 22 rfl 5 i0 (.int .u8 0) 1 1 Try.underlying22 hi hz0 hz1 hz2 rfl (by decide) none 0 0 [] rfl (fun _ => ⟨rfl, rfl⟩) rfl (fun _ h => by cases h) ⟨b1, o1, none⟩ n1 c1 (vals x n1) (by first | (simp [Act.eval]; done) | simp [Act.eval, Act.put]) L1.out (H1.out _ (by assumption)) (vals_one _ _) (by omega) M1.out (by omega) ?_; intro v1 w1 hown1 hgrow1; obtain ⟨g1, k1, hv1, hg1, hM1⟩ := made_of (by simpa using hown1) h0; rw [hv1]; have hbA : Below w.heap.size w w1 := Below.trans (by assumption) ((below_of_grown hgrow1).mono (Below.size (by assumption))); clear hown1 hv1) | (refine step_append_grows rfl (.const (.slice none 0 0)) (.tmp 18) 22 rfl 5 i0 (.int .u8 0) 1 1 Try.underlying22 hi hz0 hz1 hz2 rfl (by decide) none 0 0 [] rfl (fun _ => ⟨rfl, rfl⟩) rfl (fun _ h => by cases h) ⟨b2, o2, none⟩ n1 c2 (vals y n1) (by first | (simp [Act.eval]; done) | simp [Act.eval, Act.put]) L2.out (H2.out _ (by assumption)) (vals_one _ _) (by omega) M1.out (by omega) ?_; intro v2 w2 hown2 hgrow2; obtain ⟨g2, k2, hv2, hg2, hM2⟩ := made_of (by simpa using hown2) h0; rw [hv2]; have hbB : Below w.heap.size w w2 := Below.trans (by assumption) ((below_of_grown hgrow2).mono (Below.size (by assumption))); clear hown2 hv2))
  go_wp2
  go_ret2
  exact ⟨g1, k1, g2, k2, rfl, hg1, Nat.le_trans hbA.size hg2, Nat.ne_of_lt (Nat.lt_of_lt_of_le hM1.lt hg2), hM1.below (below_of_grown hgrow2), hM2, hbB⟩
set_option maxHeartbeats 1000000 in
set_option maxRecDepth 1000000 in
theorem even_nil_l (a1 a2 : Option Addr) (c1 n2 c2 : Nat) (w : World) (hn2 : n2 ≤ 140737488355328) :
    Calls Try.prog 6 #[.slice a1 0 c1, .slice a2 n2 c2] w fun e w' => e = .returned (.tuple #[.slice none 0 0, .slice none 0 0]) ∧ Below w.heap.size w w' := by
  rcases a1 with _ | p1 <;> rcases a2 with _ | p2
  all_goals
    go_enter Try.func6, Try.ntmps6
    go_wp2
    go_region
    all_goals
      go_wp2
      go_ret2
      exact ⟨rfl, (Below.refl _ _).drew⟩
set_option maxHeartbeats 1000000 in
set_option maxRecDepth 1000000 in
theorem even_nil_r (a1 a2 : Option Addr) (n1 c1 c2 : Nat) (w : World) (h0 : 0 < n1) :
    Calls Try.prog 6 #[.slice a1 n1 c1, .slice a2 0 c2] w fun e w' => e = .returned (.tuple #[.slice none 0 0, .slice none 0 0]) ∧ Below w.heap.size w w' := by
  rcases a1 with _ | p1 <;> rcases a2 with _ | p2
  all_goals
    go_enter Try.func6, Try.ntmps6
    go_wp2
    go_region
    all_goals
      go_wp2
      go_ret2
      exact ⟨rfl, (Below.refl _ _).drew⟩
end
theorem range_getD {xs : List (BitVec 8)} {m : Nat} (h : m ≤ xs.length) : (List.range m).map (fun i => xs.getD i 0#8) = xs.take m := by
  apply List.ext_getElem?
  intro i
  rw [List.getElem?_map]
  by_cases hi : i < m
  · rw [List.getElem?_range hi, List.getElem?_take_of_lt hi, List.getElem?_eq_getElem (by omega)]
    simp [List.getElem?_eq_getElem (show i < xs.length by omega)]
  · rw [List.getElem?_eq_none (by simp; omega), List.getElem?_eq_none (by simp; omega)]; rfl
theorem src_of {w : World} {b o n m : Nat} {xs : List (BitVec 8)} (hc : ∀ i, i < xs.length → w.cell? ⟨b, o + i, none⟩ = some (.int .u8 (el (xs.getD i 0#8)))) (hn : xs.length = n) (hm : m ≤ n) :
    ∀ W, Below w.heap.size w W → ∀ j u, (vals (fun i => xs.getD i 0#8) m)[j]? = some u → W.cell? ((⟨b, o, none⟩ : Addr).add j) = some u := by
  intro W hb j u hu
  obtain ⟨hj, rfl⟩ := vals_get hu
  rw [add_plain]
  exact cell_below (hc j (by omega)) hb
theorem even_any {w : World} {a1 a2 : Option Addr} {xs ys : List (BitVec 8)} (h1 : Rd w a1 xs) (h2 : Rd w a2 ys) (n1 c1 n2 c2 m : Nat) (hx : xs.length = n1) (hy : ys.length = n2) (hn1 : n1 ≤ c1) (hn2 : n2 ≤ c2) (hl1 : n1 ≤ 140737488355328) (hl2 : n2 ≤ 140737488355328) (hm : min n1 n2 = m) (X Y : List (BitVec 8)) (hX : xs.take m = X) (hY : ys.take m = Y) :
    Calls Try.prog 6 #[.slice a1 n1 c1, .slice a2 n2 c2] w fun e w' => ∃ p1 k1 p2 k2, e = .returned (.tuple #[.slice p1 m k1, .slice p2 m k2]) ∧ m ≤ k1 ∧ m ≤ k2 ∧ Rd w' p1 X ∧ Rd w' p2 Y ∧ Below w.heap.size w w' := by
  subst hX hY
  have nil : m = 0 → ∀ e w', (e = Ending.returned (.tuple #[.slice none 0 0, .slice none 0 0]) ∧ Below w.heap.size w w') → ∃ p1 k1 p2 k2, e = .returned (.tuple #[.slice p1 m k1, .slice p2 m k2]) ∧ m ≤ k1 ∧ m ≤ k2 ∧ Rd w' p1 (xs.take m) ∧ Rd w' p2 (ys.take m) ∧ Below w.heap.size w w' := by
    rintro rfl e w' ⟨rfl, hb⟩
    exact ⟨none, 0, none, 0, rfl, by omega, by omega, .inl rfl, .inl rfl, hb⟩
  by_cases z1 : n1 = 0
  · subst z1
    exact (even_nil_l a1 a2 c1 n2 c2 w hl2).mono (nil (by omega))
  · by_cases z2 : n2 = 0
    · subst z2
      exact (even_nil_r a1 a2 n1 c1 c2 w (by omega)).mono (nil (by omega))
    · rcases h1 with h1 | ⟨b1, o1, rfl, hc1⟩
      · subst h1; simp at hx; omega
      · rcases h2 with h2 | ⟨b2, o2, rfl, hc2⟩
        · subst h2; simp at hy; omega
        · by_cases hlt : n2 < n1
          · obtain rfl : m = n2 := by omega
            refine (even_r b1 o1 n1 c1 b2 o2 m c2 _ _ w hn1 hn2 hlt (by omega) hl2 (src_of hc1 hx (by omega)) (src_of hc2 hy (by omega))).mono ?_
            rintro e w' ⟨g1, k1, g2, k2, rfl, _, _, _, hM1, hM2, hb⟩
            exact ⟨_, k1, _, k2, rfl, hM1.le, hM2.le, by rw [← range_getD (xs := xs) (m := m) (by omega)]; exact hM1.rd, by rw [← range_getD (xs := ys) (m := m) (by omega)]; exact hM2.rd, hb⟩
          · obtain rfl : m = n1 := by omega
            refine (even_l b1 o1 m c1 b2 o2 n2 c2 _ _ w hn1 hn2 hlt (by omega) hl1 (src_of hc1 hx (by omega)) (src_of hc2 hy (by omega))).mono ?_
            rintro e w' ⟨g1, k1, g2, k2, rfl, _, _, _, hM1, hM2, hb⟩
            exact ⟨_, k1, _, k2, rfl, hM1.le, hM2.le, by rw [← range_getD (xs := xs) (m := m) (by omega)]; exact hM1.rd, by rw [← range_getD (xs := ys) (m := m) (by omega)]; exact hM2.rd, hb⟩
end Go.Proofs.Ytgienaikcpcpeab
