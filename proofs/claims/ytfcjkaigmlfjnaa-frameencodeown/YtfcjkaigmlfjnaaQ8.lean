/-
  Package frame: what may be: 'within', 'shapeMayBe', 'checkSize', 'Check'.
-/
import Derived.Test.YtfcjkaigmlfjnaaM8
import Derived.Test.YtfcjkaigmlfjnaaKs
namespace Go.Proofs.Ytfcjkaigmlfjnaa
open Go.RowKit
/-- A whole number of 64 bits. -/
def In64 (z : Int) : Prop := -9223372036854775808 ≤ z ∧ z ≤ 9223372036854775807
/-- A shape's cells; a head's. -/
def shC (k m b : Int) : Array Value := #[.int .i64 k, .int .i64 m, .int .i64 b]
def Hd.cs (h : Hd) : Array Value := #[.int .u8 (el h.a0), .int .u8 (el h.a1), .int .u8 (el h.a2), .int .u8 (el h.a3), .int .u8 (el h.a4), .int .u8 (el h.a5), .int .u8 (el h.a6), .int .u8 (el h.a7),
  .int .i64 h.k, .int .i64 h.m, .int .i64 h.b, .string (bstr h.key), .int .i64 h.sz, .int .i64 h.ix, .int .i64 h.ep, .int .i64 h.ct]
structure Hd.In (h : Hd) : Prop where
  k : In64 h.k
  m : In64 h.m
  b : In64 h.b
  sz : In64 h.sz
  ix : In64 h.ix
  ep : In64 h.ep
  ct : In64 h.ct
def shB (k m b : Int) : Bool := decide (1 ≤ m ∧ m ≤ k) && (decide (k ≤ 255 - m) && decide (1 ≤ b ∧ b ≤ 65536))
theorem shB_iff (k m b : Int) : shB k m b = true ↔ shp k m b := by unfold shB shp; simp
/-- A head in memory. -/
def HdAt (w : World) (g : Nat) (h : Hd) : Prop := w.heap[g]? = some (.cells h.cs 28)
theorem HdAt.lt {w : World} {g : Nat} {h : Hd} (H : HdAt w g h) : g < w.heap.size := by
  rcases Nat.lt_or_ge g w.heap.size with h1 | h1
  · exact h1
  · unfold HdAt at H; rw [Array.getElem?_eq_none h1] at H; cases H
theorem HdAt.below {w w' : World} {g : Nat} {h : Hd} (H : HdAt w g h) (hb : Below w.heap.size w w') : HdAt w' g h := by
  have hl := H.lt
  unfold HdAt at H ⊢
  rw [hb.block g hl]; exact H
theorem HdAt.new (w : World) (h : Hd) : HdAt (w.alloc (.cells h.cs 28)) w.heap.size h := heap_alloc_new w _
theorem HdAt.cells {w : World} {g : Nat} {h : Hd} (H : HdAt w g h) : w.cell? ⟨g, 8, none⟩ = some (.int .i64 h.k) ∧ w.cell? ⟨g, 9, none⟩ = some (.int .i64 h.m) ∧ w.cell? ⟨g, 10, none⟩ = some (.int .i64 h.b) ∧ w.cell? ⟨g, 11, none⟩ = some (.string (bstr h.key))
    ∧ w.cell? ⟨g, 12, none⟩ = some (.int .i64 h.sz) ∧ w.cell? ⟨g, 13, none⟩ = some (.int .i64 h.ix) ∧ w.cell? ⟨g, 14, none⟩ = some (.int .i64 h.ep) ∧ w.cell? ⟨g, 15, none⟩ = some (.int .i64 h.ct) := by
  unfold HdAt at H
  have c := fun i => cell_of_row w g i _ _ (0, 0) H
  exact ⟨c 8, c 9, c 10, c 11, c 12, c 13, c 14, c 15⟩
section
attribute [local irreducible] Calls el
set_option maxRecDepth 1000000 in
theorem within_any (x a b : Int) (w : World) :
    Calls Try.prog 39 #[.int .i64 x, .int .i64 a, .int .i64 b] w fun e w' => e = .returned (.bool (decide (a ≤ x ∧ x ≤ b))) ∧ w' = w := by
  go_enter Try.func39, Try.ntmps39
  by_cases h1 : a ≤ x
  · by_cases h2 : x ≤ b
    · go_wp2
      go_ret
      exact ⟨by simp [h1, h2], rfl⟩
    · go_wp2
      go_ret
      exact ⟨by simp [h2], rfl⟩
  · have h1' : ¬ (a ≤ x ∧ x ≤ b) := fun h => h1 h.1
    go_wp2
    go_ret
    exact ⟨rfl, rfl⟩
theorem shapeMayBe_any (k m b : Int) (hm : In64 m) (w : World) :
    Calls Try.prog 38 #[.agg (shC k m b)] w fun e w' => e = .returned (.bool (shB k m b)) ∧ Below w.heap.size w w' := by
  unfold shC shB
  unfold In64 at hm
  have al : ∀ (W : World) (o : Obj), Below W.heap.size W (W.alloc o) := fun W o => (Below.refl _ _).alloc (Nat.le_refl _) o
  go_enter Try.func38, Try.ntmps38
  by_cases h1 : 1 ≤ m ∧ m ≤ k
  · have d1 : decide (1 ≤ m ∧ m ≤ k) = true := decide_eq_true h1
    by_cases h2 : k ≤ 255 - m
    · go_wp2_with (go_at_call 39; refine (within_any _ _ _ _).mono ?_; rintro e w1 ⟨rfl, h⟩; obtain rfl := h.symm)
      go_ret
      exact ⟨by simp [h1, h2], al _ _⟩
    · have d2 : decide (k ≤ 255 - m) = false := decide_eq_false h2
      go_wp2_with (go_at_call 39; refine (within_any _ _ _ _).mono ?_; rintro e w1 ⟨rfl, h⟩; obtain rfl := h.symm)
      go_ret
      exact ⟨by simp [d2], al _ _⟩
  · have d1 : decide (1 ≤ m ∧ m ≤ k) = false := decide_eq_false h1
    go_wp2_with (go_at_call 39; refine (within_any _ _ _ _).mono ?_; rintro e w1 ⟨rfl, h⟩; obtain rfl := h.symm)
    go_ret
    exact ⟨by simp [d1], al _ _⟩
theorem roundedUp_any (a p : Int) (ha : 0 ≤ a ∧ a ≤ 1099511627776) (hp : 1 ≤ p ∧ p ≤ 1099511627776) (w : World) :
    Calls Try.prog 30 #[.int .i64 a, .int .i64 p] w fun e w' => e = .returned (.int .i64 (cdv a p)) ∧ w' = w := by
  unfold cdv
  go_enter Try.func30, Try.ntmps30
  go_wp2
  go_ret
  exact ⟨rfl, rfl⟩
theorem kb_bd {k m b : Int} (hs : shp k m b) : 1 ≤ k * b ∧ k * b ≤ 16711680 := by
  unfold shp at hs
  have h1 : 1 * 1 ≤ k * b := Int.mul_le_mul (by omega) (by omega) (by omega) (by omega)
  have h2 : k * b ≤ 255 * 65536 := Int.mul_le_mul (by omega) (by omega) (by omega) (by omega)
  omega
theorem checkSize_any (k m b sz : Int) (hs : shp k m b) (hz : In64 sz) (w : World) :
    Calls Try.prog 40 #[.agg (shC k m b), .int .i64 sz] w fun e w' => e = .returned (.int .i64 (szE k b sz)) ∧ Below w.heap.size w w' := by
  unfold shC szE
  unfold In64 at hz
  have kb := kb_bd hs
  unfold shp at hs
  have al : ∀ (W : World) (o : Obj), Below W.heap.size W (W.alloc o) := fun W o => (Below.refl _ _).alloc (Nat.le_refl _) o
  go_enter Try.func40, Try.ntmps40
  by_cases h1 : sz < 0
  · go_wp2
    go_ret
    exact ⟨rfl, al _ _⟩
  by_cases h2 : 1048576 < sz
  · go_wp2
    go_ret
    exact ⟨rfl, al _ _⟩
  · have R := (show Hid _ from fun w => roundedUp_any sz (k * b) (by omega) (by omega) w)
    by_cases h3 : 4096 < cdv sz (k * b)
    · go_wp2_with (go_at_call 30; refine (R.out _).mono ?_; rintro e w1 ⟨rfl, h⟩; obtain rfl := h.symm)
      go_ret
      exact ⟨rfl, al _ _⟩
    · go_wp2_with (go_at_call 30; refine (R.out _).mono ?_; rintro e w1 ⟨rfl, h⟩; obtain rfl := h.symm)
      go_ret
      exact ⟨rfl, al _ _⟩
theorem headLength_any (h : Hd) (hy : h.key.length ≤ 140737488355328) (w : World) :
    Calls Try.prog 29 #[.agg h.cs] w fun e w' => e = .returned (.int .i64 ((40 + h.key.length : Nat) : Int)) ∧ Below w.heap.size w w' := by
  have al : ∀ (W : World) (o : Obj), Below W.heap.size W (W.alloc o) := fun W o => (Below.refl _ _).alloc (Nat.le_refl _) o
  have hl : (bstr h.key).size = h.key.length := by show (us h.key).toArray.size = _; simp [us]
  unfold Hd.cs
  go_enter Try.func29, Try.ntmps29
  go_wp2
  go_ret
  refine ⟨?_, al _ _⟩
  show Ending.returned (.int .i64 (36 + (h.key.length : Int) + 4)) = _
  congr 2; omega
theorem szE_bd (k b sz : Int) : 0 ≤ szE k b sz ∧ szE k b sz ≤ 3 := by unfold szE; split <;> (try split) <;> omega
theorem check_any (h : Hd) (hi : h.In) (hy : h.key.length ≤ 9223372036854775807) (w : World) :
    Calls Try.prog 28 #[.agg h.cs] w fun e w' => e = .returned (.int .i64 (chk h)) ∧ Below w.heap.size w w' := by
  have al : ∀ (W : World) (o : Obj), Below W.heap.size W (W.alloc o) := fun W o => (Below.refl _ _).alloc (Nat.le_refl _) o
  have hl : (bstr h.key).size = h.key.length := by show (us h.key).toArray.size = _; simp [us]
  have SM := (show Hid _ from fun w => shapeMayBe_any h.k h.m h.b hi.m w)
  have WI := (show Hid _ from fun x a b w => within_any x a b w)
  have HA := HdAt.new w h
  unfold Hd.cs at HA ⊢
  unfold chk
  obtain ⟨ik, im, ib, iz, ii, ie, ic⟩ := hi
  unfold In64 at ik im ib iz ii ie ic
  unfold shC at SM
  go_enter Try.func28, Try.ntmps28
  by_cases h1 : shp h.k h.m h.b
  · have d1 := (shB_iff _ _ _).2 h1
    have CS := (show Hid _ from fun w => checkSize_any h.k h.m h.b h.sz h1 iz w)
    unfold shC at CS
    have kk : 1 ≤ h.k ∧ h.k ≤ 255 ∧ 1 ≤ h.m ∧ h.m ≤ 255 := by unfold shp at h1; omega
    rw [if_neg (not_not_intro h1)]
    by_cases h2 : 1 ≤ h.key.length ∧ h.key.length ≤ 255
    · have d2 : decide ((1 : Int) ≤ (h.key.length : Int) ∧ (h.key.length : Int) ≤ 255) = true := decide_eq_true (by omega)
      rw [if_neg (not_not_intro h2)]
      by_cases h3 : szE h.k h.b h.sz = 0
      · rw [h3] at CS
        rw [if_neg (not_not_intro h3)]
        by_cases h4 : 0 ≤ h.ix ∧ h.ix ≤ h.k + h.m - 1
        · have d4 := decide_eq_true h4
          rw [if_neg (not_not_intro h4)]
          by_cases h5 : 1 ≤ h.ep ∧ h.ep ≤ 4294967295
          · have d5 := decide_eq_true h5
            by_cases h6 : 1 ≤ h.ct ∧ h.ct ≤ 4294967295
            · have d6 := decide_eq_true h6
              rw [if_neg (not_not_intro ⟨h5, h6⟩)]
              clear h1 h2 h3 h4 h5 h6
              go_wp2_with (first | (go_at_call 38; refine (SM.out _).mono ?_; rintro e w1 ⟨rfl, hb1⟩; rw [d1]; have H1 := HA.below hb1; obtain ⟨q8, q9, q10, q11, q12, q13, q14, q15⟩ := H1.cells) | (go_at_call 39; refine (WI.out _ _ _ _).mono ?_; rintro e w2 ⟨rfl, h⟩; obtain rfl := h.symm; first | rw [d2] | rw [d4] | rw [d5] | rw [d6]) | (go_at_call 40; refine (CS.out _).mono ?_; rintro e w3 ⟨rfl, hb3⟩; obtain ⟨z8, z9, z10, z11, z12, z13, z14, z15⟩ := (H1.below hb3).cells))
              go_ret
              exact ⟨rfl, bt (bt (al _ _) hb1) hb3⟩
            · have d6 := decide_eq_false h6
              rw [if_pos (fun g => h6 g.2)]
              clear h1 h2 h3 h4 h5 h6
              go_wp2_with (first | (go_at_call 38; refine (SM.out _).mono ?_; rintro e w1 ⟨rfl, hb1⟩; rw [d1]; have H1 := HA.below hb1; obtain ⟨q8, q9, q10, q11, q12, q13, q14, q15⟩ := H1.cells) | (go_at_call 39; refine (WI.out _ _ _ _).mono ?_; rintro e w2 ⟨rfl, h⟩; obtain rfl := h.symm; first | rw [d2] | rw [d4] | rw [d5] | rw [d6]) | (go_at_call 40; refine (CS.out _).mono ?_; rintro e w3 ⟨rfl, hb3⟩; obtain ⟨z8, z9, z10, z11, z12, z13, z14, z15⟩ := (H1.below hb3).cells))
              go_ret
              exact ⟨rfl, bt (bt (al _ _) hb1) hb3⟩
          · have d5 := decide_eq_false h5
            rw [if_pos (fun g => h5 g.1)]
            clear h1 h2 h3 h4 h5
            go_wp2_with (first | (go_at_call 38; refine (SM.out _).mono ?_; rintro e w1 ⟨rfl, hb1⟩; rw [d1]; have H1 := HA.below hb1; obtain ⟨q8, q9, q10, q11, q12, q13, q14, q15⟩ := H1.cells) | (go_at_call 39; refine (WI.out _ _ _ _).mono ?_; rintro e w2 ⟨rfl, h⟩; obtain rfl := h.symm; first | rw [d2] | rw [d4] | rw [d5] | rw [d6]) | (go_at_call 40; refine (CS.out _).mono ?_; rintro e w3 ⟨rfl, hb3⟩; obtain ⟨z8, z9, z10, z11, z12, z13, z14, z15⟩ := (H1.below hb3).cells))
            go_ret
            exact ⟨rfl, bt (bt (al _ _) hb1) hb3⟩
        · have d4 := decide_eq_false h4
          rw [if_pos h4]
          clear h1 h2 h3 h4
          go_wp2_with (first | (go_at_call 38; refine (SM.out _).mono ?_; rintro e w1 ⟨rfl, hb1⟩; rw [d1]; have H1 := HA.below hb1; obtain ⟨q8, q9, q10, q11, q12, q13, q14, q15⟩ := H1.cells) | (go_at_call 39; refine (WI.out _ _ _ _).mono ?_; rintro e w2 ⟨rfl, h⟩; obtain rfl := h.symm; first | rw [d2] | rw [d4] | rw [d5] | rw [d6]) | (go_at_call 40; refine (CS.out _).mono ?_; rintro e w3 ⟨rfl, hb3⟩; obtain ⟨z8, z9, z10, z11, z12, z13, z14, z15⟩ := (H1.below hb3).cells))
          go_ret
          exact ⟨rfl, bt (bt (al _ _) hb1) hb3⟩
      · rw [if_pos h3]
        have hz := szE_bd h.k h.b h.sz
        generalize szE h.k h.b h.sz = z at h3 CS hz ⊢
        clear h1 h2
        go_wp2_with (first | (go_at_call 38; refine (SM.out _).mono ?_; rintro e w1 ⟨rfl, hb1⟩; rw [d1]; have H1 := HA.below hb1; obtain ⟨q8, q9, q10, q11, q12, q13, q14, q15⟩ := H1.cells) | (go_at_call 39; refine (WI.out _ _ _ _).mono ?_; rintro e w2 ⟨rfl, h⟩; obtain rfl := h.symm; first | rw [d2] | rw [d4] | rw [d5] | rw [d6]) | (go_at_call 40; refine (CS.out _).mono ?_; rintro e w3 ⟨rfl, hb3⟩; obtain ⟨z8, z9, z10, z11, z12, z13, z14, z15⟩ := (H1.below hb3).cells))
        go_ret
        exact ⟨rfl, bt (bt (al _ _) hb1) hb3⟩
    · have d2 : decide ((1 : Int) ≤ (h.key.length : Int) ∧ (h.key.length : Int) ≤ 255) = false := decide_eq_false (by omega)
      rw [if_pos h2]
      clear h1 h2
      go_wp2_with (first | (go_at_call 38; refine (SM.out _).mono ?_; rintro e w1 ⟨rfl, hb1⟩; rw [d1]; have H1 := HA.below hb1; obtain ⟨q8, q9, q10, q11, q12, q13, q14, q15⟩ := H1.cells) | (go_at_call 39; refine (WI.out _ _ _ _).mono ?_; rintro e w2 ⟨rfl, h⟩; obtain rfl := h.symm; first | rw [d2] | rw [d4] | rw [d5] | rw [d6]) | (go_at_call 40; refine (CS.out _).mono ?_; rintro e w3 ⟨rfl, hb3⟩; obtain ⟨z8, z9, z10, z11, z12, z13, z14, z15⟩ := (H1.below hb3).cells))
      go_ret
      exact ⟨rfl, bt (al _ _) hb1⟩
  · have d1 : shB h.k h.m h.b = false := by
      cases e : shB h.k h.m h.b with
      | false => rfl
      | true => exact absurd ((shB_iff _ _ _).1 e) h1
    rw [if_pos h1]
    clear h1
    go_wp2_with (first | (go_at_call 38; refine (SM.out _).mono ?_; rintro e w1 ⟨rfl, hb1⟩; rw [d1]; have H1 := HA.below hb1; obtain ⟨q8, q9, q10, q11, q12, q13, q14, q15⟩ := H1.cells) | (go_at_call 39; refine (WI.out _ _ _ _).mono ?_; rintro e w2 ⟨rfl, h⟩; obtain rfl := h.symm; first | rw [d2] | rw [d4] | rw [d5] | rw [d6]) | (go_at_call 40; refine (CS.out _).mono ?_; rintro e w3 ⟨rfl, hb3⟩; obtain ⟨z8, z9, z10, z11, z12, z13, z14, z15⟩ := (H1.below hb3).cells))
    go_ret
    exact ⟨rfl, bt (al _ _) hb1⟩
end
end Go.Proofs.Ytfcjkaigmlfjnaa
