/-
  Package frame: what may be: 'within', 'shapeMayBe', 'checkSize', 'Check'.
-/
import Derived.Test.YtgokkppojhokbaaM8
import Derived.Test.YtgokkppojhokbaaKs
import Derived.Test.YtgokkppojhokbaaOb
namespace Go.Proofs.Ytgokkppojhokbaa
open Go.RowKit
/-- A whole number of 64 bits. -/
def In64 (z : Int) : Prop := -9223372036854775808 ≤ z ∧ z ≤ 9223372036854775807
/-- A shape's cells; a head's. -/
def shC (k m b : Int) : Array Value := #[.int .i64 k, .int .i64 m, .int .i64 b]
def Hd.cs (h : Hd) : Array Value := #[.int .u8 (el h.a0), .int .u8 (el h.a1), .int .u8 (el h.a2), .int .u8 (el h.a3), .int .u8 (el h.a4), .int .u8 (el h.a5), .int .u8 (el h.a6), .int .u8 (el h.a7),
  .int .i64 h.k, .int .i64 h.m, .int .i64 h.b, .string (bstr h.key), .int .i64 h.sz, .int .i64 h.ix, .int .i64 h.ep, .int .i64 h.ct]
structure Hd.In (h : Hd) : Prop where
  k : In64 h.k
  m : In64 h.m
  b : In64 h.b
  sz : In64 h.sz
  ix : In64 h.ix
  ep : In64 h.ep
  ct : In64 h.ct
def shB (k m b : Int) : Bool := decide (1 ≤ m ∧ m ≤ k) && (decide (k ≤ 255 - m) && decide (1 ≤ b ∧ b ≤ 65536))
theorem shB_iff (k m b : Int) : shB k m b = true ↔ shp k m b := by unfold shB shp; simp
/-- A head in memory. -/
def HdAt (w : World) (g : Nat) (h : Hd) : Prop := w.heap[g]? = some (.cells h.cs 33)
theorem HdAt.lt {w : World} {g : Nat} {h : Hd} (H : HdAt w g h) : g < w.heap.size := by
  rcases Nat.lt_or_ge g w.heap.size with h1 | h1
  · exact h1
  · unfold HdAt at H; rw [Array.getElem?_eq_none h1] at H; cases H
theorem HdAt.below {w w' : World} {g : Nat} {h : Hd} (H : HdAt w g h) (hb : Below w.heap.size w w') : HdAt w' g h := by
  have hl := H.lt
  unfold HdAt at H ⊢
  rw [hb.block g hl]; exact H
theorem HdAt.new (w : World) (h : Hd) : HdAt (w.alloc (.cells h.cs 33)) w.heap.size h := heap_alloc_new w _
theorem HdAt.cells {w : World} {g : Nat} {h : Hd} (H : HdAt w g h) : w.cell? ⟨g, 8, none⟩ = some (.int .i64 h.k) ∧ w.cell? ⟨g, 9, none⟩ = some (.int .i64 h.m) ∧ w.cell? ⟨g, 10, none⟩ = some (.int .i64 h.b) ∧ w.cell? ⟨g, 11, none⟩ = some (.string (bstr h.key))
    ∧ w.cell? ⟨g, 12, none⟩ = some (.int .i64 h.sz) ∧ w.cell? ⟨g, 13, none⟩ = some (.int .i64 h.ix) ∧ w.cell? ⟨g, 14, none⟩ = some (.int .i64 h.ep) ∧ w.cell? ⟨g, 15, none⟩ = some (.int .i64 h.ct) := by
  unfold HdAt at H
  have c := fun i => cell_of_row w g i _ _ (0, 0) H
  exact ⟨c 8, c 9, c 10, c 11, c 12, c 13, c 14, c 15⟩
section
attribute [local irreducible] Calls el
set_option maxRecDepth 1000000 in
theorem within_any (x a b : Int) (w : World) :
    Calls Try.prog 21 #[.int .i64 x, .int .i64 a, .int .i64 b] w fun e w' => e = .returned (.bool (decide (a ≤ x ∧ x ≤ b))) ∧ w' = w := by
  go_enter Try.func21, Try.ntmps21
  by_cases h1 : a ≤ x
  · by_cases h2 : x ≤ b
    · go_wp2
      go_ret
      exact ⟨by simp [h1, h2], rfl⟩
    · go_wp2
      go_ret
      exact ⟨by simp [h2], rfl⟩
  · have h1' : ¬ (a ≤ x ∧ x ≤ b) := fun h => h1 h.1
    go_wp2
    go_ret
    exact ⟨rfl, rfl⟩
theorem shapeMayBe_any (k m b : Int) (hm : In64 m) (w : World) :
    Calls Try.prog 20 #[.agg (shC k m b)] w fun e w' => e = .returned (.bool (shB k m b)) ∧ Below w.heap.size w w' := by
  unfold shC shB
  unfold In64 at hm
  have al : ∀ (W : World) (o : Obj), Below W.heap.size W (W.alloc o) := fun W o => (Below.refl _ _).alloc (Nat.le_refl _) o
  go_enter Try.func20, Try.ntmps20
  by_cases h1 : 1 ≤ m ∧ m ≤ k
  · have d1 : decide (1 ≤ m ∧ m ≤ k) = true := decide_eq_true h1
    by_cases h2 : k ≤ 255 - m
    · go_wp2_with (go_at_call 21; refine (within_any _ _ _ _).mono ?_; rintro e w1 ⟨rfl, h⟩; obtain rfl := h.symm)
      go_ret
      exact ⟨by simp [h1, h2], al _ _⟩
    · have d2 : decide (k ≤ 255 - m) = false := decide_eq_false h2
      go_wp2_with (go_at_call 21; refine (within_any _ _ _ _).mono ?_; rintro e w1 ⟨rfl, h⟩; obtain rfl := h.symm)
      go_ret
      exact ⟨by simp [d2], al _ _⟩
  · have d1 : decide (1 ≤ m ∧ m ≤ k) = false := decide_eq_false h1
    go_wp2_with (go_at_call 21; refine (within_any _ _ _ _).mono ?_; rintro e w1 ⟨rfl, h⟩; obtain rfl := h.symm)
    go_ret
    exact ⟨by simp [d1], al _ _⟩
theorem roundedUp_any (a p : Int) (ha : 0 ≤ a ∧ a ≤ 1099511627776) (hp : 1 ≤ p ∧ p ≤ 1099511627776) (w : World) :
    Calls Try.prog 37 #[.int .i64 a, .int .i64 p] w fun e w' => e = .returned (.int .i64 (cdv a p)) ∧ w' = w := by
  unfold cdv
  go_enter Try.func37, Try.ntmps37
  go_wp2
  go_ret
  exact ⟨rfl, rfl⟩
theorem kb_bd {k m b : Int} (hs : shp k m b) : 1 ≤ k * b ∧ k * b ≤ 16711680 := by
  unfold shp at hs
  have h1 : 1 * 1 ≤ k * b := Int.mul_le_mul (by omega) (by omega) (by omega) (by omega)
  have h2 : k * b ≤ 255 * 65536 := Int.mul_le_mul (by omega) (by omega) (by omega) (by omega)
  omega
theorem checkSize_any (k m b sz : Int) (hs : shp k m b) (hz : In64 sz) (w : World) :
    Calls Try.prog 22 #[.agg (shC k m b), .int .i64 sz] w fun e w' => e = .returned (.int .i64 (szE k b sz)) ∧ Below w.heap.size w w' := by
  unfold shC szE
  unfold In64 at hz
  have kb := kb_bd hs
  unfold shp at hs
  have al : ∀ (W : World) (o : Obj), Below W.heap.size W (W.alloc o) := fun W o => (Below.refl _ _).alloc (Nat.le_refl _) o
  go_enter Try.func22, Try.ntmps22
  by_cases h1 : sz < 0
  · go_wp2
    go_ret
    exact ⟨rfl, al _ _⟩
  by_cases h2 : 1048576 < sz
  · go_wp2
    go_ret
    exact ⟨rfl, al _ _⟩
  · have R := (show Hid _ from fun w => roundedUp_any sz (k * b) (by omega) (by omega) w)
    by_cases h3 : 4096 < cdv sz (k * b)
    · go_wp2_with (go_at_call 37; refine (R.out _).mono ?_; rintro e w1 ⟨rfl, h⟩; obtain rfl := h.symm)
      go_ret
      exact ⟨rfl, al _ _⟩
    · go_wp2_with (go_at_call 37; refine (R.out _).mono ?_; rintro e w1 ⟨rfl, h⟩; obtain rfl := h.symm)
      go_ret
      exact ⟨rfl, al _ _⟩
theorem szE_bd (k b sz : Int) : 0 ≤ szE k b sz ∧ szE k b sz ≤ 3 := by unfold szE; split <;> (try split) <;> omega
theorem check_any (h : Hd) (hi : h.In) (hy : h.key.length ≤ 9223372036854775807) (w : World) :
    Calls Try.prog 12 #[.agg h.cs] w fun e w' => e = .returned (.int .i64 (chk h)) ∧ Below w.heap.size w w' := by
  have al : ∀ (W : World) (o : Obj), Below W.heap.size W (W.alloc o) := fun W o => (Below.refl _ _).alloc (Nat.le_refl _) o
  have hl : (bstr h.key).size = h.key.length := by show (us h.key).toArray.size = _; simp [us]
  have SM := (show Hid _ from fun w => shapeMayBe_any h.k h.m h.b hi.m w)
  have WI := (show Hid _ from fun x a b w => within_any x a b w)
  have HA := HdAt.new w h
  unfold Hd.cs at HA ⊢
  unfold chk
  obtain ⟨ik, im, ib, iz, ii, ie, icN⟩ := hi
  unfold In64 at ik im ib iz ii ie icN
  unfold shC at SM
  go_enter Try.func12, Try.ntmps12
  by_cases h1 : shp h.k h.m h.b
  · have d1 := (shB_iff _ _ _).2 h1
    have CS := (show Hid _ from fun w => checkSize_any h.k h.m h.b h.sz h1 iz w)
    unfold shC at CS
    have kk : 1 ≤ h.k ∧ h.k ≤ 255 ∧ 1 ≤ h.m ∧ h.m ≤ 255 := by unfold shp at h1; omega
    rw [if_neg (not_not_intro h1)]
    by_cases h2 : 1 ≤ h.key.length ∧ h.key.length ≤ 255
    · have d2 : decide ((1 : Int) ≤ (h.key.length : Int) ∧ (h.key.length : Int) ≤ 255) = true := decide_eq_true (by omega)
      rw [if_neg (not_not_intro h2)]
      by_cases h3 : szE h.k h.b h.sz = 0
      · rw [h3] at CS
        rw [if_neg (not_not_intro h3)]
        by_cases h4 : 0 ≤ h.ix ∧ h.ix ≤ h.k + h.m - 1
        · have d4 := decide_eq_true h4
          rw [if_neg (not_not_intro h4)]
          by_cases h5 : 1 ≤ h.ep ∧ h.ep ≤ 4294967295
          · have d5 := decide_eq_true h5
            by_cases h6 : 1 ≤ h.ct ∧ h.ct ≤ 4294967295
            · have d6 := decide_eq_true h6
              rw [if_neg (not_not_intro ⟨h5, h6⟩)]
              clear h1 h2 h3 h4 h5 h6
              go_wp2_with (first | (go_at_call 20; refine (SM.out _).mono ?_; rintro e w1 ⟨rfl, hb1⟩; rw [d1]; have H1 := HA.below hb1; obtain ⟨q8, q9, q10, q11, q12, q13, q14, q15⟩ := H1.cells) | (go_at_call 21; refine (WI.out _ _ _ _).mono ?_; rintro e w2 ⟨rfl, h⟩; obtain rfl := h.symm; first | rw [d2] | rw [d4] | rw [d5] | rw [d6]) | (go_at_call 22; refine (CS.out _).mono ?_; rintro e w3 ⟨rfl, hb3⟩; obtain ⟨z8, z9, z10, z11, z12, z13, z14, z15⟩ := (H1.below hb3).cells))
              go_ret
              exact ⟨rfl, btN (btN (al _ _) hb1) hb3⟩
            · have d6 := decide_eq_false h6
              rw [if_pos (fun g => h6 g.2)]
              clear h1 h2 h3 h4 h5 h6
              go_wp2_with (first | (go_at_call 20; refine (SM.out _).mono ?_; rintro e w1 ⟨rfl, hb1⟩; rw [d1]; have H1 := HA.below hb1; obtain ⟨q8, q9, q10, q11, q12, q13, q14, q15⟩ := H1.cells) | (go_at_call 21; refine (WI.out _ _ _ _).mono ?_; rintro e w2 ⟨rfl, h⟩; obtain rfl := h.symm; first | rw [d2] | rw [d4] | rw [d5] | rw [d6]) | (go_at_call 22; refine (CS.out _).mono ?_; rintro e w3 ⟨rfl, hb3⟩; obtain ⟨z8, z9, z10, z11, z12, z13, z14, z15⟩ := (H1.below hb3).cells))
              go_ret
              exact ⟨rfl, btN (btN (al _ _) hb1) hb3⟩
          · have d5 := decide_eq_false h5
            rw [if_pos (fun g => h5 g.1)]
            clear h1 h2 h3 h4 h5
            go_wp2_with (first | (go_at_call 20; refine (SM.out _).mono ?_; rintro e w1 ⟨rfl, hb1⟩; rw [d1]; have H1 := HA.below hb1; obtain ⟨q8, q9, q10, q11, q12, q13, q14, q15⟩ := H1.cells) | (go_at_call 21; refine (WI.out _ _ _ _).mono ?_; rintro e w2 ⟨rfl, h⟩; obtain rfl := h.symm; first | rw [d2] | rw [d4] | rw [d5] | rw [d6]) | (go_at_call 22; refine (CS.out _).mono ?_; rintro e w3 ⟨rfl, hb3⟩; obtain ⟨z8, z9, z10, z11, z12, z13, z14, z15⟩ := (H1.below hb3).cells))
            go_ret
            exact ⟨rfl, btN (btN (al _ _) hb1) hb3⟩
        · have d4 := decide_eq_false h4
          rw [if_pos h4]
          clear h1 h2 h3 h4
          go_wp2_with (first | (go_at_call 20; refine (SM.out _).mono ?_; rintro e w1 ⟨rfl, hb1⟩; rw [d1]; have H1 := HA.below hb1; obtain ⟨q8, q9, q10, q11, q12, q13, q14, q15⟩ := H1.cells) | (go_at_call 21; refine (WI.out _ _ _ _).mono ?_; rintro e w2 ⟨rfl, h⟩; obtain rfl := h.symm; first | rw [d2] | rw [d4] | rw [d5] | rw [d6]) | (go_at_call 22; refine (CS.out _).mono ?_; rintro e w3 ⟨rfl, hb3⟩; obtain ⟨z8, z9, z10, z11, z12, z13, z14, z15⟩ := (H1.below hb3).cells))
          go_ret
          exact ⟨rfl, btN (btN (al _ _) hb1) hb3⟩
      · rw [if_pos h3]
        have hz := szE_bd h.k h.b h.sz
        generalize szE h.k h.b h.sz = z at h3 CS hz ⊢
        clear h1 h2
        go_wp2_with (first | (go_at_call 20; refine (SM.out _).mono ?_; rintro e w1 ⟨rfl, hb1⟩; rw [d1]; have H1 := HA.below hb1; obtain ⟨q8, q9, q10, q11, q12, q13, q14, q15⟩ := H1.cells) | (go_at_call 21; refine (WI.out _ _ _ _).mono ?_; rintro e w2 ⟨rfl, h⟩; obtain rfl := h.symm; first | rw [d2] | rw [d4] | rw [d5] | rw [d6]) | (go_at_call 22; refine (CS.out _).mono ?_; rintro e w3 ⟨rfl, hb3⟩; obtain ⟨z8, z9, z10, z11, z12, z13, z14, z15⟩ := (H1.below hb3).cells))
        go_ret
        exact ⟨rfl, btN (btN (al _ _) hb1) hb3⟩
    · have d2 : decide ((1 : Int) ≤ (h.key.length : Int) ∧ (h.key.length : Int) ≤ 255) = false := decide_eq_false (by omega)
      rw [if_pos h2]
      clear h1 h2
      go_wp2_with (first | (go_at_call 20; refine (SM.out _).mono ?_; rintro e w1 ⟨rfl, hb1⟩; rw [d1]; have H1 := HA.below hb1; obtain ⟨q8, q9, q10, q11, q12, q13, q14, q15⟩ := H1.cells) | (go_at_call 21; refine (WI.out _ _ _ _).mono ?_; rintro e w2 ⟨rfl, h⟩; obtain rfl := h.symm; first | rw [d2] | rw [d4] | rw [d5] | rw [d6]) | (go_at_call 22; refine (CS.out _).mono ?_; rintro e w3 ⟨rfl, hb3⟩; obtain ⟨z8, z9, z10, z11, z12, z13, z14, z15⟩ := (H1.below hb3).cells))
      go_ret
      exact ⟨rfl, btN (al _ _) hb1⟩
  · have d1 : shB h.k h.m h.b = false := by
      cases e : shB h.k h.m h.b with
      | false => rfl
      | true => exact absurd ((shB_iff _ _ _).1 e) h1
    rw [if_pos h1]
    clear h1
    go_wp2_with (first | (go_at_call 20; refine (SM.out _).mono ?_; rintro e w1 ⟨rfl, hb1⟩; rw [d1]; have H1 := HA.below hb1; obtain ⟨q8, q9, q10, q11, q12, q13, q14, q15⟩ := H1.cells) | (go_at_call 21; refine (WI.out _ _ _ _).mono ?_; rintro e w2 ⟨rfl, h⟩; obtain rfl := h.symm; first | rw [d2] | rw [d4] | rw [d5] | rw [d6]) | (go_at_call 22; refine (CS.out _).mono ?_; rintro e w3 ⟨rfl, hb3⟩; obtain ⟨z8, z9, z10, z11, z12, z13, z14, z15⟩ := (H1.below hb3).cells))
    go_ret
    exact ⟨rfl, btN (al _ _) hb1⟩
end
end Go.Proofs.Ytgokkppojhokbaa
/-
  Package frame: 'blockLengths', 'Sizes', 'Length'.
-/
namespace Go.Proofs.Ytgokkppojhokbaa
open Go.RowKit
/-- Numbers as cells; an own list of them. -/
def icN (ns : List Nat) : List Value := ns.map fun n : Nat => Value.int .i64 (n : Int)
def Oi (w : World) (base : Nat) (v : Value) (ns : List Nat) : Prop := w.ownsRow base 3 1 v ns.length (icN ns)
theorem info3 : (Try.prog.info? 3).map (fun i => (i.zero, i.size, i.bytes)) = some (some (.int .i64 0), 1, 8) := by kernel_rfl
theorem Oi.nil (w : World) (base : Nat) : Oi w base (.slice none 0 0) [] := World.ownsRow_nil _ _ _ _
theorem Oi.below {w w' : World} {base : Nat} {v : Value} {ns : List Nat} (h : Oi w base v ns) (hb : Below w.heap.size w w') : Oi w' base v ns := own_below h hb
/-- A row of values that reads so. -/
def Vr (w : World) (p : Option Addr) (xs : List Value) : Prop := xs = [] ∨ ∃ b o, p = some ⟨b, o, none⟩ ∧ ∀ i u, xs[i]? = some u → w.cell? ⟨b, o + i, none⟩ = some u
theorem Vr.below {w w' : World} {p : Option Addr} {xs : List Value} (h : Vr w p xs) (hb : Below w.heap.size w w') : Vr w' p xs := by
  rcases h with h | ⟨b, o, e, hc⟩
  · exact .inl h
  · exact .inr ⟨b, o, e, fun i u hu => cell_below (hc i u hu) hb⟩
theorem own_rd {t : TypeId} {w : World} {base n : Nat} {v : Value} {xs : List Value} (h : w.ownsRow base t 1 v n xs) (hn : xs.length = n) : ∃ p cap, v = .slice p n cap ∧ n ≤ cap ∧ Vr w p xs := by
  rcases h.2 with ⟨hv, h0⟩ | ⟨g, cap, c, hv, hg, hh, hc, hm, hs, ht⟩
  · subst h0; exact ⟨none, 0, hv, Nat.le_refl _, .inl (List.length_eq_zero_iff.1 hn)⟩
  · refine ⟨some ⟨g, 0, none⟩, cap, hv, hc, .inr ⟨g, 0, rfl, fun i u hu => ?_⟩⟩
    have := h.cells (g := g) (by rw [hv]; rfl) i u hu
    rwa [add_plN] at this
theorem ic_len (ns : List Nat) : (icN ns).length = ns.length := by simp [icN]
theorem ic_at (ns : List Nat) (i : Nat) (h : i < ns.length) : (icN ns)[i]? = some (.int .i64 ((ns.getD i 0 : Nat) : Int)) := by simp [icN, List.getD, h]
theorem Oi.rd {w : World} {base : Nat} {v : Value} {ns : List Nat} (h : Oi w base v ns) : ∃ p cap, v = .slice p ns.length cap ∧ ns.length ≤ cap ∧ Vr w p (icN ns) := own_rd h (ic_len ns)
/-- A number of such a row. -/
theorem Vr.num {w : World} {p : Option Addr} {ns : List Nat} (h : Vr w p (icN ns)) (i : Nat) (hi : i < ns.length) : ∃ b o, p = some ⟨b, o, none⟩ ∧ w.cell? ⟨b, o + i, none⟩ = some (.int .i64 ((ns.getD i 0 : Nat) : Int)) := by
  rcases h with h | ⟨b, o, e, hc⟩
  · have := ic_len ns; rw [h] at this; simp at this; omega
  · exact ⟨b, o, e, hc i _ (ic_at ns i hi)⟩
/-- append(v, x) of one number. -/
theorem wpList_api {w : World} {ops : Array Oper} {rest : List Oper} {o : Oper} {a : Act} {Q : Exit → Act → World → Prop} (hgd : o.guard = none) (s x : Operand) (ho : o.op = .call { callee := .builtin .append, args := #[s, x], argTypes := #[24, 24] })
    (base : Nat) (v : Value) (ns : List Nat) (hs : a.eval s = v) (hown : Oi w base v ns) (ad : Addr) (c : Nat) (n : Nat) (hx : a.eval x = .slice (some ad) 1 c) (hr : w.cell? ad = some (.int .i64 (n : Int))) (hm : ns.length + 1 ≤ 1099511627776) (hbase : base ≤ w.heap.size)
    (h : ∀ v' w', Oi w' base v' (ns ++ [n]) → w.grownBy w' v.ownBlock → wpList Try.prog ops Q rest (a.put o.dst v') w') : wpList Try.prog ops Q (o :: rest) a w := by
  obtain ⟨i0, hi, hz0, hz1, hz2⟩ := info_parts info3
  have S : ∀ j u, ([.int .i64 (n : Int)] : List Value)[j]? = some u → w.cell? (ad.add j) = some u := by
    intro j u hu
    match j with
    | 0 =>
      simp at hu
      rw [show ad.add 0 = ad by unfold Addr.add; split <;> simp_all, hr, hu]
    | j + 1 => simp at hu
  have hl : (icN ns).length = ns.length := by simp [icN]
  refine wpList_append_own _ hgd _ _ 24 ho base 3 i0 (.int .i64 0) 1 8 Try.underlying24 hi hz0 hz1 hz2 rfl (by decide) v ns.length _ hs hown ad 1 c [.int .i64 (n : Int)] hx rfl S (by intro u hu; simp at hu; subst hu; rfl) (by unfold maxLen; omega) (by omega) hbase ?_
  intro v' w' ho' hg _
  refine h v' w' ?_ hg
  unfold Oi icN
  simpa [icN] using ho'
theorem Hm.lt {w : World} {g : Nat} {o : Obj} (H : w.heap[g]? = some o) : g < w.heap.size := by
  rcases Nat.lt_or_ge g w.heap.size with h1 | h1
  · exact h1
  · rw [Array.getElem?_eq_none h1] at H; cases H
theorem roundUp_nat (d k : Nat) (hd : d ≤ 16711680) (hk : 1 ≤ k ∧ k ≤ 255) (w : World) :
    Calls Try.prog 37 #[.int .i64 (d : Int), .int .i64 (k : Int)] w fun e w' => e = .returned (.int .i64 (((d + k - 1) / k : Nat) : Int)) ∧ w' = w := by
  have h := roundedUp_any (d : Int) (k : Int) (by omega) (by omega) w
  have e : cdv (d : Int) (k : Int) = (((d + k - 1) / k : Nat) : Int) := by
    unfold cdv; rw [Int.natCast_ediv]; congr 1; omega
  rwa [e] at h
section
attribute [local irreducible] Calls el
set_option maxRecDepth 1000000 in
set_option maxHeartbeats 1000000 in
theorem blens_any (k m b sz : Nat) (hk : 1 ≤ k ∧ k ≤ 255) (hb : 1 ≤ b ∧ b ≤ 65536) (hz : sz ≤ 1048576) (w : World) :
    Calls Try.prog 38 #[.agg (shC k m b), .int .i64 (sz : Int)] w fun e w' => ∃ v, e = .returned v ∧ Oi w' w.heap.size v (bls k (k * b) sz sz) ∧ Below w.heap.size w w' := by
  have al : ∀ (W : World) (o : Obj), Below W.heap.size W (W.alloc o) := fun W o => (Below.refl _ _).alloc (Nat.le_refl _) o
  unfold shC
  have kb : 1 ≤ k * b ∧ k * b ≤ 16711680 := ⟨Nat.mul_le_mul hk.1 hb.1, Nat.mul_le_mul hk.2 hb.2⟩
  have kbi : 1 ≤ (k : Int) * (b : Int) ∧ (k : Int) * (b : Int) ≤ 16711680 := by rw [← Int.natCast_mul]; omega
  go_enter Try.func38, Try.ntmps38
  go_wp2
  have hsi : (k : Int) * (b : Int) = ((k * b : Nat) : Int) := by simp
  rw [hsi]
  clear hsi kbi
  obtain ⟨s, HS⟩ : ∃ s, Hid (k * b = s) := ⟨_, rfl⟩
  rw [HS.out] at kb ⊢
  go_loopw [5, 7] (fun o i wr => ∃ (f l : Nat) (z : Int) (ys : List Nat), i = .int .i64 z ∧ (0 < z → z = l) ∧ (z ≤ 0 → l = 0) ∧ -16711680 ≤ z ∧ l ≤ f ∧ ys.length + f = sz ∧ ys ++ bls k s f l = bls k s sz sz ∧ Oi wr w.heap.size o ys ∧ wr.heap[w.heap.size]? = some (.cells #[.int .i64 (k : Int), .int .i64 (m : Int), .int .i64 (b : Int)] 29) ∧ Below w.heap.size w wr) (fun _ i _ => (intOf i).toNat)
  case atStart => exact ⟨sz, sz, sz, [], rfl, fun _ => rfl, fun _ => by omega, by omega, Nat.le_refl _, by simp, rfl, Oi.nil _ _, heap_alloc_new w _, al _ _⟩
  case round =>
    obtain ⟨f, l, z, ys, rfl, hz1, hz2, hz3, hlf, hyf, he, hO, hh, hb'⟩ := hrel
    have hsz := hb'.size
    by_cases hlt : 0 < z
    · have hzl := hz1 hlt
      subst hzl
      have c0 := cell_of_row wr w.heap.size 0 _ _ (0, 0) hh
      obtain ⟨f, rfl⟩ : ∃ f', f = f' + 1 := ⟨f - 1, by omega⟩
      have hl0 : ¬ l = 0 := by omega
      have hst : bls k s (f + 1) l = (min l s + k - 1) / k :: bls k s f (l - s) := by
        show (if l = 0 then [] else _) = _
        rw [if_neg hl0]
      have RU := (show Hid _ from fun (d : Nat) (hd : d ≤ 16711680) w => roundUp_nat d k hd hk w)
      rcases Nat.lt_or_ge s l with hls | hls
      · have hmn : min l s = s := Nat.min_eq_right (Nat.le_of_lt hls)
        have i1 : (l : Int) ≤ 1048576 := by omega
        have i2 : (s : Int) ≤ 16711680 := by omega
        rw [hmn] at hst
        rw [hst, List.append_cons] at he
        clear hst hmn
        have rc := cell_of_row (wr.alloc (.cells #[.int .i64 (((s + k - 1) / k : Nat) : Int)] 3)) wr.heap.size 0 _ _ (0, 0) (heap_alloc_new wr _)
        go_wp2_with (first | (go_at_call 37; refine (RU.out s (by omega) _).mono ?_; rintro e w1 ⟨rfl, h⟩; obtain rfl := h.symm) | (at_builtin; refine wpList_api rfl (.tmp 19) (.tmp 26) rfl w.heap.size u5 ys rfl (hO.below (al _ _)) ⟨wr.heap.size, 0, none⟩ 1 ((s + k - 1) / k) rfl rc (by omega) (Nat.le_trans hsz (al _ _).size) ?_; intro v1 w1 ho1 hg1))
        go_roundw
        case rel =>
          have hbA : Below w.heap.size w w1 := below_appendN (t := 3) (hb'.alloc hsz _) (Nat.le_trans hsz (al _ _).size) hg1 (hO.below (al _ _)) (Nat.le_refl _)
          refine ⟨f, l - s, _, _, rfl, fun _ => by omega, fun _ => by omega, by omega, by omega, by rw [List.length_append]; simp; omega, he, ho1, ?_, hbA⟩
          have hk := own_lt (g := w.heap.size) (hO.below (al wr (.cells #[.int .i64 (((s + k - 1) / k : Nat) : Int)] 3)))
          rw [hg1.block w.heap.size (by rw [World.size_alloc]; omega) (fun e => ?_), heap_alloc_old wr _ (Hm.lt hh)]
          · exact hh
          · obtain ⟨cs, hcs⟩ := (hk e.symm).2.2
            rw [heap_alloc_old wr _ (Hm.lt hh), hh] at hcs
            injection hcs with hcs
            injection hcs with _ hcs
            cases hcs
        case measure => simp [intOf]; omega
      · have hmn : min l s = l := Nat.min_eq_left hls
        have i1 : (l : Int) ≤ 1048576 := by omega
        have i2 : (s : Int) ≤ 16711680 := by omega
        rw [hmn] at hst
        rw [hst, List.append_cons] at he
        clear hst hmn
        have rc := cell_of_row (wr.alloc (.cells #[.int .i64 (((l + k - 1) / k : Nat) : Int)] 3)) wr.heap.size 0 _ _ (0, 0) (heap_alloc_new wr _)
        go_wp2_with (first | (go_at_call 37; refine (RU.out l (by omega) _).mono ?_; rintro e w1 ⟨rfl, h⟩; obtain rfl := h.symm) | (at_builtin; refine wpList_api rfl (.tmp 19) (.tmp 26) rfl w.heap.size u5 ys rfl (hO.below (al _ _)) ⟨wr.heap.size, 0, none⟩ 1 ((l + k - 1) / k) rfl rc (by omega) (Nat.le_trans hsz (al _ _).size) ?_; intro v1 w1 ho1 hg1))
        go_roundw
        case rel =>
          have hbA : Below w.heap.size w w1 := below_appendN (t := 3) (hb'.alloc hsz _) (Nat.le_trans hsz (al _ _).size) hg1 (hO.below (al _ _)) (Nat.le_refl _)
          refine ⟨f, l - s, _, _, rfl, fun _ => by omega, fun _ => by omega, by omega, by omega, by rw [List.length_append]; simp; omega, he, ho1, ?_, hbA⟩
          have hk := own_lt (g := w.heap.size) (hO.below (al wr (.cells #[.int .i64 (((l + k - 1) / k : Nat) : Int)] 3)))
          rw [hg1.block w.heap.size (by rw [World.size_alloc]; omega) (fun e => ?_), heap_alloc_old wr _ (Hm.lt hh)]
          · exact hh
          · obtain ⟨cs, hcs⟩ := (hk e.symm).2.2
            rw [heap_alloc_old wr _ (Hm.lt hh), hh] at hcs
            injection hcs with hcs
            injection hcs with _ hcs
            cases hcs
        case measure => simp [intOf]; omega
    · have hl0 := hz2 (by omega)
      subst hl0
      have hnil : bls k s f 0 = [] := by cases f <;> rfl
      rw [hnil, List.append_nil] at he
      subst he
      clear hnil
      go_wp2
      go_ret
      exact ⟨_, rfl, by rw [HS.out]; exact hO, hb'⟩
end
end Go.Proofs.Ytgokkppojhokbaa
/-
  Package frame: 'Sizes', 'Length'.
-/
namespace Go.Proofs.Ytgokkppojhokbaa
open Go.RowKit
/-- What Sizes says. -/
def szC (k m b sz : Int) : Int := @ite _ (¬ shp k m b) (@instDecidableNot _ (shpDec k m b)) 4 (szE k b sz)
def szL (k m b sz : Int) : List Nat := if szC k m b sz = 0 then bls k.toNat (k * b).toNat sz.toNat sz.toNat else []
theorem Hd.ls_eq (h : Hd) (ok : h.Ok) : szC h.k h.m h.b h.sz = 0 ∧ szL h.k h.m h.b h.sz = h.ls := by
  have h1 : shp h.k h.m h.b := by obtain ⟨⟩ := ok; unfold shp; omega
  have h2 : szE h.k h.b h.sz = 0 := (szE_ok _ _ _).2 ⟨ok.s1, ok.s2, ok.s3⟩
  have h3 : szC h.k h.m h.b h.sz = 0 := by unfold szC; rw [if_neg (not_not_intro h1), h2]
  exact ⟨h3, by unfold szL; rw [if_pos h3]; rfl⟩
theorem tot_bls (k s : Nat) : ∀ f l, tot (bls k s f l) ≤ f * (s + k + 4) := by
  intro f
  induction f with
  | zero => intro l; simp [bls, tot]
  | succ f ih =>
    intro l
    unfold bls
    split
    · simp [tot]
    · have h1 := ih (l - s)
      have h2 : (min l s + k - 1) / k ≤ min l s + k - 1 := Nat.div_le_self _ _
      have h3 : min l s ≤ s := Nat.min_le_right _ _
      simp only [tot, Nat.succ_mul]
      omega
theorem bls_nats {k m b sz : Int} (h : shp k m b) (hz : szE k b sz = 0) : ∃ K M B Z : Nat, k = K ∧ m = M ∧ b = B ∧ sz = Z ∧ (1 ≤ K ∧ K ≤ 255) ∧ (1 ≤ B ∧ B ≤ 65536) ∧ Z ≤ 1048576 := by
  unfold shp at h
  obtain ⟨z1, z2, _⟩ := (szE_ok _ _ _).1 hz
  exact ⟨k.toNat, m.toNat, b.toNat, sz.toNat, by omega, by omega, by omega, by omega, by omega, by omega, by omega⟩
theorem tot_take (L : List Nat) (t : Nat) : tot (L.take t) ≤ tot L := by
  induction L generalizing t with
  | nil => simp
  | cons n ns ih =>
    cases t with
    | zero => simp [tot]
    | succ t => have := ih t; simp only [List.take_succ_cons, tot]; omega
theorem tot_snoc (L : List Nat) (t : Nat) (h : t < L.length) : tot (L.take (t + 1)) = tot (L.take t) + (L.getD t 0 + 4) := by
  induction L generalizing t with
  | nil => simp at h
  | cons n ns ih =>
    cases t with
    | zero => simp [tot]
    | succ t =>
      have := ih t (by simpa using h)
      rw [List.take_succ_cons, List.take_succ_cons]
      simp only [tot, this, List.getD_cons_succ]
      omega
theorem sizeHd : (Try.prog.info? 33).map (·.size) = some 16 := by kernel_rfl
theorem wpList_loadHd {w : World} {ops : Array Oper} {rest : List Oper} {o : Oper} {a : Act} {Q : Exit → Act → World → Prop} {h : Hd} (hgd : o.guard = none) (x : Operand) (ho : o.op = .load 33 x) (g : Nat) (hx : a.eval x = .pointer (some ⟨g, 0, none⟩)) (H : HdAt w g h)
    (k : wpList Try.prog ops Q rest (a.put o.dst (.agg h.cs)) w) : wpList Try.prog ops Q (o :: rest) a w :=
  wpList_load_row hgd 33 x ho g hx 33 h.cs (0, 0) _ H Try.underlying33 rfl sizeHd k
/-- A shape in memory. -/
def ShAt (w : World) (g : Nat) (k m b : Int) : Prop := w.heap[g]? = some (.cells (shC k m b) 29)
theorem ShAt.below {w w' : World} {g : Nat} {k m b : Int} (H : ShAt w g k m b) (hb : Below w.heap.size w w') : ShAt w' g k m b := by
  unfold ShAt at H ⊢
  rw [hb.block g (Hm.lt H)]; exact H
theorem ShAt.new (w : World) (k m b : Int) : ShAt (w.alloc (.cells (shC k m b) 29)) w.heap.size k m b := heap_alloc_new w _
theorem ShAt.cells {w : World} {g : Nat} {k m b : Int} (H : ShAt w g k m b) : w.cell? ⟨g, 0, none⟩ = some (.int .i64 k) ∧ w.cell? ⟨g, 1, none⟩ = some (.int .i64 m) ∧ w.cell? ⟨g, 2, none⟩ = some (.int .i64 b) := by
  unfold ShAt at H
  have c := fun i => cell_of_row w g i _ _ (0, 0) H
  exact ⟨c 0, c 1, c 2⟩
theorem own_mono {w : World} {base base' n : Nat} {t : TypeId} {v : Value} {xs : List Value} (h : w.ownsRow base t 1 v n xs) (hb : base' ≤ base) : w.ownsRow base' t 1 v n xs := by
  refine ⟨h.1, ?_⟩
  rcases h.2 with h1 | ⟨g, cap, c, hv, hg, hh, hc⟩
  · exact .inl h1
  · exact .inr ⟨g, cap, c, hv, Nat.le_trans hb hg, hh, hc⟩
section
attribute [local irreducible] Calls el Hd.cs
set_option maxHeartbeats 1000000 in
set_option maxRecDepth 1000000 in
theorem blens_int (k m b sz : Int) (h : shp k m b) (hz : szE k b sz = 0) (w : World) :
    Calls Try.prog 38 #[.agg (shC k m b), .int .i64 sz] w fun e w' => ∃ v, e = .returned v ∧ Oi w' w.heap.size v (bls k.toNat (k * b).toNat sz.toNat sz.toNat) ∧ Below w.heap.size w w' := by
  obtain ⟨K, M, B, Z, rfl, rfl, rfl, rfl, hK, hB, hZ⟩ := bls_nats h hz
  rw [← Int.natCast_mul]
  simp only [Int.toNat_natCast]
  exact blens_any K M B Z hK hB hZ w
set_option maxHeartbeats 1000000 in
set_option maxRecDepth 1000000 in
theorem sizes_any (k m b sz : Int) (hm : In64 m) (hz : In64 sz) (w : World) :
    Calls Try.prog 23 #[.agg (shC k m b), .int .i64 sz] w fun e w' => ∃ v, e = .returned (.tuple #[v, .int .i64 (szC k m b sz)]) ∧ Oi w' w.heap.size v (szL k m b sz) ∧ Below w.heap.size w w' := by
  have al : ∀ (W : World) (o : Obj), Below W.heap.size W (W.alloc o) := fun W o => (Below.refl _ _).alloc (Nat.le_refl _) o
  have SM := (show Hid _ from fun w => shapeMayBe_any k m b hm w)
  have HA := ShAt.new w k m b
  unfold szL szC
  unfold shC at SM HA ⊢
  go_enter Try.func23, Try.ntmps23
  by_cases h1 : shp k m b
  · have d1 := (shB_iff _ _ _).2 h1
    have CS := (show Hid _ from fun w => checkSize_any k m b sz h1 hz w)
    unfold shC at CS
    rw [if_neg (not_not_intro h1)]
    by_cases h3 : szE k b sz = 0
    · have BL := (show Hid _ from fun w => blens_int k m b sz h1 h3 w)
      unfold shC at BL
      rw [h3] at CS ⊢
      rw [if_pos rfl]
      clear h1 h3
      go_wp2_with (first | (go_at_call 20; refine (SM.out _).mono ?_; rintro e w1 ⟨rfl, hb1⟩; rw [d1]; have H1 := HA.below hb1; obtain ⟨q0, q1, q2⟩ := H1.cells) | (go_at_call 22; refine (CS.out _).mono ?_; rintro e w3 ⟨rfl, hb3⟩; obtain ⟨z0, z1, z2⟩ := (H1.below hb3).cells) | (go_at_call 38; refine (BL.out _).mono ?_; rintro e w4 ⟨v, rfl, hO, hb4⟩))
      go_ret2
      have hbb := btN (btN (al w (.cells #[.int .i64 k, .int .i64 m, .int .i64 b] 29)) hb1) hb3
      exact ⟨_, rfl, own_mono hO hbb.size, btN hbb hb4⟩
    · rw [if_neg h3]
      have hzb := szE_bd k b sz
      generalize szE k b sz = z at h3 CS hzb ⊢
      clear h1
      go_wp2_with (first | (go_at_call 20; refine (SM.out _).mono ?_; rintro e w1 ⟨rfl, hb1⟩; rw [d1]; have H1 := HA.below hb1; obtain ⟨q0, q1, q2⟩ := H1.cells) | (go_at_call 22; refine (CS.out _).mono ?_; rintro e w3 ⟨rfl, hb3⟩; obtain ⟨z0, z1, z2⟩ := (H1.below hb3).cells) | (go_at_call 38; refine (BL.out _).mono ?_; rintro e w4 ⟨v, rfl, hO, hb4⟩))
      go_ret2
      exact ⟨_, rfl, Oi.nil _ _, btN (btN (al _ _) hb1) hb3⟩
  · have d1 : shB k m b = false := by
      cases e : shB k m b with
      | false => rfl
      | true => exact absurd ((shB_iff _ _ _).1 e) h1
    rw [if_pos h1, if_neg (by decide)]
    clear h1
    go_wp2_with (first | (go_at_call 20; refine (SM.out _).mono ?_; rintro e w1 ⟨rfl, hb1⟩; rw [d1]; have H1 := HA.below hb1; obtain ⟨q0, q1, q2⟩ := H1.cells) | (go_at_call 22; refine (CS.out _).mono ?_; rintro e w3 ⟨rfl, hb3⟩; obtain ⟨z0, z1, z2⟩ := (H1.below hb3).cells) | (go_at_call 38; refine (BL.out _).mono ?_; rintro e w4 ⟨v, rfl, hO, hb4⟩))
    go_ret2
    exact ⟨_, rfl, Oi.nil _ _, btN (al _ _) hb1⟩
end
end Go.Proofs.Ytgokkppojhokbaa
