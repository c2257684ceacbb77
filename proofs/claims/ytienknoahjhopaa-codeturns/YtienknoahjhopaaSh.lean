/-
  The document's 'Shares', 'First'.
-/
import Derived.Test.YtienknoahjhopaaLg
namespace Go.Proofs.Ytienknoahjhopaa
open Go.RowKit
theorem makeI (n : Nat) (hn : n ≤ 1000) (w : World) : (Instr.makeSlice 47 (.int .i64 (n : Int)) (.int .i64 (n : Int))).run Try.prog w = .ok (.slice (some ⟨w.heap.size, 0, none⟩) n n) (w.alloc (.cells (Array.replicate (n * 1) (.int .i64 0)) 3)) :=
  make_any Try.underlying47 infoI rfl (by decide) n (by omega) (by omega) w
/-- The shares: the value itself where the point is one of them. -/
def shr (p : Nat → Nat) (q x j : Nat) : BitVec 8 := if (List.range q).any (fun t => p t == x) = true then (if p j = x then 1#8 else 0#8) else sha (fun t => pt (p t)) q j (pt x)
theorem any_yes {p : Nat → Nat} {q x t : Nat} (ht : t < q) (h : p t = x) : (List.range q).any (fun t => p t == x) = true := List.any_eq_true.2 ⟨t, List.mem_range.2 ht, by simpa using h⟩
theorem any_no {p : Nat → Nat} {q x : Nat} (h : ∀ t, t < q → p t ≠ x) : (List.range q).any (fun t => p t == x) = false := List.any_eq_false.2 (fun t ht => by have := h t (List.mem_range.1 ht); simpa using this)
theorem shr_in {p : Nat → Nat} {q x t : Nat} (ht : t < q) (h : p t = x) (j : Nat) : shr p q x j = if p j = x then 1#8 else 0#8 := by unfold shr; rw [if_pos (any_yes ht h)]
theorem shr_out {p : Nat → Nat} {q x : Nat} (h : ∀ t, t < q → p t ≠ x) (j : Nat) : shr p q x j = sha (fun t => pt (p t)) q j (pt x) := by unfold shr; rw [any_no h]; rfl
theorem pt_xor {a b : Nat} (ha : a < 256) (hb : b < 256) : bits .xor .i64 (a : Int) (b : Int) = el (pt a ^^^ pt b) := by
  rw [i64_xor_natO a b (by omega) (by omega)]
  unfold el pt
  rw [BitVec.toNat_xor, BitVec.toNat_ofNat, BitVec.toNat_ofNat, Nat.mod_eq_of_lt (by omega), Nat.mod_eq_of_lt (by omega)]
theorem lup_now {p : Nat → BitVec 8} {j n : Nat} {x : BitVec 8} (h : n = j) : lup p j x (n + 1) = lup p j x n := by subst h; exact lup_skip p n x
section
attribute [local irreducible] Calls Jr Ov el gm lup sha shr pt inv
set_option maxHeartbeats 16000000 in
set_option maxRecDepth 1000000 in
theorem shares_core (b o q c x : Nat) (p : Nat → Nat) (w : World) (hq0 : 0 < q) (hq : q ≤ 255) (hx : x < 256) (HP : Hid (∀ t, t < q → p t < 256)) (HD : Hid (∀ i, i < q → ∀ j, j < q → i ≠ j → p i ≠ p j)) (HC : Hid (∀ t, t < q → w.cell? ⟨b, o + t, none⟩ = some (.int .i64 (p t : Int)))) :
    Calls Try.prog 39 #[.slice (some ⟨b, o, none⟩) q c, .int .i64 (x : Int)] w fun e w' => e = .returned (.slice (some ⟨w.heap.size, 0, none⟩) q q) ∧ Ov w' 3 w.heap.size (fun j => .int .i64 (el (shr p q x j))) q ∧ Below w.heap.size w w' := by
  have hm1 := makeI q (by omega)
  rw [Nat.mul_one] at hm1
  have HO0 : Hid (Ov (w.alloc (.cells (Array.replicate q (.int .i64 0)) 3)) 3 w.heap.size (fun _ => .int .i64 0) q) := ov_new w 3 (.int .i64 0) q
  have HB0 : Hid (Below w.heap.size w (w.alloc (.cells (Array.replicate q (.int .i64 0)) 3))) := (Below.refl _ _).alloc (Nat.le_refl _) _
  have el0 : Hid (el 0#8 = 0) := by show _ = _; decide +kernel
  have el1 : Hid (el 1#8 = 1) := by show _ = _; decide +kernel
  go_enter Try.func39, Try.ntmps39
  go_wp2
  clear hm1
  go_loopw [6] (fun i wr => ∃ t : Nat, t ≤ q ∧ i = .int .i64 t ∧ Hid (∀ s, s < t → p s ≠ x) ∧ Ov wr 3 w.heap.size (fun _ => .int .i64 0) q ∧ Below w.heap.size w wr) (fun i _ => q - (intOf i).toNat)
  case atStart => exact ⟨0, Nat.zero_le _, rfl, fun s hs => by omega, HO0.out, HB0.out⟩
  case round =>
    clear HO0 HB0
    obtain ⟨t, ht, rfl, hno, hO, hb⟩ := hrel
    by_cases hlt : t < q
    · have j1 : (t : Int) < (q : Int) := by omega
      have g1 := cell_below (HC.out t hlt) hb
      by_cases he : p t = x
      · have e1 : ((p t : Int) == (x : Int)) = true := by rw [he]; simp
        have y1 := hO.cell hlt
        have y2 := hO.frozen t
        have HE : Hid (p t = x) := he
        clear he
        go_wp2
        go_ret
        refine ⟨rfl, (hO.set hlt (.int .i64 1)).congr (fun j hj => ?_), hb.setCell (Nat.le_refl _) _⟩
        rw [shr_in hlt HE.out]
        by_cases e2 : j = t
        · rw [if_pos e2, e2, if_pos HE.out, el1.out]
        · rw [if_neg e2, if_neg (fun e3 => HD.out j hj t hlt e2 (e3.trans HE.out.symm)), el0.out]
      · have e1 : ((p t : Int) == (x : Int)) = false := by rw [beq_eq_false_iff_ne]; omega
        go_wp2
        go_roundw
        case rel => exact ⟨t + 1, by omega, by go_num, fun s hs => by
          by_cases e2 : s = t
          · rw [e2]; exact he
          · exact hno.out s (by omega), hO, hb⟩
        case measure => simp [intOf]; omega
    · obtain rfl : t = q := by omega
      have HS : Hid (∀ j, shr p t x j = sha (fun s => pt (p s)) t j (pt x)) := fun j => shr_out hno.out j
      have HOa := (show Hid _ from hO)
      have HBa := (show Hid _ from hb)
      clear hno hO hb
      go_wp2
      go_loopw [7] (fun i wr => ∃ j : Nat, j ≤ t ∧ i = .int .i64 j ∧ Ov wr 3 w.heap.size (fun i => if i < j then .int .i64 (el (shr p t x i)) else .int .i64 0) t ∧ Below w.heap.size w wr) (fun i _ => t - (intOf i).toNat)
      case atStart => exact ⟨0, Nat.zero_le _, rfl, HOa.out.congr (fun i _ => by rw [if_neg (by omega)]), HBa.out⟩
      case round =>
        clear HOa HBa
        obtain ⟨j, hj, rfl, hO, hb⟩ := hrel
        by_cases hjt : j < t
        · have j1 : (j : Int) < (t : Int) := by omega
          have HOj := (show Hid _ from hO)
          have HCj : Hid (∀ X, Below w.heap.size w X → ∀ i, i < t → X.cell? ⟨b, o + i, none⟩ = some (.int .i64 (p i : Int))) := fun X h i hi => cell_below (HC.out i hi) h
          obtain ⟨W0, hW0⟩ : ∃ W0, W0 = wr := ⟨_, rfl⟩
          subst hW0
          have HB0 := (show Hid _ from hb)
          have hE1 := el1.out.symm
          clear hO hb
          go_wp2
          go_loopw [8, 9, 10] (fun u d i wr => ∃ s : Nat, s ≤ t ∧ i = .int .i64 s ∧ u = .int .i64 (el (lup (fun s => pt (p s)) j (pt x) s)) ∧ d = .int .i64 (el (lup (fun s => pt (p s)) j (pt (p j)) s)) ∧ Below W0.heap.size W0 wr) (fun _ _ i _ => t - (intOf i).toNat)
          case atStart => exact ⟨0, Nat.zero_le _, rfl, by unfold lup; exact congrArg (Value.int .i64) hE1, by unfold lup; exact congrArg (Value.int .i64) hE1, Below.refl _ _⟩
          case round =>
            clear hE1
            obtain ⟨s, hs, rfl, rfl, rfl, hbs⟩ := hrel
            by_cases hst : s < t
            · have j2 : (s : Int) < (t : Int) := by omega
              by_cases hsj : s = j
              · have e1 : ((s : Int) != (j : Int)) = false := by rw [hsj]; simp
                have HSJ : Hid (s = j) := hsj
                clear hsj
                go_wp2
                go_roundw
                case rel => exact ⟨s + 1, by omega, by go_num, by rw [lup_now HSJ.out], by rw [lup_now HSJ.out], hbs⟩
                case measure => simp [intOf]; omega
              · have e1 : ((s : Int) != (j : Int)) = true := by simp; omega
                have g1 := HCj.out _ (bt HB0.out hbs) s hst
                have hbd := (show Hid _ from hbs.drew)
                have KS := (show Hid (_ ∧ _) from ⟨HCj.out _ (bt HB0.out hbd.out) j hjt, HCj.out _ (bt HB0.out hbd.out) s hst⟩)
                have x1 := pt_xor hx (HP.out s hst)
                have x2 := pt_xor (HP.out j hjt) (HP.out s hst)
                have T1 : Hid True := trivial
                go_wp2_with (go_at_call 40; revert T1; intro T1; refine (refTimes_any _ _ _).mono ?_; rintro e w' ⟨rfl, h⟩; obtain rfl := h.symm; clear T1)
                go_region_held3 (fun X => X.cell? ⟨b, o + j, none⟩ = some (.int .i64 (p j : Int)) ∧ X.cell? ⟨b, o + s, none⟩ = some (.int .i64 (p s : Int))) (first | exact KS.out | go_keep)
                  (first | (go_at_call 40; refine (refTimes_any _ _ _).mono ?_; rintro e w' ⟨rfl, h⟩; obtain rfl := h.symm))
                all_goals
                  go_wp2
                  go_roundw
                  case rel => exact ⟨s + 1, by omega, by go_num, by rw [lup_next _ hsj], by rw [lup_next _ hsj], hbd.out⟩
                  case measure => simp [intOf]; omega
            · obtain rfl : t = s := by omega
              have hne : Hid (lup (fun s => pt (p s)) j (pt (p j)) t ≠ 0#8) := lup_ne (fun i hi hne => pt_ne (HP.out j hjt) (HP.out i hi) (HD.out j hjt i hi (Ne.symm hne)))
              have hO1 := HOj.out.below hbs
              have y1 := hO1.cell hjt
              have y2 := hO1.frozen j
              have OV := (show Hid _ from fun w => refOver_any (lup (fun s => pt (p s)) j (pt x) t) (lup (fun s => pt (p s)) j (pt (p j)) t) hne.out w)
              have HSJ : Hid (el (gm (lup (fun s => pt (p s)) j (pt x) t) (inv (lup (fun s => pt (p s)) j (pt (p j)) t))) = el (shr p t x j)) := by show _ = _; rw [HS.out j]; unfold sha; rfl
              go_wp2_with (go_at_call 53; refine (OV.out _).mono ?_; rintro e w' ⟨rfl, h⟩; obtain rfl := h.symm; rw [HSJ.out])
              go_roundw
              case rel =>
                refine ⟨j + 1, by omega, by go_num, (hO1.set hjt _).congr (fun i _ => ?_), (bt HB0.out hbs).setCell (Nat.le_refl _) _⟩
                by_cases e2 : i = j
                · rw [if_pos e2, if_pos (by omega), e2]
                · rw [if_neg e2]
                  by_cases e3 : i < j
                  · rw [if_pos e3, if_pos (by omega)]
                  · rw [if_neg e3, if_neg (by omega)]
              case measure => simp [intOf]; omega
        · obtain rfl : j = t := by omega
          go_wp2
          go_ret
          exact ⟨rfl, hO.congr (fun i hi => by rw [if_pos hi]), hb⟩
end
end Go.Proofs.Ytienknoahjhopaa
