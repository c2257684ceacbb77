/-
  Votes: 'hidden', 'Stale'.
-/
import Derived.Test.YtefomnlgpldgnaaVc17
namespace Go.Proofs.Ytefomnlgpldgnaa
open Go.RowKit
theorem pwH_hid (ss : Nat → Sn) (n : Nat) : (pwH ss n).length = hid (shs ss) n := rfl
/-- What Stale answers. -/
def stl (ss : Nat → Sn) (n : Nat) (kd : Int) (k : Wg) : List Nat := if kd = 1 then pwO ss n k else if kd = 2 then pwN ss n else []
/-- A verdict's cells. -/
def vdC (kd : Int) (k : Wg) (v : Value) : Array Value := #[.int .i64 kd, .int .i64 k.1, .int .i64 k.2.1, .int .i64 k.2.2, v]
section
attribute [local irreducible] Calls Sn.cs GB On pwH pwN pwO
set_option maxRecDepth 1000000 in
theorem hidden_any {w : World} {p : Option Addr} {n c : Nat} {ss : Nat → Sn} (HS : SnL w p n ss) (hn : n ≤ 1172812402943) (hv : ∀ i, i < n → (ss i).bv.oneCell' = true) :
    Calls Try.prog 20 #[.slice p n c] w fun e w' => e = .returned (.int .i64 (hid (shs ss) n : Int)) ∧ Below w.heap.size w w' := by
  have PW := (show Hid _ from placesH (c := c) HS hn hv)
  have E := pwH_hid ss n
  rw [← E]
  clear E HS hv hn
  go_enter Try.func20, Try.ntmps20
  go_wp2_with (first
    | (go_at_call 26; refine PW.out.mono ?_; rintro e w1 ⟨v1, rfl, hO1, hb1⟩; obtain ⟨q1, c1, e1, hc1, _⟩ := hO1.rn; subst e1))
  go_ret
  exact ⟨rfl, hb1⟩
set_option maxRecDepth 1000000 in
theorem stale_any {w : World} {p : Option Addr} {n c : Nat} {ss : Nat → Sn} (HS : SnL w p n ss) (hn : n ≤ 1172812402943) (hv : ∀ i, i < n → (ss i).bv.oneCell' = true) (kd : Int) (k : Wg) (pv : Value) :
    Calls Try.prog 14 #[.slice p n c, .agg (vdC kd k pv)] w fun e w' => ∃ v, e = .returned v ∧ On w' w.heap.size v (stl ss n kd k) ∧ Below w.heap.size w w' := by
  have HL := (show Hid (SnL w p n ss) from HS)
  have HV := (show Hid (∀ i, i < n → (ss i).bv.oneCell' = true) from hv)
  have HN := (show Hid (n ≤ 1172812402943) from hn)
  clear HS hv hn
  unfold stl vdC
  by_cases h1 : kd = 1
  · subst h1
    rw [if_pos rfl]
    go_enter Try.func14, Try.ntmps14
    go_wp2_with (first
      | (refine wpList_bxB rfl _ rfl rfl ?_; intro w1 hG1 hb1 hs1; have c0 := hG1.cell 0; have c1 := hG1.cell 1; have c2 := hG1.cell 2; have c3 := hG1.cell 3; simp at c0 c1 c2 c3)
      | (refine wpList_alB rfl rfl zero_Wr ?_; intro w2 hG2 hb2 hs2)
      | (refine wpList_stB (cs := wgC k) rfl _ _ rfl rfl w1.heap.size rfl rfl hG2 size_Wr rfl (wgC_one _) ?_; intro w3 hG3 hg3 hs3; have hb3 := bt hb1 (grown_below hb2 hg3 hb2.size (Nat.le_refl _)))
      | (go_at_call 26; refine (placesO (HL.out.below hb3) HN.out HV.out w1.heap.size k hG3).mono ?_; rintro e w4 ⟨v4, rfl, hO4, hb4⟩))
    go_ret
    exact ⟨_, rfl, hO4.mono hb3.size, bt hb3 hb4⟩
  · rw [if_neg h1]
    have d1 : (kd == 1) = false := by simp [h1]
    by_cases h2 : kd = 2
    · subst h2
      rw [if_pos rfl]
      go_enter Try.func14, Try.ntmps14
      go_wp2_with (first
        | (refine wpList_bxB rfl _ rfl rfl ?_; intro w1 hG1 hb1 hs1; have c0 := hG1.cell 0; simp at c0)
        | (go_at_call 26; refine (placesN (HL.out.below hb1) HN.out HV.out).mono ?_; rintro e w4 ⟨v4, rfl, hO4, hb4⟩))
      go_ret
      exact ⟨_, rfl, hO4.mono hb1.size, bt hb1 hb4⟩
    · rw [if_neg h2]
      have d2 : (kd == 2) = false := by simp [h2]
      go_enter Try.func14, Try.ntmps14
      go_wp2_with (first
        | (refine wpList_bxB rfl _ rfl rfl ?_; intro w1 hG1 hb1 hs1; have c0 := hG1.cell 0; simp at c0))
      go_ret
      exact ⟨_, rfl, On.nil _ _, hb1⟩
end
end Go.Proofs.Ytefomnlgpldgnaa
