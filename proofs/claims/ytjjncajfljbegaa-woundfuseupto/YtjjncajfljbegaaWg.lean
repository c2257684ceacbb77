/-
  Fuse, Append of a wound.
-/
import Derived.Test.YtjjncajfljbegaaWf
import Derived.Deep.RegionHeld3
namespace Go.Proofs.Ytjjncajfljbegaa
open Go.RowKit Go.Maps
section
attribute [local irreducible] Calls
set_option maxHeartbeats 1000000 in
set_option maxRecDepth 1000000 in
theorem fuse_any {w : World} {wb : Nat} {dp : Option Addr} {pl : Option Nat} {g : Gt} (h : WAt w wb dp pl g) (r c i : Int) : Calls Try.prog 20 #[.pointer (some ⟨wb, 0, none⟩), .int .i64 r, .int .i64 c, .int .i64 i] w fun e w' => (∃ v, e = .returned v) ∧ WAt w' wb dp pl { g with th := decide (r ≥ 0), ro := r, ca := c, ins := i } ∧ Tn (· = wb) w w' := by
  obtain ⟨c0, c1, c2, c3, c4, c5, c6, c7, c8, c9⟩ := h.cell
  have f6 := h.frozen 6
  have f7 := h.frozen 7
  have f8 := h.frozen 8
  have f9 := h.frozen 9
  have HH := (show Hid _ from h)
  clear h
  go_enter Try.func20, Try.ntmps20
  go_wp2
  go_end0
  have e : decide (0 ≤ r) = decide (r ≥ 0) := rfl
  refine ⟨⟨_, rfl⟩, ?_, (((Tn.setCell (F := (· = wb)) _ ⟨wb, 6, none⟩ rfl _).trans (Tn.setCell (F := (· = wb)) _ ⟨wb, 7, none⟩ rfl _)).trans (Tn.setCell (F := (· = wb)) _ ⟨wb, 8, none⟩ rfl _)).trans (Tn.setCell (F := (· = wb)) _ ⟨wb, 9, none⟩ rfl _)⟩
  have h1 := HH.out
  unfold WAt at h1 ⊢
  rw [heap_setCell_same _ wb 9 _ _ _ (heap_setCell_same _ wb 8 _ _ _ (heap_setCell_same _ wb 7 _ _ _ (heap_setCell_same _ wb 6 _ _ _ h1)))]
  rfl
/-- What passes of the bytes. -/
def psd (g : Gt) (n : Nat) : Nat := min (max g.ins 0).toNat n
set_option maxHeartbeats 1000000 in
set_option maxRecDepth 1000000 in
theorem passed_any (b : Bool) (r c i : Int) (p : Option Addr) (n cap : Nat) (hnc : n ≤ cap) (hc : (cap : Int) ≤ 9223372036854775807) (w : World) : Calls Try.prog 63 #[.agg #[.bool b, .int .i64 r, .int .i64 c, .int .i64 i], .slice p n cap] w fun e w' => e = .returned (.slice p (min (max i 0).toNat n) cap) ∧ Below w.heap.size w w' := by
  go_enter Try.func63, Try.ntmps63
  go_wp2
  go_ret
  refine ⟨?_, (Below.refl _ w).alloc (Nat.le_refl _) _⟩
  rw [show (min (max i 0) (n : Int)).toNat = min (max i 0).toNat n by omega]
  rfl
-- Append is refused.
set_option maxHeartbeats 1000000 in
set_option maxRecDepth 1000000 in
theorem wappend_no {w : World} {wb : Nat} {dp : Option Addr} {pl : Option Nat} {g : Gt} (h : WAt w wb dp pl g) {P : DataW Unit} (hp : PlAt w pl P) (ok : Gok g) (v0 : Value) (v1 : Value) (hbu : (ahd g P true).1.1 = false) (hne : (ahd g P true).1.2 ≠ 0) : Calls Try.prog 33 #[.pointer (some ⟨wb, 0, none⟩), v0, v1] w fun e w' => e = .returned (.int .i64 (ahd g P true).1.2) ∧ WAt w' wb dp pl (ahd g P true).2 ∧ PlAt w' pl P ∧ Tn (· = wb) w w' := by
  have AH := (show Hid _ from ahead_any h hp ok true)
  generalize (ahd g P true) = q at *
  obtain ⟨⟨bu, er⟩, g2⟩ := q
  simp only at hne hbu AH ⊢
  subst hbu
  have b1 : (er != 0) = true := by simpa using hne
  clear h hp ok
  go_enter Try.func33, Try.ntmps33
  go_wp2_with (go_at_call 59; refine AH.out.mono ?_; rintro e w1 ⟨rfl, hW, hP, hT⟩; have HX := (show Hid (_ ∧ _ ∧ _) from ⟨hW, hP, hT⟩); clear hW hP hT AH)
  go_ret
  exact ⟨rfl, HX.out⟩
-- Append is handed on.
set_option maxHeartbeats 1000000 in
set_option maxRecDepth 1000000 in
theorem wappend_go {w : World} {wb : Nat} {dp : Option Addr} {pl : Option Nat} {g : Gt} (h : WAt w wb dp pl g) {P : DataW Unit} (hp : PlAt w pl P) (ok : Gok g) (v0 : Value) (v1 : Value) (he : (ahd g P true).1.2 = 0) (R : World → Ending → World → Prop) (hR : ∀ w1, Tn (· = wb) w w1 → Calls Try.prog 21 #[.pointer dp, v0, v1] w1 fun e w' => (∃ v, e = .returned v) ∧ R w1 e w') : Calls Try.prog 33 #[.pointer (some ⟨wb, 0, none⟩), v0, v1] w fun e w' => ∃ w1, WAt w1 wb dp pl (ahd g P true).2 ∧ PlAt w1 pl P ∧ Tn (· = wb) w w1 ∧ R w1 e w' := by
  have AH := (show Hid _ from ahead_any h hp ok true)
  have hbu : (ahd g P true).1.1 = false := by
    unfold ahd at he ⊢
    split at he
    · cases he
    · split at he
      · cases he
      · split at he
        · cases he
        · rename_i h1 h2 h3
          rw [if_neg h1, if_neg h2, if_neg h3]
  generalize (ahd g P true) = q at *
  obtain ⟨⟨bu, er⟩, g2⟩ := q
  simp only at he hbu AH ⊢
  subst he hbu
  have HR := (show Hid _ from hR)
  clear h hp ok hR
  go_enter Try.func33, Try.ntmps33
  go_wp2_with (first
    | (go_at_call 59; refine AH.out.mono ?_; rintro e w1 ⟨rfl, hW, hP, hT⟩; have c0 := hW.cell.1; have HX := (show Hid (_ ∧ _ ∧ _) from ⟨hW, hP, hT⟩); clear hW hP hT AH)
    | (go_at_call 21; refine (HR.out _ HX.out.2.2).mono ?_; rintro e w2 ⟨⟨v9, rfl⟩, hR9⟩; have HY := (show Hid _ from hR9); clear hR9))
  go_ret
  exact ⟨_, HX.out.1, HX.out.2.1, HX.out.2.2, HY.out⟩
-- A fuse burns down at an Append: its first bytes pass.
set_option maxHeartbeats 1000000 in
set_option maxRecDepth 1000000 in
theorem wappend_bu {w : World} {wb : Nat} {dp : Option Addr} {pl : Option Nat} {g : Gt} (h : WAt w wb dp pl g) {P : DataW Unit} (hp : PlAt w pl P) (ok : Gok g) (v0 : Value) (p : Option Addr) (n cap : Nat) (hnc : n ≤ cap) (hc : (cap : Int) ≤ 9223372036854775807) (hbu : (ahd g P true).1.1 = true) (R : World → Ending → World → Prop) (hR : ∀ w1, Tn (· = wb) w w1 → Calls Try.prog 21 #[.pointer dp, v0, .slice p (min (max g.ins 0).toNat n) cap] w1 fun e w' => (∃ v, e = .returned v) ∧ w'.heap[wb]? = w1.heap[wb]? ∧ R w1 e w') : Calls Try.prog 33 #[.pointer (some ⟨wb, 0, none⟩), v0, .slice p n cap] w fun e w' => e = .returned (.int .i64 122) ∧ ∃ w1 w2 e2, WAt w1 wb dp pl (ahd g P true).2 ∧ PlAt w1 pl P ∧ Tn (· = wb) w w1 ∧ Below w1.heap.size w1 w2 ∧ R w2 e2 w' := by
  have AH := (show Hid _ from ahead_any h hp ok true)
  have he : (ahd g P true).1.2 = 122 := by
    unfold ahd at hbu ⊢
    split at hbu
    · cases hbu
    · split at hbu
      · cases hbu
      · split at hbu
        · rename_i h1 h2 h3
          rw [if_neg h1, if_neg h2, if_pos h3]
        · cases hbu
  have hin : (ahd g P true).2.ins = g.ins := by
    unfold ahd
    split
    · rfl
    · split
      · rfl
      · split <;> rfl
  rw [← hin] at hR
  generalize (ahd g P true) = q at *
  obtain ⟨⟨bu, er⟩, g2⟩ := q
  simp only at he hbu AH hR ⊢
  subst he hbu
  have HR := (show Hid _ from hR)
  have HC := (show Hid _ from fun b r c i w => passed_any b r c i p n cap hnc hc w)
  clear h hp ok hR hin hnc hc
  go_enter Try.func33, Try.ntmps33
  go_wp2_with (go_at_call 59; refine AH.out.mono ?_; rintro e w1 ⟨rfl, hW, hP, hT⟩; obtain ⟨c0, -, -, -, -, -, c6, c7, c8, c9⟩ := hW.cell; have HX := (show Hid (_ ∧ _ ∧ _) from ⟨hW, hP, hT⟩); clear hW hP hT AH)
  have KS := (show Hid (w1.drew.cell? ⟨wb, 0, none⟩ = some (.pointer dp) ∧ w1.drew.cell? ⟨wb, 6, none⟩ = some (.bool g2.th) ∧ w1.drew.cell? ⟨wb, 7, none⟩ = some (.int .i64 g2.ro) ∧ w1.drew.cell? ⟨wb, 8, none⟩ = some (.int .i64 g2.ca) ∧ w1.drew.cell? ⟨wb, 9, none⟩ = some (.int .i64 g2.ins)) from ⟨c0, c6, c7, c8, c9⟩)
  clear c0 c6 c7 c8 c9
  go_region_held3 (fun X => X.cell? ⟨wb, 0, none⟩ = some (.pointer dp) ∧ X.cell? ⟨wb, 6, none⟩ = some (.bool g2.th) ∧ X.cell? ⟨wb, 7, none⟩ = some (.int .i64 g2.ro) ∧ X.cell? ⟨wb, 8, none⟩ = some (.int .i64 g2.ca) ∧ X.cell? ⟨wb, 9, none⟩ = some (.int .i64 g2.ins)) (first | exact KS.out | exact KT.out | exact KU.out)
    (first
      | (go_at_call 63; refine (HC.out _ _ _ _ _).mono ?_; rintro e w2 ⟨rfl, hb2⟩; obtain ⟨c0, -, -, -, -, -, c6, c7, c8, c9⟩ := (WAt.below (WAt.drewN HX.out.1 1) hb2).cell; have KT := (show Hid (w2.cell? ⟨wb, 0, none⟩ = some (.pointer dp) ∧ w2.cell? ⟨wb, 6, none⟩ = some (.bool g2.th) ∧ w2.cell? ⟨wb, 7, none⟩ = some (.int .i64 g2.ro) ∧ w2.cell? ⟨wb, 8, none⟩ = some (.int .i64 g2.ca) ∧ w2.cell? ⟨wb, 9, none⟩ = some (.int .i64 g2.ins)) from ⟨c0, c6, c7, c8, c9⟩); clear c0 c6 c7 c8 c9)
      | (go_at_call 21; refine (HR.out _ (HX.out.2.2.trans (Tn.of_below (((Below.refl _ w1).drew).trans hb2)))).mono ?_; rintro e w3 ⟨⟨v9, rfl⟩, hk3, hR9⟩; have HY := (show Hid _ from hR9); clear hR9; have KU := (show Hid (_ ∧ _ ∧ _ ∧ _ ∧ _) from ⟨(cell_blk 0 hk3).trans KT.out.1, (cell_blk 6 hk3).trans KT.out.2.1, (cell_blk 7 hk3).trans KT.out.2.2.1, (cell_blk 8 hk3).trans KT.out.2.2.2.1, (cell_blk 9 hk3).trans KT.out.2.2.2.2⟩)))
  go_wp2
  go_ret
  exact ⟨rfl, w1, w2, _, HX.out.1, HX.out.2.1, HX.out.2.2, ((Below.refl _ w1).drew).trans hb2, HY.out⟩
end
end Go.Proofs.Ytjjncajfljbegaa
