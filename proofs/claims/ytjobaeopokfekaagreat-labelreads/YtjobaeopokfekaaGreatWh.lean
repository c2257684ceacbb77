/-
  The calls of a wound: refused, or handed on to the drive.
-/
import Derived.Test.YtjobaeopokfekaaGreatWd
import Derived.Deep.RegionHeld3
namespace Go.Proofs.YtjobaeopokfekaaGreat
open Go.RowKit Go.Maps
theorem WAt.tn {w w' : World} {wb : Nat} {dp : Option Addr} {pl : Option Nat} {g : Gt} (h : WAt w wb dp pl g) {F : Nat → Prop} (ht : Tn F w w') (hF : ¬ F wb) : WAt w' wb dp pl g := (ht.block wb (blt h) hF).trans h
section
attribute [local irreducible] Calls
set_option maxHeartbeats 1000000 in
set_option maxRecDepth 1000000 in
theorem wcreate_no {w : World} {wb : Nat} {dp : Option Addr} {pl : Option Nat} {g : Gt} (h : WAt w wb dp pl g) {P : DataW Unit} (hp : PlAt w pl P) (ok : Gok g) (v0 : Value) (hne : (ahd g P true).1.2 ≠ 0) : Calls Tryz.prog 145 #[.pointer (some ⟨wb, 0, none⟩), v0] w fun e w' => e = .returned (.int .i64 (ahd g P true).1.2) ∧ WAt w' wb dp pl (ahd g P true).2 ∧ PlAt w' pl P ∧ Tn (· = wb) w w' := by
  have AH := (show Hid _ from ahead_any h hp ok true)
  generalize (ahd g P true) = q at *
  obtain ⟨⟨bu, er⟩, g2⟩ := q
  simp only at hne AH ⊢
  have b1 : (er != 0) = true := by simpa using hne
  clear h hp ok
  go_enter Tryz.func145, Tryz.ntmps145
  go_wp2_with (go_at_call 25; refine AH.out.mono ?_; rintro e w1 ⟨rfl, hW, hP, hT⟩; have HX := (show Hid (_ ∧ _ ∧ _) from ⟨hW, hP, hT⟩); clear hW hP hT AH)
  go_ret
  exact ⟨rfl, HX.out⟩
set_option maxHeartbeats 1000000 in
set_option maxRecDepth 1000000 in
theorem wcreate_go {w : World} {wb : Nat} {dp : Option Addr} {pl : Option Nat} {g : Gt} (h : WAt w wb dp pl g) {P : DataW Unit} (hp : PlAt w pl P) (ok : Gok g) (v0 : Value) (he : (ahd g P true).1.2 = 0) (R : World → Ending → World → Prop) (hR : ∀ w1, Tn (· = wb) w w1 → Calls Tryz.prog 136 #[.pointer dp, v0] w1 fun e w' => (∃ v, e = .returned v) ∧ R w1 e w') : Calls Tryz.prog 145 #[.pointer (some ⟨wb, 0, none⟩), v0] w fun e w' => ∃ w1, WAt w1 wb dp pl (ahd g P true).2 ∧ PlAt w1 pl P ∧ Tn (· = wb) w w1 ∧ R w1 e w' := by
  have AH := (show Hid _ from ahead_any h hp ok true)
  generalize (ahd g P true) = q at *
  obtain ⟨⟨bu, er⟩, g2⟩ := q
  simp only at he AH ⊢
  subst he
  have HR := (show Hid _ from hR)
  clear h hp ok hR
  go_enter Tryz.func145, Tryz.ntmps145
  go_wp2_with (first
    | (go_at_call 25; refine AH.out.mono ?_; rintro e w1 ⟨rfl, hW, hP, hT⟩; have c0 := hW.cell.1; have HX := (show Hid (_ ∧ _ ∧ _) from ⟨hW, hP, hT⟩); clear hW hP hT AH)
    | (go_at_call 136; refine (HR.out _ HX.out.2.2).mono ?_; rintro e w2 ⟨⟨v9, rfl⟩, hR9⟩; have HY := (show Hid _ from hR9); clear hR9))
  go_ret
  exact ⟨_, HX.out.1, HX.out.2.1, HX.out.2.2, HY.out⟩
set_option maxHeartbeats 1000000 in
set_option maxRecDepth 1000000 in
theorem wsync_no {w : World} {wb : Nat} {dp : Option Addr} {pl : Option Nat} {g : Gt} (h : WAt w wb dp pl g) {P : DataW Unit} (hp : PlAt w pl P) (ok : Gok g) (v0 : Value) (hne : (ahd g P false).1.2 ≠ 0) : Calls Tryz.prog 147 #[.pointer (some ⟨wb, 0, none⟩), v0] w fun e w' => e = .returned (.int .i64 (ahd g P false).1.2) ∧ WAt w' wb dp pl (ahd g P false).2 ∧ PlAt w' pl P ∧ Tn (· = wb) w w' := by
  have AH := (show Hid _ from ahead_any h hp ok false)
  generalize (ahd g P false) = q at *
  obtain ⟨⟨bu, er⟩, g2⟩ := q
  simp only at hne AH ⊢
  have b1 : (er != 0) = true := by simpa using hne
  clear h hp ok
  go_enter Tryz.func147, Tryz.ntmps147
  go_wp2_with (go_at_call 25; refine AH.out.mono ?_; rintro e w1 ⟨rfl, hW, hP, hT⟩; have HX := (show Hid (_ ∧ _ ∧ _) from ⟨hW, hP, hT⟩); clear hW hP hT AH)
  go_ret
  exact ⟨rfl, HX.out⟩
set_option maxHeartbeats 1000000 in
set_option maxRecDepth 1000000 in
theorem wsync_go {w : World} {wb : Nat} {dp : Option Addr} {pl : Option Nat} {g : Gt} (h : WAt w wb dp pl g) {P : DataW Unit} (hp : PlAt w pl P) (ok : Gok g) (v0 : Value) (he : (ahd g P false).1.2 = 0) (R : World → Ending → World → Prop) (hR : ∀ w1, Tn (· = wb) w w1 → Calls Tryz.prog 138 #[.pointer dp, v0] w1 fun e w' => (∃ v, e = .returned v) ∧ R w1 e w') : Calls Tryz.prog 147 #[.pointer (some ⟨wb, 0, none⟩), v0] w fun e w' => ∃ w1, WAt w1 wb dp pl (ahd g P false).2 ∧ PlAt w1 pl P ∧ Tn (· = wb) w w1 ∧ R w1 e w' := by
  have AH := (show Hid _ from ahead_any h hp ok false)
  generalize (ahd g P false) = q at *
  obtain ⟨⟨bu, er⟩, g2⟩ := q
  simp only at he AH ⊢
  subst he
  have HR := (show Hid _ from hR)
  clear h hp ok hR
  go_enter Tryz.func147, Tryz.ntmps147
  go_wp2_with (first
    | (go_at_call 25; refine AH.out.mono ?_; rintro e w1 ⟨rfl, hW, hP, hT⟩; have c0 := hW.cell.1; have HX := (show Hid (_ ∧ _ ∧ _) from ⟨hW, hP, hT⟩); clear hW hP hT AH)
    | (go_at_call 138; refine (HR.out _ HX.out.2.2).mono ?_; rintro e w2 ⟨⟨v9, rfl⟩, hR9⟩; have HY := (show Hid _ from hR9); clear hR9))
  go_ret
  exact ⟨_, HX.out.1, HX.out.2.1, HX.out.2.2, HY.out⟩
set_option maxHeartbeats 1000000 in
set_option maxRecDepth 1000000 in
theorem wsyncDir_no {w : World} {wb : Nat} {dp : Option Addr} {pl : Option Nat} {g : Gt} (h : WAt w wb dp pl g) {P : DataW Unit} (hp : PlAt w pl P) (ok : Gok g) (hne : (ahd g P false).1.2 ≠ 0) : Calls Tryz.prog 148 #[.pointer (some ⟨wb, 0, none⟩)] w fun e w' => e = .returned (.int .i64 (ahd g P false).1.2) ∧ WAt w' wb dp pl (ahd g P false).2 ∧ PlAt w' pl P ∧ Tn (· = wb) w w' := by
  have AH := (show Hid _ from ahead_any h hp ok false)
  generalize (ahd g P false) = q at *
  obtain ⟨⟨bu, er⟩, g2⟩ := q
  simp only at hne AH ⊢
  have b1 : (er != 0) = true := by simpa using hne
  clear h hp ok
  go_enter Tryz.func148, Tryz.ntmps148
  go_wp2_with (go_at_call 25; refine AH.out.mono ?_; rintro e w1 ⟨rfl, hW, hP, hT⟩; have HX := (show Hid (_ ∧ _ ∧ _) from ⟨hW, hP, hT⟩); clear hW hP hT AH)
  go_ret
  exact ⟨rfl, HX.out⟩
set_option maxHeartbeats 1000000 in
set_option maxRecDepth 1000000 in
theorem wsyncDir_go {w : World} {wb : Nat} {dp : Option Addr} {pl : Option Nat} {g : Gt} (h : WAt w wb dp pl g) {P : DataW Unit} (hp : PlAt w pl P) (ok : Gok g) (he : (ahd g P false).1.2 = 0) (R : World → Ending → World → Prop) (hR : ∀ w1, Tn (· = wb) w w1 → Calls Tryz.prog 139 #[.pointer dp] w1 fun e w' => (∃ v, e = .returned v) ∧ R w1 e w') : Calls Tryz.prog 148 #[.pointer (some ⟨wb, 0, none⟩)] w fun e w' => ∃ w1, WAt w1 wb dp pl (ahd g P false).2 ∧ PlAt w1 pl P ∧ Tn (· = wb) w w1 ∧ R w1 e w' := by
  have AH := (show Hid _ from ahead_any h hp ok false)
  generalize (ahd g P false) = q at *
  obtain ⟨⟨bu, er⟩, g2⟩ := q
  simp only at he AH ⊢
  subst he
  have HR := (show Hid _ from hR)
  clear h hp ok hR
  go_enter Tryz.func148, Tryz.ntmps148
  go_wp2_with (first
    | (go_at_call 25; refine AH.out.mono ?_; rintro e w1 ⟨rfl, hW, hP, hT⟩; have c0 := hW.cell.1; have HX := (show Hid (_ ∧ _ ∧ _) from ⟨hW, hP, hT⟩); clear hW hP hT AH)
    | (go_at_call 139; refine (HR.out _ HX.out.2.2).mono ?_; rintro e w2 ⟨⟨v9, rfl⟩, hR9⟩; have HY := (show Hid _ from hR9); clear hR9))
  go_ret
  exact ⟨_, HX.out.1, HX.out.2.1, HX.out.2.2, HY.out⟩
set_option maxHeartbeats 1000000 in
set_option maxRecDepth 1000000 in
theorem wread_no {w : World} {wb : Nat} {dp : Option Addr} {pl : Option Nat} {g : Gt} (h : WAt w wb dp pl g) {P : DataW Unit} (hp : PlAt w pl P) (ok : Gok g) (v0 : Value) (hne : (ahd g P false).1.2 ≠ 0) : Calls Tryz.prog 10 #[.pointer (some ⟨wb, 0, none⟩), v0] w fun e w' => e = .returned (.tuple #[.slice none 0 0, .int .i64 (ahd g P false).1.2]) ∧ WAt w' wb dp pl (ahd g P false).2 ∧ PlAt w' pl P ∧ Tn (· = wb) w w' := by
  have AH := (show Hid _ from ahead_any h hp ok false)
  generalize (ahd g P false) = q at *
  obtain ⟨⟨bu, er⟩, g2⟩ := q
  simp only at hne AH ⊢
  have b1 : (er != 0) = true := by simpa using hne
  clear h hp ok
  go_enter Tryz.func10, Tryz.ntmps10
  go_wp2_with (go_at_call 25; refine AH.out.mono ?_; rintro e w1 ⟨rfl, hW, hP, hT⟩; have HX := (show Hid (_ ∧ _ ∧ _) from ⟨hW, hP, hT⟩); clear hW hP hT AH)
  go_ret2
  exact ⟨rfl, HX.out⟩
set_option maxHeartbeats 1000000 in
set_option maxRecDepth 1000000 in
theorem wread_go {w : World} {wb : Nat} {dp : Option Addr} {pl : Option Nat} {g : Gt} (h : WAt w wb dp pl g) {P : DataW Unit} (hp : PlAt w pl P) (ok : Gok g) (v0 : Value) (he : (ahd g P false).1.2 = 0) (R : World → Ending → World → Prop) (hR : ∀ w1, Tn (· = wb) w w1 → Calls Tryz.prog 26 #[.pointer dp, v0] w1 fun e w' => (∃ v v2 : Value, e = .returned (.tuple #[v, v2])) ∧ R w1 e w') : Calls Tryz.prog 10 #[.pointer (some ⟨wb, 0, none⟩), v0] w fun e w' => ∃ w1, WAt w1 wb dp pl (ahd g P false).2 ∧ PlAt w1 pl P ∧ Tn (· = wb) w w1 ∧ R w1 e w' := by
  have AH := (show Hid _ from ahead_any h hp ok false)
  generalize (ahd g P false) = q at *
  obtain ⟨⟨bu, er⟩, g2⟩ := q
  simp only at he AH ⊢
  subst he
  have HR := (show Hid _ from hR)
  clear h hp ok hR
  go_enter Tryz.func10, Tryz.ntmps10
  go_wp2_with (first
    | (go_at_call 25; refine AH.out.mono ?_; rintro e w1 ⟨rfl, hW, hP, hT⟩; have c0 := hW.cell.1; have HX := (show Hid (_ ∧ _ ∧ _) from ⟨hW, hP, hT⟩); clear hW hP hT AH)
    | (go_at_call 26; refine (HR.out _ HX.out.2.2).mono ?_; rintro e w2 ⟨⟨v9, v8, rfl⟩, hR9⟩; have HY := (show Hid _ from hR9); clear hR9))
  go_ret2
  exact ⟨_, HX.out.1, HX.out.2.1, HX.out.2.2, HY.out⟩
set_option maxHeartbeats 1000000 in
set_option maxRecDepth 1000000 in
theorem wrename_no {w : World} {wb : Nat} {dp : Option Addr} {pl : Option Nat} {g : Gt} (h : WAt w wb dp pl g) {P : DataW Unit} (hp : PlAt w pl P) (ok : Gok g) (v0 : Value) (v1 : Value) (hne : (ahd g P false).1.2 ≠ 0) : Calls Tryz.prog 146 #[.pointer (some ⟨wb, 0, none⟩), v0, v1] w fun e w' => e = .returned (.int .i64 (ahd g P false).1.2) ∧ WAt w' wb dp pl (ahd g P false).2 ∧ PlAt w' pl P ∧ Tn (· = wb) w w' := by
  have AH := (show Hid _ from ahead_any h hp ok false)
  generalize (ahd g P false) = q at *
  obtain ⟨⟨bu, er⟩, g2⟩ := q
  simp only at hne AH ⊢
  have b1 : (er != 0) = true := by simpa using hne
  clear h hp ok
  go_enter Tryz.func146, Tryz.ntmps146
  go_wp2_with (go_at_call 25; refine AH.out.mono ?_; rintro e w1 ⟨rfl, hW, hP, hT⟩; have HX := (show Hid (_ ∧ _ ∧ _) from ⟨hW, hP, hT⟩); clear hW hP hT AH)
  go_ret
  exact ⟨rfl, HX.out⟩
set_option maxHeartbeats 1000000 in
set_option maxRecDepth 1000000 in
theorem wrename_go {w : World} {wb : Nat} {dp : Option Addr} {pl : Option Nat} {g : Gt} (h : WAt w wb dp pl g) {P : DataW Unit} (hp : PlAt w pl P) (ok : Gok g) (v0 : Value) (v1 : Value) (he : (ahd g P false).1.2 = 0) (R : World → Ending → World → Prop) (hR : ∀ w1, Tn (· = wb) w w1 → Calls Tryz.prog 137 #[.pointer dp, v0, v1] w1 fun e w' => (∃ v, e = .returned v) ∧ R w1 e w') : Calls Tryz.prog 146 #[.pointer (some ⟨wb, 0, none⟩), v0, v1] w fun e w' => ∃ w1, WAt w1 wb dp pl (ahd g P false).2 ∧ PlAt w1 pl P ∧ Tn (· = wb) w w1 ∧ R w1 e w' := by
  have AH := (show Hid _ from ahead_any h hp ok false)
  generalize (ahd g P false) = q at *
  obtain ⟨⟨bu, er⟩, g2⟩ := q
  simp only at he AH ⊢
  subst he
  have HR := (show Hid _ from hR)
  clear h hp ok hR
  go_enter Tryz.func146, Tryz.ntmps146
  go_wp2_with (first
    | (go_at_call 25; refine AH.out.mono ?_; rintro e w1 ⟨rfl, hW, hP, hT⟩; have c0 := hW.cell.1; have HX := (show Hid (_ ∧ _ ∧ _) from ⟨hW, hP, hT⟩); clear hW hP hT AH)
    | (go_at_call 137; refine (HR.out _ HX.out.2.2).mono ?_; rintro e w2 ⟨⟨v9, rfl⟩, hR9⟩; have HY := (show Hid _ from hR9); clear hR9))
  go_ret
  exact ⟨_, HX.out.1, HX.out.2.1, HX.out.2.2, HY.out⟩
end
end Go.Proofs.YtjobaeopokfekaaGreat
/-
  Fuse, Append of a wound.
-/
namespace Go.Proofs.YtjobaeopokfekaaGreat
open Go.RowKit Go.Maps
section
attribute [local irreducible] Calls
/-- What passes of the bytes. -/
def psd (g : Gt) (n : Nat) : Nat := min (max g.ins 0).toNat n
set_option maxHeartbeats 1000000 in
set_option maxRecDepth 1000000 in
theorem passed_any (b : Bool) (r c i : Int) (p : Option Addr) (n cap : Nat) (hnc : n ≤ cap) (hc : (cap : Int) ≤ 9223372036854775807) (w : World) : Calls Tryz.prog 149 #[.agg #[.bool b, .int .i64 r, .int .i64 c, .int .i64 i], .slice p n cap] w fun e w' => e = .returned (.slice p (min (max i 0).toNat n) cap) ∧ Below w.heap.size w w' := by
  go_enter Tryz.func149, Tryz.ntmps149
  go_wp2
  go_ret
  refine ⟨?_, (Below.refl _ w).alloc (Nat.le_refl _) _⟩
  rw [show (min (max i 0) (n : Int)).toNat = min (max i 0).toNat n by omega]
  rfl
-- Append is refused.
set_option maxHeartbeats 1000000 in
set_option maxRecDepth 1000000 in
theorem wappend_no {w : World} {wb : Nat} {dp : Option Addr} {pl : Option Nat} {g : Gt} (h : WAt w wb dp pl g) {P : DataW Unit} (hp : PlAt w pl P) (ok : Gok g) (v0 : Value) (v1 : Value) (hbu : (ahd g P true).1.1 = false) (hne : (ahd g P true).1.2 ≠ 0) : Calls Tryz.prog 144 #[.pointer (some ⟨wb, 0, none⟩), v0, v1] w fun e w' => e = .returned (.int .i64 (ahd g P true).1.2) ∧ WAt w' wb dp pl (ahd g P true).2 ∧ PlAt w' pl P ∧ Tn (· = wb) w w' := by
  have AH := (show Hid _ from ahead_any h hp ok true)
  generalize (ahd g P true) = q at *
  obtain ⟨⟨bu, er⟩, g2⟩ := q
  simp only at hne hbu AH ⊢
  subst hbu
  have b1 : (er != 0) = true := by simpa using hne
  clear h hp ok
  go_enter Tryz.func144, Tryz.ntmps144
  go_wp2_with (go_at_call 25; refine AH.out.mono ?_; rintro e w1 ⟨rfl, hW, hP, hT⟩; have HX := (show Hid (_ ∧ _ ∧ _) from ⟨hW, hP, hT⟩); clear hW hP hT AH)
  go_ret
  exact ⟨rfl, HX.out⟩
-- Append is handed on.
set_option maxHeartbeats 1000000 in
set_option maxRecDepth 1000000 in
theorem wappend_go {w : World} {wb : Nat} {dp : Option Addr} {pl : Option Nat} {g : Gt} (h : WAt w wb dp pl g) {P : DataW Unit} (hp : PlAt w pl P) (ok : Gok g) (v0 : Value) (v1 : Value) (he : (ahd g P true).1.2 = 0) (R : World → Ending → World → Prop) (hR : ∀ w1, Tn (· = wb) w w1 → Calls Tryz.prog 135 #[.pointer dp, v0, v1] w1 fun e w' => (∃ v, e = .returned v) ∧ R w1 e w') : Calls Tryz.prog 144 #[.pointer (some ⟨wb, 0, none⟩), v0, v1] w fun e w' => ∃ w1, WAt w1 wb dp pl (ahd g P true).2 ∧ PlAt w1 pl P ∧ Tn (· = wb) w w1 ∧ R w1 e w' := by
  have AH := (show Hid _ from ahead_any h hp ok true)
  have hbu : (ahd g P true).1.1 = false := by
    unfold ahd at he ⊢
    split at he
    · cases he
    · split at he
      · cases he
      · split at he
        · cases he
        · rename_i h1 h2 h3
          rw [if_neg h1, if_neg h2, if_neg h3]
  generalize (ahd g P true) = q at *
  obtain ⟨⟨bu, er⟩, g2⟩ := q
  simp only at he hbu AH ⊢
  subst he hbu
  have HR := (show Hid _ from hR)
  clear h hp ok hR
  go_enter Tryz.func144, Tryz.ntmps144
  go_wp2_with (first
    | (go_at_call 25; refine AH.out.mono ?_; rintro e w1 ⟨rfl, hW, hP, hT⟩; have c0 := hW.cell.1; have HX := (show Hid (_ ∧ _ ∧ _) from ⟨hW, hP, hT⟩); clear hW hP hT AH)
    | (go_at_call 135; refine (HR.out _ HX.out.2.2).mono ?_; rintro e w2 ⟨⟨v9, rfl⟩, hR9⟩; have HY := (show Hid _ from hR9); clear hR9))
  go_ret
  exact ⟨_, HX.out.1, HX.out.2.1, HX.out.2.2, HY.out⟩
-- A fuse burns down at an Append: its first bytes pass.
set_option maxHeartbeats 1000000 in
set_option maxRecDepth 1000000 in
theorem wappend_bu {w : World} {wb : Nat} {dp : Option Addr} {pl : Option Nat} {g : Gt} (h : WAt w wb dp pl g) {P : DataW Unit} (hp : PlAt w pl P) (ok : Gok g) (v0 : Value) (p : Option Addr) (n cap : Nat) (hnc : n ≤ cap) (hc : (cap : Int) ≤ 9223372036854775807) (hbu : (ahd g P true).1.1 = true) (R : World → Ending → World → Prop) (hR : ∀ w1, Tn (· = wb) w w1 → Calls Tryz.prog 135 #[.pointer dp, v0, .slice p (min (max g.ins 0).toNat n) cap] w1 fun e w' => (∃ v, e = .returned v) ∧ w'.heap[wb]? = w1.heap[wb]? ∧ R w1 e w') : Calls Tryz.prog 144 #[.pointer (some ⟨wb, 0, none⟩), v0, .slice p n cap] w fun e w' => e = .returned (.int .i64 122) ∧ ∃ w1 w2 e2, WAt w1 wb dp pl (ahd g P true).2 ∧ PlAt w1 pl P ∧ Tn (· = wb) w w1 ∧ Below w1.heap.size w1 w2 ∧ R w2 e2 w' := by
  have AH := (show Hid _ from ahead_any h hp ok true)
  have he : (ahd g P true).1.2 = 122 := by
    unfold ahd at hbu ⊢
    split at hbu
    · cases hbu
    · split at hbu
      · cases hbu
      · split at hbu
        · rename_i h1 h2 h3
          rw [if_neg h1, if_neg h2, if_pos h3]
        · cases hbu
  have hin : (ahd g P true).2.ins = g.ins := by
    unfold ahd
    split
    · rfl
    · split
      · rfl
      · split <;> rfl
  rw [← hin] at hR
  generalize (ahd g P true) = q at *
  obtain ⟨⟨bu, er⟩, g2⟩ := q
  simp only at he hbu AH hR ⊢
  subst he hbu
  have HR := (show Hid _ from hR)
  have HC := (show Hid _ from fun b r c i w => passed_any b r c i p n cap hnc hc w)
  clear h hp ok hR hin hnc hc
  go_enter Tryz.func144, Tryz.ntmps144
  go_wp2_with (go_at_call 25; refine AH.out.mono ?_; rintro e w1 ⟨rfl, hW, hP, hT⟩; obtain ⟨c0, -, -, -, -, -, c6, c7, c8, c9⟩ := hW.cell; have HX := (show Hid (_ ∧ _ ∧ _) from ⟨hW, hP, hT⟩); clear hW hP hT AH)
  have KS := (show Hid (w1.drew.cell? ⟨wb, 0, none⟩ = some (.pointer dp) ∧ w1.drew.cell? ⟨wb, 6, none⟩ = some (.bool g2.th) ∧ w1.drew.cell? ⟨wb, 7, none⟩ = some (.int .i64 g2.ro) ∧ w1.drew.cell? ⟨wb, 8, none⟩ = some (.int .i64 g2.ca) ∧ w1.drew.cell? ⟨wb, 9, none⟩ = some (.int .i64 g2.ins)) from ⟨c0, c6, c7, c8, c9⟩)
  clear c0 c6 c7 c8 c9
  go_region_held3 (fun X => X.cell? ⟨wb, 0, none⟩ = some (.pointer dp) ∧ X.cell? ⟨wb, 6, none⟩ = some (.bool g2.th) ∧ X.cell? ⟨wb, 7, none⟩ = some (.int .i64 g2.ro) ∧ X.cell? ⟨wb, 8, none⟩ = some (.int .i64 g2.ca) ∧ X.cell? ⟨wb, 9, none⟩ = some (.int .i64 g2.ins)) (first | exact KS.out | exact KT.out | exact KU.out)
    (first
      | (go_at_call 149; refine (HC.out _ _ _ _ _).mono ?_; rintro e w2 ⟨rfl, hb2⟩; obtain ⟨c0, -, -, -, -, -, c6, c7, c8, c9⟩ := (WAt.below (WAt.drewN HX.out.1 1) hb2).cell; have KT := (show Hid (w2.cell? ⟨wb, 0, none⟩ = some (.pointer dp) ∧ w2.cell? ⟨wb, 6, none⟩ = some (.bool g2.th) ∧ w2.cell? ⟨wb, 7, none⟩ = some (.int .i64 g2.ro) ∧ w2.cell? ⟨wb, 8, none⟩ = some (.int .i64 g2.ca) ∧ w2.cell? ⟨wb, 9, none⟩ = some (.int .i64 g2.ins)) from ⟨c0, c6, c7, c8, c9⟩); clear c0 c6 c7 c8 c9)
      | (go_at_call 135; refine (HR.out _ (HX.out.2.2.trans (Tn.of_below (((Below.refl _ w1).drew).trans hb2)))).mono ?_; rintro e w3 ⟨⟨v9, rfl⟩, hk3, hR9⟩; have HY := (show Hid _ from hR9); clear hR9; have KU := (show Hid (_ ∧ _ ∧ _ ∧ _ ∧ _) from ⟨(cell_blk 0 hk3).trans KT.out.1, (cell_blk 6 hk3).trans KT.out.2.1, (cell_blk 7 hk3).trans KT.out.2.2.1, (cell_blk 8 hk3).trans KT.out.2.2.2.1, (cell_blk 9 hk3).trans KT.out.2.2.2.2⟩)))
  go_wp2
  go_ret
  exact ⟨rfl, w1, w2, _, HX.out.1, HX.out.2.1, HX.out.2.2, ((Below.refl _ w1).drew).trans hb2, HY.out⟩
end
end Go.Proofs.YtjobaeopokfekaaGreat
/-
  A wound on its drive: the calls as mathematics.
-/
namespace Go.Proofs.YtjobaeopokfekaaGreat
open Go.RowKit Go.Maps
/-- A wound on its drive; the drive's blocks are among F. -/
def Kw (w : World) (wb db : Nat) (pl : Option Nat) (g : Gt) (P : DataW Unit) (σ : Ds) (F : Nat → Prop) : Prop := WAt w wb (some ⟨db, 0, none⟩) pl g ∧ PlAt w pl P ∧ DrAt w db σ F ∧ ¬ F wb ∧ ∀ b, pl = some b → ¬ F b
theorem PlAt.sameAt {w w' : World} {pl : Option Nat} {P : DataW Unit} (h : PlAt w pl P) (hk : ∀ b, pl = some b → b < w.heap.size → w'.heap[b]? = w.heap[b]?) : PlAt w' pl P := by
  rcases h with h | ⟨b, n, e, h⟩
  · exact .inl h
  · refine .inr ⟨b, n, e, om_same h ?_⟩
    obtain ⟨es, c, hb, _⟩ := h
    exact hk b e (blt hb)
theorem PlAt.lt {w : World} {pl : Option Nat} {P : DataW Unit} (h : PlAt w pl P) {b : Nat} (e : pl = some b) : b < w.heap.size := by
  rcases h with ⟨h, _⟩ | ⟨b', n, e', es, c, hb, _⟩
  · rw [h] at e; cases e
  · rw [e] at e'; injection e' with e'; subst e'; exact blt hb
theorem DrAt.self {w : World} {db : Nat} {σ : Ds} {F : Nat → Prop} (h : DrAt w db σ F) : DrAt w db σ (Fn F w w) := (h.fn (Below.refl _ w)).1
/-- The wound's own block has turned, then the drive. -/
theorem kw_end {w w1 w' : World} {wb db : Nat} {g2 : Gt} {P : DataW Unit} {σ' : Ds} {F : Nat → Prop} {pl : Option Nat} (hwl : wb < w.heap.size) (hpl : ∀ b, pl = some b → b < w.heap.size) (hF : ∀ b, F b → b < w.heap.size) (hn : ¬ F wb) (hq : ∀ b, pl = some b → ¬ F b) (hW : WAt w1 wb (some ⟨db, 0, none⟩) pl g2) (hP : PlAt w1 pl P) (hT : Tn (· = wb) w w1) (hD : DrAt w' db σ' (Fn F w1 w')) (hT' : Tn F w1 w') : Kw w' wb db pl g2 P σ' (Fn F w w') ∧ Tn (fun b => b = wb ∨ F b) w w' := by
  have hs := hT.size
  have hs' := hT'.size
  refine ⟨⟨hW.tn hT' hn, hP.sameAt (fun b e hb => hT'.block b hb (hq b e)), hD.more ?_ ?_, ?_, ?_⟩, (hT.more (fun _ h => .inl h)).trans (hT'.more (fun _ h => .inr h))⟩
  · rintro b (h | h)
    · exact .inl h
    · exact .inr ⟨by omega, h.2⟩
  · rintro b (h | h)
    · have := hF b h; omega
    · exact h.2
  · rintro (h | h)
    · exact hn h
    · omega
  · rintro b e (h | h)
    · exact hq b e h
    · have := hpl b e; omega
/-- The wound alone has turned. -/
theorem kw_own {w w' : World} {wb db : Nat} {g2 : Gt} {P2 : DataW Unit} {σ : Ds} {F : Nat → Prop} {pl2 : Option Nat} (hD : DrAt w db σ F) (hn : ¬ F wb) (hq : ∀ b, pl2 = some b → b < w.heap.size → ¬ F b) (hW : WAt w' wb (some ⟨db, 0, none⟩) pl2 g2) (hP : PlAt w' pl2 P2) (hT : Tn (· = wb) w w') : Kw w' wb db pl2 g2 P2 σ F ∧ Tn (fun b => b = wb ∨ F b) w w' := by
  refine ⟨⟨hW, hP, hD.tn hT (fun b hb e => hn (e ▸ hb)), hn, fun b e hb => ?_⟩, hT.more (fun _ h => .inl h)⟩
  exact hq b e (hD.2.1 b hb) hb
theorem Kw.below {w w' : World} {wb db : Nat} {pl : Option Nat} {g : Gt} {P : DataW Unit} {σ : Ds} {F : Nat → Prop} (h : Kw w wb db pl g P σ F) (hb : Below w.heap.size w w') : Kw w' wb db pl g P σ F := by
  obtain ⟨hW, hP, hD, hn, hq⟩ := h
  exact ⟨hW.below hb, hP.sameAt (fun b _ hl => hb.block b hl), hD.below hb, hn, hq⟩
theorem kcreate {w : World} {wb db : Nat} {pl : Option Nat} {g : Gt} {P : DataW Unit} {σ : Ds} {F : Nat → Prop} (h : Kw w wb db pl g P σ F) (ok : Gok g) (od : Okd σ) (x : Tx) (hx : x.length ≤ 140737488355328) :
    Calls Tryz.prog 145 #[.pointer (some ⟨wb, 0, none⟩), encStr x] w fun e w' => e = .returned (.int .i64 (if (ahd g P true).1.2 = 0 then ((σ.create x).1 : Int) else (ahd g P true).1.2)) ∧ Kw w' wb db pl (ahd g P true).2 P (if (ahd g P true).1.2 = 0 then (σ.create x).2 else σ) (Fn F w w') ∧ Tn (fun b => b = wb ∨ F b) w w' := by
  obtain ⟨hW, hP, hD, hn, hq⟩ := h
  have hwl := blt hW
  have hpl : ∀ b, pl = some b → b < w.heap.size := fun b e => hP.lt e
  by_cases he : (ahd g P true).1.2 = 0
  · rw [if_pos he, if_pos he]
    refine (wcreate_go hW hP ok (encStr x) he (fun w1 e w' => e = .returned (.int .i64 (σ.create x).1) ∧ DrAt w' db (σ.create x).2 (Fn F w1 w') ∧ Tn F w1 w') (fun w1 ht => ?_)).mono ?_
    · refine (create_any (hD.tn ht (fun b hb e => hn (e ▸ hb))) od x hx).mono ?_
      rintro e w' ⟨h1, h2⟩
      exact ⟨⟨_, h1⟩, h1, h2⟩
    · rintro e w' ⟨w1, h1, h2, h3, h4, h5, h6⟩
      exact ⟨h4, kw_end hwl hpl hD.2.1 hn hq h1 h2 h3 h5 h6⟩
  · rw [if_neg he, if_neg he]
    refine (wcreate_no hW hP ok (encStr x) he).mono ?_
    rintro e w' ⟨h1, h2, h3, h4⟩
    exact ⟨h1, kw_end hwl hpl hD.2.1 hn hq h2 h3 h4 (hD.tn h4 (fun b hb e => hn (e ▸ hb))).self (Tn.refl _ _)⟩
theorem kread {w : World} {wb db : Nat} {pl : Option Nat} {g : Gt} {P : DataW Unit} {σ : Ds} {F : Nat → Prop} (h : Kw w wb db pl g P σ F) (ok : Gok g) (x : Tx) (hx : x.length ≤ 9223372036854775807) (hm : ∀ i, σ.find x = .inr i → (σ.body i).data.length ≤ 140737488355328) :
    Calls Tryz.prog 10 #[.pointer (some ⟨wb, 0, none⟩), encStr x] w fun e w' => (∃ v, e = .returned (.tuple #[v, .int .i64 (if (ahd g P false).1.2 = 0 then ((σ.read x).1 : Int) else (ahd g P false).1.2)]) ∧ Ob w' w.heap.size v (if (ahd g P false).1.2 = 0 then (σ.read x).2 else [])) ∧ Kw w' wb db pl (ahd g P false).2 P σ F ∧ Tn (· = wb) w w' := by
  obtain ⟨hW, hP, hD, hn, hq⟩ := h
  by_cases he : (ahd g P false).1.2 = 0
  · rw [if_pos he, if_pos he]
    refine (wread_go hW hP ok (encStr x) he (fun w1 e w' => ∃ v, e = .returned (.tuple #[v, .int .i64 (σ.read x).1]) ∧ Ob w' w1.heap.size v (σ.read x).2 ∧ Below w1.heap.size w1 w') (fun w1 ht => ?_)).mono ?_
    · refine (read_any (hD.tn ht (fun b hb e => hn (e ▸ hb))) x hx hm).mono ?_
      rintro e w' ⟨v, h1, h2⟩
      exact ⟨⟨_, _, h1⟩, v, h1, h2⟩
    · rintro e w' ⟨w1, h1, h2, h3, v, h4, h5, h6⟩
      exact ⟨⟨v, h4, ob_up h5 h3.size⟩, (kw_own hD hn (fun b e _ => hq b e) (h1.below h6) (h2.sameAt (fun b _ hl => h6.block b hl)) (h3.trans (Tn.of_below h6))).1, h3.trans (Tn.of_below h6)⟩
  · rw [if_neg he, if_neg he]
    refine (wread_no hW hP ok (encStr x) he).mono ?_
    rintro e w' ⟨h1, h2, h3, h4⟩
    exact ⟨⟨_, h1, ⟨rfl, .inl ⟨rfl, rfl⟩⟩⟩, (kw_own hD hn (fun b e _ => hq b e) h2 h3 h4).1, h4⟩
theorem ksync_no {w : World} {wb db : Nat} {pl : Option Nat} {g : Gt} {P : DataW Unit} {σ : Ds} {F : Nat → Prop} (h : Kw w wb db pl g P σ F) (ok : Gok g) (v : Value) (he : (ahd g P false).1.2 ≠ 0) :
    Calls Tryz.prog 147 #[.pointer (some ⟨wb, 0, none⟩), v] w fun e w' => e = .returned (.int .i64 (ahd g P false).1.2) ∧ Kw w' wb db pl (ahd g P false).2 P σ F ∧ Tn (fun b => b = wb ∨ F b) w w' := by
  obtain ⟨hW, hP, hD, hn, hq⟩ := h
  refine (wsync_no hW hP ok v he).mono ?_
  rintro e w' ⟨h1, h2, h3, h4⟩
  exact ⟨h1, kw_own hD hn (fun b e _ => hq b e) h2 h3 h4⟩
theorem koffline {w : World} {wb db : Nat} {pl : Option Nat} {g : Gt} {P : DataW Unit} {σ : Ds} {F : Nat → Prop} (h : Kw w wb db pl g P σ F) (u : Bool) :
    Calls Tryz.prog 9 #[.pointer (some ⟨wb, 0, none⟩), .bool u] w fun e w' => (∃ v, e = .returned v) ∧ Kw w' wb db pl { g with offl := u } P σ F ∧ Tn (fun b => b = wb ∨ F b) w w' := by
  obtain ⟨hW, hP, hD, hn, hq⟩ := h
  refine (offline_any hW u).mono ?_
  rintro e w' ⟨h1, h2, h3⟩
  exact ⟨h1, kw_own hD hn (fun b e _ => hq b e) h2 (hP.tn hW h3) h3⟩
theorem karm {w : World} {wb db : Nat} {pl : Option Nat} {g : Gt} {P : DataW Unit} {σ : Ds} {F : Nat → Prop} (h : Kw w wb db pl g P σ F) (b cap : Nat) (fs : List Ft) (hreach : fs.length ≤ 10000000000000) (hI : FtAt w b fs) (hbw : b < w.heap.size) (hbb : b ≠ wb) :
    Calls Tryz.prog 8 #[.pointer (some ⟨wb, 0, none⟩), .slice (some ⟨b, 0, none⟩) fs.length cap] w fun e w' => (∃ v, e = .returned v) ∧ ∃ pb, w.heap.size ≤ pb ∧ Kw w' wb db (some pb) { g with calls := 0 } (plD (dnto fs fs.length)) σ F ∧ Tn (fun b => b = wb ∨ F b) w w' := by
  obtain ⟨hW, hP, hD, hn, hq⟩ := h
  refine (arm_any hW b cap fs hreach hI hbw hbb).mono ?_
  rintro e w' ⟨h1, ⟨pb, h0, h2, h3⟩, h4⟩
  exact ⟨h1, pb, h0, kw_own hD hn (fun b e hb => by cases e; omega) h2 h3 h4⟩
theorem Rx.sub {w : World} {p : Option Addr} {d : Tx} (h : Rx w p d) (k : Nat) : Rx w p (d.take k) := by
  rcases h with h | ⟨b, o, e, h⟩
  · left; simp [h]
  · refine .inr ⟨b, o, e, fun i hi => ?_⟩
    rw [h i (by simp at hi; omega)]
    have h1 : i < k := by simp at hi; omega
    simp [List.getD, h1]
/-- Append: the answer. -/
def kans (g : Gt) (P : DataW Unit) (σ : Ds) (x d : Tx) : Int × Ds := if (ahd g P true).1.2 = 0 then (((σ.append x d).1 : Int), (σ.append x d).2) else if (ahd g P true).1.1 = true then ((ahd g P true).1.2, (σ.append x (d.take (max g.ins 0).toNat)).2) else ((ahd g P true).1.2, σ)
theorem kappend {w : World} {wb db : Nat} {pl : Option Nat} {g : Gt} {P : DataW Unit} {σ : Ds} {F : Nat → Prop} (h : Kw w wb db pl g P σ F) (ok : Gok g) (od : Okd σ) (x : Tx) (hx : x.length ≤ 9223372036854775807) (p : Option Addr) (n c : Nat) (d : Tx) (hd : Rx w p d) (hpw : ∀ a, p = some a → a.block ≠ wb ∧ a.block < w.heap.size) (hn : d.length = n) (hnc : n ≤ c) (hm : n ≤ 140737488355328) (hc : c ≤ 9223372036854775807)
    (hroom : ∀ i k, σ.find x = .inr i → k ≤ n → σ.used + (k : Int) ≤ (σ.room : Int) → (σ.body i).data.length + k ≤ 140737488355328) :
    Calls Tryz.prog 144 #[.pointer (some ⟨wb, 0, none⟩), encStr x, .slice p n c] w fun e w' => e = .returned (.int .i64 (kans g P σ x d).1) ∧ Kw w' wb db pl (ahd g P true).2 P (kans g P σ x d).2 (Fn F w w') ∧ Tn (fun b => b = wb ∨ F b) w w' := by
  obtain ⟨hW, hP, hD, hnF, hq⟩ := h
  have hwl := blt hW
  have hpl : ∀ b, pl = some b → b < w.heap.size := fun b e => hP.lt e
  have hrx : ∀ w1, Tn (· = wb) w w1 → Rx w1 p d := fun w1 ht => by
    rcases hd with h | ⟨b, o, e, h⟩
    · exact .inl h
    · obtain ⟨h1, h2⟩ := hpw _ e
      exact .inr ⟨b, o, e, fun i hi => (cell_blk (o + i) (ht.block b h2 h1)).trans (h i hi)⟩
  have hDt : ∀ w1, Tn (· = wb) w w1 → DrAt w1 db σ F := fun w1 ht => hD.tn ht (fun b hb e => hnF (e ▸ hb))
  unfold kans
  by_cases he : (ahd g P true).1.2 = 0
  · rw [if_pos he]
    refine (wappend_go hW hP ok (encStr x) (.slice p n c) he (fun w1 e w' => e = .returned (.int .i64 (σ.append x d).1) ∧ DrAt w' db (σ.append x d).2 (Fn F w1 w') ∧ Tn F w1 w') (fun w1 ht => ?_)).mono ?_
    · refine (append_any (hDt w1 ht) od x hx p n c d (hrx w1 ht) hn (by omega) (fun i hf hu => hroom i d.length hf (by omega) hu)).mono ?_
      rintro e w' ⟨h1, h2⟩
      exact ⟨⟨_, h1⟩, h1, h2⟩
    · rintro e w' ⟨w1, h1, h2, h3, h4, h5, h6⟩
      exact ⟨h4, kw_end hwl hpl hD.2.1 hnF hq h1 h2 h3 h5 h6⟩
  · rw [if_neg he]
    by_cases hb : (ahd g P true).1.1 = true
    · rw [if_pos hb]
      have hk : d.take (min (max g.ins 0).toNat n) = d.take (max g.ins 0).toNat := by rw [← hn, List.take_eq_take_iff]; omega
      have hln : (d.take (min (max g.ins 0).toNat n)).length = min (max g.ins 0).toNat n := by rw [List.length_take]; omega
      have h122 : (ahd g P true).1.2 = 122 := by
        unfold ahd at hb ⊢
        split at hb
        · cases hb
        · split at hb
          · cases hb
          · split at hb
            · rename_i h1 h2 h3
              rw [if_neg h1, if_neg h2, if_pos h3]
            · cases hb
      rw [h122, ← hk]
      refine (wappend_bu hW hP ok (encStr x) p n c hnc (by omega) hb (fun w1 _ w' => DrAt w' db (σ.append x (d.take (min (max g.ins 0).toNat n))).2 (Fn F w1 w') ∧ Tn F w1 w') (fun w1 ht => ?_)).mono ?_
      · refine (append_any (hDt w1 ht) od x hx p _ c _ ((hrx w1 ht).sub _) hln (by omega) (fun i hf hu => hroom i _ hf (by rw [hln]; omega) hu)).mono ?_
        rintro e w' ⟨h1, h2, h3⟩
        exact ⟨⟨_, h1⟩, h3.block wb (Nat.lt_of_lt_of_le hwl ht.size) hnF, h2, h3⟩
      · rintro e w' ⟨h1, w1, w2, _, h2, h3, h4, h5, h6, h7⟩
        exact ⟨h1, kw_end hwl hpl hD.2.1 hnF hq (h2.below h5) (h3.sameAt (fun b _ hl => h5.block b hl)) (h4.trans (Tn.of_below h5)) h6 h7⟩
    · rw [if_neg hb]
      refine (wappend_no hW hP ok (encStr x) (.slice p n c) (by simpa using hb) he).mono ?_
      rintro e w' ⟨h1, h2, h3, h4⟩
      exact ⟨h1, kw_end hwl hpl hD.2.1 hnF hq h2 h3 h4 (hDt _ h4).self (Tn.refl _ _)⟩
/-- A wound and its drive are the call's own. -/
def Kn (w0 w : World) (wb db : Nat) (g : Gt) (P : DataW Unit) (σ : Ds) : Prop := Below w0.heap.size w0 w ∧ w0.heap.size ≤ wb ∧ ∃ pl F, Kw w wb db pl g P σ F ∧ ∀ b, F b → w0.heap.size ≤ b
theorem tn_below {w0 w w' : World} {G : Nat → Prop} (h : Below w0.heap.size w0 w) (hT : Tn G w w') (hG : ∀ b, G b → w0.heap.size ≤ b) : Below w0.heap.size w0 w' :=
  ⟨hT.os.trans h.os, hT.tape.trans h.tape, hT.output.trans h.output, Nat.le_trans h.size hT.size, fun k hk => (hT.block k (Nat.lt_of_lt_of_le hk h.size) (fun e => by have := hG k e; omega)).trans (h.block k hk)⟩
theorem Kn.step {w0 w : World} {wb db : Nat} {g g' : Gt} {P P' : DataW Unit} {σ σ' : Ds} {f : Nat} {args : Array Value} (A : Ending → World → Prop) (h : Kn w0 w wb db g P σ) (C : ∀ pl F, Kw w wb db pl g P σ F → ∃ G : World → Nat → Prop, (∀ w' b, G w' b → F b ∨ w.heap.size ≤ b) ∧ Calls Tryz.prog f args w fun e w' => A e w' ∧ ∃ pl', Kw w' wb db pl' g' P' σ' (G w') ∧ Tn (fun b => b = wb ∨ F b) w w') : Calls Tryz.prog f args w fun e w' => A e w' ∧ Kn w0 w' wb db g' P' σ' := by
  obtain ⟨hb, hw, pl, F, hK, hF⟩ := h
  obtain ⟨G, hG, hC⟩ := C pl F hK
  refine hC.mono ?_
  rintro e w' ⟨h1, pl', h2, h3⟩
  refine ⟨h1, tn_below hb h3 (fun b h => h.elim (fun e => e ▸ hw) (hF b)), hw, pl', G w', h2, fun b hb' => ?_⟩
  rcases hG w' b hb' with h | h
  · exact hF b h
  · exact Nat.le_trans hb.size h
theorem Kn.below {w0 w w' : World} {wb db : Nat} {g : Gt} {P : DataW Unit} {σ : Ds} (h : Kn w0 w wb db g P σ) (hb : Below w.heap.size w w') : Kn w0 w' wb db g P σ := by
  obtain ⟨h1, h2, pl, F, h3, h4⟩ := h
  exact ⟨btD h1 hb, h2, pl, F, h3.below hb, h4⟩
theorem Kn.wat {w0 w : World} {wb db : Nat} {g : Gt} {P : DataW Unit} {σ : Ds} (h : Kn w0 w wb db g P σ) : ∃ pl, WAt w wb (some ⟨db, 0, none⟩) pl g := by
  obtain ⟨_, _, pl, F, ⟨hW, _⟩, _⟩ := h
  exact ⟨pl, hW⟩
theorem Kn.lt {w0 w : World} {wb db : Nat} {g : Gt} {P : DataW Unit} {σ : Ds} (h : Kn w0 w wb db g P σ) : wb < w.heap.size := by
  obtain ⟨pl, hW⟩ := h.wat
  exact blt hW
theorem alw (w : World) (o : Obj) : Below w.heap.size w (w.alloc o) := (Below.refl _ w).alloc (Nat.le_refl _) o
end Go.Proofs.YtjobaeopokfekaaGreat
