/-
  The calls of a wound: refused, or handed on to the drive.
-/
import Derived.Test.YtjjncajfljbegaaWd
namespace Go.Proofs.Ytjjncajfljbegaa
open Go.RowKit Go.Maps
theorem WAt.tn {w w' : World} {wb : Nat} {dp : Option Addr} {pl : Option Nat} {g : Gt} (h : WAt w wb dp pl g) {F : Nat → Prop} (ht : Tn F w w') (hF : ¬ F wb) : WAt w' wb dp pl g := (ht.block wb (blt h) hF).trans h
section
attribute [local irreducible] Calls
set_option maxHeartbeats 1000000 in
set_option maxRecDepth 1000000 in
theorem wcreate_no {w : World} {wb : Nat} {dp : Option Addr} {pl : Option Nat} {g : Gt} (h : WAt w wb dp pl g) {P : DataW Unit} (hp : PlAt w pl P) (ok : Gok g) (v0 : Value) (hne : (ahd g P true).1.2 ≠ 0) : Calls Try.prog 32 #[.pointer (some ⟨wb, 0, none⟩), v0] w fun e w' => e = .returned (.int .i64 (ahd g P true).1.2) ∧ WAt w' wb dp pl (ahd g P true).2 ∧ PlAt w' pl P ∧ Tn (· = wb) w w' := by
  have AH := (show Hid _ from ahead_any h hp ok true)
  generalize (ahd g P true) = q at *
  obtain ⟨⟨bu, er⟩, g2⟩ := q
  simp only at hne AH ⊢
  have b1 : (er != 0) = true := by simpa using hne
  clear h hp ok
  go_enter Try.func32, Try.ntmps32
  go_wp2_with (go_at_call 59; refine AH.out.mono ?_; rintro e w1 ⟨rfl, hW, hP, hT⟩; have HX := (show Hid (_ ∧ _ ∧ _) from ⟨hW, hP, hT⟩); clear hW hP hT AH)
  go_ret
  exact ⟨rfl, HX.out⟩
set_option maxHeartbeats 1000000 in
set_option maxRecDepth 1000000 in
theorem wcreate_go {w : World} {wb : Nat} {dp : Option Addr} {pl : Option Nat} {g : Gt} (h : WAt w wb dp pl g) {P : DataW Unit} (hp : PlAt w pl P) (ok : Gok g) (v0 : Value) (he : (ahd g P true).1.2 = 0) (R : World → Ending → World → Prop) (hR : ∀ w1, Tn (· = wb) w w1 → Calls Try.prog 42 #[.pointer dp, v0] w1 fun e w' => (∃ v, e = .returned v) ∧ R w1 e w') : Calls Try.prog 32 #[.pointer (some ⟨wb, 0, none⟩), v0] w fun e w' => ∃ w1, WAt w1 wb dp pl (ahd g P true).2 ∧ PlAt w1 pl P ∧ Tn (· = wb) w w1 ∧ R w1 e w' := by
  have AH := (show Hid _ from ahead_any h hp ok true)
  generalize (ahd g P true) = q at *
  obtain ⟨⟨bu, er⟩, g2⟩ := q
  simp only at he AH ⊢
  subst he
  have HR := (show Hid _ from hR)
  clear h hp ok hR
  go_enter Try.func32, Try.ntmps32
  go_wp2_with (first
    | (go_at_call 59; refine AH.out.mono ?_; rintro e w1 ⟨rfl, hW, hP, hT⟩; have c0 := hW.cell.1; have HX := (show Hid (_ ∧ _ ∧ _) from ⟨hW, hP, hT⟩); clear hW hP hT AH)
    | (go_at_call 42; refine (HR.out _ HX.out.2.2).mono ?_; rintro e w2 ⟨⟨v9, rfl⟩, hR9⟩; have HY := (show Hid _ from hR9); clear hR9))
  go_ret
  exact ⟨_, HX.out.1, HX.out.2.1, HX.out.2.2, HY.out⟩
set_option maxHeartbeats 1000000 in
set_option maxRecDepth 1000000 in
theorem wsync_no {w : World} {wb : Nat} {dp : Option Addr} {pl : Option Nat} {g : Gt} (h : WAt w wb dp pl g) {P : DataW Unit} (hp : PlAt w pl P) (ok : Gok g) (v0 : Value) (hne : (ahd g P false).1.2 ≠ 0) : Calls Try.prog 36 #[.pointer (some ⟨wb, 0, none⟩), v0] w fun e w' => e = .returned (.int .i64 (ahd g P false).1.2) ∧ WAt w' wb dp pl (ahd g P false).2 ∧ PlAt w' pl P ∧ Tn (· = wb) w w' := by
  have AH := (show Hid _ from ahead_any h hp ok false)
  generalize (ahd g P false) = q at *
  obtain ⟨⟨bu, er⟩, g2⟩ := q
  simp only at hne AH ⊢
  have b1 : (er != 0) = true := by simpa using hne
  clear h hp ok
  go_enter Try.func36, Try.ntmps36
  go_wp2_with (go_at_call 59; refine AH.out.mono ?_; rintro e w1 ⟨rfl, hW, hP, hT⟩; have HX := (show Hid (_ ∧ _ ∧ _) from ⟨hW, hP, hT⟩); clear hW hP hT AH)
  go_ret
  exact ⟨rfl, HX.out⟩
set_option maxHeartbeats 1000000 in
set_option maxRecDepth 1000000 in
theorem wsync_go {w : World} {wb : Nat} {dp : Option Addr} {pl : Option Nat} {g : Gt} (h : WAt w wb dp pl g) {P : DataW Unit} (hp : PlAt w pl P) (ok : Gok g) (v0 : Value) (he : (ahd g P false).1.2 = 0) (R : World → Ending → World → Prop) (hR : ∀ w1, Tn (· = wb) w w1 → Calls Try.prog 43 #[.pointer dp, v0] w1 fun e w' => (∃ v, e = .returned v) ∧ R w1 e w') : Calls Try.prog 36 #[.pointer (some ⟨wb, 0, none⟩), v0] w fun e w' => ∃ w1, WAt w1 wb dp pl (ahd g P false).2 ∧ PlAt w1 pl P ∧ Tn (· = wb) w w1 ∧ R w1 e w' := by
  have AH := (show Hid _ from ahead_any h hp ok false)
  generalize (ahd g P false) = q at *
  obtain ⟨⟨bu, er⟩, g2⟩ := q
  simp only at he AH ⊢
  subst he
  have HR := (show Hid _ from hR)
  clear h hp ok hR
  go_enter Try.func36, Try.ntmps36
  go_wp2_with (first
    | (go_at_call 59; refine AH.out.mono ?_; rintro e w1 ⟨rfl, hW, hP, hT⟩; have c0 := hW.cell.1; have HX := (show Hid (_ ∧ _ ∧ _) from ⟨hW, hP, hT⟩); clear hW hP hT AH)
    | (go_at_call 43; refine (HR.out _ HX.out.2.2).mono ?_; rintro e w2 ⟨⟨v9, rfl⟩, hR9⟩; have HY := (show Hid _ from hR9); clear hR9))
  go_ret
  exact ⟨_, HX.out.1, HX.out.2.1, HX.out.2.2, HY.out⟩
set_option maxHeartbeats 1000000 in
set_option maxRecDepth 1000000 in
theorem wsyncDir_no {w : World} {wb : Nat} {dp : Option Addr} {pl : Option Nat} {g : Gt} (h : WAt w wb dp pl g) {P : DataW Unit} (hp : PlAt w pl P) (ok : Gok g) (hne : (ahd g P false).1.2 ≠ 0) : Calls Try.prog 40 #[.pointer (some ⟨wb, 0, none⟩)] w fun e w' => e = .returned (.int .i64 (ahd g P false).1.2) ∧ WAt w' wb dp pl (ahd g P false).2 ∧ PlAt w' pl P ∧ Tn (· = wb) w w' := by
  have AH := (show Hid _ from ahead_any h hp ok false)
  generalize (ahd g P false) = q at *
  obtain ⟨⟨bu, er⟩, g2⟩ := q
  simp only at hne AH ⊢
  have b1 : (er != 0) = true := by simpa using hne
  clear h hp ok
  go_enter Try.func40, Try.ntmps40
  go_wp2_with (go_at_call 59; refine AH.out.mono ?_; rintro e w1 ⟨rfl, hW, hP, hT⟩; have HX := (show Hid (_ ∧ _ ∧ _) from ⟨hW, hP, hT⟩); clear hW hP hT AH)
  go_ret
  exact ⟨rfl, HX.out⟩
set_option maxHeartbeats 1000000 in
set_option maxRecDepth 1000000 in
theorem wsyncDir_go {w : World} {wb : Nat} {dp : Option Addr} {pl : Option Nat} {g : Gt} (h : WAt w wb dp pl g) {P : DataW Unit} (hp : PlAt w pl P) (ok : Gok g) (he : (ahd g P false).1.2 = 0) (R : World → Ending → World → Prop) (hR : ∀ w1, Tn (· = wb) w w1 → Calls Try.prog 46 #[.pointer dp] w1 fun e w' => (∃ v, e = .returned v) ∧ R w1 e w') : Calls Try.prog 40 #[.pointer (some ⟨wb, 0, none⟩)] w fun e w' => ∃ w1, WAt w1 wb dp pl (ahd g P false).2 ∧ PlAt w1 pl P ∧ Tn (· = wb) w w1 ∧ R w1 e w' := by
  have AH := (show Hid _ from ahead_any h hp ok false)
  generalize (ahd g P false) = q at *
  obtain ⟨⟨bu, er⟩, g2⟩ := q
  simp only at he AH ⊢
  subst he
  have HR := (show Hid _ from hR)
  clear h hp ok hR
  go_enter Try.func40, Try.ntmps40
  go_wp2_with (first
    | (go_at_call 59; refine AH.out.mono ?_; rintro e w1 ⟨rfl, hW, hP, hT⟩; have c0 := hW.cell.1; have HX := (show Hid (_ ∧ _ ∧ _) from ⟨hW, hP, hT⟩); clear hW hP hT AH)
    | (go_at_call 46; refine (HR.out _ HX.out.2.2).mono ?_; rintro e w2 ⟨⟨v9, rfl⟩, hR9⟩; have HY := (show Hid _ from hR9); clear hR9))
  go_ret
  exact ⟨_, HX.out.1, HX.out.2.1, HX.out.2.2, HY.out⟩
set_option maxHeartbeats 1000000 in
set_option maxRecDepth 1000000 in
theorem wread_no {w : World} {wb : Nat} {dp : Option Addr} {pl : Option Nat} {g : Gt} (h : WAt w wb dp pl g) {P : DataW Unit} (hp : PlAt w pl P) (ok : Gok g) (v0 : Value) (hne : (ahd g P false).1.2 ≠ 0) : Calls Try.prog 35 #[.pointer (some ⟨wb, 0, none⟩), v0] w fun e w' => e = .returned (.tuple #[.slice none 0 0, .int .i64 (ahd g P false).1.2]) ∧ WAt w' wb dp pl (ahd g P false).2 ∧ PlAt w' pl P ∧ Tn (· = wb) w w' := by
  have AH := (show Hid _ from ahead_any h hp ok false)
  generalize (ahd g P false) = q at *
  obtain ⟨⟨bu, er⟩, g2⟩ := q
  simp only at hne AH ⊢
  have b1 : (er != 0) = true := by simpa using hne
  clear h hp ok
  go_enter Try.func35, Try.ntmps35
  go_wp2_with (go_at_call 59; refine AH.out.mono ?_; rintro e w1 ⟨rfl, hW, hP, hT⟩; have HX := (show Hid (_ ∧ _ ∧ _) from ⟨hW, hP, hT⟩); clear hW hP hT AH)
  go_ret2
  exact ⟨rfl, HX.out⟩
set_option maxHeartbeats 1000000 in
set_option maxRecDepth 1000000 in
theorem wread_go {w : World} {wb : Nat} {dp : Option Addr} {pl : Option Nat} {g : Gt} (h : WAt w wb dp pl g) {P : DataW Unit} (hp : PlAt w pl P) (ok : Gok g) (v0 : Value) (he : (ahd g P false).1.2 = 0) (R : World → Ending → World → Prop) (hR : ∀ w1, Tn (· = wb) w w1 → Calls Try.prog 47 #[.pointer dp, v0] w1 fun e w' => (∃ v v2 : Value, e = .returned (.tuple #[v, v2])) ∧ R w1 e w') : Calls Try.prog 35 #[.pointer (some ⟨wb, 0, none⟩), v0] w fun e w' => ∃ w1, WAt w1 wb dp pl (ahd g P false).2 ∧ PlAt w1 pl P ∧ Tn (· = wb) w w1 ∧ R w1 e w' := by
  have AH := (show Hid _ from ahead_any h hp ok false)
  generalize (ahd g P false) = q at *
  obtain ⟨⟨bu, er⟩, g2⟩ := q
  simp only at he AH ⊢
  subst he
  have HR := (show Hid _ from hR)
  clear h hp ok hR
  go_enter Try.func35, Try.ntmps35
  go_wp2_with (first
    | (go_at_call 59; refine AH.out.mono ?_; rintro e w1 ⟨rfl, hW, hP, hT⟩; have c0 := hW.cell.1; have HX := (show Hid (_ ∧ _ ∧ _) from ⟨hW, hP, hT⟩); clear hW hP hT AH)
    | (go_at_call 47; refine (HR.out _ HX.out.2.2).mono ?_; rintro e w2 ⟨⟨v9, v8, rfl⟩, hR9⟩; have HY := (show Hid _ from hR9); clear hR9))
  go_ret2
  exact ⟨_, HX.out.1, HX.out.2.1, HX.out.2.2, HY.out⟩
set_option maxHeartbeats 1000000 in
set_option maxRecDepth 1000000 in
theorem wrename_no {w : World} {wb : Nat} {dp : Option Addr} {pl : Option Nat} {g : Gt} (h : WAt w wb dp pl g) {P : DataW Unit} (hp : PlAt w pl P) (ok : Gok g) (v0 : Value) (v1 : Value) (hne : (ahd g P false).1.2 ≠ 0) : Calls Try.prog 38 #[.pointer (some ⟨wb, 0, none⟩), v0, v1] w fun e w' => e = .returned (.int .i64 (ahd g P false).1.2) ∧ WAt w' wb dp pl (ahd g P false).2 ∧ PlAt w' pl P ∧ Tn (· = wb) w w' := by
  have AH := (show Hid _ from ahead_any h hp ok false)
  generalize (ahd g P false) = q at *
  obtain ⟨⟨bu, er⟩, g2⟩ := q
  simp only at hne AH ⊢
  have b1 : (er != 0) = true := by simpa using hne
  clear h hp ok
  go_enter Try.func38, Try.ntmps38
  go_wp2_with (go_at_call 59; refine AH.out.mono ?_; rintro e w1 ⟨rfl, hW, hP, hT⟩; have HX := (show Hid (_ ∧ _ ∧ _) from ⟨hW, hP, hT⟩); clear hW hP hT AH)
  go_ret
  exact ⟨rfl, HX.out⟩
set_option maxHeartbeats 1000000 in
set_option maxRecDepth 1000000 in
theorem wrename_go {w : World} {wb : Nat} {dp : Option Addr} {pl : Option Nat} {g : Gt} (h : WAt w wb dp pl g) {P : DataW Unit} (hp : PlAt w pl P) (ok : Gok g) (v0 : Value) (v1 : Value) (he : (ahd g P false).1.2 = 0) (R : World → Ending → World → Prop) (hR : ∀ w1, Tn (· = wb) w w1 → Calls Try.prog 44 #[.pointer dp, v0, v1] w1 fun e w' => (∃ v, e = .returned v) ∧ R w1 e w') : Calls Try.prog 38 #[.pointer (some ⟨wb, 0, none⟩), v0, v1] w fun e w' => ∃ w1, WAt w1 wb dp pl (ahd g P false).2 ∧ PlAt w1 pl P ∧ Tn (· = wb) w w1 ∧ R w1 e w' := by
  have AH := (show Hid _ from ahead_any h hp ok false)
  generalize (ahd g P false) = q at *
  obtain ⟨⟨bu, er⟩, g2⟩ := q
  simp only at he AH ⊢
  subst he
  have HR := (show Hid _ from hR)
  clear h hp ok hR
  go_enter Try.func38, Try.ntmps38
  go_wp2_with (first
    | (go_at_call 59; refine AH.out.mono ?_; rintro e w1 ⟨rfl, hW, hP, hT⟩; have c0 := hW.cell.1; have HX := (show Hid (_ ∧ _ ∧ _) from ⟨hW, hP, hT⟩); clear hW hP hT AH)
    | (go_at_call 44; refine (HR.out _ HX.out.2.2).mono ?_; rintro e w2 ⟨⟨v9, rfl⟩, hR9⟩; have HY := (show Hid _ from hR9); clear hR9))
  go_ret
  exact ⟨_, HX.out.1, HX.out.2.1, HX.out.2.2, HY.out⟩
set_option maxHeartbeats 1000000 in
set_option maxRecDepth 1000000 in
theorem wremove_no {w : World} {wb : Nat} {dp : Option Addr} {pl : Option Nat} {g : Gt} (h : WAt w wb dp pl g) {P : DataW Unit} (hp : PlAt w pl P) (ok : Gok g) (v0 : Value) (hne : (ahd g P false).1.2 ≠ 0) : Calls Try.prog 39 #[.pointer (some ⟨wb, 0, none⟩), v0] w fun e w' => e = .returned (.int .i64 (ahd g P false).1.2) ∧ WAt w' wb dp pl (ahd g P false).2 ∧ PlAt w' pl P ∧ Tn (· = wb) w w' := by
  have AH := (show Hid _ from ahead_any h hp ok false)
  generalize (ahd g P false) = q at *
  obtain ⟨⟨bu, er⟩, g2⟩ := q
  simp only at hne AH ⊢
  have b1 : (er != 0) = true := by simpa using hne
  clear h hp ok
  go_enter Try.func39, Try.ntmps39
  go_wp2_with (go_at_call 59; refine AH.out.mono ?_; rintro e w1 ⟨rfl, hW, hP, hT⟩; have HX := (show Hid (_ ∧ _ ∧ _) from ⟨hW, hP, hT⟩); clear hW hP hT AH)
  go_ret
  exact ⟨rfl, HX.out⟩
set_option maxHeartbeats 1000000 in
set_option maxRecDepth 1000000 in
theorem wremove_go {w : World} {wb : Nat} {dp : Option Addr} {pl : Option Nat} {g : Gt} (h : WAt w wb dp pl g) {P : DataW Unit} (hp : PlAt w pl P) (ok : Gok g) (v0 : Value) (he : (ahd g P false).1.2 = 0) (R : World → Ending → World → Prop) (hR : ∀ w1, Tn (· = wb) w w1 → Calls Try.prog 45 #[.pointer dp, v0] w1 fun e w' => (∃ v, e = .returned v) ∧ R w1 e w') : Calls Try.prog 39 #[.pointer (some ⟨wb, 0, none⟩), v0] w fun e w' => ∃ w1, WAt w1 wb dp pl (ahd g P false).2 ∧ PlAt w1 pl P ∧ Tn (· = wb) w w1 ∧ R w1 e w' := by
  have AH := (show Hid _ from ahead_any h hp ok false)
  generalize (ahd g P false) = q at *
  obtain ⟨⟨bu, er⟩, g2⟩ := q
  simp only at he AH ⊢
  subst he
  have HR := (show Hid _ from hR)
  clear h hp ok hR
  go_enter Try.func39, Try.ntmps39
  go_wp2_with (first
    | (go_at_call 59; refine AH.out.mono ?_; rintro e w1 ⟨rfl, hW, hP, hT⟩; have c0 := hW.cell.1; have HX := (show Hid (_ ∧ _ ∧ _) from ⟨hW, hP, hT⟩); clear hW hP hT AH)
    | (go_at_call 45; refine (HR.out _ HX.out.2.2).mono ?_; rintro e w2 ⟨⟨v9, rfl⟩, hR9⟩; have HY := (show Hid _ from hR9); clear hR9))
  go_ret
  exact ⟨_, HX.out.1, HX.out.2.1, HX.out.2.2, HY.out⟩
set_option maxHeartbeats 1000000 in
set_option maxRecDepth 1000000 in
theorem wlist_no {w : World} {wb : Nat} {dp : Option Addr} {pl : Option Nat} {g : Gt} (h : WAt w wb dp pl g) {P : DataW Unit} (hp : PlAt w pl P) (ok : Gok g) (hne : (ahd g P false).1.2 ≠ 0) : Calls Try.prog 26 #[.pointer (some ⟨wb, 0, none⟩)] w fun e w' => e = .returned (.tuple #[.slice none 0 0, .int .i64 (ahd g P false).1.2]) ∧ WAt w' wb dp pl (ahd g P false).2 ∧ PlAt w' pl P ∧ Tn (· = wb) w w' := by
  have AH := (show Hid _ from ahead_any h hp ok false)
  generalize (ahd g P false) = q at *
  obtain ⟨⟨bu, er⟩, g2⟩ := q
  simp only at hne AH ⊢
  have b1 : (er != 0) = true := by simpa using hne
  clear h hp ok
  go_enter Try.func26, Try.ntmps26
  go_wp2_with (go_at_call 59; refine AH.out.mono ?_; rintro e w1 ⟨rfl, hW, hP, hT⟩; have HX := (show Hid (_ ∧ _ ∧ _) from ⟨hW, hP, hT⟩); clear hW hP hT AH)
  go_ret2
  exact ⟨rfl, HX.out⟩
set_option maxHeartbeats 1000000 in
set_option maxRecDepth 1000000 in
theorem wlist_go {w : World} {wb : Nat} {dp : Option Addr} {pl : Option Nat} {g : Gt} (h : WAt w wb dp pl g) {P : DataW Unit} (hp : PlAt w pl P) (ok : Gok g) (he : (ahd g P false).1.2 = 0) (R : World → Ending → World → Prop) (hR : ∀ w1, Tn (· = wb) w w1 → Calls Try.prog 27 #[.pointer dp] w1 fun e w' => (∃ v v2 : Value, e = .returned (.tuple #[v, v2])) ∧ R w1 e w') : Calls Try.prog 26 #[.pointer (some ⟨wb, 0, none⟩)] w fun e w' => ∃ w1, WAt w1 wb dp pl (ahd g P false).2 ∧ PlAt w1 pl P ∧ Tn (· = wb) w w1 ∧ R w1 e w' := by
  have AH := (show Hid _ from ahead_any h hp ok false)
  generalize (ahd g P false) = q at *
  obtain ⟨⟨bu, er⟩, g2⟩ := q
  simp only at he AH ⊢
  subst he
  have HR := (show Hid _ from hR)
  clear h hp ok hR
  go_enter Try.func26, Try.ntmps26
  go_wp2_with (first
    | (go_at_call 59; refine AH.out.mono ?_; rintro e w1 ⟨rfl, hW, hP, hT⟩; have c0 := hW.cell.1; have HX := (show Hid (_ ∧ _ ∧ _) from ⟨hW, hP, hT⟩); clear hW hP hT AH)
    | (go_at_call 27; refine (HR.out _ HX.out.2.2).mono ?_; rintro e w2 ⟨⟨v9, v8, rfl⟩, hR9⟩; have HY := (show Hid _ from hR9); clear hR9))
  go_ret2
  exact ⟨_, HX.out.1, HX.out.2.1, HX.out.2.2, HY.out⟩
end
end Go.Proofs.Ytjjncajfljbegaa
