/-
  What the laws of caches ask first.
-/
import Derived.Test.YtjefciioaebbeaaTx28
import Derived.Test.YtjefciioaebbeaaCiI28
namespace Go.Proofs.Ytjefciioaebbeaa
open Go.RowKit
/-- An entry of weight 1. -/
def w1e (k : UInt8) (v : Int) : En Tx Int := ⟨0, [k], v, 1⟩
theorem aw_put1 : cput txq 3 (w1e 97 1) [] = ([w1e 97 1], true) := by
  unfold cput
  rw [if_neg (by unfold w1e; simp), show drp txq (w1e 97 1).key ([] : List (En Tx Int)) = [] from rfl, evc_nil]
theorem aw_put2 : cput txq 3 (w1e 98 2) [w1e 97 1] = ([w1e 98 2, w1e 97 1], true) := by
  unfold cput
  rw [if_neg (by unfold w1e; simp), show drp txq (w1e 98 2).key [w1e 97 1] = [w1e 97 1] from rfl, evc_fits (by decide)]
theorem aw_put3 : cput txq 3 (w1e 99 3) [w1e 98 2, w1e 97 1] = ([w1e 99 3, w1e 98 2, w1e 97 1], true) := by
  unfold cput
  rw [if_neg (by unfold w1e; simp), show drp txq (w1e 99 3).key [w1e 98 2, w1e 97 1] = [w1e 98 2, w1e 97 1] from rfl, evc_fits (by decide)]
theorem aw_put4 : cput txq 3 (w1e 100 4) [w1e 97 1, w1e 99 3, w1e 98 2] = ([w1e 100 4, w1e 97 1, w1e 99 3], true) := by
  unfold cput
  rw [if_neg (by unfold w1e; simp), show drp txq (w1e 100 4).key [w1e 97 1, w1e 99 3, w1e 98 2] = [w1e 97 1, w1e 99 3, w1e 98 2] from rfl, evc_more (by simp) (by decide), evc_fits (by decide)]
  rfl
theorem aw_get1 : cget txq [97] [w1e 99 3, w1e 98 2, w1e 97 1] = [w1e 97 1, w1e 99 3, w1e 98 2] := rfl
theorem aw_get2 : cget txq [98] [w1e 100 4, w1e 97 1, w1e 99 3] = [w1e 100 4, w1e 97 1, w1e 99 3] := rfl
theorem aw_f1 : fnd txq [97] [w1e 99 3, w1e 98 2, w1e 97 1] = some (w1e 97 1) := rfl
theorem aw_f2 : fnd txq [98] [w1e 100 4, w1e 97 1, w1e 99 3] = none := rfl
theorem row_of {w : World} {g : Nat} {xs : List Value} {ty : TypeId} (h : w.heap[g]? = some (.cells xs.toArray ty (0, 0))) {ts : List Tx} (he : xs = ts.map encStr) : Rt w (some ⟨g, 0, none⟩) ts := by
  subst he
  refine .inr ⟨g, 0, rfl, fun i hi => ?_⟩
  rw [Nat.zero_add, cell_of_row w g i _ _ _ h]
  simp [hi]
section
variable {w0 W : World} {c : Nat} {X : Nat → Prop}
theorem awp1 (H : SI.Co w0 W c 3 [] X) : Calls Try.prog 47 #[.pointer (some ⟨c, 0, none⟩), .string ⟨#[97]⟩, .int .i64 1, .int .i64 1] W fun e w' => e = .returned (.bool true) ∧ SI.Co w0 w' c 3 [w1e 97 1] X := by
  refine (SI.Co.put H [97] 1 1 (by decide) (by decide) (by decide)).mono ?_
  rintro e w' ⟨h1, h2, _⟩
  have h := aw_put1
  unfold w1e at h ⊢
  rw [h] at h1 h2
  exact ⟨h1, h2⟩
theorem awp2 (H : SI.Co w0 W c 3 [w1e 97 1] X) : Calls Try.prog 47 #[.pointer (some ⟨c, 0, none⟩), .string ⟨#[98]⟩, .int .i64 2, .int .i64 1] W fun e w' => e = .returned (.bool true) ∧ SI.Co w0 w' c 3 [w1e 98 2, w1e 97 1] X := by
  refine (SI.Co.put H [98] 2 1 (by decide) (by decide) (by decide)).mono ?_
  rintro e w' ⟨h1, h2, _⟩
  have h := aw_put2
  unfold w1e at h h1 h2 ⊢
  rw [h] at h1 h2
  exact ⟨h1, h2⟩
theorem awp3 (H : SI.Co w0 W c 3 [w1e 98 2, w1e 97 1] X) : Calls Try.prog 47 #[.pointer (some ⟨c, 0, none⟩), .string ⟨#[99]⟩, .int .i64 3, .int .i64 1] W fun e w' => e = .returned (.bool true) ∧ SI.Co w0 w' c 3 [w1e 99 3, w1e 98 2, w1e 97 1] X := by
  refine (SI.Co.put H [99] 3 1 (by decide) (by decide) (by decide)).mono ?_
  rintro e w' ⟨h1, h2, _⟩
  have h := aw_put3
  unfold w1e at h h1 h2 ⊢
  rw [h] at h1 h2
  exact ⟨h1, h2⟩
theorem awg1 (H : SI.Co w0 W c 3 [w1e 99 3, w1e 98 2, w1e 97 1] X) : Calls Try.prog 48 #[.pointer (some ⟨c, 0, none⟩), .string ⟨#[97]⟩] W fun e w' => e = .returned (.tuple #[.int .i64 1, .bool true]) ∧ SI.Co w0 w' c 3 [w1e 97 1, w1e 99 3, w1e 98 2] X := by
  refine (SI.Co.get H [97]).mono ?_
  rintro e w' ⟨h1, h2, _⟩
  rw [aw_f1] at h1
  rw [aw_get1] at h2
  exact ⟨h1, h2⟩
theorem awp4 (H : SI.Co w0 W c 3 [w1e 97 1, w1e 99 3, w1e 98 2] X) : Calls Try.prog 47 #[.pointer (some ⟨c, 0, none⟩), .string ⟨#[100]⟩, .int .i64 4, .int .i64 1] W fun e w' => e = .returned (.bool true) ∧ SI.Co w0 w' c 3 [w1e 100 4, w1e 97 1, w1e 99 3] X := by
  refine (SI.Co.put H [100] 4 1 (by decide) (by decide) (by decide)).mono ?_
  rintro e w' ⟨h1, h2, _⟩
  have h := aw_put4
  unfold w1e at h h1 h2 ⊢
  rw [h] at h1 h2
  exact ⟨h1, h2⟩
theorem aww (H : SI.Co w0 W c 3 [w1e 100 4, w1e 97 1, w1e 99 3] X) : Calls Try.prog 49 #[.pointer (some ⟨c, 0, none⟩)] W fun e w' => e = .returned (.int .i64 3) ∧ w' = W := SI.Co.weight H
theorem awg2 (H : SI.Co w0 W c 3 [w1e 100 4, w1e 97 1, w1e 99 3] X) : Calls Try.prog 48 #[.pointer (some ⟨c, 0, none⟩), .string ⟨#[98]⟩] W fun e w' => e = .returned (.tuple #[.int .i64 0, .bool false]) ∧ SI.Co w0 w' c 3 [w1e 100 4, w1e 97 1, w1e 99 3] X := by
  refine (SI.Co.get H [98]).mono ?_
  rintro e w' ⟨h1, h2, _⟩
  rw [aw_f2] at h1
  rw [aw_get2] at h2
  exact ⟨h1, h2⟩
theorem awk (H : SI.Co w0 W c 3 [w1e 100 4, w1e 97 1, w1e 99 3] X) : Calls Try.prog 50 #[.pointer (some ⟨c, 0, none⟩)] W fun e w' => ∃ p k, e = .returned (.slice p 3 k) ∧ Hid (Rt w' p [[100], [97], [99]]) ∧ Hid (Below w0.heap.size w0 w') := by
  refine (SI.Co.keys H (by decide)).mono ?_
  rintro e w' ⟨v, rfl, h1, h2⟩
  obtain ⟨p, k, rfl, _, h3⟩ := rt_own (ks := [[100], [97], [99]]) h1
  exact ⟨p, k, rfl, h3, H.base.trans (h2.mono H.base.size)⟩
theorem awt {p : Option Addr} {k : Nat} (h : Rt W p [[100], [97], [99]]) : Calls Try.prog 12 #[.slice p 3 k, .slice (some ⟨W.heap.size, 0, none⟩) 3 3] (W.alloc (.cells #[.string ⟨#[100]⟩, .string ⟨#[97]⟩, .string ⟨#[99]⟩] 9)) fun e w' => e = .returned (.bool true) ∧ Below W.heap.size W w' := by
  have hal := (Below.refl _ W).alloc (Nat.le_refl _) (.cells #[.string ⟨#[100]⟩, .string ⟨#[97]⟩, .string ⟨#[99]⟩] 9)
  have := sameTexts_any p (some ⟨W.heap.size, 0, none⟩) k 3 [[100], [97], [99]] [[100], [97], [99]] (W.alloc (.cells #[.string ⟨#[100]⟩, .string ⟨#[97]⟩, .string ⟨#[99]⟩] 9)) (h.below hal) (row_of (xs := [.string ⟨#[100]⟩, .string ⟨#[97]⟩, .string ⟨#[99]⟩]) (heap_alloc_new W _) rfl) (by decide)
  refine this.mono ?_
  rintro e w' ⟨h1, h2⟩
  exact ⟨h1, hal.trans (h2.mono hal.size)⟩
end
section
attribute [local irreducible] Calls SI.Co Rt
set_option maxHeartbeats 1000000 in
set_option maxRecDepth 1000000 in
theorem awake_any (w : World) : Calls Try.prog 28 #[] w fun e w' => e = .returned (.bool true) ∧ Below w.heap.size w w' := by
  have N0 := (show Hid _ from SI.new_co 3 (by decide) (by decide) (Below.refl _ w))
  go_enter Try.func28, Try.ntmps28
  go_wp2_with (first
    | (go_at_call 46; refine N0.out.mono ?_; rintro e1 w1 ⟨c, rfl, H1, hb1⟩; have HC := (show Hid (SI.Co _ _ _ _ _ _) from H1); clear H1 hb1)
    | (go_at_call 47; refine (awp1 HC.out).mono ?_; rintro e1 w2 ⟨rfl, H1⟩; replace HC := (show Hid (SI.Co _ _ _ _ _ _) from H1); clear H1)
    | (go_at_call 47; refine (awp2 HC.out).mono ?_; rintro e1 w3 ⟨rfl, H1⟩; replace HC := (show Hid (SI.Co _ _ _ _ _ _) from H1); clear H1)
    | (go_at_call 47; refine (awp3 HC.out).mono ?_; rintro e1 w4 ⟨rfl, H1⟩; replace HC := (show Hid (SI.Co _ _ _ _ _ _) from H1); clear H1)
    | (go_at_call 48; refine (awg1 HC.out).mono ?_; rintro e1 w5 ⟨rfl, H1⟩; replace HC := (show Hid (SI.Co _ _ _ _ _ _) from H1); clear H1)
    | (go_at_call 47; refine (awp4 HC.out).mono ?_; rintro e1 w6 ⟨rfl, H1⟩; replace HC := (show Hid (SI.Co _ _ _ _ _ _) from H1); clear H1)
    | (go_at_call 49; refine (aww HC.out).mono ?_; rintro e1 w7 ⟨rfl, h1⟩; obtain rfl := h1.symm)
    | (go_at_call 48; refine (awg2 HC.out).mono ?_; rintro e1 w8 ⟨rfl, H1⟩; replace HC := (show Hid (SI.Co _ _ _ _ _ _) from H1); clear H1)
    | (go_at_call 50; refine (awk HC.out).mono ?_; rintro e1 w9 ⟨p, k, rfl, HR, HB⟩)
    | (go_at_call 12; refine (awt HR.out).mono ?_; rintro e1 w10 ⟨rfl, H1⟩; have HE := (show Hid (Below _ _ _) from H1); clear H1))
  go_ret
  exact ⟨rfl, HB.out.trans (HE.out.mono HB.out.size)⟩
end
end Go.Proofs.Ytjefciioaebbeaa
