/-
  The laws' 'awake'.
-/
import Derived.Test.YtmcbeikgdcgdcaaSx
import Derived.Test.YtmcbeikgdcgdcaaRauv
import Derived.Test.YtmcbeikgdcgdcaaRaby
import Derived.Test.YtmcbeikgdcgdcaaRatx
namespace Go.Proofs.Ytmcbeikgdcgdcaa
open Go.RowKit
def aw6 : List (BitVec 8) := [172, 2, 2, 1, 97, 0]
theorem aw_put : [] ++ sb 9 300 = ([172, 2] : List (BitVec 8)) := by decide +kernel
theorem aw_txt : ([172, 2] : List (BitVec 8)) ++ (sb 9 2 ++ tl [[97], []]) = aw6 := by decide +kernel
theorem aw_uv : uv aw6 = .ok (300, [2, 1, 97, 0]) := rfl
theorem aw_tx : ge0 2 (ge0 1 (tx (2 : Int).toNat (1 : Int).toNat [2, 1, 97, 0])) = .ok ([[97], []], []) := rfl
theorem aw_by : ge0 1 (tk (1 : Int).toNat []) = .error 70 := rfl
theorem aw_str : bstr aw6 = ⟨#[172, 2, 2, 1, 97, 0]⟩ := by rfl
theorem aw_s1 : (⟨#[97]⟩ : ByteArray) = bstr [97] := by rfl
theorem aw_s2 : (⟨#[]⟩ : ByteArray) = bstr [] := by rfl
theorem aw_rs (W : World) (fr : Nat × Nat) : Rs' (W.alloc (.cells #[.string ⟨#[97]⟩, .string ⟨#[]⟩] 9 fr)) (some ⟨W.heap.size, 0, none⟩) [[97], []] := by
  refine .inr ⟨W.heap.size, 0, rfl, fun i hi => ?_⟩
  rw [Nat.zero_add, cell_of_row _ _ _ _ _ fr (heap_alloc_new W _)]
  match i, hi with
  | 0, _ => rw [aw_s1]; rfl
  | 1, _ => rw [aw_s2]; rfl
theorem aw_len : aw6.length = 6 := rfl
theorem gb {u v x : World} {r : Nat} (h : Below u.heap.size u v) (k : v.grownBy x (some r)) (hr : u.heap.size ≤ r) : Below u.heap.size u x := h.grown k h.size (fun _ e => by injection e; omega)
section
attribute [local irreducible] Calls el bstr sb aw6 uv tx tk ge0
set_option maxHeartbeats 4000000 in
set_option maxRecDepth 1000000 in
theorem awake_any (w : World) :
    Calls Try.prog 37 #[] w fun e w' => e = .returned (.bool true) ∧ Below w.heap.size w w' := by
  have al : ∀ (W : World) (o : Obj), Below W.heap.size W (W.alloc o) := fun W o => (Below.refl _ _).alloc (Nat.le_refl _) o
  have P1 := (show Hid _ from putU_any (w := w) (a := none) (bs := []) (.inl rfl) 0 0 rfl (by omega) 300 (by omega))
  rw [aw_put] at P1
  have hs : ((⟨#[172, 2, 2, 1, 97, 0]⟩ : ByteArray).toList != (⟨#[172, 2, 2, 1, 97, 0]⟩ : ByteArray).toList) = false := by simp
  go_enter Try.func37, Try.ntmps37
  go_wp2_with (first
    | (go_at_call 53; refine P1.out.mono ?_; rintro e w1 ⟨v1, rfl, ho1, hb1⟩; obtain ⟨p1, c1, rfl, _, r1⟩ := ho1.rd; have ba1 := bt hb1 (al w1 (.cells #[.string ⟨#[97]⟩, .string ⟨#[]⟩] 9)))
    | (go_at_call 56; refine (putT_any (r1.below (al w1 (.cells #[.string ⟨#[97]⟩, .string ⟨#[]⟩] 9))) (aw_rs w1 (0, 0)) 2 c1 2 2 rfl rfl (by simp [tz])).mono ?_; rw [aw_txt]; rintro e w2 ⟨v2, rfl, ho2, hb2⟩; obtain ⟨p2, c2, rfl, _, r2⟩ := ho2.rd; rw [aw_len]; have ba2 := bt ba1 hb2)
    | (go_at_call 30; refine (open_any r2 6 c2 aw_len (by omega)).mono ?_; rintro e w3 ⟨r, rfl, hr, hR3, hb3⟩; have ba3 := bt ba2 hb3; have cv := conv_rd (r2.below hb3) 6 c2 aw_len; rw [aw_str] at cv; have hrw := Nat.le_trans ba2.size hr)
    | (go_at_call 74; refine (muv_any hR3 (by rw [aw_len]; omega)).mono ?_; rw [aw_uv, res_ok]; rintro e w4 ⟨hG4, hR4, v4, rfl, rfl⟩; have ba4 := gb ba3 hG4 hrw)
    | (go_at_call 78; refine (mtx_any hR4 (by simp) 2 1 (by omega) (by omega)).mono ?_; rw [aw_tx, res_ok]; rintro e w5 ⟨hG5, hR5, v5, rfl, ho5⟩; have ba5 := gb ba4 hG5 hrw)
    | (go_at_call 42; refine (end_any hR5).mono ?_; rintro e w' ⟨rfl, h⟩; obtain rfl := h.symm)
    | (go_at_call 76; refine (mby_any hR5 (by simp) 1).mono ?_; rw [aw_by, res_no]; rintro e w6 ⟨hG6, hR6, v6, rfl, ho6⟩; have ba6 := gb ba5 hG6 hrw; have ho5' := os_kept ho5 hR4.lt hG6; obtain ⟨p5, c5, rfl, _, r5⟩ := ho5'.rs)
    | (go_at_call 57; refine (sameT_any (r5.below (al w6 (.cells #[.string ⟨#[97]⟩, .string ⟨#[]⟩] 9))) (aw_rs w6 (0, 0)) 2 c5 2 2 rfl rfl (by omega)).mono ?_; rw [decide_eq_true rfl]; rintro e w7 ⟨rfl, hb7⟩; have ba7 := bt (bt ba6 (al w6 (.cells #[.string ⟨#[97]⟩, .string ⟨#[]⟩] 9))) hb7; have hR7 := (hR6.below (al w6 (.cells #[.string ⟨#[97]⟩, .string ⟨#[]⟩] 9))).below hb7)
    | (go_at_call 40; refine (fault_any hR7).mono ?_; rintro e w' ⟨rfl, h⟩; obtain rfl := h.symm))
  go_ret
  exact ⟨rfl, ba7⟩
end
end Go.Proofs.Ytmcbeikgdcgdcaa
