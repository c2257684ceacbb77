/-
  A reading on its way: 'count', 'block'.
-/
import Derived.Test.YtmcbeikgdcgdcaaRw
namespace Go.Proofs.Ytmcbeikgdcgdcaa
open Go.RowKit
theorem tk_next {B : Nat} {w : World} {g : Nat} {bs : List (BitVec 8)} (h : Wk B w g bs) (n : Nat) :
    Calls Try.prog 105 #[.pointer (some ⟨g, 0, none⟩), .int .i64 (n : Int)] w fun e w' => Tell B w g (fun xs W v => Sq W v xs) (tk n bs) e w' := by
  unfold tk
  by_cases hn : bs.length < n
  · rw [if_pos hn]
    exact (next_cut h n (by omega)).mono fun e w' ⟨he, hw⟩ => ⟨by rw [hw]; exact grefl _ _, he⟩
  · rw [if_neg hn]
    have h' : Wk B w g (bs.take n ++ bs.drop n) := by rw [List.take_append_drop]; exact h
    exact (next_ok h' n (by rw [List.length_take]; omega)).mono fun e w' ⟨v, he, hs, hW, hG⟩ => ⟨hG, v, he, hs, hW⟩
section
attribute [local irreducible] Calls el
set_option maxRecDepth 1000000 in
theorem count_any {B : Nat} {w : World} {g : Nat} {bs : List (BitVec 8)} (h : Wk B w g bs) (m : Nat) (hm : m ≤ 9223372036854775807) :
    Calls Try.prog 118 #[.pointer (some ⟨g, 0, none⟩), .int .i64 (m : Int)] w fun e w' => Tell B w g (fun (n : Nat) _ v => v = .int .i64 (n : Int) ∧ n ≤ m) (ct m bs) e w' := by
  have S := (show Hid _ from short_any h)
  cases hu : uv bs with
  | error c =>
    rw [hu] at S
    have R : Hid (ct m bs = .error c) := (show ct m bs = .error c by unfold ct; rw [hu])
    go_enter Try.func118, Try.ntmps118
    go_wp2_with (go_at_call 99; refine S.out.mono ?_; rintro e w1 ⟨hG, rfl⟩)
    exact ⟨rfl, hG, by rw [R.out]⟩
  | ok al =>
    obtain ⟨v, l⟩ := al
    have hv := uv_lt hu
    rw [hu] at S
    by_cases hlt : m < v
    · have R : Hid (ct m bs = .error 71) := (show ct m bs = .error 71 by unfold ct; rw [hu]; exact if_pos hlt)
      have q1 : (m : Int) < (v : Int) := by omega
      go_enter Try.func118, Try.ntmps118
      go_wp2_with (go_at_call 99; refine S.out.mono ?_; rintro e w1 ⟨hG, v1, rfl, rfl, hW⟩)
      exact ⟨rfl, hG, by rw [R.out]⟩
    · have R : Hid (ct m bs = .ok (v, l)) := (show ct m bs = .ok (v, l) by unfold ct; rw [hu]; exact if_neg hlt)
      have q1 : ¬ (m : Int) < (v : Int) := by omega
      go_enter Try.func118, Try.ntmps118
      go_wp2_with (go_at_call 99; refine S.out.mono ?_; rintro e w1 ⟨hG, v1, rfl, rfl, hW⟩)
      go_ret
      exact ⟨hG, by rw [R.out]; exact ⟨_, rfl, ⟨rfl, by omega⟩, hW⟩⟩
set_option maxRecDepth 1000000 in
theorem block_any {B : Nat} {w : World} {g : Nat} {bs : List (BitVec 8)} (h : Wk B w g bs) (m : Nat) (hm : m ≤ 9223372036854775807) :
    Calls Try.prog 107 #[.pointer (some ⟨g, 0, none⟩), .int .i64 (m : Int)] w fun e w' => Tell B w g (fun xs W v => Sq W v xs) (bk m bs) e w' := by
  have S := (show Hid _ from count_any h m hm)
  cases hu : ct m bs with
  | error c =>
    rw [hu] at S
    have R : Hid (bk m bs = .error c) := (show bk m bs = .error c by unfold bk; rw [hu])
    go_enter Try.func107, Try.ntmps107
    go_wp2_with (go_at_call 118; refine S.out.mono ?_; rintro e w1 ⟨hG, rfl⟩)
    exact ⟨rfl, hG, by rw [R.out]⟩
  | ok al =>
    obtain ⟨v, l⟩ := al
    rw [hu] at S
    have R : Hid (bk m bs = tk v l) := (show bk m bs = tk v l by unfold bk; rw [hu])
    cases ht : tk v l with
    | error c =>
      go_enter Try.func107, Try.ntmps107
      go_wp2_with (first | (go_at_call 118; refine S.out.mono ?_; rintro e w1 ⟨hG, v1, rfl, ⟨rfl, hvm⟩, hW⟩) | (go_at_call 105; refine (tk_next hW v).mono ?_; rw [ht]; rintro e w2 ⟨hG2, rfl⟩))
      exact ⟨rfl, gtrans hG hG2, by rw [R.out, ht]⟩
    | ok al =>
      obtain ⟨xs, l2⟩ := al
      go_enter Try.func107, Try.ntmps107
      go_wp2_with (first | (go_at_call 118; refine S.out.mono ?_; rintro e w1 ⟨hG, v1, rfl, ⟨rfl, hvm⟩, hW⟩) | (go_at_call 105; refine (tk_next hW v).mono ?_; rw [ht]; rintro e w2 ⟨hG2, v2, rfl, hs2, hW2⟩))
      go_ret
      exact ⟨gtrans hG hG2, by rw [R.out, ht]; exact ⟨_, rfl, hs2, hW2⟩⟩
end
end Go.Proofs.Ytmcbeikgdcgdcaa
