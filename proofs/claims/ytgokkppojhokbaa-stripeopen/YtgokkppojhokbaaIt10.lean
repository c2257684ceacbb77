/-
  Stripe: isThere.
-/
import Derived.Test.YtgokkppojhokbaaSs10
namespace Go.Proofs.Ytgokkppojhokbaa
open Go.RowKit
section
attribute [local irreducible] Calls el Hd.cs shc
set_option maxHeartbeats 2000000 in
set_option maxRecDepth 1000000 in
theorem isThere_any (h : Hd) (v : Value) (w : World) : Calls Try.prog 31 #[.agg (shc h v)] w fun e w' => e = .returned (.bool (decide (¬ (h.k = 0 ∧ h.m = 0 ∧ h.b = 0)))) ∧ Below w.heap.size w w' := by
  have al : ∀ (W : World) (o : Obj), Below W.heap.size W (W.alloc o) := fun W o => (Below.refl _ _).alloc (Nat.le_refl _) o
  have H := Sd.new w h v
  obtain ⟨q8, q9, q10, q11, q12, q13, q14, q15⟩ := H.cells
  go_enter Try.func31, Try.ntmps31
  go_wp2
  all_goals
    go_ret
    exact ⟨by simp [*], al _ _⟩
/-- Is the shard there? -/
def thr? (h : Hd) : Bool := decide (¬ (h.k = 0 ∧ h.m = 0 ∧ h.b = 0))
set_option maxHeartbeats 2000000 in
set_option maxRecDepth 1000000 in
theorem index_any {w : World} {p : Option Addr} {r c : Nat} {hs : Nat → Hd} {vs : Nat → Value} (hS : Sds w (.slice p r c) r hs vs) (hr : r ≤ 1099511627776) :
    Calls Try.prog 30 #[.slice p r c, .func (.func 31) #[] #[]] w fun e w' => ((∃ i : Nat, i < r ∧ thr? (hs i) = true ∧ (∀ j, j < i → thr? (hs j) = false) ∧ e = .returned (.int .i64 (i : Int))) ∨ ((∀ j, j < r → thr? (hs j) = false) ∧ e = .returned (.int .i64 (-1)))) ∧ Below w.heap.size w w' := by
  obtain ⟨p', c', e, _, hx⟩ := hS
  injection e with e1 e2 e3
  subst e1 e3
  have HX := (show Hid _ from hx)
  clear hx
  have IT := (show Hid _ from isThere_any)
  go_enter Try.func30, Try.ntmps30
  go_wp2
  go_loopw [8] (fun i wr => ∃ t : Nat, t ≤ r ∧ i = .int .i64 (t : Int) ∧ Hid (∀ j, j < t → thr? (hs j) = false) ∧ Below w.heap.size w wr) (fun i _ => r - (intOf i).toNat)
  case atStart => exact ⟨0, Nat.zero_le _, rfl, fun j hj => by omega, Below.refl _ _⟩
  case round =>
    obtain ⟨t, ht, rfl, hf, hb⟩ := hrel
    by_cases hlt : t < r
    · have hi : (t : Int) < (r : Int) := by omega
      obtain ⟨b, o, rfl, hd⟩ := HX.out (by omega)
      have H1 := (show Hid (Sd wr b (o + t * 17) (hs t) (vs t)) from (hd t hlt).below hb)
      clear hd
      cases ht2 : thr? (hs t) with
      | true =>
        have hd2 : decide (¬ ((hs t).k = 0 ∧ (hs t).m = 0 ∧ (hs t).b = 0)) = true := ht2
        go_wp2_with (first
          | (refine wpList_ldSd rfl _ rfl b (o + t * 17) (by first | rfl | simp [Act.eval]) H1.out ?_)
          | (go_at_call 31; refine (IT.out _ _ _).mono ?_; rintro e w2 ⟨rfl, hb2⟩; rw [hd2]))
        go_ret
        exact ⟨.inl ⟨t, hlt, ht2, hf.out, rfl⟩, bt hb hb2⟩
      | false =>
        have hd2 : decide (¬ ((hs t).k = 0 ∧ (hs t).m = 0 ∧ (hs t).b = 0)) = false := ht2
        go_wp2_with (first
          | (refine wpList_ldSd rfl _ rfl b (o + t * 17) (by first | rfl | simp [Act.eval]) H1.out ?_)
          | (go_at_call 31; refine (IT.out _ _ _).mono ?_; rintro e w2 ⟨rfl, hb2⟩; rw [hd2]))
        go_roundw
        case rel =>
          refine ⟨t + 1, hlt, by go_num, fun j hj => ?_, bt hb hb2⟩
          by_cases e : j = t
          · rw [e]; exact ht2
          · exact hf.out j (by omega)
        case measure => simp [intOf]; omega
    · obtain rfl : t = r := by omega
      go_wp2
      go_ret
      exact ⟨.inr ⟨hf.out, rfl⟩, hb⟩
end
end Go.Proofs.Ytgokkppojhokbaa
