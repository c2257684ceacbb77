/-
  CodeLinear: 'plus' whatever the length; words are linear.
-/
import Derived.Test.YtnlmjajdfaambaaPp
namespace Go.Proofs.Ytnlmjajdfaambaa
open Go.RowKit
section
attribute [local irreducible] Calls NmE NrE el
set_option maxHeartbeats 4000000 in
set_option maxRecDepth 1000000 in
theorem plus_nil (p q : Option Addr) (r c1 c2 : Nat) (A C : Nat → Nat → BitVec 8) (w : World) (hr0 : 1 ≤ r) (hr : r ≤ 255) (H1 : Hid (NmE w (.slice p r c1) r (fun _ => 0) A)) :
    Calls Try.prog 29 #[.slice p r c1, .slice q r c2] w fun e w' => ∃ v, e = .returned v ∧ NmE w' v r (fun _ => 0) (fun i c => A i c ^^^ C i c) ∧ Below w.heap.size w w' := by
  go_enter Try.func29, Try.ntmps29
  go_wp2_with (go_at_call 20; refine (copied_core p r c1 (fun _ => 0) A w hr (fun _ _ => Nat.zero_le _) H1).mono ?_; rintro e w8 ⟨v8, rfl, hM8, hb8⟩; have HN8 := (show Hid _ from Bm.nm hM8); obtain ⟨p8, c8, e8⟩ := nmE_form HN8.out; subst e8; clear hM8)
  obtain ⟨b8, o8, rows8, ep8, hc8, hn8⟩ := nm_at HN8.out (by omega)
  subst ep8
  go_loop [6] (fun i => ∃ t : Nat, t ≤ r ∧ i = .int .i64 t) (fun i => r - (intOf i).toNat)
  case atStart => exact ⟨0, Nat.zero_le _, rfl⟩
  case round =>
    obtain ⟨t, ht, rfl⟩ := hrel
    by_cases hlt : t < r
    · have j1 : (t : Int) < (r : Int) := by omega
      by_cases hl2 : (t : Int) < (r : Int)
      · obtain ⟨pr, cr, er, _⟩ := nr_un (hn8 t hlt)
        have g1 := hc8 t hlt
        rw [er] at g1
        go_wp2
        go_loop [7] (fun i => i = .int .i64 0) (fun _ => 0)
        case atStart => rfl
        case round =>
          obtain rfl := hrel
          go_wp2
          go_round
          case rel => exact ⟨t + 1, by omega, by go_num⟩
          case measure => simp [intOf]; omega
      · omega
    · obtain rfl : t = r := by omega
      go_wp2
      go_ret
      exact ⟨_, rfl, nm_congr HN8.out (fun i _ c hc => by omega), hb8⟩
end
theorem plus4_any {w : World} {p q : Option Addr} {r c1 c2 n : Nat} {A C : Nat → Nat → BitVec 8} (hr0 : 1 ≤ r) (hr : r ≤ 255) (hn : n ≤ 140737488355328) (H1 : NmE w (.slice p r c1) r (fun _ => n) A) (H2 : NmE w (.slice q r c2) r (fun _ => n) C) :
    Calls Try.prog 29 #[.slice p r c1, .slice q r c2] w fun e w' => ∃ v, e = .returned v ∧ NmE w' v r (fun _ => n) (fun i c => A i c ^^^ C i c) ∧ Below w.heap.size w w' := by
  by_cases h0 : n = 0
  · subst h0; exact plus_nil p q r c1 c2 A C w hr0 hr H1
  · exact plus_core p q r c1 c2 n A C w hr0 hr (by omega) hn H1 H2
theorem mm_xor (k : Nat) (F A C : Nat → Nat → BitVec 8) (i c : Nat) : mm fdE k F (fun i c => A i c ^^^ C i c) i c = mm fdE k F A i c ^^^ mm fdE k F C i c := by
  have h : ∀ t, t < k → fdE.ti (F i t) (A t c ^^^ C t c) = fdE.pl (fdE.ti (F i t) (A t c)) (fdE.ti (F i t) (C t c)) := fun t _ => fdE.ti_pl _ _ _
  unfold mm
  rw [sm_congr h, sm_pl]
  rfl
theorem mm_scale (k : Nat) (F A : Nat → Nat → BitVec 8) (s : BitVec 8) (i c : Nat) : mm fdE k F (fun i c => tiE (A i c) s) i c = tiE (mm fdE k F A i c) s := by
  have h : ∀ t, t < k → fdE.ti (F i t) (tiE (A t c) s) = fdE.ti (fdE.ti (F i t) (A t c)) s := fun t _ => (fdE.ti_assoc _ _ _).symm
  unfold mm
  rw [sm_congr h, sm_ti_r]
  rfl
/-- A turned word is the word of the turned data. -/
theorem turn_word {k m a : Nat} {F A : Nat → Nat → BitVec 8} {d : Nat → BitVec 8} (hF : Fac k F) (ha : a < k) (i c : Nat) : tur k a (k + m) F (mm fdE k F A) d i c = mm fdE k F (fun i c => if i = a then d c else A i c) i c ∨ k + m ≤ i := by
  rcases Nat.lt_or_ge i (k + m) with him | him
  · left
    unfold tur
    by_cases e : i = a
    · subst e
      rw [if_pos rfl, hF.data ha, if_pos rfl]
    · rw [if_neg e]
      by_cases e2 : i < k
      · rw [if_neg (by omega), hF.data e2, hF.data e2, if_neg e]
      · rw [if_pos (by omega), hF.data ha]
        have h1 : ∀ t, t < k → (if t = a then d c else A t c) = A t c ^^^ (if t = a then A a c ^^^ d c else 0#8) := fun t _ => by
          by_cases e3 : t = a
          · subst e3; rw [if_pos rfl, if_pos rfl, ← BitVec.xor_assoc, BitVec.xor_self, BitVec.zero_xor]
          · rw [if_neg e3, if_neg e3, BitVec.xor_zero]
        rw [mm_congr (A := F) (A' := F) (B := fun i c => if i = a then d c else A i c) (B' := fun t c => A t c ^^^ (if t = a then A a c ^^^ d c else 0#8)) (fun _ _ => rfl) h1, mm_xor k F A (fun t c => if t = a then A a c ^^^ d c else 0#8) i c]
        have h2 : mm fdE k F (fun t c => if t = a then A a c ^^^ d c else 0#8) i c = tiE (F i a) (A a c ^^^ d c) := by
          unfold mm
          rw [sm_one (j := a) ha (fun t _ hne => by dsimp only; rw [if_neg hne]; exact ti_oo (D := fdE) _)]
          dsimp only
          rw [if_pos rfl]
          rfl
        rw [h2]
        rfl
  · exact .inr him
end Go.Proofs.Ytnlmjajdfaambaa
