/-
  'Powers' at whatever points.
-/
import Derived.Test.YtmjobnabnkiakaaKpF
namespace Go.Proofs.Ytmjobnabnkiakaa
open Go.RowKit
theorem sizeFault_0 (w : World) : Calls Try.prog 63 #[.int .i64 0] w fun e w' => e = .returned (.int .i64 0) ∧ w' = w := sizeFault_ok 0 (by omega) w
theorem blank0E (c : Nat) (hc : c ≤ 1000) (w : World) : Calls Try.prog 64 #[.int .i64 0, .int .i64 c] w fun e w' => ∃ B, e = .returned (.slice (some ⟨B, 0, none⟩) 0 0) ∧ GmE w' B 0 c (fun i => B + 1 + i) (fun _ _ => oE) ∧ w.heap.size ≤ B ∧ Below w.heap.size w w' := blankxE 0 c (by omega) hc w
section
attribute [local irreducible] Calls GmE
set_option maxHeartbeats 1000000 in
set_option maxRecDepth 1000000 in
theorem powersE_nil (m : Nat) (hm : m ≤ 255) (p : Option Addr) (cap : Nat) (x : BitVec 8) (w : World) :
    Calls Try.prog 51 #[.slice p 0 cap, .int .i64 (m : Int), vE x] w fun e w' => ∃ v, e = .returned (.tuple #[v, .int .i64 0]) ∧ GxE w.heap.size w' v 0 m (fun _ _ => oE) ∧ Below w.heap.size w w' := by
  go_enter Try.func51, Try.ntmps51
  go_wp2_with (first
    | (go_at_call 63; refine (sizeFault_ok m hm _).mono ?_; rintro e w' ⟨rfl, h⟩; obtain rfl := h.symm)
    | (go_at_call 63; refine (sizeFault_0 _).mono ?_; rintro e w' ⟨rfl, h⟩; obtain rfl := h.symm)
    | (go_at_call 64; refine (blank0E m (by omega) _).mono ?_; rintro e w1 ⟨B, rfl, hG, hB, hb⟩))
  refine wp_loop_rounds 1 ?_
  rw [rounds_succ]
  go_wp2
  go_ret2
  exact ⟨_, rfl, ⟨B, _, rfl, hG, hB, fun i hi => by omega⟩, hb⟩
end
theorem powersE_any {w : World} {v : Value} {n : Nat} {f : Nat → BitVec 8} (h : NrE w v n f) (cols : Int) (x : BitVec 8) :
    Calls Try.prog 51 #[v, .int .i64 cols, vE x] w fun e w' => ∃ v', e = .returned (.tuple #[v', .int .i64 (pc cols n)]) ∧ NmE w' v' (pn cols n) (fun _ => cols.toNat) (fun i j => pwk tiE (f i) x j) ∧ Below w.heap.size w w' := by
  obtain ⟨p, cap, rfl, h⟩ := h
  by_cases h1 : cols < 0
  · have e1 : pc cols n = 2 := by unfold pc; rw [if_pos h1]
    have e2 : pn cols n = 0 := by unfold pn; rw [e1, if_neg (by decide)]
    rw [e1, e2]
    exact (powersE_err1 cols 2 p n cap x (sizeFault_neg cols h1) (by decide) w).mono fun e w' ⟨he, hb⟩ => ⟨_, he, NmE.nil _ _ _, hb⟩
  · by_cases h2 : 255 < cols
    · have e1 : pc cols n = 3 := by unfold pc; rw [if_neg h1, if_pos h2]
      have e2 : pn cols n = 0 := by unfold pn; rw [e1, if_neg (by decide)]
      rw [e1, e2]
      exact (powersE_err1 cols 3 p n cap x (sizeFault_big cols h2) (by decide) w).mono fun e w' ⟨he, hb⟩ => ⟨_, he, NmE.nil _ _ _, hb⟩
    · obtain ⟨m, rfl⟩ : ∃ m : Nat, cols = m := ⟨cols.toNat, by omega⟩
      by_cases h3 : 255 < n
      · have e1 : pc (m : Int) n = 3 := by unfold pc; rw [if_neg h1, if_neg h2, if_pos h3]
        have e2 : pn (m : Int) n = 0 := by unfold pn; rw [e1, if_neg (by decide)]
        rw [e1, e2]
        exact (powersE_err2 m (by omega) p n cap x h3 w).mono fun e w' ⟨he, hb⟩ => ⟨_, he, NmE.nil _ _ _, hb⟩
      · have e1 : pc (m : Int) n = 0 := by unfold pc; rw [if_neg h1, if_neg h2, if_neg h3]
        have e2 : pn (m : Int) n = n := by unfold pn; rw [e1, if_pos rfl]
        rw [e1, e2, Int.toNat_natCast]
        by_cases h0 : n = 0
        · subst h0
          exact (powersE_nil m (by omega) p cap x w).mono fun e w' ⟨v', he, hG, hb⟩ => ⟨v', he, ⟨hG.nm.choose, hG.nm.choose_spec.1, fun i hi => by omega⟩, hb⟩
        · rcases h with h | ⟨b, o, rfl, hc⟩
          · omega
          · exact (powersE_core b o n cap m f x w (by omega) (by omega) hc).mono fun e w' ⟨v', he, hG, hb⟩ => ⟨v', he, hG.nm, hb⟩
section
attribute [local irreducible] Calls
end
section
attribute [local irreducible] Calls
end
end Go.Proofs.Ytmjobnabnkiakaa
