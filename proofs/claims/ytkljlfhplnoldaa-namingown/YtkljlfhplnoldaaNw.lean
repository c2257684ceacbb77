/-
  known.
-/
import Derived.Test.YtkljlfhplnoldaaNl
namespace Go.Proofs.Ytkljlfhplnoldaa
open Go.RowKit Go.Maps Go.Sort
theorem rs_new (w : World) (ns : List Tx) : Rs (w.alloc (.cells (ns.map encStr).toArray 9)) (some ⟨w.heap.size, 0, none⟩) ns := by
  refine .inr ⟨_, 0, rfl, fun i hi => ?_⟩
  rw [Nat.zero_add, cell_of_row _ _ i _ _ (0, 0) (heap_alloc_new w _)]
  simp [hi]
/-- The chapter's names. -/
def kns : List Tx := [[111, 54, 50], [108], [111, 54, 49], [111, 54, 50, 54, 49], [111, 54, 50], [120]]
theorem kn_isU : IsU kns [] [[97], [98], [98, 97]] := by
  refine ⟨by unfold Ris; decide, fun x => ?_⟩
  have e1 : ky [111, 54, 50] = some [98] := by decide
  have e2 : ky [108] = none := by decide
  have e3 : ky [111, 54, 49] = some [97] := by decide
  have e4 : ky [111, 54, 50, 54, 49] = some [98, 97] := by decide
  have e5 : ky [120] = none := by decide
  simp only [Unds, kns, List.mem_cons, List.not_mem_nil, or_false, List.nil_prefix, and_true]
  constructor
  · rintro (rfl | rfl | rfl)
    · exact ⟨_, .inr (.inr (.inl rfl)), e3⟩
    · exact ⟨_, .inl rfl, e1⟩
    · exact ⟨_, .inr (.inr (.inr (.inl rfl))), e4⟩
  · rintro ⟨n, (rfl | rfl | rfl | rfl | rfl | rfl), h⟩
    · rw [e1] at h; exact .inr (.inl (Option.some.inj h).symm)
    · rw [e2] at h; cases h
    · rw [e3] at h; exact .inl (Option.some.inj h).symm
    · rw [e4] at h; exact .inr (.inr (Option.some.inj h).symm)
    · rw [e1] at h; exact .inr (.inl (Option.some.inj h).symm)
    · rw [e5] at h; cases h
theorem Ot.rs {w : World} {base : Nat} {p : Option Addr} {n c : Nat} {ts : List Tx} (h : Ot w base (.slice p n c) ts) : Rs w p ts ∧ n = ts.length := by
  rcases h.2 with ⟨hv, h0⟩ | ⟨g, cap, cur, hv, hg, hb, h1, h2, h3, h4⟩
  · injection hv with e1 e2 e3
    cases ts with
    | nil => exact ⟨.inl rfl, e2⟩
    | cons a t => simp at h0
  · injection hv with e1 e2 e3
    subst e1
    refine ⟨.inr ⟨g, 0, rfl, fun i hi => ?_⟩, e2⟩
    rw [Nat.zero_add, cell_of_row w g i _ _ _ hb]
    have : (ts.map encStr)[i]? = some (encStr (ts.getD i [])) := by simp [hi]
    rw [← this, ← h4]
    simp [hi]
theorem knd1 : knd [111, 54, 49] = 1 := by decide
theorem knd2 : knd [116] = 2 := by decide
theorem knd3 : knd [108] = 3 := by decide
section
attribute [local irreducible] Calls
set_option maxHeartbeats 4000000 in
set_option maxRecDepth 1000000 in
theorem known_any (w : World) : Calls Try.prog 8 #[] w fun e w' => e = .returned (.bool true) ∧ Below w.heap.size w w' := by
  go_enter Try.func8, Try.ntmps8
  go_wp2_with (first
    | (go_at_call 13; refine (object_ok [65, 32, 98] (by unfold fitK; decide) _).mono ?_; rintro e w1 ⟨rfl, hb1⟩; simp only [show nm [65, 32, 98] = [111, 52, 49, 50, 48, 54, 50] by decide])
    | (go_at_call 14; refine (key_any [111, 48, 48, 102, 102] _).mono ?_; rintro e w2 ⟨rfl, hb2⟩; simp only [show ky [111, 48, 48, 102, 102] = some [0, 255] by decide, kres])
    | (go_at_call 4; refine (under_any (rs_new w2 kns) rfl (by decide) []).mono ?_; rintro e w3 ⟨g, cap, l, rfl, hU, hO, hb3⟩; obtain rfl := hU.eq kn_isU)
    | (go_at_call 15; refine (kind_any [111, 54, 49] _).mono ?_; rintro e w4 ⟨rfl, hb4⟩; rw [knd1])
    | (go_at_call 15; refine (kind_any [116] _).mono ?_; rintro e w5 ⟨rfl, hb5⟩; rw [knd2])
    | (go_at_call 15; refine (kind_any [108] _).mono ?_; rintro e w6 ⟨rfl, hb6⟩; rw [knd3])
    | (go_at_call 5; refine (like_any (((((hO.rs.1.below hb4).below hb5).below hb6)).below ((Below.refl _ _).alloc (Nat.le_refl _) _)) (rs_new w6 [[97], [98], [98, 97]]) rfl rfl (by decide)).mono ?_; rintro e w7 ⟨rfl, hb7⟩; rw [decide_eq_true rfl]))
  go_ret
  refine ⟨rfl, ?_⟩
  have a1 := below_trans hb1 hb2 hb1.size
  have s2 := Nat.le_trans hb1.size hb2.size
  have a2 := below_trans (a1.alloc s2 _) hb3 (by simp; omega)
  have s3 : w.heap.size ≤ w3.heap.size := by have := hb3.size; simp at this; omega
  have a3 := below_trans a2 hb4 s3
  have s4 := Nat.le_trans s3 hb4.size
  have a4 := below_trans a3 hb5 s4
  have s5 := Nat.le_trans s4 hb5.size
  have a5 := below_trans a4 hb6 s5
  have s6 := Nat.le_trans s5 hb6.size
  exact below_trans (a5.alloc s6 _) hb7 (by simp; omega)
end
end Go.Proofs.Ytkljlfhplnoldaa
