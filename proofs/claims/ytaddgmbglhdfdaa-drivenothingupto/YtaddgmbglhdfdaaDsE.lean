/-
  left, safeBody of a drive; Loose, Wipe.
-/
import Derived.Test.YtaddgmbglhdfdaaDsD
import Derived.Deep.RegionHeld3
namespace Go.Proofs.Ytaddgmbglhdfdaa
open Go.RowKit Go.Maps Go.Sort
/-- What a loss of power leaves of a body. -/
def lft (x : Bd) (cut : Int) : Tx := x.data.take (x.safe + min (max cut 0).toNat (x.data.length - x.safe))
theorem tv_take {w : World} {v : Value} {d : Tx} {p : Option Addr} {n c : Nat} (h : Tv w v d) (hv : v = .slice p n c) (k : Nat) (hk : k ≤ d.length) : Tv w (.slice p k c) (d.take k) := by
  subst hv
  have hl : (d.take k).length = k := by rw [List.length_take]; omega
  rcases h with ⟨e, rfl⟩ | ⟨g, c', e, hc⟩
  · injection e with e1 e2 e3
    subst e1 e3
    have : k = 0 := by simpa using hk
    subst this
    exact .inl ⟨rfl, rfl⟩
  · injection e with e1 e2 e3
    subst e1 e3
    refine .inr ⟨g, c, by rw [hl], fun i hi => ?_⟩
    rw [hl] at hi
    rw [show (d.take k).getD i 0 = d.getD i 0 by simp [List.getD, hi]]
    exact hc i (by omega)
section
attribute [local irreducible] Calls
set_option maxHeartbeats 2000000 in
set_option maxRecDepth 1000000 in
theorem left_any {w : World} {F : Nat → Prop} {b : Nat} {x : Bd} {v : Value} (h : BdAt w F b x v) (hs : x.safe ≤ x.data.length) (hm : x.data.length ≤ 140737488355328) (cut : Int) : Calls Try.prog 56 #[.pointer (some ⟨b, 0, none⟩), .int .i64 cut] w fun e w' => ∃ p n c, e = .returned (.slice p n c) ∧ Ob w' w.heap.size (.slice p n c) (lft x cut) ∧ Below w.heap.size w w' := by
  obtain ⟨c0, c1⟩ := h.cells
  obtain ⟨p, c, hnc, hv⟩ : ∃ p c, x.data.length ≤ c ∧ v = .slice p x.data.length c := by
    rcases h.row.2 with ⟨hv, h1⟩ | ⟨g, cap, cur, hv, _, _, h2, _⟩
    · exact ⟨none, 0, by omega, by rw [hv, h1]⟩
    · exact ⟨_, _, h2, hv⟩
  have htv := h.row.tv
  rw [hv] at c0
  obtain ⟨n, hn⟩ : ∃ n, n = x.data.length := ⟨_, rfl⟩
  obtain ⟨sf, hsf⟩ : ∃ s, s = x.safe := ⟨_, rfl⟩
  obtain ⟨k, hk⟩ : ∃ k, k = x.safe + min (max cut 0).toNat (x.data.length - x.safe) := ⟨_, rfl⟩
  have hkn : k ≤ x.data.length := by omega
  have htk := (show Hid (Tv w (.slice p k c) (x.data.take k)) from tv_take htv hv k hkn)
  have hkl : (x.data.take k).length ≤ 140737488355328 := by rw [List.length_take]; omega
  have CL := (show Hid (∀ z, Calls Try.prog 67 #[.slice p k c] (w.drewN z) _) from fun z => cloneTv (w := w.drewN z) (Tv.below htk.out ⟨rfl, rfl, rfl, Nat.le_refl _, fun _ _ => rfl⟩) hkl)
  have e2 : lft x cut = x.data.take k := by unfold lft; rw [hk]
  rw [e2]
  have w1 : wrap64 ((n : Int) - (sf : Int)) = (n : Int) - (sf : Int) := by unfold wrap64; omega
  have w2 : wrap64 ((sf : Int) + min (max cut 0) ((n : Int) - (sf : Int))) = (k : Int) := by unfold wrap64; omega
  have hkc : k ≤ c := by omega
  rw [← hn] at c0
  rw [← hsf] at c1
  have H1 := (show Hid _ from w1)
  have H2 := (show Hid _ from w2)
  have H3 := (show Hid (IntKind.i64.wrap ((sf : Int) + min (max cut 0) ((n : Int) - (sf : Int))) = (k : Int)) from (show _ = _ by rw [IntKind.wrap_i64]; omega))
  clear h htv hv hs hm hnc hn hsf hk hkn hkl e2 w2
  go_enter Try.func56, Try.ntmps56
  go_wp2
  go_quiet (fail)
  go_wp2
  have w2 := H2.out
  have w3 := H3.out
  have k0 : (0 : Int) ≤ (k : Int) := by omega
  have k1 : (k : Int) ≤ (c : Int) := by omega
  have KS := (show Hid ((w.drewN nq).drew.cell? ⟨b, 0, none⟩ = some (.slice p n c) ∧ (w.drewN nq).drew.cell? ⟨b, 1, none⟩ = some (.int .i64 (sf : Int))) from ⟨c0, c1⟩)
  clear c0 c1
  go_region_held3 (fun X => X.cell? ⟨b, 0, none⟩ = some (.slice p n c) ∧ X.cell? ⟨b, 1, none⟩ = some (.int .i64 (sf : Int))) (first | exact KS.out | exact KT.out)
    (first
      | (go_at_call 67; refine (CL.out (nq + 1)).mono ?_; rintro e w5 ⟨p5, n5, c5, rfl, h5, hb5⟩; have KT := (show Hid (_ ∧ _) from ⟨cell_below KS.out.1 hb5, cell_below KS.out.2 hb5⟩)))
  go_wp2
  go_ret
  exact ⟨p5, n5, c5, rfl, h5, ⟨hb5.os, hb5.tape, hb5.output, hb5.size, hb5.block⟩⟩
set_option maxRecDepth 1000000 in
theorem safeBody_any (p : Option Addr) (n c : Nat) (w : World) : Calls Try.prog 57 #[.slice p n c] w fun e w' => e = .returned (.pointer (some ⟨w.heap.size, 0, none⟩)) ∧ w' = w.alloc (.cells #[.slice p n c, .int .i64 (n : Int)] 100) := by
  go_enter Try.func57, Try.ntmps57
  go_wp2
  go_ret
  exact ⟨rfl, rfl⟩
end
end Go.Proofs.Ytaddgmbglhdfdaa
