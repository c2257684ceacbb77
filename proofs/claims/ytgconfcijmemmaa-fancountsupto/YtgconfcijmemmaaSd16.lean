/-
  Of kind string: same, Count, countOneMore, times.
-/
import Derived.Test.YtgconfcijmemmaaFc16
import Derived.Test.YtgconfcijmemmaaFd16
import Derived.Defers
import Derived.Recover
import Derived.WalkKit
import Derived.Below
import Derived.OwnWalk
import Derived.BigQuiet
namespace Go.Proofs.Ytgconfcijmemmaa
open Go.RowKit
/-- A slice reads so. -/
def SrAt (w : World) (a : Option Addr) (xs : List (Option UInt8)) : Prop := xs = [] ∨ ∃ b o, a = some ⟨b, o, none⟩ ∧ ∀ i, i < xs.length → w.cell? ⟨b, o + i, none⟩ = some (svl (xs.getD i none))
theorem SrAt.below {w w' : World} {a : Option Addr} {xs : List (Option UInt8)} (h : SrAt w a xs) (hb : Below w.heap.size w w') : SrAt w' a xs := by
  rcases h with h | ⟨b, off, ha, hc⟩
  · exact .inl h
  · exact .inr ⟨b, off, ha, fun i hi => cell_belowF (hc i hi) hb⟩
section
attribute [local irreducible] Calls
set_option maxRecDepth 1000000 in
theorem sidle_one (w : World) : CallsD Try.prog 26 #[] .returning w fun e u' w' => e = .returned (.tuple #[]) ∧ u' = .returning ∧ w' = w := by
  refine callsD_of_wpS Try.func26 rfl fun c₀ cs hu => ?_
  apply wpS_region
  cases c₀
  simp_all [wpOpsS, go_sem, recoverD, Try.ntmps26, bodyPostS, results, Try.results26]
set_option maxRecDepth 1000000 in
theorem sone_any (x : Option UInt8) {w : World} {b : Nat} {L : List (Option UInt8)} (h : CmAt svl seq w b L) (hL : L.length ≤ 140737488355328) : Calls Try.prog 18 #[.map (some b), svl x] w fun e w' => e = .returned (.int .i64 ((x :: L).countP (seq x) : Int)) ∧ CmAt svl seq w' b (x :: L) ∧ w.grownBy w' (some b) := by
  have h1 := h.look skind Try.underlying44 x
  obtain ⟨w1, h2, h3, h4⟩ := h.more skind Try.underlying44 x
  have h5 := h3.look skind Try.underlying44 x
  have hc : List.countP (seq x) L ≤ 140737488355328 := Nat.le_trans List.countP_le_length hL
  obtain ⟨c, hcc⟩ : ∃ c, List.countP (seq x) L = c := ⟨_, rfl⟩
  obtain ⟨c', hcc'⟩ : ∃ c', List.countP (seq x) (x :: L) = c' := ⟨_, rfl⟩
  rw [hcc] at h1 h2 hc
  rw [hcc'] at h5
  rw [hcc']
  rw [show ((c + 1 : Nat) : Int) = (c : Int) + 1 from rfl] at h2
  have HX := (show Hid (_ ∧ _) from ⟨h3, h4⟩)
  clear h h3 h4 hcc hcc'
  go_enter_defers Try.func18, Try.ntmps18
  go_wp2
  refine leaves_cons (f := 26) (args := #[]) (by simp) (by simp [go_sem]) ?_
  refine (sidle_one _).mono ?_
  rintro e u' w'' ⟨rfl, rfl, rfl⟩
  simp [Leaves, settle, results, Try.results18, go_sem]
  exact HX.out
end
end Go.Proofs.Ytgconfcijmemmaa
