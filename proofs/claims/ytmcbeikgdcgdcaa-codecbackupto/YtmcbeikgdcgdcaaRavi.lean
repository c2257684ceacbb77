/-
  The reader's face: 'Varint'.
-/
import Derived.Test.YtmcbeikgdcgdcaaRf
import Derived.Test.YtmcbeikgdcgdcaaRpfolded
import Derived.Test.YtmcbeikgdcgdcaaRn
namespace Go.Proofs.Ytmcbeikgdcgdcaa
open Go.RowKit
section
attribute [local irreducible] Calls el
set_option maxHeartbeats 1000000 in
set_option maxRecDepth 1000000 in
theorem mvi_any {w : World} {r : Nat} {bs : List (BitVec 8)} {f : Int} (h : Rdr w r bs f) (_hl : bs.length ≤ 1099511627000)  :
    Calls Try.prog 75 #[.pointer (some ⟨r, 0, none⟩)] w fun e w' => Says w r (fun n _ v => v = .int .i64 n : Int → World → Value → Prop) (res (0) f bs (zv bs)) e w' := by
  have al : ∀ (W : World) (o : Obj), Below W.heap.size W (W.alloc o) := fun W o => (Below.refl _ _).alloc (Nat.le_refl _) o
  have hlt := h.lt
  have hb0 : Below w.heap.size w w := Below.refl _ _
  have h0 := h.below hb0
  by_cases hf : f = 0
  · subst hf
    have C := (show Hid _ from reading_folded  (w := w) (R := zv bs) (f := (fun n _ v => v = .int .i64 n : Int → World → Value → Prop)) h0 (by
      intro W g hW _ _
      exact folded_any hW) (by
      intro a W W' v hv _ _; exact hv))
    go_enter Try.func75, Try.ntmps75
    go_wp2_with (go_at_call 100; refine C.out.mono ?_; intro e w1 hF; obtain ⟨hS1, hS2, v1, rfl, hS3⟩ := hF.says (0) (fun _ => rfl) hb0)
    go_ret
    first | exact ⟨hS1, hS2, _, rfl, hS3⟩ | exact ⟨hS1, hS2, _, rfl, rfl⟩
  · have C := (show Hid _ from reading_folded_fault  (w := w) h0 hf)
    go_enter Try.func75, Try.ntmps75
    go_wp2_with (go_at_call 100; refine C.out.mono ?_; rintro e w1 ⟨rfl, hb1⟩)
    go_ret
    exact says_fault h0 hf (0) (zv bs) ((fun _ => rfl) _) hb0 hb1
set_option maxRecDepth 1000000 in
theorem mvi_nil (w : World)  :
    Calls Try.prog 75 #[.pointer none] w fun e w' => e = .returned (.int .i64 0) ∧ Below w.heap.size w w' := by
  have al : ∀ (W : World) (o : Obj), Below W.heap.size W (W.alloc o) := fun W o => (Below.refl _ _).alloc (Nat.le_refl _) o
  have hb0 : Below w.heap.size w w := Below.refl _ _
  have C := (show Hid _ from reading_folded_nil  w)
  go_enter Try.func75, Try.ntmps75
  go_wp2_with (go_at_call 100; refine C.out.mono ?_; rintro e w1 ⟨rfl, hb1⟩)
  go_ret
  exact ⟨rfl, bt hb0 hb1⟩
end
end Go.Proofs.Ytmcbeikgdcgdcaa
