/-
  The reader's face: 'Uvarint'.
-/
import Derived.Test.YtmcbeikgdcgdcaaRf
import Derived.Test.YtmcbeikgdcgdcaaRpshort
namespace Go.Proofs.Ytmcbeikgdcgdcaa
open Go.RowKit
section
attribute [local irreducible] Calls el
set_option maxHeartbeats 1000000 in
set_option maxRecDepth 1000000 in
theorem muv_any {w : World} {r : Nat} {bs : List (BitVec 8)} {f : Int} (h : Rdr w r bs f) (_hl : bs.length ≤ 1099511627000)  :
    Calls Try.prog 74 #[.pointer (some ⟨r, 0, none⟩)] w fun e w' => Says w r (fun n _ v => v = .int .u64 (n : Int) : Nat → World → Value → Prop) (res (0) f bs (uv bs)) e w' := by
  have al : ∀ (W : World) (o : Obj), Below W.heap.size W (W.alloc o) := fun W o => (Below.refl _ _).alloc (Nat.le_refl _) o
  have hlt := h.lt
  have hb0 : Below w.heap.size w w := Below.refl _ _
  have h0 := h.below hb0
  by_cases hf : f = 0
  · subst hf
    have C := (show Hid _ from reading_short  (w := w) (R := uv bs) (f := (fun n _ v => v = .int .u64 (n : Int) : Nat → World → Value → Prop)) h0 (by
      intro W g hW _ _
      exact short_any hW) (by
      intro a W W' v hv _ _; exact hv))
    go_enter Try.func74, Try.ntmps74
    go_wp2_with (go_at_call 95; refine C.out.mono ?_; intro e w1 hF; obtain ⟨hS1, hS2, v1, rfl, hS3⟩ := hF.says (0) (fun _ => rfl) hb0)
    go_ret
    first | exact ⟨hS1, hS2, _, rfl, hS3⟩ | exact ⟨hS1, hS2, _, rfl, rfl⟩
  · have C := (show Hid _ from reading_short_fault  (w := w) h0 hf)
    go_enter Try.func74, Try.ntmps74
    go_wp2_with (go_at_call 95; refine C.out.mono ?_; rintro e w1 ⟨rfl, hb1⟩)
    go_ret
    exact says_fault h0 hf (0) (uv bs) ((fun _ => rfl) _) hb0 hb1
set_option maxRecDepth 1000000 in
theorem muv_nil (w : World)  :
    Calls Try.prog 74 #[.pointer none] w fun e w' => e = .returned (.int .u64 0) ∧ Below w.heap.size w w' := by
  have al : ∀ (W : World) (o : Obj), Below W.heap.size W (W.alloc o) := fun W o => (Below.refl _ _).alloc (Nat.le_refl _) o
  have hb0 : Below w.heap.size w w := Below.refl _ _
  have C := (show Hid _ from reading_short_nil  w)
  go_enter Try.func74, Try.ntmps74
  go_wp2_with (go_at_call 95; refine C.out.mono ?_; rintro e w1 ⟨rfl, hb1⟩)
  go_ret
  exact ⟨rfl, bt hb0 hb1⟩
end
end Go.Proofs.Ytmcbeikgdcgdcaa
