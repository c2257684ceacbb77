/-
  The reader's face: 'Take' of each kind.
-/
import Derived.Test.YtjobaeopokfekaaGreatRf
import Derived.Test.YtjobaeopokfekaaGreatRpnum8
import Derived.Test.YtjobaeopokfekaaGreatRn
import Derived.Test.YtjobaeopokfekaaGreatRpnum16
import Derived.Test.YtjobaeopokfekaaGreatRpnum32
import Derived.Test.YtjobaeopokfekaaGreatRpnum64
import Derived.Test.YtjobaeopokfekaaGreatRpnumt
namespace Go.Proofs.YtjobaeopokfekaaGreat
open Go.RowKit
section
attribute [local irreducible] Calls el
set_option maxHeartbeats 1000000 in
set_option maxRecDepth 1000000 in
theorem mtk8_any {w : World} {r : Nat} {bs : List (BitVec 8)} {f : Int} (h : Rdr w r bs f) (_hl : bs.length ≤ 1099511627000)  :
    Calls Tryz.prog 77 #[.pointer (some ⟨r, 0, none⟩)] w fun e w' => Says w r (fun n _ v => v = .int .u8 (n : Int) : Nat → World → Value → Prop) (res (0) f bs (fx 1 bs)) e w' := by
  have al : ∀ (W : World) (o : Obj), Below W.heap.size W (W.alloc o) := fun W o => (Below.refl _ _).alloc (Nat.le_refl _) o
  have hlt := h.lt
  have hb0 : Below w.heap.size w w := Below.refl _ _
  have h0 := h.below hb0
  by_cases hf : f = 0
  · subst hf
    have C := (show Hid _ from reading_num8  (w := w) (R := fx 1 bs) (f := (fun n _ v => v = .int .u8 (n : Int) : Nat → World → Value → Prop)) h0 (by
      intro W g hW _ _
      exact num8_any hW) (by
      intro a W W' v hv _ _; exact hv))
    go_enter Tryz.func77, Tryz.ntmps77
    go_wp2_with (go_at_call 83; refine C.out.mono ?_; intro e w1 hF; obtain ⟨hS1, hS2, v1, rfl, hS3⟩ := hF.says (0) (fun _ => rfl) hb0)
    go_ret
    first | exact ⟨hS1, hS2, _, rfl, hS3⟩ | exact ⟨hS1, hS2, _, rfl, rfl⟩
  · have C := (show Hid _ from reading_num8_fault  (w := w) h0 hf)
    go_enter Tryz.func77, Tryz.ntmps77
    go_wp2_with (go_at_call 83; refine C.out.mono ?_; rintro e w1 ⟨rfl, hb1⟩)
    go_ret
    exact says_fault h0 hf (0) (fx 1 bs) ((fun _ => rfl) _) hb0 hb1
set_option maxRecDepth 1000000 in
theorem mtk8_nil (w : World)  :
    Calls Tryz.prog 77 #[.pointer none] w fun e w' => e = .returned (.int .u8 0) ∧ Below w.heap.size w w' := by
  have al : ∀ (W : World) (o : Obj), Below W.heap.size W (W.alloc o) := fun W o => (Below.refl _ _).alloc (Nat.le_refl _) o
  have hb0 : Below w.heap.size w w := Below.refl _ _
  have C := (show Hid _ from reading_num8_nil  w)
  go_enter Tryz.func77, Tryz.ntmps77
  go_wp2_with (go_at_call 83; refine C.out.mono ?_; rintro e w1 ⟨rfl, hb1⟩)
  go_ret
  exact ⟨rfl, bt hb0 hb1⟩
end
section
attribute [local irreducible] Calls el
end
section
attribute [local irreducible] Calls el
set_option maxHeartbeats 1000000 in
set_option maxRecDepth 1000000 in
theorem mtk32_any {w : World} {r : Nat} {bs : List (BitVec 8)} {f : Int} (h : Rdr w r bs f) (_hl : bs.length ≤ 1099511627000)  :
    Calls Tryz.prog 78 #[.pointer (some ⟨r, 0, none⟩)] w fun e w' => Says w r (fun n _ v => v = .int .u32 (n : Int) : Nat → World → Value → Prop) (res (0) f bs (fx 4 bs)) e w' := by
  have al : ∀ (W : World) (o : Obj), Below W.heap.size W (W.alloc o) := fun W o => (Below.refl _ _).alloc (Nat.le_refl _) o
  have hlt := h.lt
  have hb0 : Below w.heap.size w w := Below.refl _ _
  have h0 := h.below hb0
  by_cases hf : f = 0
  · subst hf
    have C := (show Hid _ from reading_num32  (w := w) (R := fx 4 bs) (f := (fun n _ v => v = .int .u32 (n : Int) : Nat → World → Value → Prop)) h0 (by
      intro W g hW _ _
      exact num32_any hW) (by
      intro a W W' v hv _ _; exact hv))
    go_enter Tryz.func78, Tryz.ntmps78
    go_wp2_with (go_at_call 85; refine C.out.mono ?_; intro e w1 hF; obtain ⟨hS1, hS2, v1, rfl, hS3⟩ := hF.says (0) (fun _ => rfl) hb0)
    go_ret
    first | exact ⟨hS1, hS2, _, rfl, hS3⟩ | exact ⟨hS1, hS2, _, rfl, rfl⟩
  · have C := (show Hid _ from reading_num32_fault  (w := w) h0 hf)
    go_enter Tryz.func78, Tryz.ntmps78
    go_wp2_with (go_at_call 85; refine C.out.mono ?_; rintro e w1 ⟨rfl, hb1⟩)
    go_ret
    exact says_fault h0 hf (0) (fx 4 bs) ((fun _ => rfl) _) hb0 hb1
set_option maxRecDepth 1000000 in
theorem mtk32_nil (w : World)  :
    Calls Tryz.prog 78 #[.pointer none] w fun e w' => e = .returned (.int .u32 0) ∧ Below w.heap.size w w' := by
  have al : ∀ (W : World) (o : Obj), Below W.heap.size W (W.alloc o) := fun W o => (Below.refl _ _).alloc (Nat.le_refl _) o
  have hb0 : Below w.heap.size w w := Below.refl _ _
  have C := (show Hid _ from reading_num32_nil  w)
  go_enter Tryz.func78, Tryz.ntmps78
  go_wp2_with (go_at_call 85; refine C.out.mono ?_; rintro e w1 ⟨rfl, hb1⟩)
  go_ret
  exact ⟨rfl, bt hb0 hb1⟩
end
section
attribute [local irreducible] Calls el
set_option maxHeartbeats 1000000 in
set_option maxRecDepth 1000000 in
theorem mtk64_any {w : World} {r : Nat} {bs : List (BitVec 8)} {f : Int} (h : Rdr w r bs f) (_hl : bs.length ≤ 1099511627000)  :
    Calls Tryz.prog 79 #[.pointer (some ⟨r, 0, none⟩)] w fun e w' => Says w r (fun n _ v => v = .int .u64 (n : Int) : Nat → World → Value → Prop) (res (0) f bs (fx 8 bs)) e w' := by
  have al : ∀ (W : World) (o : Obj), Below W.heap.size W (W.alloc o) := fun W o => (Below.refl _ _).alloc (Nat.le_refl _) o
  have hlt := h.lt
  have hb0 : Below w.heap.size w w := Below.refl _ _
  have h0 := h.below hb0
  by_cases hf : f = 0
  · subst hf
    have C := (show Hid _ from reading_num64  (w := w) (R := fx 8 bs) (f := (fun n _ v => v = .int .u64 (n : Int) : Nat → World → Value → Prop)) h0 (by
      intro W g hW _ _
      exact num64_any hW) (by
      intro a W W' v hv _ _; exact hv))
    go_enter Tryz.func79, Tryz.ntmps79
    go_wp2_with (go_at_call 87; refine C.out.mono ?_; intro e w1 hF; obtain ⟨hS1, hS2, v1, rfl, hS3⟩ := hF.says (0) (fun _ => rfl) hb0)
    go_ret
    first | exact ⟨hS1, hS2, _, rfl, hS3⟩ | exact ⟨hS1, hS2, _, rfl, rfl⟩
  · have C := (show Hid _ from reading_num64_fault  (w := w) h0 hf)
    go_enter Tryz.func79, Tryz.ntmps79
    go_wp2_with (go_at_call 87; refine C.out.mono ?_; rintro e w1 ⟨rfl, hb1⟩)
    go_ret
    exact says_fault h0 hf (0) (fx 8 bs) ((fun _ => rfl) _) hb0 hb1
set_option maxRecDepth 1000000 in
theorem mtk64_nil (w : World)  :
    Calls Tryz.prog 79 #[.pointer none] w fun e w' => e = .returned (.int .u64 0) ∧ Below w.heap.size w w' := by
  have al : ∀ (W : World) (o : Obj), Below W.heap.size W (W.alloc o) := fun W o => (Below.refl _ _).alloc (Nat.le_refl _) o
  have hb0 : Below w.heap.size w w := Below.refl _ _
  have C := (show Hid _ from reading_num64_nil  w)
  go_enter Tryz.func79, Tryz.ntmps79
  go_wp2_with (go_at_call 87; refine C.out.mono ?_; rintro e w1 ⟨rfl, hb1⟩)
  go_ret
  exact ⟨rfl, bt hb0 hb1⟩
end
section
attribute [local irreducible] Calls el
end
end Go.Proofs.YtjobaeopokfekaaGreat
