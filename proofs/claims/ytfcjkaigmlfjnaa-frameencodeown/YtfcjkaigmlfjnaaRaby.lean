/-
  The reader's face: 'Bytes'.
-/
import Derived.Test.YtfcjkaigmlfjnaaRf
import Derived.Test.YtfcjkaigmlfjnaaRpbytes
namespace Go.Proofs.Ytfcjkaigmlfjnaa
open Go.RowKit
section
attribute [local irreducible] Calls el
set_option maxHeartbeats 1000000 in
set_option maxRecDepth 1000000 in
theorem mby_any {w : World} {r : Nat} {bs : List (BitVec 8)} {f : Int} (h : Rdr w r bs f) (hl : bs.length ≤ 1099511627000) (n : Int) :
    Calls Try.prog 48 #[.pointer (some ⟨r, 0, none⟩), .int .i64 n] w fun e w' => Says w r (fun xs W v => Ow W w.heap.size v xs : List (BitVec 8) → World → Value → Prop) (res ([]) f bs (ge0 n (tk n.toNat bs))) e w' := by
  have al : ∀ (W : World) (o : Obj), Below W.heap.size W (W.alloc o) := fun W o => (Below.refl _ _).alloc (Nat.le_refl _) o
  have hlt := h.lt
  have hb0 : Below w.heap.size w (w.alloc (.cells #[.int .i64 n] 3)) := al _ _
  have h0 := h.below hb0
  by_cases hf : f = 0
  · subst hf
    have C := (show Hid _ from reading_bytes (.pointer (some ⟨w.heap.size, 0, none⟩)) (w := (w.alloc (.cells #[.int .i64 n] 3))) (R := ge0 n (tk n.toNat bs)) (f := (fun xs W v => Ow W w.heap.size v xs : List (BitVec 8) → World → Value → Prop)) h0 (by
      intro W g hW hg hb
      rw [alloc_size] at hg
      have hs := (al w (.cells #[.int .i64 n] 3)).size
      exact (bytes1_any hW n (cell_below (cell_of_row _ w.heap.size 0 _ _ (0, 0) (heap_alloc_new w _)) hb) (by omega)).mono fun e w' ht => ht.mono fun a W2 v ho => ho.mono (Nat.le_trans hs hb.size)) (by
      intro a W W' v hv hg _; exact ow_kept hv hlt hg))
    go_enter Try.func48, Try.ntmps48
    go_wp2_with (go_at_call 54; refine C.out.mono ?_; intro e w1 hF; obtain ⟨hS1, hS2, v1, rfl, hS3⟩ := hF.says ([]) (fun _ => Ow.nil _ _) hb0)
    go_ret
    first | exact ⟨hS1, hS2, _, rfl, hS3⟩ | exact ⟨hS1, hS2, _, rfl, rfl⟩
  · have C := (show Hid _ from reading_bytes_fault (.pointer (some ⟨w.heap.size, 0, none⟩)) (w := (w.alloc (.cells #[.int .i64 n] 3))) h0 hf)
    go_enter Try.func48, Try.ntmps48
    go_wp2_with (go_at_call 54; refine C.out.mono ?_; rintro e w1 ⟨rfl, hb1⟩)
    go_ret
    exact says_fault h0 hf ([]) (ge0 n (tk n.toNat bs)) ((fun _ => Ow.nil _ _) _) hb0 hb1
set_option maxRecDepth 1000000 in
theorem mby_nil (w : World) (n : Int) :
    Calls Try.prog 48 #[.pointer none, .int .i64 n] w fun e w' => e = .returned (.slice none 0 0) ∧ Below w.heap.size w w' := by
  have al : ∀ (W : World) (o : Obj), Below W.heap.size W (W.alloc o) := fun W o => (Below.refl _ _).alloc (Nat.le_refl _) o
  have hb0 : Below w.heap.size w (w.alloc (.cells #[.int .i64 n] 3)) := al _ _
  have C := (show Hid _ from reading_bytes_nil (.pointer (some ⟨w.heap.size, 0, none⟩)) (w.alloc (.cells #[.int .i64 n] 3)))
  go_enter Try.func48, Try.ntmps48
  go_wp2_with (go_at_call 54; refine C.out.mono ?_; rintro e w1 ⟨rfl, hb1⟩)
  go_ret
  exact ⟨rfl, bt hb0 hb1⟩
end
end Go.Proofs.Ytfcjkaigmlfjnaa
