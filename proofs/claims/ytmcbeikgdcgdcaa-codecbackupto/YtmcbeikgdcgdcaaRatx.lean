/-
  The reader's face: 'Texts'.
-/
import Derived.Test.YtmcbeikgdcgdcaaRf
import Derived.Test.YtmcbeikgdcgdcaaRptexts
namespace Go.Proofs.Ytmcbeikgdcgdcaa
open Go.RowKit
section
attribute [local irreducible] Calls el
set_option maxHeartbeats 1000000 in
set_option maxRecDepth 1000000 in
theorem mtx_any {w : World} {r : Nat} {bs : List (BitVec 8)} {f : Int} (h : Rdr w r bs f) (hl : bs.length ≤ 1099511627000) (n k : Int) (hn : n ≤ 9223372036854775807) (hk : k ≤ 9223372036854775807) :
    Calls Try.prog 78 #[.pointer (some ⟨r, 0, none⟩), .int .i64 n, .int .i64 k] w fun e w' => Says w r (fun ts W v => Ot W w.heap.size v ts : List (List (BitVec 8)) → World → Value → Prop) (res ([]) f bs (ge0 n (ge0 k (tx n.toNat k.toNat bs)))) e w' := by
  have al : ∀ (W : World) (o : Obj), Below W.heap.size W (W.alloc o) := fun W o => (Below.refl _ _).alloc (Nat.le_refl _) o
  have hlt := h.lt
  have hb0 : Below w.heap.size w ((w.alloc (.cells #[.int .i64 n] 3)).alloc (.cells #[.int .i64 k] 3)) := bt (al _ _) (al _ _)
  have h0 := h.below hb0
  by_cases hf : f = 0
  · subst hf
    have C := (show Hid _ from reading_texts (.pointer (some ⟨w.heap.size, 0, none⟩)) (.pointer (some ⟨w.heap.size + 1, 0, none⟩)) (w := ((w.alloc (.cells #[.int .i64 n] 3)).alloc (.cells #[.int .i64 k] 3))) (R := ge0 n (ge0 k (tx n.toNat k.toNat bs))) (f := (fun ts W v => Ot W w.heap.size v ts : List (List (BitVec 8)) → World → Value → Prop)) h0 (by
      intro W g hW hg hb
      obtain ⟨q1, q2, q3, q4⟩ := two_new w (.cells #[.int .i64 n] 3) (.cells #[.int .i64 k] 3) _ rfl
      exact (texts1_any hW n k hn hk (cell_below (cell_of_row _ w.heap.size 0 _ _ (0, 0) q2) hb) (cell_below (cell_of_row _ (w.heap.size + 1) 0 _ _ (0, 0) q3) hb) hl).mono fun e w' ht => ht.mono fun a W2 v ho => ho.mono (Nat.le_trans q1.size hb.size)) (by
      intro a W W' v hv hg _; exact os_kept hv hlt hg))
    go_enter Try.func78, Try.ntmps78
    go_wp2_with (go_at_call 108; refine C.out.mono ?_; intro e w1 hF; obtain ⟨hS1, hS2, v1, rfl, hS3⟩ := hF.says ([]) (fun _ => Ot.nil _ _) hb0)
    go_ret
    first | exact ⟨hS1, hS2, _, rfl, hS3⟩ | exact ⟨hS1, hS2, _, rfl, rfl⟩
  · have C := (show Hid _ from reading_texts_fault (.pointer (some ⟨w.heap.size, 0, none⟩)) (.pointer (some ⟨w.heap.size + 1, 0, none⟩)) (w := ((w.alloc (.cells #[.int .i64 n] 3)).alloc (.cells #[.int .i64 k] 3))) h0 hf)
    go_enter Try.func78, Try.ntmps78
    go_wp2_with (go_at_call 108; refine C.out.mono ?_; rintro e w1 ⟨rfl, hb1⟩)
    go_ret
    exact says_fault h0 hf ([]) (ge0 n (ge0 k (tx n.toNat k.toNat bs))) ((fun _ => Ot.nil _ _) _) hb0 hb1
set_option maxRecDepth 1000000 in
theorem mtx_nil (w : World) (n : Int) (k : Int) :
    Calls Try.prog 78 #[.pointer none, .int .i64 n, .int .i64 k] w fun e w' => e = .returned (.slice none 0 0) ∧ Below w.heap.size w w' := by
  have al : ∀ (W : World) (o : Obj), Below W.heap.size W (W.alloc o) := fun W o => (Below.refl _ _).alloc (Nat.le_refl _) o
  have hb0 : Below w.heap.size w ((w.alloc (.cells #[.int .i64 n] 3)).alloc (.cells #[.int .i64 k] 3)) := bt (al _ _) (al _ _)
  have C := (show Hid _ from reading_texts_nil (.pointer (some ⟨w.heap.size, 0, none⟩)) (.pointer (some ⟨w.heap.size + 1, 0, none⟩)) ((w.alloc (.cells #[.int .i64 n] 3)).alloc (.cells #[.int .i64 k] 3)))
  go_enter Try.func78, Try.ntmps78
  go_wp2_with (go_at_call 108; refine C.out.mono ?_; rintro e w1 ⟨rfl, hb1⟩)
  go_ret
  exact ⟨rfl, bt hb0 hb1⟩
end
end Go.Proofs.Ytmcbeikgdcgdcaa
