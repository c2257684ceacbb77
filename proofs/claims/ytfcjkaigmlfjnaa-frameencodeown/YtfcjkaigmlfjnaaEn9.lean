/-
  Package frame: 'Encode', all its ways.
-/
import Derived.Test.YtfcjkaigmlfjnaaEn8
namespace Go.Proofs.Ytfcjkaigmlfjnaa
open Go.RowKit
section
attribute [local irreducible] Calls el Hd.cs Hd.sh cmo rg sm
set_option maxHeartbeats 4000000 in
set_option maxRecDepth 1000000 in
theorem encode_len (h : Hd) (ok : h.Ok) (hi : h.In) {w : World} {p : Option Addr} {bl : List (List (BitVec 8))} (HB : Rws w p bl) (n c : Nat) (hn : bl.length = n) (hm : ¬ bl.map List.length = h.ls) :
    Calls Try.prog 6 #[.agg (h.sh (.slice p n c))] w fun e w' => e = .returned (.tuple #[.slice none 0 0, .int .i64 81]) ∧ Below w.heap.size w w' := by
  have al : ∀ (W : World) (o : Obj), Below W.heap.size W (W.alloc o) := fun W o => (Below.refl _ _).alloc (Nat.le_refl _) o
  have hc0 := (chk_ok h).2 ok
  have hsh : shp h.k h.m h.b := by obtain ⟨⟩ := ok; unfold shp; omega
  have BL := (show Hid _ from fun w => blens_int h.k h.m h.b h.sz hsh ((szE_ok _ _ _).2 ⟨ok.s1, ok.s2, ok.s3⟩) w)
  have LE := (show Hid _ from fun w => length_any h hi (by have := ok.y2; omega) w)
  rw [if_pos hc0, hc0] at LE
  unfold shC at BL
  have H1 := shIn_new w h (.slice p n c)
  have v1 := shV_new w h (.slice p n c)
  have hbw := al w (.cells (h.sh (.slice p n c)) 31)
  obtain ⟨q8, q9, q10, q11, q12, q13, q14, q15⟩ := H1.cells
  have hls : bls h.k.toNat (h.k * h.b).toNat h.sz.toNat h.sz.toNat = h.ls := rfl
  rw [hls] at BL
  clear hls hsh hc0
  go_enter Try.func6, Try.ntmps6
  go_wp2_with (first
    | (refine wpList_loadIn rfl _ rfl w.heap.size rfl H1 ?_)
    | (go_at_call 16; refine (LE.out _).mono ?_; rintro e w1 ⟨rfl, hb⟩; clear q8 q9 q10 q11 q12 q13 q14 q15; replace H1 := H1.below hb; replace v1 := cell_below v1 hb; replace hbw := bt hbw hb; obtain ⟨q8, q9, q10, q11, q12, q13, q14, q15⟩ := H1.cells))
  have hbd := (show Hid _ from hbw.drew)
  have H2 : Hid (HdIn w1.drew w.heap.size h) := HdIn.below H1 ((Below.refl w1.heap.size w1).drew)
  have V2 := (show Hid _ from cell_below v1 ((Below.refl w1.heap.size w1).drew))
  obtain ⟨r8, r9, r10, r11, r12, r13, r14, r15⟩ := HdIn.cells H2.out
  have KS := (show Hid (_ ∧ _ ∧ _ ∧ _ ∧ _) from ⟨V2.out, r8, r9, r10, r12⟩)
  clear r8 r9 r10 r11 r12 r13 r14 r15
  have hlL : h.ls.length ≤ 1099511627776 := Nat.le_trans (h.ls_bd ok) (by decide)
  go_region_held3 (fun X => X.cell? ⟨w.heap.size, 16, none⟩ = some (.slice p n c) ∧ X.cell? ⟨w.heap.size, 8, none⟩ = some (.int .i64 h.k) ∧ X.cell? ⟨w.heap.size, 9, none⟩ = some (.int .i64 h.m) ∧ X.cell? ⟨w.heap.size, 10, none⟩ = some (.int .i64 h.b) ∧ X.cell? ⟨w.heap.size, 12, none⟩ = some (.int .i64 h.sz)) (first | exact KJ.out | exact KH.out | exact KS.out | go_keep)
    (first
    | (go_at_call 18; refine (BL.out _).mono ?_; rintro e w2 ⟨vl, rfl, hO, hb2⟩; obtain ⟨pl, cl, rfl, hcl, hV⟩ := hO.rd; have KH := (show Hid (_ ∧ _ ∧ _ ∧ _ ∧ _) from ⟨cell_below KS.out.1 hb2, cell_below KS.out.2.1 hb2, cell_below KS.out.2.2.1 hb2, cell_below KS.out.2.2.2.1 hb2, cell_below KS.out.2.2.2.2 hb2⟩))
    | (go_at_call 17; refine (haveLengths_any (HB.below (bt hbd.out hb2)) hV n h.ls.length c cl hn rfl hlL).mono ?_; rintro e w3 ⟨rfl, hb3⟩; rw [decide_eq_false hm]; have KJ := (show Hid (_ ∧ _ ∧ _ ∧ _ ∧ _) from ⟨cell_below KH.out.1 hb3, cell_below KH.out.2.1 hb3, cell_below KH.out.2.2.1 hb3, cell_below KH.out.2.2.2.1 hb3, cell_below KH.out.2.2.2.2 hb3⟩)))
  go_wp2
  go_ret2
  exact ⟨rfl, bt (bt hbd.out hb2) hb3⟩
set_option maxHeartbeats 4000000 in
set_option maxRecDepth 1000000 in
theorem encode_no (h : Hd) (hi : h.In) (hy : h.key.length ≤ 9223372036854775807) (hc : chk h ≠ 0) (w : World) (v : Value) :
    Calls Try.prog 6 #[.agg (h.sh v)] w fun e w' => e = .returned (.tuple #[.slice none 0 0, .int .i64 (chk h)]) ∧ Below w.heap.size w w' := by
  have al : ∀ (W : World) (o : Obj), Below W.heap.size W (W.alloc o) := fun W o => (Below.refl _ _).alloc (Nat.le_refl _) o
  have LE := (show Hid _ from fun w => length_any h hi hy w)
  rw [if_neg hc] at LE
  have H1 := shIn_new w h v
  have hbw := al w (.cells (h.sh v) 31)
  generalize chk h = z at hc LE ⊢
  go_enter Try.func6, Try.ntmps6
  go_wp2_with (first
    | (refine wpList_loadIn rfl _ rfl w.heap.size rfl H1 ?_)
    | (go_at_call 16; refine (LE.out _).mono ?_; rintro e w1 ⟨rfl, hb⟩))
  go_ret2
  exact ⟨rfl, bt hbw hb⟩
theorem encode_any (h : Hd) (hi : h.In) (hy : h.key.length ≤ 9223372036854775807) {w : World} {p : Option Addr} {bl : List (List (BitVec 8))} (HB : Rws w p bl) (n c : Nat) (hn : bl.length = n) :
    Calls Try.prog 6 #[.agg (h.sh (.slice p n c))] w fun e w' => ∃ v, e = .returned (.tuple #[v, .int .i64 (enE h bl)]) ∧ Ow w' w.heap.size v (enL h bl) ∧ Below w.heap.size w w' := by
  unfold enL enE
  by_cases hc : chk h = 0
  · have ok := (chk_ok h).1 hc
    rw [if_neg (not_not_intro hc)]
    by_cases hm : bl.map List.length = h.ls
    · rw [if_pos hm, if_pos rfl]
      exact encode_ok h ok hi HB n c hn hm
    · rw [if_neg hm, if_neg (by decide)]
      refine (encode_len h ok hi HB n c hn hm).mono ?_
      rintro e w' ⟨rfl, hb⟩
      exact ⟨_, rfl, Ow.nil _ _, hb⟩
  · rw [if_pos hc, if_neg hc]
    refine (encode_no h hi hy hc w _).mono ?_
    rintro e w' ⟨rfl, hb⟩
    exact ⟨_, rfl, Ow.nil _ _, hb⟩
end
end Go.Proofs.Ytfcjkaigmlfjnaa
