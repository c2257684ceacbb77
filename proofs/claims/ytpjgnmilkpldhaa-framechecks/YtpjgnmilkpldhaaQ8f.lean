/-
  The document's Length.
-/
import Derived.Test.YtpjgnmilkpldhaaQ8e
import Derived.Test.YtpjgnmilkpldhaaSi8
namespace Go.Proofs.Ytpjgnmilkpldhaa
open Go.RowKit
section
attribute [local irreducible] Calls el Hd.cs
set_option maxHeartbeats 1000000 in
set_option maxRecDepth 1000000 in
theorem rlength_any (h : Hd) (hi : h.In) (hy : h.key.length ≤ 9223372036854775807) (w : World) :
    Calls Try.prog 11 #[.agg h.cs] w fun e w' => e = .returned (.tuple #[.int .i64 (if chk h = 0 then (h.len : Int) else 0), .int .i64 (chk h)]) ∧ Below w.heap.size w w' := by
  have al : ∀ (W : World) (o : Obj), Below W.heap.size W (W.alloc o) := fun W o => (Below.refl _ _).alloc (Nat.le_refl _) o
  have hl : (bstr h.key).size = h.key.length := by show (us h.key).toArray.size = _; simp [us]
  have CK := (show Hid _ from fun w => rcheck_any h hi hy w)
  have SZ := (show Hid _ from fun w => rsizes_any h.k h.m h.b h.sz hi.k hi.m hi.sz w)
  unfold shC at SZ
  have HA := HdAt.new w h
  by_cases h1 : chk h = 0
  · rw [if_pos h1, h1]
    rw [h1] at CK
    have ok := (chk_ok h).1 h1
    obtain ⟨l1, l2⟩ := Hd.ls_eq h ok
    rw [l1, l2] at SZ
    have hlen : h.len = 40 + h.key.length + tot h.ls := rfl
    have htot : tot h.ls ≤ 1048576 * (16711680 + 255 + 4) := by
      have hsh : shp h.k h.m h.b := by obtain ⟨⟩ := ok; unfold shp; omega
      have kb := kb_bd hsh
      have s2 := ok.s2
      have k2 := ok.k2
      exact Nat.le_trans (tot_bls _ _ _ _) (Nat.mul_le_mul (by omega) (by omega))
    have hy2 := ok.y2
    generalize h.ls = L at SZ hlen htot l2
    clear l1 l2 ok
    have hls : L.length ≤ tot L := by
      clear hlen htot SZ
      induction L with
      | nil => simp
      | cons n ns ih => simp only [List.length_cons, tot]; omega
    go_enter Try.func11, Try.ntmps11
    go_wp2_with (first | (refine wpList_loadHd rfl _ rfl w.heap.size rfl (by first | exact H1 | exact HA) ?_) | (go_at_call 9; refine (CK.out _).mono ?_; rintro e w1 ⟨rfl, hb1⟩; have H1 := HA.below hb1; obtain ⟨q8, q9, q10, q11, q12, q13, q14, q15⟩ := H1.cells) | (go_at_call 10; refine (SZ.out _).mono ?_; rintro e w4 ⟨v, rfl, hO, hb4⟩; obtain ⟨p, cap, rfl, hcap, hV⟩ := hO.rd; obtain ⟨z8, z9, z10, z11, z12, z13, z14, z15⟩ := (H1.below hb4).cells))
    have hbA := bt (bt (al w (.cells h.cs 28)) hb1) hb4
    go_loopw [7, 8] (fun o i wr => ∃ t : Nat, t ≤ L.length ∧ i = .int .i64 (t : Int) ∧ o = .int .i64 ((40 + h.key.length + tot (L.take t) : Nat) : Int) ∧ Below w4.heap.size w4 wr) (fun _ i _ => L.length - (intOf i).toNat)
    case atStart => exact ⟨0, Nat.zero_le _, rfl, by simp [tot], Below.refl _ _⟩
    case round =>
      obtain ⟨t, ht, rfl, rfl, hb⟩ := hrel
      have htk := tot_take L t
      by_cases hlt : t < L.length
      · obtain ⟨gb, go, rfl, hc⟩ := hV.num t hlt
        have hc' := cell_below hc hb
        have hsc := tot_snoc L t hlt
        have htk1 := tot_take L (t + 1)
        have hi : (t : Int) < (L.length : Int) := by omega
        generalize L.getD t 0 = d at hc hc' hsc
        go_wp2
        go_roundw
        case rel => exact ⟨t + 1, hlt, by go_num, by rw [hsc]; go_num, hb⟩
        case measure => simp [intOf]; omega
      · obtain rfl : t = L.length := by omega
        rw [List.take_length]
        go_wp2
        go_ret2
        exact ⟨by rw [hlen]; rfl, bt hbA hb⟩
  · rw [if_neg h1]
    go_enter Try.func11, Try.ntmps11
    generalize chk h = z at h1 CK ⊢
    go_wp2_with (first | (refine wpList_loadHd rfl _ rfl w.heap.size rfl HA ?_) | (go_at_call 9; refine (CK.out _).mono ?_; rintro e w1 ⟨rfl, hb1⟩))
    go_ret2
    exact ⟨rfl, bt (al _ _) hb1⟩
end
end Go.Proofs.Ytpjgnmilkpldhaa
