/-
  FrameChecks: the walk.
-/
import Derived.Test.YtpjgnmilkpldhaaQ8f
namespace Go.Proofs.Ytpjgnmilkpldhaa
open Go.RowKit
section
attribute [local irreducible] Calls el Hd.cs
set_option maxHeartbeats 4000000 in
set_option maxRecDepth 1000000 in
theorem frameChecks_walk (h : Hd) (hi : h.In) (hy : h.key.length ≤ 9223372036854775807) (w : World) :
    Calls Try.prog 3 #[.agg h.cs] w fun e w' => e = .returned (.bool true) ∧ Below w.heap.size w w' := by
  have al : ∀ (W : World) (o : Obj), Below W.heap.size W (W.alloc o) := fun W o => (Below.refl _ _).alloc (Nat.le_refl _) o
  have RC := (show Hid _ from fun w => rcheck_any h hi hy w)
  have RS := (show Hid _ from fun w => rsizes_any h.k h.m h.b h.sz hi.k hi.m hi.sz w)
  have RL := (show Hid _ from fun w => rlength_any h hi hy w)
  have CK := (show Hid _ from fun w => check_any h hi hy w)
  have SZ := (show Hid _ from fun w => sizes_any h.k h.m h.b h.sz hi.m hi.sz w)
  have LE := (show Hid _ from fun w => length_any h hi hy w)
  unfold shC at RS SZ
  have HA := HdAt.new w h
  have hL : (szL h.k h.m h.b h.sz).length ≤ 1099511627776 := by
    unfold szL
    split
    · rename_i h0
      unfold szC at h0
      split at h0
      · cases h0
      · rename_i h1
        replace h1 := Classical.not_not.1 h1
        obtain ⟨z1, z2, z3⟩ := (szE_ok _ _ _).1 h0
        have kb := kb_bd h1
        rw [bls_len _ _ (by omega) _ _ (Nat.le_refl _)]
        exact Nat.le_trans (Nat.div_le_self _ _) (by omega)
    · simp
  have NU := (show Hid _ from fun z w => num_any z w)
  generalize chk h = c at RC RL CK LE
  generalize (if c = 0 then (h.len : Int) else 0) = t at RL LE
  generalize szC h.k h.m h.b h.sz = z at RS SZ
  generalize szL h.k h.m h.b h.sz = L at RS SZ hL
  obtain ⟨q8, q9, q10, q11, q12, q13, q14, q15⟩ := HA.cells
  go_enter Try.func3, Try.ntmps3
  go_wp2_with (first
    | (refine wpList_loadHd rfl _ rfl w.heap.size rfl (by first | exact H5 | exact H4 | exact H3 | exact H2 | exact H1 | exact HA) ?_)
    | (go_at_call 9; refine (RC.out _).mono ?_; rintro e w1 ⟨rfl, hb1⟩; have H1 := HA.below hb1; obtain ⟨a8, a9, a10, a11, a12, a13, a14, a15⟩ := H1.cells)
    | (go_at_call 10; refine (RS.out _).mono ?_; rintro e w2 ⟨v2, rfl, O2, hb2⟩; have H2 := H1.below hb2; obtain ⟨b8, b9, b10, b11, b12, b13, b14, b15⟩ := H2.cells; obtain ⟨p2, c2, rfl, hc2, V2⟩ := O2.rd)
    | (go_at_call 11; refine (RL.out _).mono ?_; rintro e w3 ⟨rfl, hb3⟩; have H3 := H2.below hb3; obtain ⟨c8, c9, c10, c11, c12, c13, c14, c15⟩ := H3.cells)
    | (go_at_call 12; refine (SZ.out _).mono ?_; rintro e w4 ⟨v4, rfl, O4, hb4⟩; have H4 := H3.below hb4; obtain ⟨d8, d9, d10, d11, d12, d13, d14, d15⟩ := H4.cells; obtain ⟨p4, c4, rfl, hc4, V4⟩ := O4.rd)
    | (go_at_call 13; refine (LE.out _).mono ?_; rintro e w5 ⟨rfl, hb5⟩; have H5 := H4.below hb5)
    | (go_at_call 15; refine (CK.out _).mono ?_; rintro e w6 ⟨rfl, hb6⟩)
    | (go_at_call 14; refine (NU.out _ _).mono ?_; rintro e w9 ⟨rfl, h9⟩; obtain rfl := h9.symm)
    | (go_at_call 16; refine (sameInts_any (xs := L) (ys := L) ((V4.below hb5).below hb6) ((((V2.below hb3).below hb4).below hb5).below hb6) L.length L.length c4 c2 rfl rfl hL).mono ?_; rintro e w7 ⟨rfl, hb7⟩; rw [decide_eq_true rfl]))
  go_ret
  exact ⟨rfl, bt (bt (bt (bt (bt (bt (bt (al _ _) hb1) hb2) hb3) hb4) hb5) hb6) hb7⟩
end
end Go.Proofs.Ytpjgnmilkpldhaa
