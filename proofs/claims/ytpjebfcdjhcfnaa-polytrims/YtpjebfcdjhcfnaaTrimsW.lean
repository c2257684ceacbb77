/-
  PolyTrims: the walk.
-/
import Derived.Test.YtpjebfcdjhcfnaaPolyA
import Derived.Test.YtpjebfcdjhcfnaaRefA
import Derived.Test.YtpjebfcdjhcfnaaLawA
namespace Go.Proofs.Ytpjebfcdjhcfnaa
open Go.RowKit
section
attribute [local irreducible] Calls el gm trim co vs Rs Sl Lent Rd ev
set_option maxHeartbeats 2000000 in
set_option maxRecDepth 1000000 in
theorem polyTrims_walk {w : World} {p : Option Addr} {xs : List (BitVec 8)} (h : Rd w p xs) (n c : Nat) (hl : Hid (xs.length = n)) (hn : n ≤ 140737488351232) (x : BitVec 8) :
    Calls Try.prog 3 #[.slice p n c, .int .u8 (el x)] w fun e w' => e = .returned (.bool true) ∧ Below w.heap.size w w' := by
  have hb0 := Below.refl w.heap.size w
  have L : Hid (xs.length ≤ 281474976710656) := by show _ ≤ _; rw [hl.out]; omega
  have L2 : Hid ((trim xs).length ≤ 281474976710656) := by show _ ≤ _; have := trim_len xs; have := L.out; omega
  go_enter Try.func3, Try.ntmps3
  go_wp2_with (first
    | (go_at_call 9; refine (refTrim_any h n c hl.out (by omega)).mono ?_; rintro e w1 ⟨a, rfl, hA, hb1⟩; have h1 := h.below hb1)
    | (go_at_call 10; refine (refDegree_any h1 n c hl.out (by omega)).mono ?_; rintro e w2 ⟨rfl, hb2⟩; have h2 := h1.below hb2; have hA2 := hA.below hb2)
    | (go_at_call 11; refine (refAt_any h2 n c hl.out (by omega) x).mono ?_; rintro e w' ⟨rfl, e⟩; obtain rfl := e.symm)
    | (go_at_call 12; refine (lent_any h2 n c hl.out hn).mono ?_; rintro e w3 ⟨i, rfl, hI, hb3⟩; have h3 := h2.below hb3; have hA3 := hA2.below hb3)
    | (go_at_call 13; refine (ptrim_any hI.sl L.out).mono ?_; rintro e w4 ⟨t, rfl, hT, hb4⟩; have h4 := h3.below hb4; have hA4 := hA3.below hb4; have hI4 := hI.below hb4)
    | (go_at_call 14; refine (same_any hT.sr hA4.sr L2.out).mono ?_; rintro e w5 ⟨rfl, hb5⟩; have h5 := h4.below hb5; have hI5 := hI4.below hb5)
    | (go_at_call 15; refine (pdegree_any hI5.sl L.out).mono ?_; rintro e w' ⟨rfl, e⟩; obtain rfl := e.symm)
    | (go_at_call 16; refine (pat_any hI5.sl L.out x).mono ?_; rintro e w6 ⟨rfl, hb6⟩; have h6 := h5.below hb6; have hI6 := hI5.below hb6)
    | (go_at_call 17; refine (kept_any hI6 h6 n c hl.out hn).mono ?_; rintro e w7 ⟨rfl, hb7⟩))
  go_ret
  exact ⟨rfl, bt (bt (bt (bt (bt (bt hb1 hb2) hb3) hb4) hb5) hb6) hb7⟩
end
end Go.Proofs.Ytpjebfcdjhcfnaa
