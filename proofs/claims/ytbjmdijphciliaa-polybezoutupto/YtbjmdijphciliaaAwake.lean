/-
  'awake'.
-/
import Derived.Test.YtbjmdijphciliaaLawB
namespace Go.Proofs.Ytbjmdijphciliaa
open Go.RowKit

theorem lit2 (w : World) (a b : BitVec 8) : Sl (w.alloc (.cells #[.int .u8 (el a), .int .u8 (el b)] 48)) (.slice (some ⟨w.heap.size, 0, none⟩) 2 2) [a, b] := lit_sl 48 w _ 2 [a, b] rfl rfl (by omega)
theorem lit3 (w : World) (a b c : BitVec 8) : Sl (w.alloc (.cells #[.int .u8 (el a), .int .u8 (el b), .int .u8 (el c)] 48)) (.slice (some ⟨w.heap.size, 0, none⟩) 3 3) [a, b, c] := lit_sl 48 w _ 3 [a, b, c] rfl rfl (by omega)
theorem lp (w : World) : Sl (w.alloc (.cells #[.int .u8 2, .int .u8 1] 48)) (.slice (some ⟨w.heap.size, 0, none⟩) 2 2) [2#8, 1#8] := lit2 w 2#8 1#8
theorem lq (w : World) : Sl (w.alloc (.cells #[.int .u8 3, .int .u8 1] 48)) (.slice (some ⟨w.heap.size, 0, none⟩) 2 2) [3#8, 1#8] := lit2 w 3#8 1#8
theorem lx0 (w : World) : Sl (w.alloc (.cells #[.int .u8 0, .int .u8 1, .int .u8 2] 48)) (.slice (some ⟨w.heap.size, 0, none⟩) 3 3) [0#8, 1#8, 2#8] := lit3 w 0#8 1#8 2#8
theorem ly0 (w : World) : Sl (w.alloc (.cells #[.int .u8 6, .int .u8 6, .int .u8 0] 48)) (.slice (some ⟨w.heap.size, 0, none⟩) 3 3) [6#8, 6#8, 0#8] := lit3 w 6#8 6#8 0#8
theorem lm (w : World) : Sl (w.alloc (.cells #[.int .u8 6, .int .u8 1, .int .u8 1] 48)) (.slice (some ⟨w.heap.size, 0, none⟩) 3 3) [6#8, 1#8, 1#8] := lit3 w 6#8 1#8 1#8
theorem lr (w : World) : Sl (w.alloc (.cells #[.int .u8 2, .int .u8 3] 48)) (.slice (some ⟨w.heap.size, 0, none⟩) 2 2) [2#8, 3#8] := lit2 w 2#8 3#8
theorem ba (w : World) (o : Obj) : Below w.heap.size w (w.alloc o) := (Below.refl _ _).alloc (Nat.le_refl _) _
section
attribute [local irreducible] Calls el gm co Rs Sl Sr ev rts vs nb trim mul
set_option maxHeartbeats 4000000 in
set_option maxRecDepth 1000000 in
theorem awake_any (w : World) : Calls Try.prog 12 #[] w fun e w' => e = .returned (.bool true) ∧ Below w.heap.size w w' := by
  have e1 := aw_mul
  have n2 : Hid ([2#8, 1#8].length ≤ 281474976710656) := by show _ ≤ _; simp
  have n3 : Hid ([3#8, 1#8].length ≤ 281474976710656) := by show _ ≤ _; simp
  have n4 : Hid ([6#8, 1#8, 1#8].length ≤ 281474976710656) := by show _ ≤ _; simp
  have n5 : Hid ([0#8, 1#8, 2#8].length + 4 ≤ 281474976710656) := by show _ ≤ _; simp
  have n6 : Hid ((trim [2#8, 1#8]).length + (trim [3#8, 1#8]).length ≤ 281474976710656) := by show _ ≤ _; have := trim_len [2#8, 1#8]; have := trim_len [3#8, 1#8]; simp at *; omega
  have n7 : Hid ([2#8, 3#8].length ≤ 281474976710656) := by show _ ≤ _; simp
  have P0 := lp w
  have Q0 := lq (w.alloc (.cells #[.int .u8 2, .int .u8 1] 48))
  rw [World.size_alloc] at Q0
  have P1 := P0.below (ba _ (.cells #[.int .u8 3, .int .u8 1] 48))
  have HT := (show Hid _ from ptimes_any P1 Q0 n6.out n2.out n3.out)
  rw [e1] at HT
  have b0 := bt (ba w (.cells #[.int .u8 2, .int .u8 1] 48)) (ba _ (.cells #[.int .u8 3, .int .u8 1] 48))
  go_enter Try.func12, Try.ntmps12
  go_wp2_with (first
    | (go_at_call 17; refine HT.out.mono ?_; rintro e w1 ⟨m, rfl, hM, hb1⟩; have P2 := P1.below hb1; have Q2 := Q0.below hb1; have c1 := bt b0 hb1)
    | (go_at_call 19; refine (pdivide_any hM.sl Q2 n4.out n3.out aw_tr).mono ?_; rintro e w2 ⟨s, r, a1, a2, rfl, hD, hS, hR, _, hb2⟩; obtain ⟨es, er⟩ := hD.unique aw_div; subst es; subst er; have P3 := P2.below hb2; have hM2 := hM.below hb2; have c2 := bt c1 hb2; obtain ⟨p2, c22, rfl⟩ := hR.sr.empty; have X0 := (lx0 w2).below (ba _ (.cells #[.int .u8 6, .int .u8 6, .int .u8 0] 48)); have Y0 := ly0 (w2.alloc (.cells #[.int .u8 0, .int .u8 1, .int .u8 2] 48)); rw [World.size_alloc] at Y0; have b2 := bt (ba w2 (.cells #[.int .u8 0, .int .u8 1, .int .u8 2] 48)) (ba _ (.cells #[.int .u8 6, .int .u8 6, .int .u8 0] 48)))
    | (go_at_call 25; refine (pthrough_any X0.sr Y0.sr rfl n5.out aw_nd).mono ?_; rintro e w3 ⟨tv, t, rfl, hT, hTr, hb3⟩; have et := IsThr.unique hT.out aw_thr aw_nd; subst et; have b3 := bt b2 hb3; have P4 := P3.below b3; have hM3 := hM2.below b3; have hS3 := hS.below b3; have c3 := bt c2 b3)
    | (go_at_call 26; refine (proots_any hM3.sl n4.out).mono ?_; rw [aw_roots]; rintro e w4 ⟨l, rfl, hL, hb4⟩; have P5 := P4.below hb4; have hM4 := hM3.below hb4; have hS4 := hS3.below hb4; have hT4 := hTr.below hb4; have c4 := bt c3 hb4)
    | (go_at_call 15; refine (equal_any (hM4.below (ba _ _)).sr (lm w4).sr n4.out).mono ?_; rintro e w5 ⟨rfl, hb5⟩; have b5 := bt (ba w4 _) hb5; have P6 := P5.below b5; have hS5 := hS4.below b5; have hT5 := hT4.below b5; have hM5 := hM4.below b5; have hL5 := hL.below b5; have c5 := bt c4 b5; clear hM4)
    | (go_at_call 9; refine (num_any 0 _).mono ?_; rintro e w' ⟨rfl, e⟩; obtain rfl := e.symm)
    | (go_at_call 15; refine (equal_any hS5.sr P6.sr n2.out).mono ?_; rintro e w6 ⟨rfl, hb6⟩; have hT6 := hT5.below hb6; have hM6 := hM5.below hb6; have hL6 := hL5.below hb6; have c6 := bt c5 hb6; clear hS5)
    | (go_at_call 15; refine (equal_any hT6.sr hM6.sr n4.out).mono ?_; rintro e w7 ⟨rfl, hb7⟩; have hL7 := hL6.below hb7; have c7 := bt c6 hb7; clear hT6)
    | (go_at_call 15; refine (equal_any (hL7.below (ba _ _)).sr (lr w7).sr n7.out).mono ?_; rintro e w8 ⟨rfl, hb8⟩; have c8 := bt c7 (bt (ba w7 _) hb8)))
  go_ret
  exact ⟨rfl, c8⟩
end
end Go.Proofs.Ytbjmdijphciliaa
