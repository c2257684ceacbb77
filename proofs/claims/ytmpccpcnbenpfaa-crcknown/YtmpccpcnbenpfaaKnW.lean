/-
  CrcKnown: its walk.
-/
import Derived.Test.YtmpccpcnbenpfaaKy
import Derived.Test.YtmpccpcnbenpfaaSm
import Derived.Test.YtmpccpcnbenpfaaCz1
namespace Go.Proofs.Ytmpccpcnbenpfaa
open Go.RowKit Go.Great
def l12 : List (BitVec 8) := [49, 50]
theorem rd_l12 (W : World) : Rd (W.alloc (.cells #[.int .u8 49, .int .u8 50] 5 (2, 3))) (some ⟨W.heap.size, 0, none⟩) l12 := rd_newl W l12 _ _
theorem len_l12 : l12.length = 2 := rfl
def l39 : List (BitVec 8) := [51, 52, 53, 54, 55, 56, 57]
theorem rd_l39 (W : World) : Rd (W.alloc (.cells #[.int .u8 51, .int .u8 52, .int .u8 53, .int .u8 54, .int .u8 55, .int .u8 56, .int .u8 57] 5 (7, 8))) (some ⟨W.heap.size, 0, none⟩) l39 := rd_newl W l39 _ _
theorem len_l39 : l39.length = 7 := rfl
def l14 : List (BitVec 8) := [49, 50, 51, 52]
theorem rd_l14 (W : World) : Rd (W.alloc (.cells #[.int .u8 49, .int .u8 50, .int .u8 51, .int .u8 52] 5 (4, 5))) (some ⟨W.heap.size, 0, none⟩) l14 := rd_newl W l14 _ _
theorem len_l14 : l14.length = 4 := rfl
def l59 : List (BitVec 8) := [53, 54, 55, 56, 57]
theorem rd_l59 (W : World) : Rd (W.alloc (.cells #[.int .u8 53, .int .u8 54, .int .u8 55, .int .u8 56, .int .u8 57] 5 (5, 6))) (some ⟨W.heap.size, 0, none⟩) l59 := rd_newl W l59 _ _
theorem len_l59 : l59.length = 5 := rfl
def z3 : List (BitVec 8) := [0, 0, 0]
theorem rd_z3 (W : World) : Rd (W.alloc (.cells #[.int .u8 0, .int .u8 0, .int .u8 0] 5)) (some ⟨W.heap.size, 0, none⟩) z3 := rd_newl W z3 _ _
theorem len_z3 : z3.length = 3 := rfl
def b1 : List (BitVec 8) := [1]
theorem rd_b1 (W : World) : Rd (W.alloc (.cells #[.int .u8 1] 5)) (some ⟨W.heap.size, 0, none⟩) b1 := rd_newl W b1 _ _
theorem len_b1 : b1.length = 1 := rfl
def b08 : List (BitVec 8) := [0, 128]
theorem rd_b08 (W : World) : Rd (W.alloc (.cells #[.int .u8 0, .int .u8 128] 5)) (some ⟨W.heap.size, 0, none⟩) b08 := rd_newl W b08 _ _
theorem len_b08 : b08.length = 2 := rfl
def pol : List (BitVec 8) := [241, 118, 236, 5, 1]
theorem rd_pol (W : World) : Rd (W.alloc (.cells #[.int .u8 241, .int .u8 118, .int .u8 236, .int .u8 5, .int .u8 1] 5)) (some ⟨W.heap.size, 0, none⟩) pol := rd_newl W pol _ _
theorem len_pol : pol.length = 5 := rfl
theorem cm_9 : cmo (cmo 0#32 l12) l39 = 3808858755#32 := by decide +kernel
theorem cm_14 : cmo (cmo 0#32 l14) l59 = 3808858755#32 := by decide +kernel
theorem j_5 : stps (8 * Int.toNat 5) (cmo 0#32 l14) ^^^ cmo 0#32 l59 = 3808858755#32 := by decide +kernel
theorem q_9 : rg 3808858755#32 = 3808858755 := rfl
theorem join_c (a b r : BitVec 32) (n : Int) (x y z : Int) (hx : rg a = x) (hy : rg b = y) (hz : rg r = z) (h : stps (8 * n.toNat) a ^^^ b = r) (w : World) :
    Calls Try.prog 14 #[.int .u32 x, .int .u32 y, .int .i64 n] w fun e w' => e = .returned (.int .u32 z) ∧ Below w.heap.size w w' := by
  have h1 := join_any a b n w
  rwa [h, hx, hy, hz] at h1
theorem r_7 : rg 7#32 = 7 := rfl
theorem r_9 : rg 9#32 = 9 := rfl
theorem r_14 : rg 14#32 = 14 := rfl
theorem r_5 : rg 5#32 = 5 := rfl
theorem jc1 : stps (8 * Int.toNat 0) 7#32 ^^^ 9#32 = 14#32 := by decide +kernel
theorem jc2 : stps (8 * Int.toNat (-3)) 7#32 ^^^ 9#32 = 14#32 := by decide +kernel
theorem jc3 : stps (8 * Int.toNat 4611686018427387904) 0#32 ^^^ 5#32 = 5#32 := by rw [(Lin.stps _).zero, BitVec.zero_xor]
theorem more_c (s : BitVec 32) (x : Int) (hx : rg s = x) (w : World) :
    Calls Try.prog 15 #[.int .u32 x, .slice none 0 0] w fun e w' => e = .returned (.int .u32 x) ∧ Below w.heap.size w w' := by
  have h1 := cmore_any (w := w) (a1 := none) (xs := []) (.inl rfl) s 0 0 rfl (by omega)
  have e : cmo s [] = s := by unfold cmo; rw [ov_nil, BitVec.not_not]
  rwa [e, hx] at h1
theorem sum_c0 (w : World) : Calls Try.prog 13 #[.slice none 0 0] w fun e w' => e = .returned (.int .u32 0) ∧ Below w.heap.size w w' := by
  have h1 := csum_any (w := w) (a1 := none) (xs := []) (.inl rfl) 0 0 rfl (by omega)
  have e : cmo 0#32 [] = 0#32 := by decide +kernel
  rwa [e] at h1
theorem blind_c {W : World} {p : Option Addr} {xs : List (BitVec 8)} (h : Rd W p xs) (n : Nat) (hn : xs.length = n) (hm : n ≤ 100) (v : Bool) (hv : (ov 0#32 xs == 0#32) = v) (c : Nat) :
    Calls Try.prog 16 #[.slice p n c] W fun e w' => e = .returned (.bool v) ∧ Below W.heap.size W w' := by
  have h1 := cblind_any h n c hn (by omega)
  rwa [hv] at h1
theorem bl_0 : (ov 0#32 [] == 0#32) = true := by decide +kernel
theorem bl_z3 : (ov 0#32 z3 == 0#32) = true := by decide +kernel
theorem bl_b1 : (ov 0#32 b1 == 0#32) = false := by decide +kernel
theorem bl_b08 : (ov 0#32 b08 == 0#32) = false := by decide +kernel
theorem bl_pol : (ov 0#32 pol == 0#32) = true := by decide +kernel
theorem nil0 {W : World} : Rd W none [] := .inl rfl
theorem bt {u v x : World} (h : Below u.heap.size u v) (k : Below v.heap.size v x) : Below u.heap.size u x := h.trans (k.mono h.size)
section
attribute [local irreducible] Calls rg ov cmo stps Sm Rd l12 l39 l14 l59 z3 b1 b08 pol
set_option maxHeartbeats 4000000 in
set_option maxRecDepth 1000000 in
theorem known_walk (w : World) :
    Calls Try.prog 3 #[] w fun e w' => e = .returned (.bool true) ∧ Below w.heap.size w w' := by
  have kc := fun (w : World) (C : Array Value) (n c : Nat) => Lib.run_convert_bytes_const (P := Try.prog) w 29 5 C n c Try.underlying29 Try.underlying5
  have al : ∀ (W : World) (o : Obj), Below W.heap.size W (W.alloc o) := fun W o => (Below.refl _ _).alloc (Nat.le_refl _) o
  have u2 : IntKind.u64.wrap (0 + ((2 : Nat) : Int)) = 2 := by decide +kernel
  have u9 : IntKind.u64.wrap (2 + ((7 : Nat) : Int)) = 9 := by decide +kernel
  go_enter Try.func3, Try.ntmps3
  go_wp2_with (first | (refine wpList_allocSm rfl rfl (some 1) rfl ?_; intro w0 hS0 hG0; have hb0 := hG0.2) | (go_at_call 9; refine (swrite_any (hS0.below (al _ _)) (rd_l12 _) 2 2 len_l12 (by omega)).mono ?_; rintro e w1 ⟨wx, rfl, hbx, rfl⟩; rw [u2]; have hS1 := ((hS0.below (al _ _)).below hbx).wrote (c' := 2) (r' := cmo 0#32 l12); have hb1 := ((bt (bt hb0 (al _ _)) hbx).setCell (p := ⟨w.heap.size, 0 + 1, none⟩) (Nat.le_refl _) (.int .u32 (rg (cmo 0#32 l12)))).setCell (p := ⟨w.heap.size, 0, none⟩) (Nat.le_refl _) (.int .u64 2); generalize ((wx.setCell ⟨w.heap.size, 0 + 1, none⟩ (.int .u32 (rg (cmo 0#32 l12)))).setCell ⟨w.heap.size, 0, none⟩ (.int .u64 2)) = w1 at *; clear hbx) | (go_at_call 9; refine (swrite_any (hS1.below (al _ _)) (rd_l39 _) 7 7 len_l39 (by omega)).mono ?_; rintro e w2 ⟨wy, rfl, hby, rfl⟩; rw [u9, cm_9]; have hS2 := ((hS1.below (al _ _)).below hby).wrote (c' := 9) (r' := 3808858755#32); have hb2 := ((bt (bt hb1 (al _ _)) hby).setCell (p := ⟨w.heap.size, 0 + 1, none⟩) (Nat.le_refl _) (.int .u32 (rg 3808858755#32))).setCell (p := ⟨w.heap.size, 0, none⟩) (Nat.le_refl _) (.int .u64 9); generalize ((wy.setCell ⟨w.heap.size, 0 + 1, none⟩ (.int .u32 (rg 3808858755#32))).setCell ⟨w.heap.size, 0, none⟩ (.int .u64 9)) = w2 at *; clear hby) | (go_at_call 10; refine (ssum_any hS2).mono ?_; rw [q_9]; rintro e w' ⟨rfl, hw⟩; rw [hw]; clear hw) | (go_at_call 11; refine (slen_any hS2).mono ?_; rintro e w' ⟨rfl, hw⟩; rw [hw]; clear hw) | (go_at_call 12; refine (sreset_any hS2).mono ?_; rintro e w' ⟨rfl, hw⟩; rw [hw]; clear hw; have hS3 := hS2.reset (c' := 0) (r' := 0#32); rw [rg_zero] at hS3; have hb3 := (hb2.setCell (p := ⟨w.heap.size, 0, none⟩) (Nat.le_refl _) (.int .u64 0)).setCell (p := ⟨w.heap.size, 0 + 1, none⟩) (Nat.le_refl _) (.int .u32 0); generalize ((w2.setCell ⟨w.heap.size, 0, none⟩ (.int .u64 0)).setCell ⟨w.heap.size, 0 + 1, none⟩ (.int .u32 0)) = w3 at *) | (go_at_call 10; refine (ssum_any hS3).mono ?_; rw [rg_zero]; rintro e w' ⟨rfl, hw⟩; rw [hw]; clear hw) | (go_at_call 11; refine (slen_any hS3).mono ?_; rintro e w' ⟨rfl, hw⟩; rw [hw]; clear hw) | (go_at_call 13; refine (csum_any (rd_l14 _) 4 4 len_l14 (by omega)).mono ?_; rintro e w4 ⟨rfl, hc4⟩; have hb4 := bt (bt hb3 (al _ _)) hc4; clear hc4) | (go_at_call 13; refine (csum_any (rd_l59 _) 5 5 len_l59 (by omega)).mono ?_; rintro e w5 ⟨rfl, hc5⟩; have hb5 := bt (bt hb4 (al _ _)) hc5; clear hc5) | (go_at_call 14; refine (join_any (cmo 0#32 l14) (cmo 0#32 l59) 5 _).mono ?_; rw [j_5, q_9]; rintro e w6 ⟨rfl, hc6⟩; have hb6 := bt hb5 hc6; clear hc6) | (go_at_call 15; refine (cmore_any (rd_l59 _) (cmo 0#32 l14) 5 5 len_l59 (by omega)).mono ?_; rw [cm_14, q_9]; rintro e w7 ⟨rfl, hc7⟩; have hb7 := bt (bt hb6 (al _ _)) hc7; clear hc7) | (go_at_call 14; refine (join_c 7#32 9#32 14#32 0 7 9 14 r_7 r_9 r_14 jc1 _).mono ?_; rintro e w8 ⟨rfl, hc8⟩; have hb8 := bt hb7 hc8; clear hc8) | (go_at_call 14; refine (join_c 7#32 9#32 14#32 (-3) 7 9 14 r_7 r_9 r_14 jc2 _).mono ?_; rintro e w9 ⟨rfl, hc9⟩; have hb9 := bt hb8 hc9; clear hc9) | (go_at_call 14; refine (join_c 0#32 5#32 5#32 4611686018427387904 0 5 5 rg_zero r_5 r_5 jc3 _).mono ?_; rintro e w10 ⟨rfl, hc10⟩; have hb10 := bt hb9 hc10; clear hc10) | (go_at_call 13; refine (sum_c0 _).mono ?_; rintro e w11 ⟨rfl, hc11⟩; have hb11 := bt hb10 hc11; clear hc11) | (go_at_call 15; refine (more_c 0#32 0 rg_zero _).mono ?_; rintro e w12 ⟨rfl, hc12⟩; have hb12 := bt hb11 hc12; clear hc12) | (go_at_call 15; refine (more_c 5#32 5 r_5 _).mono ?_; rintro e w13 ⟨rfl, hc13⟩; have hb13 := bt hb12 hc13; clear hc13) | (go_at_call 16; refine (blind_c (p := none) (xs := []) (@nil0 _) 0 rfl (by omega) true bl_0 0).mono ?_; rintro e w14 ⟨rfl, hc14⟩; have hb14 := bt hb13 hc14; clear hc14) | (go_at_call 16; refine (blind_c (rd_z3 _) 3 len_z3 (by omega) true bl_z3 3).mono ?_; rintro e w15 ⟨rfl, hc15⟩; have hb15 := bt (bt hb14 (al _ _)) hc15; clear hc15) | (go_at_call 16; refine (blind_c (rd_b1 _) 1 len_b1 (by omega) false bl_b1 1).mono ?_; rintro e w16 ⟨rfl, hc16⟩; have hb16 := bt (bt hb15 (al _ _)) hc16; clear hc16) | (go_at_call 16; refine (blind_c (rd_b08 _) 2 len_b08 (by omega) false bl_b08 2).mono ?_; rintro e w17 ⟨rfl, hc17⟩; have hb17 := bt (bt hb16 (al _ _)) hc17; clear hc17) | (go_at_call 16; refine (blind_c (rd_pol _) 5 len_pol (by omega) true bl_pol 5).mono ?_; rintro e w18 ⟨rfl, hc18⟩; have hb18 := bt (bt hb17 (al _ _)) hc18; clear hc18) | (go_at_call 17; refine (known_any _).mono ?_; rintro e w19 ⟨rfl, hc19⟩; have hb19 := bt hb18 hc19; clear hc19))
  go_ret
  exact ⟨rfl, hb19⟩
end
end Go.Proofs.Ytmpccpcnbenpfaa
