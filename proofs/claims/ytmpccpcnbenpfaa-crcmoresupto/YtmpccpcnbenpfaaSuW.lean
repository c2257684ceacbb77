/-
  CrcSums, CrcMores, CrcBlinds: their walks.
-/
import Derived.Test.YtmpccpcnbenpfaaGz
namespace Go.Proofs.Ytmpccpcnbenpfaa
open Go.RowKit Go.Great
theorem bt {u v x : World} (h : Below u.heap.size u v) (k : Below v.heap.size v x) : Below u.heap.size u x := h.trans (k.mono h.size)
/-- The four bytes of a register, the lowest first. -/
def by4 (r : BitVec 32) : List (BitVec 8) := [r.setWidth 8, (r >>> 8).setWidth 8, (r >>> 16).setWidth 8, (r >>> 24).setWidth 8]
theorem sw8_xor (x y : BitVec 32) : (x ^^^ y).setWidth 8 = x.setWidth 8 ^^^ y.setWidth 8 := by
  apply BitVec.eq_of_getLsbD_eq; intro i hi
  simp only [BitVec.getLsbD_setWidth, BitVec.getLsbD_xor]
  simp [hi]
theorem by4_xor (r s : BitVec 32) : by4 (r ^^^ s) = xl (by4 r) (by4 s) := by
  have e : ∀ k, (r ^^^ s) >>> k = r >>> k ^^^ s >>> k := fun k => Lin.shr k r s
  unfold by4 xl
  rw [e, e, e, sw8_xor, sw8_xor, sw8_xor, sw8_xor]
  rfl
theorem ov_by4 (r : BitVec 32) : ov r (by4 r) = 0#32 := by
  have hl : Lin (fun r => ov r (by4 r)) := fun a b => by
    show ov (a ^^^ b) (by4 (a ^^^ b)) = _
    rw [by4_xor, ov_xl (by4 a) (by4 b) a b rfl]
  exact lin_ext (g := fun _ => 0#32) hl (fun _ _ => by show 0#32 = 0#32 ^^^ 0#32; rfl) (by decide +kernel) r
theorem rg_sw8 (r : BitVec 32) : rg r % 256 = el (r.setWidth 8) := by
  unfold rg el; rw [BitVec.toNat_setWidth]; omega
theorem rg_sh8 (r : BitVec 32) : rg r / (256 : Int) = rg (r >>> 8) := by
  unfold rg; rw [BitVec.toNat_ushiftRight, Nat.shiftRight_eq_div_pow]; omega
theorem rg_sh16 (r : BitVec 32) : rg r / (65536 : Int) = rg (r >>> 16) := by
  unfold rg; rw [BitVec.toNat_ushiftRight, Nat.shiftRight_eq_div_pow]; omega
theorem rg_sh24 (r : BitVec 32) : rg r / (16777216 : Int) = rg (r >>> 24) := by
  unfold rg; rw [BitVec.toNat_ushiftRight, Nat.shiftRight_eq_div_pow]; omega
section
attribute [local irreducible] Calls rg ov cmo el Ow by4
theorem crcSums_walk {w : World} {a1 : Option Addr} {xs : List (BitVec 8)} (h1 : Rd w a1 xs) (n c1 : Nat) (hn : xs.length = n) (hm : n ≤ 1048576) :
    Calls Try.prog 4 #[.slice a1 n c1] w fun e w' => e = .returned (.bool true) ∧ Below w.heap.size w w' := by
  have hm2 : n ≤ 140737488355328 := by omega
  have hm3 : n ≤ 1000000000 := by omega
  go_enter Try.func4, Try.ntmps4
  go_wp2_with (first | (go_at_call 18; refine (refSum_any h1 n c1 hn hm3).mono ?_; rintro e w1 ⟨rfl, hb1⟩) | (go_at_call 19; refine (twin_any (h1.below hb1) n c1 hn hm2).mono ?_; rintro e w2 ⟨v2, rfl, ho2, hb2⟩; obtain ⟨p2, c2, rfl, _, hr2⟩ := ho2.rd) | (go_at_call 13; refine (csum_any hr2 n c2 hn hm2).mono ?_; rintro e w3 ⟨rfl, hb3⟩))
  go_ret
  exact ⟨rfl, bt (bt hb1 hb2) hb3⟩
theorem crcMores_walk (s : BitVec 32) {w : World} {a1 : Option Addr} {xs : List (BitVec 8)} (h1 : Rd w a1 xs) (n c1 : Nat) (hn : xs.length = n) (hm : n ≤ 1048576) :
    Calls Try.prog 5 #[.int .u32 (rg s), .slice a1 n c1] w fun e w' => e = .returned (.bool true) ∧ Below w.heap.size w w' := by
  have hm2 : n ≤ 140737488355328 := by omega
  have hm3 : n ≤ 1000000000 := by omega
  go_enter Try.func5, Try.ntmps5
  go_wp2_with (first | (go_at_call 20; refine (refMore_any h1 s n c1 hn hm3).mono ?_; rintro e w1 ⟨rfl, hb1⟩) | (go_at_call 19; refine (twin_any (h1.below hb1) n c1 hn hm2).mono ?_; rintro e w2 ⟨v2, rfl, ho2, hb2⟩; obtain ⟨p2, c2, rfl, _, hr2⟩ := ho2.rd) | (go_at_call 15; refine (cmore_any hr2 s n c2 hn hm2).mono ?_; rintro e w3 ⟨rfl, hb3⟩))
  go_ret
  exact ⟨rfl, bt (bt hb1 hb2) hb3⟩
set_option maxRecDepth 1000000 in
theorem crcBlinds_walk {w : World} {a1 : Option Addr} {xs : List (BitVec 8)} (h1 : Rd w a1 xs) (n c1 : Nat) (hn : xs.length = n) (hm : n ≤ 1048576) :
    Calls Try.prog 7 #[.slice a1 n c1] w fun e w' => e = .returned (.bool true) ∧ Below w.heap.size w w' := by
  have hm2 : n ≤ 140737488355328 := by omega
  have hm3 : n ≤ 1000000000 := by omega
  have q0 : rg 4294967295#32 = 4294967295 := by unfold rg; rfl
  obtain ⟨R, hR⟩ : ∃ R, R = ov 0#32 xs := ⟨_, rfl⟩
  have e1 : bits .xor .u32 (rg (cmo 4294967295#32 xs)) 4294967295 = rg R := by
    rw [← q0, rg_xor, BitVec.xor_comm, ones_xor, hR]; unfold cmo; rw [BitVec.not_not]; rfl
  have b0 := rg_sw8 R
  have b1 : rg R / (256 : Int) % (256 : Int) = el ((R >>> 8).setWidth 8) := by rw [rg_sh8, rg_sw8]
  have b2 : rg R / (65536 : Int) % (256 : Int) = el ((R >>> 16).setWidth 8) := by rw [rg_sh16, rg_sw8]
  have b3 : rg R / (16777216 : Int) % (256 : Int) = el ((R >>> 24).setWidth 8) := by rw [rg_sh24, rg_sw8]
  have B4 : Hid (ov 0#32 (xs ++ by4 R) = 0#32) := by show _ = _; rw [ov_append, ← hR]; exact ov_by4 R
  have L4 : Hid ((by4 R).length = 4) := by unfold by4; rfl
  have r4 : ∀ W : World, Rd (W.alloc (.cells #[.int .u8 (el (R.setWidth 8)), .int .u8 (el ((R >>> 8).setWidth 8)), .int .u8 (el ((R >>> 16).setWidth 8)), .int .u8 (el ((R >>> 24).setWidth 8))] 5)) (some ⟨W.heap.size, 0, none⟩) (by4 R) := fun W => by unfold by4; exact rd_newl W _ _ _
  have al : ∀ (W : World) (o : Obj), Below W.heap.size W (W.alloc o) := fun W o => (Below.refl _ _).alloc (Nat.le_refl _) o
  have hM : ∀ {W : World} {p : Option Addr} {c : Nat}, Rd W p xs → Calls Try.prog 15 #[.int .u32 4294967295, .slice p n c] W fun e w' => e = .returned (.int .u32 (rg (cmo 4294967295#32 xs))) ∧ Below W.heap.size W w' := by
    intro W p c hr
    have h := cmore_any hr 4294967295#32 n c hn hm2
    rwa [q0] at h
  clear hR q0
  go_enter Try.func7, Try.ntmps7
  go_wp2_with (first | (go_at_call 22; refine (refBlind_any h1 n c1 hn hm3).mono ?_; rintro e w1 ⟨rfl, hb1⟩) | (go_at_call 19; refine (twin_any (h1.below hb1) n c1 hn hm2).mono ?_; rintro e w2 ⟨v2, rfl, ho2, hb2⟩; obtain ⟨p2, c2, rfl, hc2, hr2⟩ := ho2.rd; have d2 := bt hb1 hb2) | (go_at_call 15; refine (hM hr2).mono ?_; rintro e w3 ⟨rfl, hb3⟩; have d3 := bt d2 hb3; clear hb3 hb2) | (go_at_call 19; refine (twin_any (h1.below d3) n c1 hn hm2).mono ?_; rintro e w4 ⟨v4, rfl, ho4, hb4⟩; have d4 := bt d3 hb4) | (at_builtin; refine wpList_app rfl (.tmp 13) (.tmp 25) rfl w3.heap.size v4 xs rfl (ho4.below (al _ _)) ⟨w4.heap.size, 0, none⟩ 4 4 (by4 R) rfl (r4 w4) L4.out (by omega) (Nat.le_trans hb4.size (by simp)) ?_; intro v5 w5 ho5 hg5 hk5; have d5 := (ho4.below (al _ _)).below_append (balloc d4 _) (balloc d4 _).size hg5 d3.size; obtain ⟨p5, c5, rfl, hc5, hr5⟩ := ho5.rd; clear hb4 hg5 hk5 ho5 ho4) | (go_at_call 19; refine (twin_any (h1.below d5) n c1 hn hm2).mono ?_; rintro e w6 ⟨v6, rfl, ho6, hb6⟩; obtain ⟨p6, c6, rfl, hc6, hr6⟩ := ho6.rd; have d6 := bt d5 hb6) | (go_at_call 16; refine (cblind_any hr6 n c6 hn hm2).mono ?_; rintro e w7 ⟨rfl, hb7⟩; have r7 := (hr5.below hb6).below hb7; have d7 := bt d6 hb7) | (go_at_call 16; refine (cblind_any r7 (n + (by4 R).length) c5 (by rw [List.length_append, hn]) (by rw [L4.out]; omega)).mono ?_; rw [B4.out]; rintro e w8 ⟨rfl, hb8⟩; have r8 := r7.below hb8; have d8 := bt d7 hb8) | (go_at_call 22; refine (refBlind_any r8 (n + (by4 R).length) c5 (by rw [List.length_append, hn]) (by rw [L4.out]; omega)).mono ?_; rw [B4.out]; rintro e w9 ⟨rfl, hb9⟩; have d9 := bt d8 hb9))
  go_ret
  exact ⟨rfl, d9⟩
end
end Go.Proofs.Ytmpccpcnbenpfaa
