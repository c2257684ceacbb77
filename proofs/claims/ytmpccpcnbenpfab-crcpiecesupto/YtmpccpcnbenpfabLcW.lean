/-
  CrcLinear: its walk.
-/
import Derived.Test.YtmpccpcnbenpfabBo
namespace Go.Proofs.Ytmpccpcnbenpfab
open Go.RowKit Go.Great
theorem cmo_not (s : BitVec 32) (l : List (BitVec 8)) : ~~~ cmo s l = ov (~~~ s) l := by unfold cmo; rw [BitVec.not_not]
theorem nn_xor (A B : BitVec 32) : ~~~ A ^^^ ~~~ B = A ^^^ B := by
  rw [← ones_xor A, ← ones_xor B, xx4, BitVec.xor_self, BitVec.zero_xor]
theorem nnn_xor (A B C : BitVec 32) : ~~~ A ^^^ ~~~ B ^^^ ~~~ C = ~~~ (A ^^^ B ^^^ C) := by
  rw [nn_xor, ← ones_xor C, ← ones_xor (A ^^^ B ^^^ C), ← BitVec.xor_assoc, BitVec.xor_comm (A ^^^ B) 4294967295#32, BitVec.xor_assoc]
theorem cmo_xor (a b : List (BitVec 8)) (h : a.length = b.length) : cmo 0#32 a ^^^ cmo 0#32 b = ov 0#32 (xl a b) := by
  have e := ov_xl a b (~~~ 0#32) (~~~ 0#32) h
  rw [BitVec.xor_self] at e
  rw [e]; unfold cmo; rw [nn_xor]
theorem cmo_sum (a : List (BitVec 8)) : ∀ b c, a.length = b.length → a.length = c.length → cmo 0#32 (xl (xl a b) c) = cmo 0#32 a ^^^ cmo 0#32 b ^^^ cmo 0#32 c := by
  intro b c h1 h2
  have e1 := ov_xl a b (~~~ 0#32) (~~~ 0#32) h1
  have e2 := ov_xl (xl a b) c 0#32 (~~~ 0#32) (by rw [xl_len a b h1]; exact h2)
  rw [BitVec.xor_self] at e1
  rw [BitVec.zero_xor, e1] at e2
  unfold cmo
  rw [nnn_xor, e2]
theorem cmo_same (a b : List (BitVec 8)) (h : a.length = b.length) : (cmo 0#32 a == cmo 0#32 b) = (ov 0#32 (xl a b) == 0#32) := by
  rw [← cmo_xor a b h, Bool.eq_iff_iff]
  simp only [beq_iff_eq]
  exact ⟨fun e => by rw [e, BitVec.xor_self], xx_eq⟩
theorem ov_self (a : List (BitVec 8)) : (ov 0#32 (xl a a) == 0#32) = true := by rw [← cmo_same a a rfl]; simp
theorem Rd.take {w : World} {p : Option Addr} {xs : List (BitVec 8)} (h : Rd w p xs) (n : Nat) : Rd w p (xs.take n) := by
  rcases h with h | ⟨b, o, rfl, hc⟩
  · subst h; exact .inl (by simp)
  · refine .inr ⟨b, o, rfl, fun i hi => ?_⟩
    have h1 : i < xs.length := by simp at hi; omega
    have h2 : i < n := by simp at hi; omega
    rw [hc i h1]
    simp [List.getD, List.getElem?_take_of_lt h2]
section
attribute [local irreducible] Calls rg ov cmo el Ow xl
set_option maxHeartbeats 4000000 in
set_option maxRecDepth 1000000 in
theorem crcLinear_walk {w : World} {q0 q1 q2 : Option Addr} {x y z : List (BitVec 8)} (h0 : Rd w q0 x) (h1 : Rd w q1 y) (h2 : Rd w q2 z) (n0 n1 n2 k0 k1 k2 : Nat) (l0 : x.length = n0) (l1 : y.length = n1) (l2 : z.length = n2) (c0 : n0 ≤ k0) (c1 : n1 ≤ k1) (c2 : n2 ≤ k2) (m2 : k2 ≤ 140737488351232) :
    Calls Try.prog 4 #[.slice q0 n0 k0, .slice q1 n1 k1, .slice q2 n2 k2] w fun e w' => e = .returned (.bool true) ∧ Below w.heap.size w w' := by
  obtain ⟨n, hn⟩ : ∃ n, n = min (min n0 n1) n2 := ⟨_, rfl⟩
  obtain ⟨a, ha⟩ : ∃ a, a = x.take n := ⟨_, rfl⟩
  obtain ⟨b, hb⟩ : ∃ b, b = y.take n := ⟨_, rfl⟩
  obtain ⟨c, hc⟩ : ∃ c, c = z.take n := ⟨_, rfl⟩
  have ra : Rd w q0 a := by rw [ha]; exact h0.take n
  have rb : Rd w q1 b := by rw [hb]; exact h1.take n
  have rc : Rd w q2 c := by rw [hc]; exact h2.take n
  have la : a.length = n := by rw [ha, List.length_take]; omega
  have lb : b.length = n := by rw [hb, List.length_take]; omega
  have lc : c.length = n := by rw [hc, List.length_take]; omega
  have hm : n ≤ 140737488355328 := by omega
  have b0 : n ≤ n0 := by omega
  have b1 : n ≤ n1 := by omega
  have b2 : n ≤ n2 := by omega
  have lab : (xl a b).length = n := by rw [xl_len a b (by omega), la]
  have lbc : (xl b c).length = n := by rw [xl_len b c (by omega), lb]
  have laa : (xl a a).length = n := by rw [xl_len a a rfl, la]
  have labc : (xl (xl a b) c).length = n := by rw [xl_len (xl a b) c (by omega), lab]
  have e1 := cmo_sum a b c (by omega) (by omega)
  have e2 := cmo_same a b (by omega)
  have e3 := cmo_same b c (by omega)
  have e4 := ov_self a
  have f1 : bits .xor .u32 (bits .xor .u32 (rg (cmo 0#32 a)) (rg (cmo 0#32 b))) (rg (cmo 0#32 c)) = rg (cmo 0#32 (xl (xl a b) c)) := by rw [rg_xor, rg_xor, e1]
  have f2 : (rg (cmo 0#32 a) == rg (cmo 0#32 b)) = (ov 0#32 (xl a b) == 0#32) := by rw [rg_beq, e2]
  have f3 : (rg (cmo 0#32 b) == rg (cmo 0#32 c)) = (ov 0#32 (xl b c) == 0#32) := by rw [rg_beq, e3]
  have hmin : (min (min (n0 : Int) n1) n2) = (n : Int) := by omega
  have HN : Hid (n = min (min n0 n1) n2) := hn
  clear ha hb hc e1 e2 e3 h0 h1 h2 hn
  go_enter Try.func4, Try.ntmps4
  go_wp2_with (fail)
  all_goals
    have hN := HN.out
    first | (have hq : n = n0 := (by omega); subst hq; clear hN HN) | (have hq : n = n1 := (by omega); subst hq; clear hN HN) | (have hq : n = n2 := (by omega); subst hq; clear hN HN)
    go_wp2_with (first | (go_at_call 16; refine (twin_any ra n _ la hm).mono ?_; rintro e w1 ⟨v1, rfl, ho1, hb1⟩; obtain ⟨p1, c1, rfl, _, ra1⟩ := ho1.rd; have d1 := hb1; clear ho1) | (go_at_call 16; refine (twin_any (rb.below d1) n _ lb hm).mono ?_; rintro e w2 ⟨v2, rfl, ho2, hb2⟩; obtain ⟨p2, c2, rfl, _, rb2⟩ := ho2.rd; have d2 := bt d1 hb2; clear ho2) | (go_at_call 16; refine (twin_any (rc.below d2) n _ lc hm).mono ?_; rintro e w3 ⟨v3, rfl, ho3, hb3⟩; obtain ⟨p3, c3, rfl, _, rc3⟩ := ho3.rd; have d3 := bt d2 hb3; clear ho3) | (go_at_call 9; refine (csum_any ((ra1.below hb2).below hb3) n _ la hm).mono ?_; rintro e w4 ⟨rfl, hb4⟩; have d4 := bt d3 hb4) | (go_at_call 9; refine (csum_any ((rb2.below hb3).below hb4) n _ lb hm).mono ?_; rintro e w5 ⟨rfl, hb5⟩; have d5 := bt d4 hb5) | (go_at_call 9; refine (csum_any ((rc3.below hb4).below hb5) n _ lc hm).mono ?_; rintro e w6 ⟨rfl, hb6⟩; have d6 := bt d5 hb6) | (go_at_call 13; refine (known_any _).mono ?_; rintro e w7 ⟨rfl, hb7⟩; have d7 := bt d6 hb7) | (go_at_call 17; refine (both_any ((((((ra1.below hb2).below hb3).below hb4).below hb5).below hb6).below hb7) (((((rb2.below hb3).below hb4).below hb5).below hb6).below hb7) n _ _ la lb hm).mono ?_; rintro e w8 ⟨v8, rfl, ho8, hb8⟩; obtain ⟨p8, c8, rfl, _, r8⟩ := ho8.rd; have d8 := bt d7 hb8; clear ho8) | (go_at_call 17; refine (both_any r8 (((((rc3.below hb4).below hb5).below hb6).below hb7).below hb8) n _ _ lab lc hm).mono ?_; rintro e w9 ⟨v9, rfl, ho9, hb9⟩; obtain ⟨p9, c9, rfl, _, r9⟩ := ho9.rd; have d9 := bt d8 hb9; clear ho9) | (go_at_call 9; refine (csum_any r9 n _ labc hm).mono ?_; rintro e w10 ⟨rfl, hb10⟩; have d10 := bt d9 hb10) | (go_at_call 9; refine (csum_any (((((((((ra1.below hb2).below hb3).below hb4).below hb5).below hb6).below hb7).below hb8).below hb9).below hb10) n _ la hm).mono ?_; rintro e w11 ⟨rfl, hb11⟩; have d11 := bt d10 hb11) | (go_at_call 9; refine (csum_any (((((((((rb2.below hb3).below hb4).below hb5).below hb6).below hb7).below hb8).below hb9).below hb10).below hb11) n _ lb hm).mono ?_; rintro e w12 ⟨rfl, hb12⟩; have d12 := bt d11 hb12) | (go_at_call 17; refine (both_any (((((((((((ra1.below hb2).below hb3).below hb4).below hb5).below hb6).below hb7).below hb8).below hb9).below hb10).below hb11).below hb12) ((((((((((rb2.below hb3).below hb4).below hb5).below hb6).below hb7).below hb8).below hb9).below hb10).below hb11).below hb12) n _ _ la lb hm).mono ?_; rintro e w13 ⟨v13, rfl, ho13, hb13⟩; obtain ⟨p13, c13, rfl, _, r13⟩ := ho13.rd; have d13 := bt d12 hb13; clear ho13) | (go_at_call 18; refine (cblind_any r13 n _ lab hm).mono ?_; rintro e w14 ⟨rfl, hb14⟩; have d14 := bt d13 hb14) | (go_at_call 9; refine (csum_any ((((((((((((rb2.below hb3).below hb4).below hb5).below hb6).below hb7).below hb8).below hb9).below hb10).below hb11).below hb12).below hb13).below hb14) n _ lb hm).mono ?_; rintro e w15 ⟨rfl, hb15⟩; have d15 := bt d14 hb15) | (go_at_call 9; refine (csum_any ((((((((((((rc3.below hb4).below hb5).below hb6).below hb7).below hb8).below hb9).below hb10).below hb11).below hb12).below hb13).below hb14).below hb15) n _ lc hm).mono ?_; rintro e w16 ⟨rfl, hb16⟩; have d16 := bt d15 hb16) | (go_at_call 17; refine (both_any ((((((((((((((rb2.below hb3).below hb4).below hb5).below hb6).below hb7).below hb8).below hb9).below hb10).below hb11).below hb12).below hb13).below hb14).below hb15).below hb16) (((((((((((((rc3.below hb4).below hb5).below hb6).below hb7).below hb8).below hb9).below hb10).below hb11).below hb12).below hb13).below hb14).below hb15).below hb16) n _ _ lb lc hm).mono ?_; rintro e w17 ⟨v17, rfl, ho17, hb17⟩; obtain ⟨p17, c17, rfl, _, r17⟩ := ho17.rd; have d17 := bt d16 hb17; clear ho17) | (go_at_call 18; refine (cblind_any r17 n _ lbc hm).mono ?_; rintro e w18 ⟨rfl, hb18⟩; have d18 := bt d17 hb18) | (go_at_call 17; refine (both_any (((((((((((((((((ra1.below hb2).below hb3).below hb4).below hb5).below hb6).below hb7).below hb8).below hb9).below hb10).below hb11).below hb12).below hb13).below hb14).below hb15).below hb16).below hb17).below hb18) (((((((((((((((((ra1.below hb2).below hb3).below hb4).below hb5).below hb6).below hb7).below hb8).below hb9).below hb10).below hb11).below hb12).below hb13).below hb14).below hb15).below hb16).below hb17).below hb18) n _ _ la la hm).mono ?_; rintro e w19 ⟨v19, rfl, ho19, hb19⟩; obtain ⟨p19, c19, rfl, _, r19⟩ := ho19.rd; have d19 := bt d18 hb19; clear ho19) | (go_at_call 18; refine (cblind_any r19 n _ laa hm).mono ?_; rintro e w20 ⟨rfl, hb20⟩; have d20 := bt d19 hb20))
    go_ret
    exact ⟨rfl, d20⟩
end
end Go.Proofs.Ytmpccpcnbenpfab
