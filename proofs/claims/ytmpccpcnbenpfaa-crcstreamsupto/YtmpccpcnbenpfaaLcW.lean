/-
  CrcLinear: its walk.
-/
import Derived.Test.YtmpccpcnbenpfaaBo
namespace Go.Proofs.Ytmpccpcnbenpfaa
open Go.RowKit Go.Great
theorem cmo_not (s : BitVec 32) (l : List (BitVec 8)) : ~~~ cmo s l = ov (~~~ s) l := by unfold cmo; rw [BitVec.not_not]
theorem nn_xor (A B : BitVec 32) : ~~~ A ^^^ ~~~ B = A ^^^ B := by
  rw [← ones_xor A, ← ones_xor B, xx4, BitVec.xor_self, BitVec.zero_xor]
theorem nnn_xor (A B C : BitVec 32) : ~~~ A ^^^ ~~~ B ^^^ ~~~ C = ~~~ (A ^^^ B ^^^ C) := by
  rw [nn_xor, ← ones_xor C, ← ones_xor (A ^^^ B ^^^ C), ← BitVec.xor_assoc, BitVec.xor_comm (A ^^^ B) 4294967295#32, BitVec.xor_assoc]
theorem cmo_xor (a b : List (BitVec 8)) (h : a.length = b.length) : cmo 0#32 a ^^^ cmo 0#32 b = ov 0#32 (xl a b) := by
  have e := ov_xl a b (~~~ 0#32) (~~~ 0#32) h
  rw [BitVec.xor_self] at e
  rw [e]; unfold cmo; rw [nn_xor]
theorem cmo_sum (a : List (BitVec 8)) : ∀ b c, a.length = b.length → a.length = c.length → cmo 0#32 (xl (xl a b) c) = cmo 0#32 a ^^^ cmo 0#32 b ^^^ cmo 0#32 c := by
  intro b c h1 h2
  have e1 := ov_xl a b (~~~ 0#32) (~~~ 0#32) h1
  have e2 := ov_xl (xl a b) c 0#32 (~~~ 0#32) (by rw [xl_len a b h1]; exact h2)
  rw [BitVec.xor_self] at e1
  rw [BitVec.zero_xor, e1] at e2
  unfold cmo
  rw [nnn_xor, e2]
theorem cmo_same (a b : List (BitVec 8)) (h : a.length = b.length) : (cmo 0#32 a == cmo 0#32 b) = (ov 0#32 (xl a b) == 0#32) := by
  rw [← cmo_xor a b h, Bool.eq_iff_iff]
  simp only [beq_iff_eq]
  exact ⟨fun e => by rw [e, BitVec.xor_self], xx_eq⟩
theorem ov_self (a : List (BitVec 8)) : (ov 0#32 (xl a a) == 0#32) = true := by rw [← cmo_same a a rfl]; simp
theorem Rd.take {w : World} {p : Option Addr} {xs : List (BitVec 8)} (h : Rd w p xs) (n : Nat) : Rd w p (xs.take n) := by
  rcases h with h | ⟨b, o, rfl, hc⟩
  · subst h; exact .inl (by simp)
  · refine .inr ⟨b, o, rfl, fun i hi => ?_⟩
    have h1 : i < xs.length := by simp at hi; omega
    have h2 : i < n := by simp at hi; omega
    rw [hc i h1]
    simp [List.getD, List.getElem?_take_of_lt h2]
section
attribute [local irreducible] Calls rg ov cmo el Ow xl
end
end Go.Proofs.Ytmpccpcnbenpfaa
