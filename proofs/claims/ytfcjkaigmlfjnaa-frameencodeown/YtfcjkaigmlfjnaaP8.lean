/-
  Package frame: 'sumAt', 'number', 'readHead'.
-/
import Derived.Test.YtfcjkaigmlfjnaaW8c
import Derived.Test.YtfcjkaigmlfjnaaRatk
import Derived.Test.YtfcjkaigmlfjnaaRaby
namespace Go.Proofs.Ytfcjkaigmlfjnaa
open Go.RowKit
theorem Rd.cutl {w : World} {b o : Nat} {xs : List (BitVec 8)} (h : Rd w (some ⟨b, o, none⟩) xs) (a n : Nat) (hn : a + n ≤ xs.length) : Rd w (some ⟨b, o + a, none⟩) (cutl xs a n) := by
  rcases h with h | ⟨b', o', e, hc⟩
  · subst h; exact .inl (by simp [Go.Proofs.Ytfcjkaigmlfjnaa.cutl])
  · injection e with e
    injection e with e1 e2
    subst e1 e2
    refine .inr ⟨b, o + a, rfl, fun i hi => ?_⟩
    rw [cutl_len _ _ _ hn] at hi
    rw [Nat.add_assoc, hc (a + i) (by omega)]
    congr 3
    unfold Go.Proofs.Ytfcjkaigmlfjnaa.cutl
    simp [List.getD, hi]
theorem fx_ok (n : Nat) (bs : List (BitVec 8)) (h : n ≤ bs.length) : fx n bs = .ok (lv (bs.take n), bs.drop n) := by
  unfold fx tk; rw [if_neg (by omega)]
section
attribute [local irreducible] Calls el Hd.cs cmo rg sm
set_option maxHeartbeats 1000000 in
set_option maxRecDepth 1000000 in
theorem take32_ok {w : World} {r : Nat} {bs : List (BitVec 8)} (h : Rdr w r bs 0) (hl : 4 ≤ bs.length) (hm : bs.length ≤ 1099511627000) :
    Calls Try.prog 46 #[.pointer (some ⟨r, 0, none⟩)] w fun e w' => e = .returned (.int .u32 (lv (bs.take 4) : Int)) ∧ Rdr w' r (bs.drop 4) 0 ∧ w.grownBy w' (some r) := by
  refine (mtk32_any h hm).mono ?_
  rintro e w' ⟨h1, h2, v, he, hv⟩
  rw [fx_ok 4 bs hl] at h2 hv
  refine ⟨?_, h2, h1⟩
  rw [he, hv]; rfl
theorem take8_ok {w : World} {r : Nat} {bs : List (BitVec 8)} (h : Rdr w r bs 0) (hl : 1 ≤ bs.length) (hm : bs.length ≤ 1099511627000) :
    Calls Try.prog 58 #[.pointer (some ⟨r, 0, none⟩)] w fun e w' => e = .returned (.int .u8 (lv (bs.take 1) : Int)) ∧ Rdr w' r (bs.drop 1) 0 ∧ w.grownBy w' (some r) := by
  refine (mtk8_any h hm).mono ?_
  rintro e w' ⟨h1, h2, v, he, hv⟩
  rw [fx_ok 1 bs hl] at h2 hv
  refine ⟨?_, h2, h1⟩
  rw [he, hv]; rfl
theorem lv4 (xs : List (BitVec 8)) (h : xs.length ≤ 4) : lv xs < 4294967296 := Nat.lt_of_lt_of_le (lv_lt xs) (Nat.pow_le_pow_right (by omega) h)
theorem lv1 (xs : List (BitVec 8)) (h : xs.length ≤ 1) : lv xs < 256 := Nat.lt_of_lt_of_le (lv_lt xs) (Nat.pow_le_pow_right (by omega) h)
set_option maxHeartbeats 1000000 in
set_option maxRecDepth 1000000 in
theorem number32_ok {w : World} {r : Nat} {bs : List (BitVec 8)} (h : Rdr w r bs 0) (hl : 4 ≤ bs.length) (hm : bs.length ≤ 1099511627000) :
    Calls Try.prog 50 #[.pointer (some ⟨r, 0, none⟩)] w fun e w' => e = .returned (.int .i64 (lv (bs.take 4) : Int)) ∧ Rdr w' r (bs.drop 4) 0 ∧ w.grownBy w' (some r) := by
  have T := (show Hid _ from take32_ok h hl hm)
  have hb := lv4 (bs.take 4) (by rw [List.length_take]; omega)
  generalize lv (bs.take 4) = z at T hb ⊢
  go_enter Try.func50, Try.ntmps50
  go_wp2_with (go_at_call 46; refine T.out.mono ?_; rintro e w1 ⟨rfl, hr, hg⟩)
  go_ret
  exact ⟨rfl, hr, hg⟩
set_option maxHeartbeats 1000000 in
set_option maxRecDepth 1000000 in
theorem number8_ok {w : World} {r : Nat} {bs : List (BitVec 8)} (h : Rdr w r bs 0) (hl : 1 ≤ bs.length) (hm : bs.length ≤ 1099511627000) :
    Calls Try.prog 49 #[.pointer (some ⟨r, 0, none⟩)] w fun e w' => e = .returned (.int .i64 (lv (bs.take 1) : Int)) ∧ Rdr w' r (bs.drop 1) 0 ∧ w.grownBy w' (some r) := by
  have T := (show Hid _ from take8_ok h hl hm)
  have hb := lv1 (bs.take 1) (by rw [List.length_take]; omega)
  generalize lv (bs.take 1) = z at T hb ⊢
  go_enter Try.func49, Try.ntmps49
  go_wp2_with (go_at_call 58; refine T.out.mono ?_; rintro e w1 ⟨rfl, hr, hg⟩)
  go_ret
  exact ⟨rfl, hr, hg⟩
set_option maxHeartbeats 1000000 in
set_option maxRecDepth 1000000 in
theorem sumAt_any {w : World} {gb go : Nat} {bs : List (BitVec 8)} (h : Rd w (some ⟨gb, go, none⟩) bs) (n c a : Nat) (hn : bs.length = n) (hc : n ≤ c) (ha : a + 4 ≤ n) (hm : n ≤ 211106232532992) :
    Calls Try.prog 35 #[.slice (some ⟨gb, go, none⟩) n c, .int .i64 (a : Int)] w fun e w' => e = .returned (.int .u32 (lv (cutl bs a 4) : Int)) ∧ Below w.heap.size w w' := by
  have hl4 : (cutl bs a 4).length = 4 := cutl_len _ _ _ (by omega)
  have O := (show Hid _ from fun c' => open_any (h.cutl a 4 (by omega)) 4 c' hl4 (by omega))
  have e1 : wrap64 ((a : Int) + 4) = (a : Int) + 4 := by unfold wrap64; omega
  have i1 : (a : Int) ≤ (a : Int) + 4 := by omega
  have i2 : (a : Int) + 4 ≤ (c : Int) := by omega
  have i3 : ¬ c = a := by omega
  have i4 : (0 : Int) ≤ (a : Int) := by omega
  go_enter Try.func35, Try.ntmps35
  go_wp2_with (first
   | (go_at_call 47; refine (O.out _).mono ?_; rintro e w1 ⟨r, rfl, hr1, hR, hb1⟩)
   | (go_at_call 46; refine (take32_ok hR (by omega) (by omega)).mono ?_; rintro e w2 ⟨rfl, hR2, hg2⟩))
  go_ret
  refine ⟨?_, hb1.grown hg2 hb1.size (fun k hk => by injection hk with hk; omega)⟩
  show Ending.returned (.int .u32 (lv (List.take 4 (cutl bs a 4)) : Int)) = _
  rw [List.take_of_length_le (by omega)]
set_option maxHeartbeats 1000000 in
set_option maxRecDepth 1000000 in
theorem bytes8_ok {w : World} {r : Nat} {bs : List (BitVec 8)} (h : Rdr w r bs 0) (hl : 8 ≤ bs.length) (hm : bs.length ≤ 1099511627000) :
    Calls Try.prog 48 #[.pointer (some ⟨r, 0, none⟩), .int .i64 8] w fun e w' => (∃ v, e = .returned v ∧ Ow w' w.heap.size v (bs.take 8)) ∧ Rdr w' r (bs.drop 8) 0 ∧ w.grownBy w' (some r) := by
  refine (mby_any h hm 8).mono ?_
  rintro e w' ⟨h1, h2, v, he, hv⟩
  have e8 : ge0 8 (tk (8 : Int).toNat bs) = .ok (bs.take 8, bs.drop 8) := by
    unfold ge0 tk
    rw [if_neg (by omega)]
    simp only [show (8 : Int).toNat = 8 from rfl]
    rw [if_neg (by omega)]
  rw [e8] at h2 hv
  exact ⟨⟨v, he, hv⟩, h2, h1⟩
end
end Go.Proofs.Ytfcjkaigmlfjnaa
