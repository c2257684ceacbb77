/-
  Put of each kind; PutVarint.
-/
import Derived.Test.YtjobaeopokfekaaGreatZf
namespace Go.Proofs.YtjobaeopokfekaaGreat
open Go.RowKit
section
attribute [local irreducible] Calls el sb zg
set_option maxHeartbeats 1000000 in
set_option maxRecDepth 1000000 in
theorem put8_any {w : World} {a : Option Addr} {bs : List (BitVec 8)} (h : Rd w a bs) (n c : Nat) (hn : bs.length = n) (hm : n ≤ 140737488355000) (v : Nat) (hv : v < 256) :
    Calls Tryz.prog 44 #[.slice a n c, .int .u8 (v : Int)] w fun e w' => ∃ o', e = .returned o' ∧ Ow w' w.heap.size o' (bs ++ lb 1 v) ∧ Below w.heap.size w w' := by
  have al : ∀ (W : World) (o : Obj), Below W.heap.size W (W.alloc o) := fun W o => (Below.refl _ _).alloc (Nat.le_refl _) o
  have A1 := (show Hid _ from anew_any h n c 1 hn (by omega))
  go_enter Tryz.func44, Tryz.ntmps44
  go_wp2_with (first | (go_at_call 63; refine (width8_any _).mono ?_; rintro e w' ⟨rfl, h⟩; obtain rfl := h.symm) | (go_at_call 64; refine A1.out.mono ?_; rintro e w1 ⟨v1, rfl, ho1, hb1⟩))
  go_loopw [6, 7, 15] (fun o r i wr => ∃ j : Nat, j ≤ 1 ∧ i = .int .i64 (j : Int) ∧ r = .int .u64 ((v / 256 ^ j : Nat) : Int) ∧ Ow wr w.heap.size o (bs ++ lb j v) ∧ Below w.heap.size w wr) (fun _ _ i _ => 1 - (intOf i).toNat)
  case atStart => exact ⟨0, Nat.zero_le _, rfl, by simp, by simpa [lb] using ho1, hb1⟩
  case round =>
    obtain ⟨j, hj, rfl, rfl, hO, hb⟩ := hrel
    obtain ⟨x, hx⟩ : ∃ x, v / 256 ^ j = x := ⟨_, rfl⟩
    have hxl : x ≤ v := hx ▸ Nat.div_le_self _ _
    by_cases hlt : j < 1
    · have hi : (j : Int) < 1 := by omega
      have hs := hb.size
      rw [hx]
      have r1 := rd_k wr x (by omega)
      have hsn := lb_snoc j v
      rw [hx] at hsn
      have hdv : v / 256 ^ (j + 1) = x / 256 := by rw [Nat.pow_succ, ← Nat.div_div_eq_div_mul, hx]
      clear hx
      go_wp2_with (at_builtin; refine wpList_apa rfl (.tmp 17) (.tmp 20) rfl w.heap.size u6 (bs ++ lb j v) rfl (hO.below (al _ _)) (some ⟨wr.heap.size, 0, none⟩) 1 1 [BitVec.ofNat 8 x] rfl r1 rfl (by rw [List.length_append, lb_len]; omega) (Nat.le_trans hs (al _ _).size) ?_; intro v2 w2 ho2 hg2 hk2)
      go_roundw
      case rel =>
        refine ⟨j + 1, by omega, by go_num, by rw [hdv]; go_num, ?_, (hO.below (al _ _)).below_append (hb.alloc hs _) (Nat.le_trans hs (al _ _).size) hg2 (Nat.le_refl _)⟩
        rw [hsn, ← List.append_assoc]; exact ho2
      case measure => simp [intOf]; omega
    · obtain rfl : j = 1 := by omega
      go_wp2
      go_ret
      exact ⟨_, rfl, hO, hb⟩
set_option maxHeartbeats 1000000 in
set_option maxRecDepth 1000000 in
theorem put32_any {w : World} {a : Option Addr} {bs : List (BitVec 8)} (h : Rd w a bs) (n c : Nat) (hn : bs.length = n) (hm : n ≤ 140737488355000) (v : Nat) (hv : v < 4294967296) :
    Calls Tryz.prog 45 #[.slice a n c, .int .u32 (v : Int)] w fun e w' => ∃ o', e = .returned o' ∧ Ow w' w.heap.size o' (bs ++ lb 4 v) ∧ Below w.heap.size w w' := by
  have al : ∀ (W : World) (o : Obj), Below W.heap.size W (W.alloc o) := fun W o => (Below.refl _ _).alloc (Nat.le_refl _) o
  have A1 := (show Hid _ from anew_any h n c 4 hn (by omega))
  go_enter Tryz.func45, Tryz.ntmps45
  go_wp2_with (first | (go_at_call 65; refine (width32_any _).mono ?_; rintro e w' ⟨rfl, h⟩; obtain rfl := h.symm) | (go_at_call 64; refine A1.out.mono ?_; rintro e w1 ⟨v1, rfl, ho1, hb1⟩))
  go_loopw [6, 7, 15] (fun o r i wr => ∃ j : Nat, j ≤ 4 ∧ i = .int .i64 (j : Int) ∧ r = .int .u64 ((v / 256 ^ j : Nat) : Int) ∧ Ow wr w.heap.size o (bs ++ lb j v) ∧ Below w.heap.size w wr) (fun _ _ i _ => 4 - (intOf i).toNat)
  case atStart => exact ⟨0, Nat.zero_le _, rfl, by simp, by simpa [lb] using ho1, hb1⟩
  case round =>
    obtain ⟨j, hj, rfl, rfl, hO, hb⟩ := hrel
    obtain ⟨x, hx⟩ : ∃ x, v / 256 ^ j = x := ⟨_, rfl⟩
    have hxl : x ≤ v := hx ▸ Nat.div_le_self _ _
    by_cases hlt : j < 4
    · have hi : (j : Int) < 4 := by omega
      have hs := hb.size
      rw [hx]
      have e2 := byte_conv x
      have r1 := rd_new1 wr (BitVec.ofNat 8 x) 5
      have hsn := lb_snoc j v
      rw [hx] at hsn
      have hdv : v / 256 ^ (j + 1) = x / 256 := by rw [Nat.pow_succ, ← Nat.div_div_eq_div_mul, hx]
      clear hx
      go_wp2_with (at_builtin; refine wpList_apa rfl (.tmp 17) (.tmp 20) rfl w.heap.size u6 (bs ++ lb j v) rfl (hO.below (al _ _)) (some ⟨wr.heap.size, 0, none⟩) 1 1 [BitVec.ofNat 8 x] rfl r1 rfl (by rw [List.length_append, lb_len]; omega) (Nat.le_trans hs (al _ _).size) ?_; intro v2 w2 ho2 hg2 hk2)
      go_roundw
      case rel =>
        refine ⟨j + 1, by omega, by go_num, by rw [hdv]; go_num, ?_, (hO.below (al _ _)).below_append (hb.alloc hs _) (Nat.le_trans hs (al _ _).size) hg2 (Nat.le_refl _)⟩
        rw [hsn, ← List.append_assoc]; exact ho2
      case measure => simp [intOf]; omega
    · obtain rfl : j = 4 := by omega
      go_wp2
      go_ret
      exact ⟨_, rfl, hO, hb⟩
set_option maxHeartbeats 1000000 in
set_option maxRecDepth 1000000 in
theorem put64_any {w : World} {a : Option Addr} {bs : List (BitVec 8)} (h : Rd w a bs) (n c : Nat) (hn : bs.length = n) (hm : n ≤ 140737488355000) (v : Nat) (_hv : v < 18446744073709551616) :
    Calls Tryz.prog 46 #[.slice a n c, .int .u64 (v : Int)] w fun e w' => ∃ o', e = .returned o' ∧ Ow w' w.heap.size o' (bs ++ lb 8 v) ∧ Below w.heap.size w w' := by
  have al : ∀ (W : World) (o : Obj), Below W.heap.size W (W.alloc o) := fun W o => (Below.refl _ _).alloc (Nat.le_refl _) o
  have A1 := (show Hid _ from anew_any h n c 8 hn (by omega))
  go_enter Tryz.func46, Tryz.ntmps46
  go_wp2_with (first | (go_at_call 66; refine (width64_any _).mono ?_; rintro e w' ⟨rfl, h⟩; obtain rfl := h.symm) | (go_at_call 64; refine A1.out.mono ?_; rintro e w1 ⟨v1, rfl, ho1, hb1⟩))
  go_loopw [6, 7, 14] (fun o r i wr => ∃ j : Nat, j ≤ 8 ∧ i = .int .i64 (j : Int) ∧ r = .int .u64 ((v / 256 ^ j : Nat) : Int) ∧ Ow wr w.heap.size o (bs ++ lb j v) ∧ Below w.heap.size w wr) (fun _ _ i _ => 8 - (intOf i).toNat)
  case atStart => exact ⟨0, Nat.zero_le _, rfl, by simp, by simpa [lb] using ho1, hb1⟩
  case round =>
    obtain ⟨j, hj, rfl, rfl, hO, hb⟩ := hrel
    obtain ⟨x, hx⟩ : ∃ x, v / 256 ^ j = x := ⟨_, rfl⟩
    have hxl : x ≤ v := hx ▸ Nat.div_le_self _ _
    by_cases hlt : j < 8
    · have hi : (j : Int) < 8 := by omega
      have hs := hb.size
      rw [hx]
      have e2 := byte_conv x
      have r1 := rd_new1 wr (BitVec.ofNat 8 x) 5
      have hsn := lb_snoc j v
      rw [hx] at hsn
      have hdv : v / 256 ^ (j + 1) = x / 256 := by rw [Nat.pow_succ, ← Nat.div_div_eq_div_mul, hx]
      clear hx
      go_wp2_with (at_builtin; refine wpList_apa rfl (.tmp 16) (.tmp 19) rfl w.heap.size u6 (bs ++ lb j v) rfl (hO.below (al _ _)) (some ⟨wr.heap.size, 0, none⟩) 1 1 [BitVec.ofNat 8 x] rfl r1 rfl (by rw [List.length_append, lb_len]; omega) (Nat.le_trans hs (al _ _).size) ?_; intro v2 w2 ho2 hg2 hk2)
      go_roundw
      case rel =>
        refine ⟨j + 1, by omega, by go_num, by rw [hdv]; go_num, ?_, (hO.below (al _ _)).below_append (hb.alloc hs _) (Nat.le_trans hs (al _ _).size) hg2 (Nat.le_refl _)⟩
        rw [hsn, ← List.append_assoc]; exact ho2
      case measure => simp [intOf]; omega
    · obtain rfl : j = 8 := by omega
      go_wp2
      go_ret
      exact ⟨_, rfl, hO, hb⟩
end
end Go.Proofs.YtjobaeopokfekaaGreat
