/-
  'number' of each kind; 'folded'.
-/
import Derived.Test.YtjobaeopokfekaaGreatZf
import Derived.Test.YtjobaeopokfekaaGreatRf
namespace Go.Proofs.YtjobaeopokfekaaGreat
open Go.RowKit
/-- A short form of a number that was folded. -/
def zv (bs : List (BitVec 8)) : Ans Int := match uv bs with
  | .error e => .error e
  | .ok (v, l) => .ok ((ug (v : Int)), l)
section
attribute [local irreducible] Calls el ug
set_option maxHeartbeats 1000000 in
set_option maxRecDepth 1000000 in
theorem num8_any {B : Nat} {w : World} {g : Nat} {bs : List (BitVec 8)} (h : Wk B w g bs) :
    Calls Tryz.prog 84 #[.pointer (some ⟨g, 0, none⟩)] w fun e w' => Tell B w g (fun (n : Nat) _ v => v = .int .u8 (n : Int)) (fx 1 bs) e w' := by
  have T := (show Hid _ from tk_next h 1)
  cases ht : tk 1 bs with
  | error c =>
    rw [ht] at T
    have R : Hid (fx 1 bs = .error c) := (show fx 1 bs = .error c by unfold fx; rw [ht])
    go_enter Tryz.func84, Tryz.ntmps84
    go_wp2_with (first | (go_at_call 63; refine (width8_any _).mono ?_; rintro e w' ⟨rfl, h⟩; obtain rfl := h.symm) | (go_at_call 95; refine T.out.mono ?_; rintro e w1 ⟨hG, rfl⟩))
    exact ⟨rfl, hG, by rw [R.out]⟩
  | ok al =>
    obtain ⟨xs, l⟩ := al
    rw [ht] at T
    have R : Hid (fx 1 bs = .ok ((lv xs), l)) := (show fx 1 bs = .ok ((lv xs), l) by unfold fx; rw [ht])
    have hxl : xs.length = 1 := by
      unfold tk at ht
      by_cases e : bs.length < 1
      · rw [if_pos e] at ht; cases ht
      · rw [if_neg e] at ht
        injection ht with ht
        injection ht with h1 h2
        rw [← h1, List.length_take]; omega
    go_enter Tryz.func84, Tryz.ntmps84
    go_wp2_with (first | (go_at_call 63; refine (width8_any _).mono ?_; rintro e w' ⟨rfl, h⟩; obtain rfl := h.symm) | (go_at_call 95; refine T.out.mono ?_; rintro e w1 ⟨hG, v1, rfl, hs1, hW1⟩; rcases hs1 with ⟨hs1, _⟩ | ⟨b1, o1, c1, rfl, hl1, hr1⟩; (subst hs1; simp at hxl); rw [hxl] at hr1 hl1 ⊢))
    go_loopw [3, 10] (fun s i wr => ∃ j : Nat, j ≤ 1 ∧ i = .int .i64 (j : Int) ∧ s = .int .u64 ((lv (xs.take j) : Nat) : Int) ∧ Below w1.heap.size w1 wr) (fun _ i _ => 1 - (intOf i).toNat)
    case atStart => exact ⟨0, Nat.zero_le _, rfl, rfl, Below.refl _ _⟩
    case round =>
      obtain ⟨j, hj, rfl, rfl, hbw⟩ := hrel
      by_cases hlt : j < 1
      · have hi : (j : Int) < 1 := by omega
        obtain ⟨x, hxd⟩ : ∃ x, x = xs.getD j 0#8 := ⟨_, rfl⟩
        have g1 := cell_below (hr1 j hlt) hbw
        rw [← hxd] at g1
        have hts : xs.take (j + 1) = xs.take j ++ [x] := by
          rw [hxd, List.take_add_one]
          simp [List.getD, List.getElem?_eq_getElem (show j < xs.length by omega)]
        have hlen : (xs.take j).length = j := by rw [List.length_take]; omega
        have hb := lv_lt (xs.take j)
        have hb2 := lv_lt (xs.take (j + 1))
        have hsn := lv_snoc (xs.take j) x
        rw [← hts, hlen] at hsn
        rw [hlen] at hb
        rw [show (xs.take (j + 1)).length = j + 1 by rw [List.length_take]; omega] at hb2
        have hp := pow256 (j + 1) (by omega)
        obtain ⟨c, hcx⟩ : ∃ c, x.toNat = c := ⟨_, rfl⟩
        have hel : el x = (c : Int) := by unfold el; rw [hcx]
        rw [hel] at g1
        rw [hcx] at hsn
        have hor : bits .or .u64 ((lv (xs.take j) : Nat) : Int) (IntKind.u64.wrap ((c : Int) * 2 ^ (8 * j))) = ((lv (xs.take (j + 1)) : Nat) : Int) := by
          rw [num_bits _ _ _ hb (by omega), ← hsn]
        have hc256 : c < 256 := hcx ▸ x.isLt
        clear hxd hts hb hb2 hsn hp
        go_wp2
        go_roundw
        case rel => exact ⟨j + 1, by omega, by go_num, rfl, hbw⟩
        case measure => simp [intOf]; omega
      · obtain rfl : j = 1 := by omega
        have hfull : xs.take 1 = xs := List.take_of_length_le (by omega)
        have hb := lv_lt xs
        rw [hxl] at hb
        rw [hfull]
        obtain ⟨N, hN⟩ : ∃ N, lv xs = N := ⟨_, rfl⟩
        rw [hN] at hb R ⊢
        have hb' : N < 256 := hb
        have c1 : (N : Int) % 256 = (N : Int) := by omega
        have c2 : IntKind.u8.wrap (N : Int) = (N : Int) := by simp [IntKind.wrap, IntKind.bits, IntKind.signed]; omega
        go_wp2
        go_ret
        exact ⟨grown_below hG hbw, by rw [R.out]; exact ⟨_, rfl, rfl, hW1.below hbw⟩⟩
set_option maxHeartbeats 1000000 in
set_option maxRecDepth 1000000 in
theorem num32_any {B : Nat} {w : World} {g : Nat} {bs : List (BitVec 8)} (h : Wk B w g bs) :
    Calls Tryz.prog 86 #[.pointer (some ⟨g, 0, none⟩)] w fun e w' => Tell B w g (fun (n : Nat) _ v => v = .int .u32 (n : Int)) (fx 4 bs) e w' := by
  have T := (show Hid _ from tk_next h 4)
  cases ht : tk 4 bs with
  | error c =>
    rw [ht] at T
    have R : Hid (fx 4 bs = .error c) := (show fx 4 bs = .error c by unfold fx; rw [ht])
    go_enter Tryz.func86, Tryz.ntmps86
    go_wp2_with (first | (go_at_call 65; refine (width32_any _).mono ?_; rintro e w' ⟨rfl, h⟩; obtain rfl := h.symm) | (go_at_call 95; refine T.out.mono ?_; rintro e w1 ⟨hG, rfl⟩))
    exact ⟨rfl, hG, by rw [R.out]⟩
  | ok al =>
    obtain ⟨xs, l⟩ := al
    rw [ht] at T
    have R : Hid (fx 4 bs = .ok ((lv xs), l)) := (show fx 4 bs = .ok ((lv xs), l) by unfold fx; rw [ht])
    have hxl : xs.length = 4 := by
      unfold tk at ht
      by_cases e : bs.length < 4
      · rw [if_pos e] at ht; cases ht
      · rw [if_neg e] at ht
        injection ht with ht
        injection ht with h1 h2
        rw [← h1, List.length_take]; omega
    go_enter Tryz.func86, Tryz.ntmps86
    go_wp2_with (first | (go_at_call 65; refine (width32_any _).mono ?_; rintro e w' ⟨rfl, h⟩; obtain rfl := h.symm) | (go_at_call 95; refine T.out.mono ?_; rintro e w1 ⟨hG, v1, rfl, hs1, hW1⟩; rcases hs1 with ⟨hs1, _⟩ | ⟨b1, o1, c1, rfl, hl1, hr1⟩; (subst hs1; simp at hxl); rw [hxl] at hr1 hl1 ⊢))
    go_loopw [3, 10] (fun s i wr => ∃ j : Nat, j ≤ 4 ∧ i = .int .i64 (j : Int) ∧ s = .int .u64 ((lv (xs.take j) : Nat) : Int) ∧ Below w1.heap.size w1 wr) (fun _ i _ => 4 - (intOf i).toNat)
    case atStart => exact ⟨0, Nat.zero_le _, rfl, rfl, Below.refl _ _⟩
    case round =>
      obtain ⟨j, hj, rfl, rfl, hbw⟩ := hrel
      by_cases hlt : j < 4
      · have hi : (j : Int) < 4 := by omega
        obtain ⟨x, hxd⟩ : ∃ x, x = xs.getD j 0#8 := ⟨_, rfl⟩
        have g1 := cell_below (hr1 j hlt) hbw
        rw [← hxd] at g1
        have hts : xs.take (j + 1) = xs.take j ++ [x] := by
          rw [hxd, List.take_add_one]
          simp [List.getD, List.getElem?_eq_getElem (show j < xs.length by omega)]
        have hlen : (xs.take j).length = j := by rw [List.length_take]; omega
        have hb := lv_lt (xs.take j)
        have hb2 := lv_lt (xs.take (j + 1))
        have hsn := lv_snoc (xs.take j) x
        rw [← hts, hlen] at hsn
        rw [hlen] at hb
        rw [show (xs.take (j + 1)).length = j + 1 by rw [List.length_take]; omega] at hb2
        have hp := pow256 (j + 1) (by omega)
        obtain ⟨c, hcx⟩ : ∃ c, x.toNat = c := ⟨_, rfl⟩
        have hel : el x = (c : Int) := by unfold el; rw [hcx]
        rw [hel] at g1
        rw [hcx] at hsn
        have hor : bits .or .u64 ((lv (xs.take j) : Nat) : Int) (IntKind.u64.wrap ((c : Int) * 2 ^ (8 * j))) = ((lv (xs.take (j + 1)) : Nat) : Int) := by
          rw [num_bits _ _ _ hb (by omega), ← hsn]
        have hc256 : c < 256 := hcx ▸ x.isLt
        clear hxd hts hb hb2 hsn hp
        go_wp2
        go_roundw
        case rel => exact ⟨j + 1, by omega, by go_num, rfl, hbw⟩
        case measure => simp [intOf]; omega
      · obtain rfl : j = 4 := by omega
        have hfull : xs.take 4 = xs := List.take_of_length_le (by omega)
        have hb := lv_lt xs
        rw [hxl] at hb
        rw [hfull]
        obtain ⟨N, hN⟩ : ∃ N, lv xs = N := ⟨_, rfl⟩
        rw [hN] at hb R ⊢
        have hb' : N < 4294967296 := hb
        have c1 : (N : Int) % 4294967296 = (N : Int) := by omega
        have c2 : IntKind.u32.wrap (N : Int) = (N : Int) := by simp [IntKind.wrap, IntKind.bits, IntKind.signed]; omega
        go_wp2
        go_ret
        exact ⟨grown_below hG hbw, by rw [R.out]; exact ⟨_, rfl, rfl, hW1.below hbw⟩⟩
set_option maxHeartbeats 1000000 in
set_option maxRecDepth 1000000 in
theorem num64_any {B : Nat} {w : World} {g : Nat} {bs : List (BitVec 8)} (h : Wk B w g bs) :
    Calls Tryz.prog 88 #[.pointer (some ⟨g, 0, none⟩)] w fun e w' => Tell B w g (fun (n : Nat) _ v => v = .int .u64 (n : Int)) (fx 8 bs) e w' := by
  have T := (show Hid _ from tk_next h 8)
  cases ht : tk 8 bs with
  | error c =>
    rw [ht] at T
    have R : Hid (fx 8 bs = .error c) := (show fx 8 bs = .error c by unfold fx; rw [ht])
    go_enter Tryz.func88, Tryz.ntmps88
    go_wp2_with (first | (go_at_call 66; refine (width64_any _).mono ?_; rintro e w' ⟨rfl, h⟩; obtain rfl := h.symm) | (go_at_call 95; refine T.out.mono ?_; rintro e w1 ⟨hG, rfl⟩))
    exact ⟨rfl, hG, by rw [R.out]⟩
  | ok al =>
    obtain ⟨xs, l⟩ := al
    rw [ht] at T
    have R : Hid (fx 8 bs = .ok ((lv xs), l)) := (show fx 8 bs = .ok ((lv xs), l) by unfold fx; rw [ht])
    have hxl : xs.length = 8 := by
      unfold tk at ht
      by_cases e : bs.length < 8
      · rw [if_pos e] at ht; cases ht
      · rw [if_neg e] at ht
        injection ht with ht
        injection ht with h1 h2
        rw [← h1, List.length_take]; omega
    go_enter Tryz.func88, Tryz.ntmps88
    go_wp2_with (first | (go_at_call 66; refine (width64_any _).mono ?_; rintro e w' ⟨rfl, h⟩; obtain rfl := h.symm) | (go_at_call 95; refine T.out.mono ?_; rintro e w1 ⟨hG, v1, rfl, hs1, hW1⟩; rcases hs1 with ⟨hs1, _⟩ | ⟨b1, o1, c1, rfl, hl1, hr1⟩; (subst hs1; simp at hxl); rw [hxl] at hr1 hl1 ⊢))
    go_loopw [3, 10] (fun s i wr => ∃ j : Nat, j ≤ 8 ∧ i = .int .i64 (j : Int) ∧ s = .int .u64 ((lv (xs.take j) : Nat) : Int) ∧ Below w1.heap.size w1 wr) (fun _ i _ => 8 - (intOf i).toNat)
    case atStart => exact ⟨0, Nat.zero_le _, rfl, rfl, Below.refl _ _⟩
    case round =>
      obtain ⟨j, hj, rfl, rfl, hbw⟩ := hrel
      by_cases hlt : j < 8
      · have hi : (j : Int) < 8 := by omega
        obtain ⟨x, hxd⟩ : ∃ x, x = xs.getD j 0#8 := ⟨_, rfl⟩
        have g1 := cell_below (hr1 j hlt) hbw
        rw [← hxd] at g1
        have hts : xs.take (j + 1) = xs.take j ++ [x] := by
          rw [hxd, List.take_add_one]
          simp [List.getD, List.getElem?_eq_getElem (show j < xs.length by omega)]
        have hlen : (xs.take j).length = j := by rw [List.length_take]; omega
        have hb := lv_lt (xs.take j)
        have hb2 := lv_lt (xs.take (j + 1))
        have hsn := lv_snoc (xs.take j) x
        rw [← hts, hlen] at hsn
        rw [hlen] at hb
        rw [show (xs.take (j + 1)).length = j + 1 by rw [List.length_take]; omega] at hb2
        have hp := pow256 (j + 1) (by omega)
        obtain ⟨c, hcx⟩ : ∃ c, x.toNat = c := ⟨_, rfl⟩
        have hel : el x = (c : Int) := by unfold el; rw [hcx]
        rw [hel] at g1
        rw [hcx] at hsn
        have hor : bits .or .u64 ((lv (xs.take j) : Nat) : Int) (IntKind.u64.wrap ((c : Int) * 2 ^ (8 * j))) = ((lv (xs.take (j + 1)) : Nat) : Int) := by
          rw [num_bits _ _ _ hb (by omega), ← hsn]
        have hc256 : c < 256 := hcx ▸ x.isLt
        clear hxd hts hb hb2 hsn hp
        go_wp2
        go_roundw
        case rel => exact ⟨j + 1, by omega, by go_num, rfl, hbw⟩
        case measure => simp [intOf]; omega
      · obtain rfl : j = 8 := by omega
        have hfull : xs.take 8 = xs := List.take_of_length_le (by omega)
        have hb := lv_lt xs
        rw [hxl] at hb
        rw [hfull]
        obtain ⟨N, hN⟩ : ∃ N, lv xs = N := ⟨_, rfl⟩
        rw [hN] at hb R ⊢
        have hb' : N < 18446744073709551616 := hb
        have c1 : (N : Int) % 18446744073709551616 = (N : Int) := by omega
        have c2 : IntKind.u64.wrap (N : Int) = (N : Int) := by simp [IntKind.wrap, IntKind.bits, IntKind.signed]; omega
        go_wp2
        go_ret
        exact ⟨grown_below hG hbw, by rw [R.out]; exact ⟨_, rfl, rfl, hW1.below hbw⟩⟩
end
end Go.Proofs.YtjobaeopokfekaaGreat
