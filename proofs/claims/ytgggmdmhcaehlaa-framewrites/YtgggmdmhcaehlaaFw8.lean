/-
  The document's own functions of layer 8: Sum, Low, number, join.
-/
import Derived.Test.YtgggmdmhcaehlaaW8b
import Derived.Test.YtgggmdmhcaehlaaW8c
import Derived.Test.YtgggmdmhcaehlaaPu
import Derived.Deep.RegionHeld3
import Derived.Deep.DeepCutAuto
import Derived.Test.YtgggmdmhcaehlaaPz8
import Derived.Test.YtgggmdmhcaehlaaFv8
import Derived.BigQuiet
import Derived.StillTailTactics
import Derived.Test.YtgggmdmhcaehlaaEn9
import Derived.Test.YtgggmdmhcaehlaaKs
import Derived.Test.YtgggmdmhcaehlaaSi8
namespace Go.Proofs.Ytgggmdmhcaehlaa
open Go.RowKit
theorem rg_one (r : BitVec 32) (h : r.getLsbD 0 = true) : bits .and .u32 (rg r) 1 = 1 := by
  rw [show (1 : Int) = rg 1#32 from rfl, rg_and]
  congr 1
  apply BitVec.eq_of_getLsbD_eq; intro j hj
  rw [BitVec.getLsbD_and, BitVec.getLsbD_one]
  by_cases e : j = 0
  · subst e; simp [h]
  · simp [e]
theorem rg_one0 (r : BitVec 32) (h : r.getLsbD 0 = false) : bits .and .u32 (rg r) 1 = 0 := by
  rw [show (1 : Int) = rg 1#32 from rfl, rg_and, show (0 : Int) = rg 0#32 from rfl]
  congr 1
  apply BitVec.eq_of_getLsbD_eq; intro j hj
  rw [BitVec.getLsbD_and, BitVec.getLsbD_one]
  by_cases e : j = 0
  · subst e; rw [h]; simp
  · simp [e]
theorem rg_poly (r : BitVec 32) : bits .xor .u32 (rg r) 2197175160 = rg (r ^^^ P32) := by
  rw [show (2197175160 : Int) = rg P32 from rfl, rg_xor]
theorem rg_ones (r : BitVec 32) : bits .xor .u32 (rg r) 4294967295 = rg (~~~ r) := by
  rw [show (4294967295 : Int) = rg (~~~ 0#32) from rfl, rg_xor]
  congr 1
  apply BitVec.eq_of_getLsbD_eq; intro j hj
  rw [BitVec.getLsbD_xor, BitVec.getLsbD_not, BitVec.getLsbD_not]
  simp only [hj, decide_true, Bool.true_and]
  cases r.getLsbD j <;> simp
theorem el_bd8 (x : BitVec 8) : 0 ≤ el x ∧ el x ≤ 255 := by unfold el; have := x.isLt; omega
theorem el_mod (x : BitVec 8) : el x % 4294967296 = el x := by have := el_bd8 x; omega
theorem rg_byte (r : BitVec 32) (x : BitVec 8) : bits .xor .u32 (rg r) (el x) = rg (r ^^^ x.setWidth 32) := by
  rw [show el x = rg (x.setWidth 32) from by unfold el rg; rw [BitVec.toNat_setWidth]; have := x.isLt; omega, rg_xor]
section
attribute [local irreducible] Calls rg el ov stps stp
set_option maxHeartbeats 4000000 in
set_option maxRecDepth 1000000 in
theorem rsum_any {w : World} {a : Option Addr} {xs : List (BitVec 8)} (h : Rd w a xs) (n c : Nat) (hn : xs.length = n) (hm : n ≤ 140737488355328) :
    Calls Try.prog 41 #[.slice a n c] w fun e w' => e = .returned (.int .i64 (rg (cmo 0#32 xs))) ∧ w' = w := by
  obtain ⟨R0, hR0⟩ : ∃ R0 : BitVec 32, R0 = ~~~ 0#32 := ⟨_, rfl⟩
  have e0 : (4294967295 : Int) = rg R0 := by rw [hR0]; unfold rg; rfl
  have HE := (show Hid (∀ xs, rg (~~~ ov R0 xs) = rg (cmo 0#32 xs)) from fun xs => by rw [hR0]; rfl)
  have HM := (show Hid (n ≤ 140737488355328) from hm)
  have E0 := (show Hid _ from e0)
  clear hR0 e0 hm
  go_enter Try.func41, Try.ntmps41
  go_wp2
  go_loopw [3, 4, 5, 6] (fun r i _ _ wr => ∃ t : Nat, t ≤ n ∧ i = .int .i64 (t : Int) ∧ r = .int .u32 (rg (ov R0 (xs.take t))) ∧ Hid (wr = w)) (fun _ i _ _ _ => n - (intOf i).toNat)
  case atStart => exact ⟨0, Nat.zero_le _, rfl, (by rw [E0.out, List.take_zero, ov_nil]), rfl⟩
  case round =>
    obtain ⟨t, ht, rfl, rfl, hw⟩ := hrel
    obtain rfl : wr = w := hw.out
    clear hw
    by_cases hlt : t < n
    · have hi : (t : Int) < (n : Int) := by omega
      rcases h with h | ⟨b, o, rfl, hc⟩
      · rw [h] at hn; simp at hn; omega
      · have g1 := hc t (by omega)
        obtain ⟨x, hx⟩ : ∃ x, x = xs.getD t 0#8 := ⟨_, rfl⟩
        rw [← hx] at g1
        have HS := (show Hid (ov R0 (xs.take (t + 1)) = stps 8 (ov R0 (xs.take t) ^^^ x.setWidth 32)) from by
          show _ = _
          have e : xs.take (t + 1) = xs.take t ++ [x] := by rw [List.take_add_one, hx]; simp [List.getD, show t < xs.length by omega]
          rw [e, ov_snoc]; rfl)
        obtain ⟨R, hR⟩ : ∃ R, R = ov R0 (xs.take t) := ⟨_, rfl⟩
        rw [← hR] at HS ⊢
        have HR := (show Hid _ from hR)
        have q0 := rg_byte R x
        have eb := el_mod x
        have HC := (show Hid _ from hc)
        clear hc
        clear hx hR
        obtain ⟨W0, hW0⟩ : ∃ W0, W0 = wr := ⟨_, rfl⟩
        subst hW0
        go_wp2
        clear q0 eb
        obtain ⟨S0, hS0⟩ : ∃ S0, S0 = R ^^^ x.setWidth 32 := ⟨_, rfl⟩
        rw [← hS0] at HS ⊢
        clear hS0
        go_loopw [3, 5, 6] (fun r k _ wr => ∃ s : Nat, s ≤ 8 ∧ k = .int .i64 (s : Int) ∧ r = .int .u32 (rg (stps s S0)) ∧ Hid (wr = W0)) (fun _ k _ _ => 8 - (intOf k).toNat)
        case atStart => exact ⟨0, Nat.zero_le _, rfl, (by rw [show stps 0 S0 = S0 from by unfold stps; rfl]), rfl⟩
        case round =>
          obtain ⟨s, hs, rfl, rfl, hw⟩ := hrel
          by_cases hl8 : s < 8
          · have hi8 : (s : Int) < 8 := by omega
            have HT := (show Hid _ from stps_succ s S0)
            obtain ⟨V, hV⟩ : ∃ V, V = stps s S0 := ⟨_, rfl⟩
            rw [← hV] at HT ⊢
            clear hV
            have q2 := rg_shr1 V
            by_cases hb : V.getLsbD 0 = true
            · have q1 := rg_one V hb
              have q3 := rg_poly (V >>> 1)
              have HV := (show Hid (stp V = V >>> 1 ^^^ P32) from by show _ = _; unfold stp pck; rw [if_pos hb])
              clear hb
              go_wp2
              go_roundw
              case rel => exact ⟨s + 1, hl8, by go_num, by rw [HT.out, HV.out], hw⟩
              case measure => simp [intOf]; omega
            · have hbf : V.getLsbD 0 = false := by simpa using hb
              have q1 := rg_one0 V hbf
              have HV := (show Hid (stp V = V >>> 1) from by show _ = _; unfold stp pck; rw [if_neg hb, BitVec.xor_zero])
              clear hb hbf
              go_wp2
              go_roundw
              case rel => exact ⟨s + 1, hl8, by go_num, by rw [HT.out, HV.out], hw⟩
              case measure => simp [intOf]; omega
          · obtain rfl : s = 8 := by omega
            have wt : wrap64 ((t : Int) + 1) = ((t + 1 : Nat) : Int) := by have := HM.out; unfold wrap64; omega
            go_wp2
            go_roundw
            case rel => exact ⟨t + 1, hlt, by rw [wt], by rw [HS.out], hw⟩
            case measure => rw [wt]; simp [intOf]; omega
    · obtain rfl : t = n := by omega
      have q4 := rg_ones (ov R0 (xs.take t))
      have q5 := HE.out (xs.take t)
      rw [List.take_of_length_le (by omega)] at q4 q5 ⊢
      rw [q5] at q4
      have hb := rg_bd (cmo 0#32 xs)
      clear q5
      go_wp2
      go_ret
      exact ⟨rfl, rfl⟩
end
theorem low_div (v i : Nat) : (v : Int) / 2 ^ (8 * i) = ((v / 256 ^ i : Nat) : Int) := by
  rw [Int.natCast_ediv, Int.natCast_pow]
  congr 1
  rw [show (256 : Nat) = 2 ^ 8 from rfl, Int.natCast_pow, ← Int.pow_mul]
  rfl
theorem ofInt_i64 (a : Nat) (ha : a < 4294967296) : (BitVec.ofInt 64 (a : Int)).toNat = a := by
  rw [BitVec.ofInt_natCast, BitVec.toNat_ofNat]; exact Nat.mod_eq_of_lt (by omega)
theorem wrap_i64_small (n : Nat) (h : n < 4294967296) : IntKind.i64.wrap (n : Int) = (n : Int) := by
  rw [IntKind.wrap_i64]; omega
theorem i64_and_n8 (a b : Nat) (ha : a < 4294967296) (hb : b < 4294967296) : bits .and .i64 (a : Int) (b : Int) = ((a &&& b : Nat) : Int) := by
  have hx : a &&& b < 2 ^ 32 := Nat.and_lt_two_pow _ (by omega)
  show IntKind.i64.wrap ((BitVec.ofInt 64 (a : Int) &&& BitVec.ofInt 64 (b : Int)).toNat : Int) = _
  rw [BitVec.toNat_and, ofInt_i64 a ha, ofInt_i64 b hb, wrap_i64_small _ hx]
theorem low_and (z : Nat) (hz : z < 4294967296) : bits .and .i64 (z : Int) 255 = ((z % 256 : Nat) : Int) := by
  have h := i64_and_n8 z 255 hz (by omega)
  rw [show z &&& 255 = z % 256 from Nat.and_two_pow_sub_one_eq_mod z 8] at h
  exact h
theorem rd_kk8 (W : World) (k : Nat) : Rd (W.alloc (.cells #[.int .u8 ((k % 256 : Nat) : Int)] 5)) (some ⟨W.heap.size, 0, none⟩) [BitVec.ofNat 8 k] := by
  have h := rd_k W (k % 256) (by omega)
  have e : BitVec.ofNat 8 (k % 256) = BitVec.ofNat 8 k := by apply BitVec.eq_of_toNat_eq; simp
  rwa [e] at h
section
attribute [local irreducible] Calls rg el lb
set_option maxHeartbeats 4000000 in
set_option maxRecDepth 1000000 in
theorem rlow_any (v n : Nat) (hv : v < 4294967296) (hn : n ≤ 7) (w : World) :
    Calls Try.prog 45 #[.int .i64 (v : Int), .int .i64 (n : Int)] w fun e w' => ∃ o, e = .returned o ∧ Ow w' w.heap.size o (lb n v) ∧ Below w.heap.size w w' := by
  have al : ∀ (W : World) (o : Obj), Below W.heap.size W (W.alloc o) := fun W o => (Below.refl _ _).alloc (Nat.le_refl _) o
  have HV := (show Hid _ from hv)
  clear hv
  go_enter Try.func45, Try.ntmps45
  go_wp2
  go_loopw [5, 6] (fun o i wr => ∃ j : Nat, j ≤ n ∧ i = .int .i64 (j : Int) ∧ Hid (Ow wr w.heap.size o (lb j v)) ∧ Hid (Below w.heap.size w wr)) (fun _ i _ => n - (intOf i).toNat)
  case atStart => exact ⟨0, Nat.zero_le _, rfl, (by show Ow _ _ _ _; rw [show lb 0 v = [] from by unfold lb; rfl]; exact Ow.nil _ _), Below.refl _ _⟩
  case round =>
    obtain ⟨j, hj, rfl, hO, hb⟩ := hrel
    by_cases hlt : j < n
    · have hi : (j : Int) < (n : Int) := by omega
      have e1 := low_div v j
      obtain ⟨z, hz⟩ : ∃ z, z = v / 256 ^ j := ⟨_, rfl⟩
      rw [← hz] at e1
      have hzb : z < 4294967296 := by rw [hz]; exact Nat.lt_of_le_of_lt (Nat.div_le_self _ _) HV.out
      have e2 := low_and z hzb
      have HS := (show Hid (lb (j + 1) v = lb j v ++ [BitVec.ofNat 8 z]) from by show _ = _; rw [hz]; exact lb_snoc j v)
      have r1 := fun W : World => rd_kk8 W z
      obtain ⟨y, hy⟩ : ∃ y, y = z % 256 := ⟨_, rfl⟩
      have hy2 : y < 256 := by omega
      rw [← hy] at e2 r1
      have hl := lb_len j v
      clear hz hzb hy
      go_wp2_with (at_builtin; refine wpList_apa rfl (.tmp 12) (.tmp 20) rfl w.heap.size u5 (lb j v) rfl (hO.out.below (al _ _)) (some ⟨wr.heap.size, 0, none⟩) 1 1 [BitVec.ofNat 8 z] rfl (r1 wr) rfl (by rw [hl]; show j + 1 ≤ _; omega) (Nat.le_trans hb.out.size (al _ _).size) ?_; intro v2 w2 ho2 hg2 hk2)
      go_roundw
      case rel => exact ⟨j + 1, by omega, by go_num, (by show Ow _ _ _ _; rw [HS.out]; exact ho2), (hO.out.below (al _ _)).below_append (hb.out.alloc hb.out.size _) (Nat.le_trans hb.out.size (al _ _).size) hg2 (Nat.le_refl _)⟩
      case measure => simp [intOf]; omega
    · obtain rfl : j = n := by omega
      go_wp2
      go_ret
      exact ⟨_, rfl, hO.out, hb.out⟩
end
theorem lv_cons8 (x : BitVec 8) (xs : List (BitVec 8)) : lv (x :: xs) = x.toNat + 256 * lv xs := rfl
theorem lv_bd (xs : List (BitVec 8)) (h : xs.length ≤ 6) : lv xs < 281474976710656 := by
  have h1 := lv_lt xs
  have h2 : 256 ^ xs.length ≤ 256 ^ 6 := Nat.pow_le_pow_right (by omega) h
  omega
theorem cutl_front (xs : List (BitVec 8)) (a n : Nat) (h : a < xs.length) : cutl xs a (n + 1) = xs.getD a 0#8 :: cutl xs (a + 1) n := by
  unfold cutl
  rw [List.drop_eq_getElem_cons h, List.take_succ_cons]
  simp [List.getD, h]
section
attribute [local irreducible] Calls rg el lv cutl
set_option maxHeartbeats 4000000 in
set_option maxRecDepth 1000000 in
theorem rnumber_any {w : World} {a : Option Addr} {xs : List (BitVec 8)} (h : Rd w a xs) (n c : Nat) (hn : xs.length = n) (hm : n ≤ 140737488355328) (at_ k : Nat) (hk : k ≤ 6) (hat : at_ + k ≤ n) :
    Calls Try.prog 40 #[.slice a n c, .int .i64 (at_ : Int), .int .i64 (k : Int)] w fun e w' => e = .returned (.int .i64 ((lv (cutl xs at_ k) : Nat) : Int)) ∧ w' = w := by
  have HM := (show Hid (n ≤ 140737488355328 ∧ at_ + k ≤ n) from ⟨hm, hat⟩)
  clear hm hat
  have wk : wrap64 ((k : Int) - 1) = (k : Int) - 1 := by unfold wrap64; omega
  go_enter Try.func40, Try.ntmps40
  go_wp2
  clear wk
  go_loopw [7, 8] (fun v i wr => ∃ t : Nat, t ≤ k ∧ i = .int .i64 ((k : Int) - 1 - (t : Int)) ∧ v = .int .i64 ((lv (cutl xs (at_ + (k - t)) t) : Nat) : Int) ∧ Hid (wr = w)) (fun _ i _ => ((intOf i) + 1).toNat)
  case atStart => exact ⟨0, Nat.zero_le _, by simp, (by rw [show cutl xs (at_ + (k - 0)) 0 = [] from by unfold cutl; simp]; unfold lv; rfl), rfl⟩
  case round =>
    obtain ⟨t, ht, rfl, rfl, hw⟩ := hrel
    obtain rfl : wr = w := hw.out
    clear hw
    by_cases hlt : t < k
    · have hi : ¬ (k : Int) - 1 - (t : Int) < 0 := by omega
      rcases h with h | ⟨b, o, rfl, hc⟩
      · rw [h] at hn; simp at hn; have := HM.out.2; omega
      · obtain ⟨N, hN⟩ : ∃ N, N = at_ + (k - (t + 1)) := ⟨_, rfl⟩
        have g1 := hc N (by have := HM.out.2; omega)
        obtain ⟨x, hx⟩ : ∃ x, x = xs.getD N 0#8 := ⟨_, rfl⟩
        rw [← hx] at g1
        have HC := (show Hid _ from hc)
        have eb := el_bd8 x
        obtain ⟨V, hV⟩ : ∃ V, V = lv (cutl xs (at_ + (k - t)) t) := ⟨_, rfl⟩
        have HS := (show Hid (((lv (cutl xs N (t + 1)) : Nat) : Int) = (V : Int) * 256 + el x) from by
          show _ = _
          rw [cutl_front xs N t (by have := HM.out.2; omega), ← hx, show N + 1 = at_ + (k - t) by omega, hV]
          rw [lv_cons8]
          unfold el
          omega)
        have hVb : V < 281474976710656 := by rw [hV]; exact lv_bd _ (by unfold cutl; rw [List.length_take]; omega)
        have w1 : wrap64 ((V : Int) * 256) = (V : Int) * 256 := by unfold wrap64; omega
        have w2 : wrap64 ((V : Int) * 256 + el x) = (V : Int) * 256 + el x := by unfold wrap64; omega
        have w3 : wrap64 ((at_ : Int) + ((k : Int) - 1 - (t : Int))) = (N : Int) := by have := HM.out; unfold wrap64; omega
        have w4 : wrap64 ((k : Int) - 1 - (t : Int) - 1) = (k : Int) - 1 - ((t + 1 : Nat) : Int) := by unfold wrap64; omega
        have iN : (N : Int) < (n : Int) := by have := HM.out.2; omega
        rw [← hV]
        have HN := (show Hid _ from hN)
        have W4 := (show Hid _ from w4)
        have W2 := (show Hid _ from w2)
        clear hx hV hN hVb hc w4 w2
        go_wp2
        go_roundw
        case rel => exact ⟨t + 1, hlt, by congr 1; omega, by rw [W2.out, ← HS.out, HN.out], trivial⟩
        case measure => simp only [intOf]; omega
    · obtain rfl : t = k := by omega
      have hi : (t : Int) - 1 - (t : Int) < 0 := by omega
      rw [Nat.sub_self, Nat.add_zero]
      go_wp2
      go_ret
      exact ⟨rfl, rfl⟩
end
section
attribute [local irreducible] Calls rg el
set_option maxHeartbeats 4000000 in
set_option maxRecDepth 1000000 in
theorem rjoin_any {w : World} {p : Option Addr} {bl : List (List (BitVec 8))} (HB : Rws w p bl) (n c : Nat) (hn : bl.length = n) (hm : n ≤ 1000000000) (hL : bl.flatten.length ≤ 140737488355000) :
    Calls Try.prog 42 #[.slice p n c] w fun e w' => ∃ o, e = .returned o ∧ Ow w' w.heap.size o bl.flatten ∧ Below w.heap.size w w' := by
  have al : ∀ (W : World) (o : Obj), Below W.heap.size W (W.alloc o) := fun W o => (Below.refl _ _).alloc (Nat.le_refl _) o
  have HM := (show Hid (n ≤ 1000000000 ∧ bl.flatten.length ≤ 140737488355000) from ⟨hm, hL⟩)
  have HBw := (show Hid (Rws w p bl) from HB)
  clear hm hL HB
  go_enter Try.func42, Try.ntmps42
  go_wp2
  go_loopw [3, 4, 5] (fun o i _ wr => ∃ t : Nat, t ≤ n ∧ i = .int .i64 (t : Int) ∧ Hid (Ow wr w.heap.size o (bl.take t).flatten) ∧ Hid (Below w.heap.size w wr)) (fun _ i _ _ => n - (intOf i).toNat)
  case atStart => exact ⟨0, Nat.zero_le _, rfl, (by show Ow _ _ _ _; rw [List.take_zero]; exact Ow.nil _ _), Below.refl _ _⟩
  case round =>
    obtain ⟨t, ht, rfl, hO, hb⟩ := hrel
    have wt : wrap64 ((t : Int) + 1) = ((t + 1 : Nat) : Int) := by have := HM.out.1; unfold wrap64; omega
    by_cases hlt : t < n
    · have hi : (t : Int) < (n : Int) := by omega
      obtain ⟨b, o, q, cq, ep, -, -, -⟩ := Rws.row HBw.out t (by omega)
      subst ep
      have HR := (show Hid (∀ W : World, Below w.heap.size w W → ∃ q c, W.cell? ⟨b, o + t, none⟩ = some (.slice q (bl.getD t []).length c) ∧ Rd W q (bl.getD t [])) from fun W hW => by
        obtain ⟨b', o', q, c, e, h1, h2, h3⟩ := Rws.row (Rws.below HBw.out hW) t (by omega)
        injection e with e
        injection e with e1 e2
        subst e1 e2
        exact ⟨q, c, h1, h3⟩)
      have HF := (show Hid ((bl.take (t + 1)).flatten = (bl.take t).flatten ++ bl.getD t []) from by
        show _ = _
        have e : bl.take (t + 1) = bl.take t ++ [bl.getD t []] := by rw [List.take_add_one]; simp [List.getD, show t < bl.length by omega]
        rw [e, List.flatten_append]; simp)
      have HFL := (show Hid (((bl.take t).flatten ++ bl.getD t []).length ≤ 140737488355000) from by
        show _ ≤ _
        rw [← HF.out]
        refine Nat.le_trans ?_ HM.out.2
        conv => rhs; rw [← List.take_append_drop (t + 1) bl, List.flatten_append, List.length_append]
        omega)
      generalize bl.getD t [] = row at HR HF HFL
      generalize (bl.take t).flatten = pre at hO HF HFL
      obtain ⟨nr, hnr⟩ : ∃ nr, nr = row.length := ⟨_, rfl⟩
      rw [← hnr] at HR
      have HN := (show Hid _ from hnr)
      clear hnr
      obtain ⟨W0, hW0⟩ : ∃ W0, W0 = wr := ⟨_, rfl⟩
      subst hW0
      go_wp2
      go_loopw [3, 5] (fun o2 k wr => ∃ s : Nat, s ≤ nr ∧ k = .int .i64 (s : Int) ∧ Hid (Ow wr w.heap.size o2 (pre ++ row.take s)) ∧ Hid (Below w.heap.size w wr)) (fun _ k _ => nr - (intOf k).toNat)
      case atStart => exact ⟨0, Nat.zero_le _, rfl, (by show Ow _ _ _ _; rw [List.take_zero, List.append_nil]; exact hO.out), hb⟩
      case round =>
        clear hO hb
        obtain ⟨s, hs, rfl, hO, hb⟩ := hrel
        obtain ⟨q1, cc1, hc1, hr1⟩ := HR.out wr hb.out
        by_cases hl2 : s < nr
        · have hi2 : (s : Int) < (nr : Int) := by omega
          rcases hr1 with hr1 | ⟨b2, o2', rfl, hcell⟩
          · have := HN.out; rw [hr1] at this; simp at this; omega
          · have g2 := hcell s (by have := HN.out; omega)
            obtain ⟨x, hx⟩ : ∃ x, x = row.getD s 0#8 := ⟨_, rfl⟩
            rw [← hx] at g2
            have HX := (show Hid (row.take (s + 1) = row.take s ++ [x]) from by show _ = _; rw [List.take_add_one, hx]; simp [List.getD, show s < row.length by have := HN.out; omega])
            have r1 := fun W : World => rd_new1 W x 5
            have HLs := (show Hid ((pre ++ row.take s).length + [x].length ≤ 140737488355328) from by have := HFL.out; have := HN.out; show _ ≤ _; simp only [List.length_append, List.length_take, List.length_singleton] at *; omega)
            have ws : wrap64 ((s : Int) + 1) = ((s + 1 : Nat) : Int) := by have := HFL.out; have := HN.out; simp only [List.length_append] at *; unfold wrap64; omega
            have HC := (show Hid _ from hcell)
            have WT := (show Hid _ from wt)
            have WS := (show Hid _ from ws)
            clear hx hcell wt ws
            go_wp2_with (at_builtin; refine wpList_apa rfl (.tmp 21) (.tmp 29) rfl w.heap.size u3 (pre ++ row.take s) rfl (hO.out.below (al _ _)) (some ⟨wr.heap.size, 0, none⟩) 1 1 [x] rfl (r1 wr) rfl HLs.out (Nat.le_trans hb.out.size (al _ _).size) ?_; intro v2 w2 ho2 hg2 hk2)
            go_roundw
            case rel => exact ⟨s + 1, hl2, by rw [WS.out], (by show Ow _ _ _ _; rw [HX.out, ← List.append_assoc]; exact ho2), (hO.out.below (al _ _)).below_append (hb.out.alloc hb.out.size _) (Nat.le_trans hb.out.size (al _ _).size) hg2 (Nat.le_refl _)⟩
            case measure => rw [WS.out]; simp [intOf]; omega
        · obtain rfl : s = nr := by omega
          have hO' := hO.out
          rw [List.take_of_length_le (by have := HN.out; omega), ← HF.out] at hO'
          have O2 := (show Hid _ from hO')
          clear hO'
          go_wp2
          go_roundw
          case rel => exact ⟨t + 1, hlt, by rw [wt], O2, hb⟩
          case measure => rw [wt]; simp [intOf]; omega
    · obtain rfl : t = n := by omega
      have hO' := hO.out
      rw [List.take_of_length_le (by omega)] at hO'
      go_wp2
      go_ret
      exact ⟨_, rfl, hO', hb.out⟩
end
end Go.Proofs.Ytgggmdmhcaehlaa
/-
  The document's own functions of layer 8: Fixed, HeadSum.
-/
namespace Go.Proofs.Ytgggmdmhcaehlaa
open Go.RowKit
/-- Rows that are read, each with the value that leads to it. -/
def Lg (w : World) (L : List (Value × List (BitVec 8))) : Prop := ∀ q ∈ L, ∃ p c, q.1 = .slice p q.2.length c ∧ q.2.length ≤ c ∧ Rd w p q.2
theorem Lg.below {w w' : World} {L : List (Value × List (BitVec 8))} (h : Lg w L) (hb : Below w.heap.size w w') : Lg w' L := fun q hq => by
  obtain ⟨p, c, h1, h2, h3⟩ := h q hq
  exact ⟨p, c, h1, h2, h3.below hb⟩
theorem Lg.add {w : World} {L : List (Value × List (BitVec 8))} (h : Lg w L) {p : Option Addr} {c : Nat} {xs : List (BitVec 8)} (hr : Rd w p xs) (hc : xs.length ≤ c) : Lg w ((.slice p xs.length c, xs) :: L) := fun q hq => by
  rcases List.mem_cons.1 hq with rfl | hq
  · exact ⟨p, c, rfl, hc, hr⟩
  · exact h q hq
/-- A ledger: a head, rows, and what is kept. -/
def Led (w0 w : World) (g : Nat) (h : Hd) (L : List (Value × List (BitVec 8))) : Prop := HdAt w g h ∧ Lg w L ∧ Below w0.heap.size w0 w
theorem Led.go {w0 w w' : World} {g : Nat} {h : Hd} {L : List (Value × List (BitVec 8))} (H : Led w0 w g h L) (hb : Below w.heap.size w w') : Led w0 w' g h L := ⟨H.1.below hb, H.2.1.below hb, bt H.2.2 hb⟩
theorem Led.al {w0 w : World} {g : Nat} {h : Hd} {L : List (Value × List (BitVec 8))} (H : Led w0 w g h L) (o : Obj) : Led w0 (w.alloc o) g h L := H.go ((Below.refl _ _).alloc (Nat.le_refl _) o)
theorem Led.add {w0 w w' : World} {g : Nat} {h : Hd} {L : List (Value × List (BitVec 8))} (H : Led w0 w g h L) (hb : Below w.heap.size w w') {p : Option Addr} {c : Nat} {xs : List (BitVec 8)} (hr : Rd w' p xs) (hc : xs.length ≤ c) : Led w0 w' g h ((.slice p xs.length c, xs) :: L) :=
  ⟨H.1.below hb, (H.2.1.below hb).add hr hc, bt H.2.2 hb⟩
theorem Led.mark {w0 w : World} {g : Nat} {h : Hd} {L : List (Value × List (BitVec 8))} (H : Led w0 w g h L) : Led w0 (w.alloc (.cells #[.int .u8 67, .int .u8 82, .int .u8 78, .int .u8 2] 5)) g h ((.slice (some ⟨w.heap.size, 0, none⟩) 4 4, mk8) :: L) := by
  have hb := (Below.refl w.heap.size w).alloc (Nat.le_refl _) (.cells #[.int .u8 67, .int .u8 82, .int .u8 78, .int .u8 2] 5)
  exact H.add (xs := mk8) hb (rd_newl w mk8 _ _) (Nat.le_refl _)
theorem Led.cells {w0 w : World} {g : Nat} {h : Hd} {L : List (Value × List (BitVec 8))} (H : Led w0 w g h L) : w.cell? ⟨g, 8, none⟩ = some (.int .i64 h.k) ∧ w.cell? ⟨g, 9, none⟩ = some (.int .i64 h.m) ∧ w.cell? ⟨g, 10, none⟩ = some (.int .i64 h.b) ∧ w.cell? ⟨g, 11, none⟩ = some (.string (bstr h.key))
    ∧ w.cell? ⟨g, 12, none⟩ = some (.int .i64 h.sz) ∧ w.cell? ⟨g, 13, none⟩ = some (.int .i64 h.ix) ∧ w.cell? ⟨g, 14, none⟩ = some (.int .i64 h.ep) ∧ w.cell? ⟨g, 15, none⟩ = some (.int .i64 h.ct) := H.1.cells
theorem rws_new {w : World} {L : List (Value × List (BitVec 8))} (h : Lg w L) (vs : List Value) (xs : List (List (BitVec 8))) (hl : vs.length = xs.length) (hm : ∀ i, i < xs.length → (vs.getD i undef, xs.getD i []) ∈ L) (T : TypeId) : Rws (w.alloc (.cells vs.toArray T)) (some ⟨w.heap.size, 0, none⟩) xs := by
  refine .inr ⟨w.heap.size, 0, rfl, fun i hi => ?_⟩
  obtain ⟨p, c, h1, h2, h3⟩ := h _ (hm i hi)
  refine ⟨p, c, ?_, h2, h3.below ((Below.refl _ _).alloc (Nat.le_refl _) _)⟩
  rw [cell_of_row _ _ _ _ _ (0, 0) (heap_alloc_new w _), Nat.zero_add]
  have h1' : vs.getD i undef = .slice p (xs.getD i []).length c := h1
  rw [← h1']
  have hv : i < vs.length := by omega
  simp [List.getD, hv]
theorem Led.lg {w0 w : World} {g : Nat} {h : Hd} {L : List (Value × List (BitVec 8))} (H : Led w0 w g h L) : Lg w L := H.2.1
theorem Led.kept {w0 w : World} {g : Nat} {h : Hd} {L : List (Value × List (BitVec 8))} (H : Led w0 w g h L) : Below w0.heap.size w0 w := H.2.2
theorem sz_al (w : World) (o : Obj) : (w.alloc o).heap.size = w.heap.size + 1 := by simp
theorem rws10 {w : World} {L : List (Value × List (BitVec 8))} (h : Lg w L) {v0 v1 v2 v3 v4 v5 v6 v7 v8 v9 : Value} {x0 x1 x2 x3 x4 x5 x6 x7 x8 x9 : List (BitVec 8)} {T : TypeId} {n : Nat} (hn : w.heap.size = n) (m0 : (v0, x0) ∈ L) (m1 : (v1, x1) ∈ L) (m2 : (v2, x2) ∈ L) (m3 : (v3, x3) ∈ L) (m4 : (v4, x4) ∈ L) (m5 : (v5, x5) ∈ L) (m6 : (v6, x6) ∈ L) (m7 : (v7, x7) ∈ L) (m8 : (v8, x8) ∈ L) (m9 : (v9, x9) ∈ L) : Rws (w.alloc (.cells #[v0, v1, v2, v3, v4, v5, v6, v7, v8, v9] T)) (some ⟨n, 0, none⟩) [x0, x1, x2, x3, x4, x5, x6, x7, x8, x9] := by
  subst hn
  refine rws_new h [v0, v1, v2, v3, v4, v5, v6, v7, v8, v9] [x0, x1, x2, x3, x4, x5, x6, x7, x8, x9] rfl (fun i hi => ?_) T
  have hi' : i < 10 := hi
  match i, hi' with
    | 0, _ => exact m0
    | 1, _ => exact m1
    | 2, _ => exact m2
    | 3, _ => exact m3
    | 4, _ => exact m4
    | 5, _ => exact m5
    | 6, _ => exact m6
    | 7, _ => exact m7
    | 8, _ => exact m8
    | 9, _ => exact m9
section
attribute [local irreducible] Calls rg el lb Hd.cs Led
set_option maxHeartbeats 16000000 in
set_option maxRecDepth 1000000 in
theorem rfixed_nat (h : Hd) (K M B Z X E C Y : Nat) (e1 : h.k = K) (e2 : h.m = M) (e3 : h.b = B) (e4 : h.sz = Z) (e5 : h.ix = X) (e6 : h.ep = E) (e7 : h.ct = C) (e8 : h.key.length = Y) (b1 : K < 4294967296) (b2 : M < 4294967296) (b3 : B < 4294967296) (b4 : Z < 4294967296) (b5 : X < 4294967296) (b6 : E < 4294967296) (b7 : C < 4294967296) (b8 : Y < 4294967296) (w : World) :
    Calls Try.prog 63 #[.agg h.cs] w fun e w' => ∃ v, e = .returned v ∧ Ow w' w.heap.size v (mk8 ++ h.st ++ lb 1 K ++ lb 1 M ++ lb 4 B ++ lb 4 Z ++ lb 1 X ++ lb 4 E ++ lb 4 C ++ lb 1 Y) ∧ Below w.heap.size w w' := by
  have al : ∀ (W : World) (o : Obj), Below W.heap.size W (W.alloc o) := fun W o => (Below.refl _ _).alloc (Nat.le_refl _) o
  have HA := HdAt.new w h
  have LH := (show Hid (Led w (w.alloc (.cells h.cs 28)) w.heap.size h [(.slice (some ⟨w.heap.size, 0, none⟩) 8 8, h.st)]) from by
    show Led _ _ _ _ _
    unfold Led
    refine ⟨HA, ?_, al _ _⟩
    intro q hq
    rcases List.mem_singleton.1 hq with rfl
    exact ⟨_, 8, rfl, Nat.le_refl _, HA.store⟩)
  have hz := bstr_size h.key
  rw [e8] at hz
  have L1 := (show Hid (∀ W, _) from fun W => rlow_any K 1 b1 (by decide) W)
  have L2 := (show Hid (∀ W, _) from fun W => rlow_any M 1 b2 (by decide) W)
  have L3 := (show Hid (∀ W, _) from fun W => rlow_any B 4 b3 (by decide) W)
  have L4 := (show Hid (∀ W, _) from fun W => rlow_any Z 4 b4 (by decide) W)
  have L5 := (show Hid (∀ W, _) from fun W => rlow_any X 1 b5 (by decide) W)
  have L6 := (show Hid (∀ W, _) from fun W => rlow_any E 4 b6 (by decide) W)
  have L7 := (show Hid (∀ W, _) from fun W => rlow_any C 4 b7 (by decide) W)
  have L8 := (show Hid (∀ W, _) from fun W => rlow_any Y 1 b8 (by decide) W)
  have HE := (show Hid (h.k = K ∧ h.m = M ∧ h.b = B ∧ h.sz = Z ∧ h.ix = X ∧ h.ep = E ∧ h.ct = C) from ⟨e1, e2, e3, e4, e5, e6, e7⟩)
  have HS := (show Hid (∀ (W : World) (L : List (Value × List (BitVec 8))), Led w W w.heap.size h L → W.cell? ⟨w.heap.size, 8, none⟩ = some (.int .i64 (K : Int)) ∧ W.cell? ⟨w.heap.size, 9, none⟩ = some (.int .i64 (M : Int)) ∧ W.cell? ⟨w.heap.size, 10, none⟩ = some (.int .i64 (B : Int)) ∧ W.cell? ⟨w.heap.size, 11, none⟩ = some (.string (bstr h.key)) ∧ W.cell? ⟨w.heap.size, 12, none⟩ = some (.int .i64 (Z : Int)) ∧ W.cell? ⟨w.heap.size, 13, none⟩ = some (.int .i64 (X : Int)) ∧ W.cell? ⟨w.heap.size, 14, none⟩ = some (.int .i64 (E : Int)) ∧ W.cell? ⟨w.heap.size, 15, none⟩ = some (.int .i64 (C : Int))) from fun W L hL => by
    have := hL.cells
    rwa [e1, e2, e3, e4, e5, e6, e7] at this)
  clear e1 e2 e3 e4 e5 e6 e7 e8 b1 b2 b3 b4 b5 b6 b7 b8 HA
  go_enter Try.func63, Try.ntmps63
  go_wp2_with (fail)
  have KD := (show Hid (Led w (w.alloc (.cells h.cs 28)).drew w.heap.size h [(.slice (some ⟨w.heap.size, 0, none⟩) 8 8, h.st)]) from LH.out.go ((Below.refl _ _).drew))
  clear LH
  have FE := (show Hid ([mk8, h.st, lb 1 K, lb 1 M, lb 4 B, lb 4 Z, lb 1 X, lb 4 E, lb 4 C, lb 1 Y].flatten = mk8 ++ h.st ++ lb 1 K ++ lb 1 M ++ lb 4 B ++ lb 4 Z ++ lb 1 X ++ lb 4 E ++ lb 4 C ++ lb 1 Y) from by show _ = _; simp [List.append_assoc])
  have FL := (show Hid ([mk8, h.st, lb 1 K, lb 1 M, lb 4 B, lb 4 Z, lb 1 X, lb 4 E, lb 4 C, lb 1 Y].flatten.length ≤ 140737488355000) from by show _ ≤ _; simp [lb_len, mk8, Hd.st])
  go_region_held3 (fun X' => X'.cell? ⟨w.heap.size, 8, none⟩ = some (.int .i64 (K : Int)) ∧ X'.cell? ⟨w.heap.size, 9, none⟩ = some (.int .i64 (M : Int)) ∧ X'.cell? ⟨w.heap.size, 10, none⟩ = some (.int .i64 (B : Int)) ∧ X'.cell? ⟨w.heap.size, 11, none⟩ = some (.string (bstr h.key)) ∧ X'.cell? ⟨w.heap.size, 12, none⟩ = some (.int .i64 (Z : Int)) ∧ X'.cell? ⟨w.heap.size, 13, none⟩ = some (.int .i64 (X : Int)) ∧ X'.cell? ⟨w.heap.size, 14, none⟩ = some (.int .i64 (E : Int)) ∧ X'.cell? ⟨w.heap.size, 15, none⟩ = some (.int .i64 (C : Int))) (first | exact HS.out _ _ KD.out | exact HS.out _ _ (KD.out.al _) | exact HS.out _ _ ((KD.out.al _).al _))
    (first
      | (go_at_call 45; refine (L1.out _).mono ?_; rintro e v1 ⟨o1, rfl, ho1, hb1⟩; obtain ⟨p1, c1, rfl, hc1, hr1⟩ := ho1.rd; first | (replace KD := (show Hid _ from Led.add KD.out hb1 hr1 hc1)) | (replace KD := (show Hid _ from Led.add (Led.mark KD.out) hb1 hr1 hc1)); clear ho1 hr1 hc1 hb1 L1)
      | (go_at_call 45; refine (L2.out _).mono ?_; rintro e v2 ⟨o2, rfl, ho2, hb2⟩; obtain ⟨p2, c2, rfl, hc2, hr2⟩ := ho2.rd; first | (replace KD := (show Hid _ from Led.add KD.out hb2 hr2 hc2)) | (replace KD := (show Hid _ from Led.add (Led.mark KD.out) hb2 hr2 hc2)); clear ho2 hr2 hc2 hb2 L2)
      | (go_at_call 45; refine (L3.out _).mono ?_; rintro e v3 ⟨o3, rfl, ho3, hb3⟩; obtain ⟨p3, c3, rfl, hc3, hr3⟩ := ho3.rd; first | (replace KD := (show Hid _ from Led.add KD.out hb3 hr3 hc3)) | (replace KD := (show Hid _ from Led.add (Led.mark KD.out) hb3 hr3 hc3)); clear ho3 hr3 hc3 hb3 L3)
      | (go_at_call 45; refine (L4.out _).mono ?_; rintro e v4 ⟨o4, rfl, ho4, hb4⟩; obtain ⟨p4, c4, rfl, hc4, hr4⟩ := ho4.rd; first | (replace KD := (show Hid _ from Led.add KD.out hb4 hr4 hc4)) | (replace KD := (show Hid _ from Led.add (Led.mark KD.out) hb4 hr4 hc4)); clear ho4 hr4 hc4 hb4 L4)
      | (go_at_call 45; refine (L5.out _).mono ?_; rintro e v5 ⟨o5, rfl, ho5, hb5⟩; obtain ⟨p5, c5, rfl, hc5, hr5⟩ := ho5.rd; first | (replace KD := (show Hid _ from Led.add KD.out hb5 hr5 hc5)) | (replace KD := (show Hid _ from Led.add (Led.mark KD.out) hb5 hr5 hc5)); clear ho5 hr5 hc5 hb5 L5)
      | (go_at_call 45; refine (L6.out _).mono ?_; rintro e v6 ⟨o6, rfl, ho6, hb6⟩; obtain ⟨p6, c6, rfl, hc6, hr6⟩ := ho6.rd; first | (replace KD := (show Hid _ from Led.add KD.out hb6 hr6 hc6)) | (replace KD := (show Hid _ from Led.add (Led.mark KD.out) hb6 hr6 hc6)); clear ho6 hr6 hc6 hb6 L6)
      | (go_at_call 45; refine (L7.out _).mono ?_; rintro e v7 ⟨o7, rfl, ho7, hb7⟩; obtain ⟨p7, c7, rfl, hc7, hr7⟩ := ho7.rd; first | (replace KD := (show Hid _ from Led.add KD.out hb7 hr7 hc7)) | (replace KD := (show Hid _ from Led.add (Led.mark KD.out) hb7 hr7 hc7)); clear ho7 hr7 hc7 hb7 L7)
      | (go_at_call 42; first
          | (refine (rjoin_any (bl := [mk8, h.st, lb 1 K, lb 1 M, lb 4 B, lb 4 Z, lb 1 X, lb 4 E, lb 4 C, lb 1 Y]) (rws10 (Led.lg KD.out) rfl (by simp) (by simp) (by simp) (by simp) (by simp) (by simp) (by simp) (by simp) (by simp) (by simp)) 10 10 rfl (by decide) FL.out).mono ?_; rintro e v9 ⟨o9, rfl, ho9, hb9⟩; have JD := (show Hid _ from ho9.mono (KD.out.al _).kept.size); have JB := (show Hid (Below w.heap.size w v9) from bt (KD.out.al _).kept hb9); replace KD := (show Hid _ from (KD.out.al _).go hb9))
          | (refine (rjoin_any (bl := [mk8, h.st, lb 1 K, lb 1 M, lb 4 B, lb 4 Z, lb 1 X, lb 4 E, lb 4 C, lb 1 Y]) (rws10 (Led.lg (Led.mark KD.out)) (sz_al _ _) (by simp) (by simp) (by simp) (by simp) (by simp) (by simp) (by simp) (by simp) (by simp) (by simp)) 10 10 rfl (by decide) FL.out).mono ?_; rintro e v9 ⟨o9, rfl, ho9, hb9⟩; have JD := (show Hid _ from ho9.mono ((Led.mark KD.out).al _).kept.size); have JB := (show Hid (Below w.heap.size w v9) from bt ((Led.mark KD.out).al _).kept hb9); replace KD := (show Hid _ from ((Led.mark KD.out).al _).go hb9)))
      | (go_at_call 45; refine (L8.out _).mono ?_; rintro e v8 ⟨o8, rfl, ho8, hb8⟩; obtain ⟨p8, c8, rfl, hc8, hr8⟩ := ho8.rd; first | (replace KD := (show Hid _ from Led.add KD.out hb8 hr8 hc8)) | (replace KD := (show Hid _ from Led.add (Led.mark KD.out) hb8 hr8 hc8)); clear ho8 hr8 hc8 hb8 L8))
  all_goals
    go_wp2_with (fail)
    go_ret
    refine ⟨_, rfl, ?_, JB.out⟩
    rw [← FE.out]
    exact JD.out
theorem rfixed_any (h : Hd) (ok : h.Ok) (w : World) :
    Calls Try.prog 63 #[.agg h.cs] w fun e w' => ∃ v, e = .returned v ∧ Ow w' w.heap.size v h.fx ∧ Below w.heap.size w w' := by
  have k1 := ok.k1
  have k2 := ok.k2
  have m1 := ok.m1
  have m2 := ok.m2
  have b1 := ok.b1
  have b2 := ok.b2
  have s1 := ok.s1
  have s2 := ok.s2
  have x1 := ok.x1
  have x2 := ok.x2
  have km := ok.km
  have e1 := ok.e1
  have e2 := ok.e2
  have c1 := ok.c1
  have c2 := ok.c2
  have y2 := ok.y2
  exact rfixed_nat h h.k.toNat h.m.toNat h.b.toNat h.sz.toNat h.ix.toNat h.ep.toNat h.ct.toNat h.key.length (by omega) (by omega) (by omega) (by omega) (by omega) (by omega) (by omega) rfl (by omega) (by omega) (by omega) (by omega) (by omega) (by omega) (by omega) (by omega) w
end
end Go.Proofs.Ytgggmdmhcaehlaa
/-
  The document's own functions of layer 8: HeadSum.
-/
namespace Go.Proofs.Ytgggmdmhcaehlaa
open Go.RowKit
theorem rws2 {w : World} {L : List (Value × List (BitVec 8))} (h : Lg w L) {v0 v1 : Value} {x0 x1 : List (BitVec 8)} {T : TypeId} {n : Nat} (hn : w.heap.size = n) (m0 : (v0, x0) ∈ L) (m1 : (v1, x1) ∈ L) : Rws (w.alloc (.cells #[v0, v1] T)) (some ⟨n, 0, none⟩) [x0, x1] := by
  subst hn
  refine rws_new h [v0, v1] [x0, x1] rfl (fun i hi => ?_) T
  have hi' : i < 2 := hi
  match i, hi' with
  | 0, _ => exact m0
  | 1, _ => exact m1
theorem Led.all {w0 w : World} {g : Nat} {h : Hd} {L : List (Value × List (BitVec 8))} (H : Led w0 w g h L) : w.cell? ⟨g, 0, none⟩ = some (.int .u8 (el h.a0)) ∧ w.cell? ⟨g, 1, none⟩ = some (.int .u8 (el h.a1)) ∧ w.cell? ⟨g, 2, none⟩ = some (.int .u8 (el h.a2)) ∧ w.cell? ⟨g, 3, none⟩ = some (.int .u8 (el h.a3)) ∧ w.cell? ⟨g, 4, none⟩ = some (.int .u8 (el h.a4)) ∧ w.cell? ⟨g, 5, none⟩ = some (.int .u8 (el h.a5)) ∧ w.cell? ⟨g, 6, none⟩ = some (.int .u8 (el h.a6)) ∧ w.cell? ⟨g, 7, none⟩ = some (.int .u8 (el h.a7)) ∧ w.cell? ⟨g, 8, none⟩ = some (.int .i64 h.k) ∧ w.cell? ⟨g, 9, none⟩ = some (.int .i64 h.m) ∧ w.cell? ⟨g, 10, none⟩ = some (.int .i64 h.b) ∧ w.cell? ⟨g, 11, none⟩ = some (.string (bstr h.key)) ∧ w.cell? ⟨g, 12, none⟩ = some (.int .i64 h.sz) ∧ w.cell? ⟨g, 13, none⟩ = some (.int .i64 h.ix) ∧ w.cell? ⟨g, 14, none⟩ = some (.int .i64 h.ep) ∧ w.cell? ⟨g, 15, none⟩ = some (.int .i64 h.ct) := by
  have A : ∀ i u, h.cs[i]? = some u → w.cell? ⟨g, i, none⟩ = some u := fun i u hu => by
    have h1 := H.1
    unfold HdAt at h1
    rw [cell_of_row w g i _ _ (0, 0) h1]; exact hu
  exact ⟨A 0 _ rfl, A 1 _ rfl, A 2 _ rfl, A 3 _ rfl, A 4 _ rfl, A 5 _ rfl, A 6 _ rfl, A 7 _ rfl, A 8 _ rfl, A 9 _ rfl, A 10 _ rfl, A 11 _ rfl, A 12 _ rfl, A 13 _ rfl, A 14 _ rfl, A 15 _ rfl⟩
theorem bw_size (w : World) (s : ByteArray) : (Lib.bytesWorld w 5 s).heap.size = w.heap.size + 1 := by
  exact Lib.bytesWorld_size w _ s
theorem Led.conv {w0 w : World} {g : Nat} {h : Hd} {L : List (Value × List (BitVec 8))} (H : Led w0 w g h L) (ys : List (BitVec 8)) (c : Nat) (hc : ys.length ≤ c) : Led w0 (Lib.bytesWorld w 5 (bstr ys)) g h ((.slice (some ⟨w.heap.size, 0, none⟩) ys.length c, ys) :: L) :=
  H.add (xs := ys) (bytesWorld_below w _) (bytesWorld_rd w ys) hc
theorem conv_st (w : World) (ys : List (BitVec 8)) : (convert 9 32 (.string (bstr ys))).run Try.prog w = .ok (.slice (some ⟨w.heap.size, 0, none⟩) ys.length (grownCap w ys.length 0 5)) (Lib.bytesWorld w 5 (bstr ys)) := by
  have hr := Lib.run_convert_string_bytes (P := Try.prog) w 9 32 5 (bstr ys) undS Try.underlying32 und5
  rw [bstr_size] at hr
  exact hr
theorem Led.any {w0 w : World} {g : Nat} {h : Hd} {L : List (Value × List (BitVec 8))} (H : Led w0 w g h L) : Led w0 w g h [] := ⟨H.1, fun q hq => (by cases hq), H.2.2⟩
theorem Led.hd {w0 w : World} {g : Nat} {h : Hd} {L : List (Value × List (BitVec 8))} (H : Led w0 w g h L) : HdAt w g h := H.1
theorem ex_ldH8 {o : Oper} {a : Act} {X : World} {h : Hd} (x : Operand) (ho : o.op = .load 28 x) (g : Nat) (hx : a.eval x = .pointer (some ⟨g, 0, none⟩)) (H : HdAt X g h) : (execOp a.eval o).run Try.prog X = .ok (.value (.agg h.cs)) X := by
  have hl := run_loadVar_in (P := Try.prog) X g 28 h.cs _ (fun j v hj => by unfold HdAt at H; rw [cell_of_row _ _ _ _ _ (0, 0) H]; simpa using hj) Try.underlying28 rfl sizeHd
  unfold execOp
  simp only [ho, hx, Instr.loadAt, Instr.sureAddr, Sem.run_bind, Sem.run_pure, Result.andThen_ok, hl]
theorem takeHr {P : Program} {ops : Array Oper} {Q : Exit → Act → World → Prop} {md : Region.Mode} {S : World → Prop} {i : Nat} {oi : Oper} {d : Option Tmp} {v : Value} {fuel : Nat} {listed : Array Bool} {a : Act} {w : World} (hi : ops[i]? = some oi) (hd : oi.dst = d)
    (hs : Region.noSelect ops = true) (hf : Region.free md ops listed i = true) (hr : (Region.ready md ops listed).contains i = true)
    (hQ : ∀ c a w, Q (.panic c) (a.put oi.dst v) w → Q (.panic c) a w) (hy : YieldsIf P ops S oi v a) (hS : S w)
    (h : wpAnyH P md ops Q S fuel (listed.setIfInBounds i true) (a.put d v) w) : wpAnyH P md ops Q S (fuel + 1) listed a w := by
  subst hd; exact wpAnyH_take hi hs hf hr hQ hy hS h
section
attribute [local irreducible] Calls rg el lb Hd.cs Led
set_option maxHeartbeats 16000000 in
set_option maxRecDepth 1000000 in
theorem rheadSum_any (h : Hd) (ok : h.Ok) (w : World) :
    Calls Try.prog 44 #[.agg h.cs] w fun e w' => e = .returned (.int .i64 (rg h.s2)) ∧ Below w.heap.size w w' := by
  have al : ∀ (W : World) (o : Obj), Below W.heap.size W (W.alloc o) := fun W o => (Below.refl _ _).alloc (Nat.le_refl _) o
  have HA := HdAt.new w h
  have LH := (show Hid (Led w (w.alloc (.cells h.cs 28)) w.heap.size h []) from by
    show Led _ _ _ _ _
    unfold Led
    refine ⟨HA, ?_, al _ _⟩
    intro q hq
    cases hq)
  have FX := (show Hid (∀ W, _) from fun W => rfixed_any h ok W)
  have EQ := (show Hid (cmo 0#32 (h.fx ++ h.key) = h.s2) from by show _ = _; unfold Hd.s2 Hd.s1; rw [cmo_app])
  have FE := (show Hid ([h.fx, h.key].flatten = h.fx ++ h.key) from by show _ = _; simp)
  have FM := (show Hid (h.fx.length + h.key.length ≤ 140737488355328) from by have := ok.y2; have := h.fx_len; show _ ≤ _; omega)
  have FL := (show Hid ([h.fx, h.key].flatten.length ≤ 140737488355000) from by have := ok.y2; have := h.fx_len; show _ ≤ _; simp; omega)
  have hcs : (#[.int .u8 (el h.a0), .int .u8 (el h.a1), .int .u8 (el h.a2), .int .u8 (el h.a3), .int .u8 (el h.a4), .int .u8 (el h.a5), .int .u8 (el h.a6), .int .u8 (el h.a7), .int .i64 h.k, .int .i64 h.m, .int .i64 h.b, .string (bstr h.key), .int .i64 h.sz, .int .i64 h.ix, .int .i64 h.ep, .int .i64 h.ct] : Array Value) = h.cs := by unfold Hd.cs; rfl
  have HS := (show Hid (∀ (W : World) (L : List (Value × List (BitVec 8))), Led w W w.heap.size h L → W.cell? ⟨w.heap.size, 0, none⟩ = some (.int .u8 (el h.a0)) ∧ W.cell? ⟨w.heap.size, 1, none⟩ = some (.int .u8 (el h.a1)) ∧ W.cell? ⟨w.heap.size, 2, none⟩ = some (.int .u8 (el h.a2)) ∧ W.cell? ⟨w.heap.size, 3, none⟩ = some (.int .u8 (el h.a3)) ∧ W.cell? ⟨w.heap.size, 4, none⟩ = some (.int .u8 (el h.a4)) ∧ W.cell? ⟨w.heap.size, 5, none⟩ = some (.int .u8 (el h.a5)) ∧ W.cell? ⟨w.heap.size, 6, none⟩ = some (.int .u8 (el h.a6)) ∧ W.cell? ⟨w.heap.size, 7, none⟩ = some (.int .u8 (el h.a7)) ∧ W.cell? ⟨w.heap.size, 8, none⟩ = some (.int .i64 h.k) ∧ W.cell? ⟨w.heap.size, 9, none⟩ = some (.int .i64 h.m) ∧ W.cell? ⟨w.heap.size, 10, none⟩ = some (.int .i64 h.b) ∧ W.cell? ⟨w.heap.size, 11, none⟩ = some (.string (bstr h.key)) ∧ W.cell? ⟨w.heap.size, 12, none⟩ = some (.int .i64 h.sz) ∧ W.cell? ⟨w.heap.size, 13, none⟩ = some (.int .i64 h.ix) ∧ W.cell? ⟨w.heap.size, 14, none⟩ = some (.int .i64 h.ep) ∧ W.cell? ⟨w.heap.size, 15, none⟩ = some (.int .i64 h.ct)) from fun W L hL => Led.all hL)
  have cv := fun W : World => conv_st W h.key
  have CG := (show Hid (∀ W : World, h.key.length ≤ grownCap W h.key.length 0 5) from fun W => grownCap_ge W _ _ _)
  have CS := (show Hid (∀ W : World, (Lib.bytesWorld W 5 (bstr h.key)).heap.size = W.heap.size + 1) from fun W => bw_size W _)
  clear HA ok
  go_enter Try.func44, Try.ntmps44
  go_wp2_with (fail)
  have KD := (show Hid (Led w (w.alloc (.cells h.cs 28)).drew w.heap.size h []) from LH.out.go ((Below.refl _ _).drew))
  clear LH
  refine wp_region_held_drew (S := fun X => Led w X w.heap.size h []) (by kernel_rfl) KD.out (fun hHeld => ?_)
  refine takeHr (i := 0) (d := some 3) (v := .agg h.cs) rfl rfl (by kernel_rfl) (by kernel_rfl) (by kernel_rfl) (fun _ _ _ h => h) (Or.inl ⟨by rfl, ?hy0⟩) hHeld ?rest0
  case hy0 => intro X hSw; exact ex_ldH8 _ rfl w.heap.size rfl (Led.hd hSw)
  try simp only [Act.put, List.setIfInBounds_toArray, List.set_cons_zero, List.set_cons_succ]
  refine takeHr (i := 2) (d := some 5) (v := ?v2) rfl rfl (by kernel_rfl) (by kernel_rfl) (by kernel_rfl) (fun _ _ _ h => h) (Or.inl ⟨by rfl, ?hy2⟩) hHeld ?rest2
  case hy2 => intro X hSw; (try dsimp only at hSw); go_simp <;> with_reducible rfl
  try simp only [Act.put, List.setIfInBounds_toArray, List.set_cons_zero, List.set_cons_succ]
  refine takeHr (i := 3) (d := some 6) (v := .string (bstr h.key)) rfl rfl (by kernel_rfl) (by kernel_rfl) (by kernel_rfl) (fun _ _ _ h => h) (Or.inl ⟨by rfl, ?hy3⟩) hHeld ?rest3
  case hy3 => intro X hSw; have k11 := (Led.cells hSw).2.2.2.1; go_simp <;> with_reducible rfl
  try simp only [Act.put, List.setIfInBounds_toArray, List.set_cons_zero, List.set_cons_succ]
  refine wpAnyH_ready (rs := [1, 4]) (by kernel_rfl) (by simp) ?_
  refine AllReadyH.cons (o := { dst := some 4, op := Op.call { callee := Callee.value (Operand.func 63), args := #[Operand.tmp 3], argTypes := #[28] }, type := 32, pos := "frame.go:148", after := #[{ on := 0, ground := Ground.data }], guard := none }) rfl (fun Kq hKq => ?_) (AllReadyH.cons (o := { dst := some 7, op := Op.convert 9 32 (Operand.tmp 6), type := 32, pos := "frame.go:148", after := #[{ on := 3, ground := Ground.data }], guard := none }) rfl (fun Kq hKq => ?_) AllReadyH.nil)
  · go_simp
    refine (FX.out _).mono ?_
    rintro e v1 ⟨o1, rfl, ho1, hb1⟩
    obtain ⟨p1, c1, rfl, hc1, hr1⟩ := ho1.rd
    have KF := (show Hid _ from Led.add KD.out hb1 hr1 hc1)
    refine hKq.out _ _ (Led.any KF.out) (fun _ => ?_)
    clear hKq Kq
    try simp only [Act.put, List.setIfInBounds_toArray, List.set_cons_zero, List.set_cons_succ]
    refine wpAnyH_ready (rs := [4]) (by kernel_rfl) (by simp) ?_
    refine AllReadyH.cons (o := { dst := some 7, op := Op.convert 9 32 (Operand.tmp 6), type := 32, pos := "frame.go:148", after := #[{ on := 3, ground := Ground.data }], guard := none }) rfl (fun Kq hKq => ?_) AllReadyH.nil
    go_simp
    have KG := (show Hid _ from Led.conv KF.out h.key _ (CG.out v1))
    refine hKq.out _ _ (Led.any KG.out) (fun _ => ?_)
    clear hKq Kq
    try simp only [Act.put, List.setIfInBounds_toArray, List.set_cons_zero, List.set_cons_succ]
    refine wpAnyH_ready (rs := [5]) (by kernel_rfl) (by simp) ?_
    refine AllReadyH.cons (o := { dst := some 8, op := Op.buildSlice 29 2 #[(0, Operand.tmp 4), (1, Operand.tmp 7)], type := 29, pos := "frame.go:148", after := #[{ on := 1, ground := Ground.data }, { on := 4, ground := Ground.data }], guard := none }) rfl (fun Kq hKq => ?_) AllReadyH.nil
    go_simp
    refine hKq.out _ _ (Led.any (KG.out.al _)) (fun _ => ?_)
    clear hKq Kq
    try simp only [Act.put, List.setIfInBounds_toArray, List.set_cons_zero, List.set_cons_succ]
    refine wpAnyH_ready (rs := [6]) (by kernel_rfl) (by simp) ?_
    refine AllReadyH.cons (o := { dst := some 9, op := Op.call { callee := Callee.value (Operand.func 42), args := #[Operand.tmp 8], argTypes := #[29] }, type := 32, pos := "frame.go:148", after := #[{ on := 5, ground := Ground.data }, { on := 1, ground := Ground.chain }], guard := none }) rfl (fun Kq hKq => ?_) AllReadyH.nil
    go_simp
    refine (rjoin_any (bl := [h.fx, h.key]) (rws2 (Led.lg KG.out) rfl (by simp) (by simp)) 2 2 rfl (by decide) FL.out).mono ?_
    rintro e v9 ⟨o9, rfl, ho9, hb9⟩
    obtain ⟨p9, c9, rfl, hc9, hr9⟩ := ho9.rd
    have JD := (show Hid (Rd v9 p9 (h.fx ++ h.key)) from by rw [← FE.out]; exact hr9)
    have KE := (show Hid (Led w v9 w.heap.size h []) from Led.any ((KG.out.al _).go hb9))
    rw [FE.out]
    refine hKq.out _ _ KE.out (fun _ => ?_)
    clear hKq Kq
    try simp only [Act.put, List.setIfInBounds_toArray, List.set_cons_zero, List.set_cons_succ]
    refine wpAnyH_ready (rs := [7]) (by kernel_rfl) (by simp) ?_
    refine AllReadyH.cons (o := { dst := some 10, op := Op.call { callee := Callee.value (Operand.func 41), args := #[Operand.tmp 9], argTypes := #[32] }, type := 3, pos := "frame.go:148", after := #[{ on := 6, ground := Ground.data }, { on := 6, ground := Ground.chain }], guard := none }) rfl (fun Kq hKq => ?_) AllReadyH.nil
    go_simp
    refine (rsum_any JD.out (h.fx.length + h.key.length) c9 (by simp) FM.out).mono ?_
    rintro e v10 ⟨rfl, h9⟩
    obtain rfl := h9.symm
    rw [EQ.out]
    refine hKq.out _ _ KE.out (fun hHeld => ?_)
    clear hKq Kq
    try simp only [Act.put, List.setIfInBounds_toArray, List.set_cons_zero, List.set_cons_succ]
    refine takeHr (i := 8) (d := some 2) (v := ?v8) rfl rfl (by kernel_rfl) (by kernel_rfl) (by kernel_rfl) (fun _ _ _ h => h) (Or.inl ⟨by rfl, ?hy8⟩) hHeld ?rest8
    case hy8 => intro X hSw; (try dsimp only at hSw); go_simp <;> with_reducible rfl
    try simp only [Act.put, List.setIfInBounds_toArray, List.set_cons_zero, List.set_cons_succ]
    refine wpAnyH_done (by kernel_rfl) ?_ _
    go_wp2_with (fail)
    go_ret
    exact ⟨rfl, KE.out.kept⟩
  · go_simp
    have KF := (show Hid _ from Led.conv KD.out h.key _ (CG.out (w.alloc (.cells h.cs 28)).drew))
    refine hKq.out _ _ (Led.any KF.out) (fun _ => ?_)
    clear hKq Kq
    try simp only [Act.put, List.setIfInBounds_toArray, List.set_cons_zero, List.set_cons_succ]
    refine wpAnyH_ready (rs := [1]) (by kernel_rfl) (by simp) ?_
    refine AllReadyH.cons (o := { dst := some 4, op := Op.call { callee := Callee.value (Operand.func 63), args := #[Operand.tmp 3], argTypes := #[28] }, type := 32, pos := "frame.go:148", after := #[{ on := 0, ground := Ground.data }], guard := none }) rfl (fun Kq hKq => ?_) AllReadyH.nil
    go_simp
    refine (FX.out _).mono ?_
    rintro e v1 ⟨o1, rfl, ho1, hb1⟩
    obtain ⟨p1, c1, rfl, hc1, hr1⟩ := ho1.rd
    have KG := (show Hid _ from Led.add KF.out hb1 hr1 hc1)
    refine hKq.out _ _ (Led.any KG.out) (fun _ => ?_)
    clear hKq Kq
    try simp only [Act.put, List.setIfInBounds_toArray, List.set_cons_zero, List.set_cons_succ]
    refine wpAnyH_ready (rs := [5]) (by kernel_rfl) (by simp) ?_
    refine AllReadyH.cons (o := { dst := some 8, op := Op.buildSlice 29 2 #[(0, Operand.tmp 4), (1, Operand.tmp 7)], type := 29, pos := "frame.go:148", after := #[{ on := 1, ground := Ground.data }, { on := 4, ground := Ground.data }], guard := none }) rfl (fun Kq hKq => ?_) AllReadyH.nil
    go_simp
    refine hKq.out _ _ (Led.any (KG.out.al _)) (fun _ => ?_)
    clear hKq Kq
    try simp only [Act.put, List.setIfInBounds_toArray, List.set_cons_zero, List.set_cons_succ]
    refine wpAnyH_ready (rs := [6]) (by kernel_rfl) (by simp) ?_
    refine AllReadyH.cons (o := { dst := some 9, op := Op.call { callee := Callee.value (Operand.func 42), args := #[Operand.tmp 8], argTypes := #[29] }, type := 32, pos := "frame.go:148", after := #[{ on := 5, ground := Ground.data }, { on := 1, ground := Ground.chain }], guard := none }) rfl (fun Kq hKq => ?_) AllReadyH.nil
    go_simp
    refine (rjoin_any (bl := [h.fx, h.key]) (rws2 (Led.lg KG.out) rfl (by simp) (by simp)) 2 2 rfl (by decide) FL.out).mono ?_
    rintro e v9 ⟨o9, rfl, ho9, hb9⟩
    obtain ⟨p9, c9, rfl, hc9, hr9⟩ := ho9.rd
    have JD := (show Hid (Rd v9 p9 (h.fx ++ h.key)) from by rw [← FE.out]; exact hr9)
    have KE := (show Hid (Led w v9 w.heap.size h []) from Led.any ((KG.out.al _).go hb9))
    rw [FE.out]
    refine hKq.out _ _ KE.out (fun _ => ?_)
    clear hKq Kq
    try simp only [Act.put, List.setIfInBounds_toArray, List.set_cons_zero, List.set_cons_succ]
    refine wpAnyH_ready (rs := [7]) (by kernel_rfl) (by simp) ?_
    refine AllReadyH.cons (o := { dst := some 10, op := Op.call { callee := Callee.value (Operand.func 41), args := #[Operand.tmp 9], argTypes := #[32] }, type := 3, pos := "frame.go:148", after := #[{ on := 6, ground := Ground.data }, { on := 6, ground := Ground.chain }], guard := none }) rfl (fun Kq hKq => ?_) AllReadyH.nil
    go_simp
    refine (rsum_any JD.out (h.fx.length + h.key.length) c9 (by simp) FM.out).mono ?_
    rintro e v10 ⟨rfl, h9⟩
    obtain rfl := h9.symm
    rw [EQ.out]
    refine hKq.out _ _ KE.out (fun hHeld => ?_)
    clear hKq Kq
    try simp only [Act.put, List.setIfInBounds_toArray, List.set_cons_zero, List.set_cons_succ]
    refine takeHr (i := 8) (d := some 2) (v := ?v8b) rfl rfl (by kernel_rfl) (by kernel_rfl) (by kernel_rfl) (fun _ _ _ h => h) (Or.inl ⟨by rfl, ?hy8b⟩) hHeld ?rest8b
    case hy8b => intro X hSw; (try dsimp only at hSw); go_simp <;> with_reducible rfl
    try simp only [Act.put, List.setIfInBounds_toArray, List.set_cons_zero, List.set_cons_succ]
    refine wpAnyH_done (by kernel_rfl) ?_ _
    go_wp2_with (fail)
    go_ret
    exact ⟨rfl, KE.out.kept⟩
end
end Go.Proofs.Ytgggmdmhcaehlaa
/-
  The document's own functions of layer 8: ParseHead.
-/
namespace Go.Proofs.Ytgggmdmhcaehlaa
open Go.RowKit
theorem bd8 {B : Nat} {a w : World} (h : Below B a w) (n : Nat) : Below B a (w.drewN n) := ⟨h.os, h.tape, h.output, h.size, h.block⟩
theorem nat_bne (a b : Nat) : ((a : Int) != (b : Int)) = decide (¬ a = b) := by
  by_cases e : a = b
  · rw [e]; simp
  · have : ¬ (a : Int) = (b : Int) := by omega
    simp [this, e]
theorem el_ne (x : BitVec 8) (k : Nat) (hk : k < 256) : (el x != (k : Int)) = decide (x ≠ BitVec.ofNat 8 k) := by
  have h : (el x = (k : Int)) ↔ x = BitVec.ofNat 8 k := by
    constructor
    · intro h
      apply BitVec.eq_of_toNat_eq
      rw [BitVec.toNat_ofNat]
      unfold el at h
      have := x.isLt
      omega
    · intro h; rw [h]; unfold el; rw [BitVec.toNat_ofNat]; omega
  by_cases e : x = BitVec.ofNat 8 k
  · have h2 := h.2 e
    rw [h2, e]; simp
  · have : ¬ el x = (k : Int) := fun c => e (h.1 c)
    simp [this, e]
theorem take4 (bs : List (BitVec 8)) (hl : 4 ≤ bs.length) : bs.take 4 = mk8 ↔ bs.getD 0 0#8 = 67#8 ∧ bs.getD 1 0#8 = 82#8 ∧ bs.getD 2 0#8 = 78#8 ∧ bs.getD 3 0#8 = 2#8 := by
  match bs, hl with
  | a :: b :: c :: d :: r, _ => simp [mk8]
/-- A head whose first t bytes are read. -/
def hst (bs : List (BitVec 8)) (t : Nat) : Hd :=
  ⟨if 0 < t then bs.getD 4 0#8 else 0#8, if 1 < t then bs.getD 5 0#8 else 0#8, if 2 < t then bs.getD 6 0#8 else 0#8, if 3 < t then bs.getD 7 0#8 else 0#8, if 4 < t then bs.getD 8 0#8 else 0#8, if 5 < t then bs.getD 9 0#8 else 0#8, if 6 < t then bs.getD 10 0#8 else 0#8, if 7 < t then bs.getD 11 0#8 else 0#8, 0, 0, 0, [], 0, 0, 0, 0⟩
theorem hst_zero (bs : List (BitVec 8)) : hst bs 0 = hd0 := rfl
theorem hst_set {w : World} {g : Nat} {bs : List (BitVec 8)} {t : Nat} (H : HdAt w g (hst bs t)) (ht : t < 8) : HdAt (w.setCell ⟨g, t, none⟩ (.int .u8 (el (bs.getD (4 + t) 0#8)))) g (hst bs (t + 1)) := by
  unfold HdAt at *
  rw [heap_setCell_same w g t _ _ _ H]
  match t, ht with
  | 0, _ => rfl
  | 1, _ => rfl
  | 2, _ => rfl
  | 3, _ => rfl
  | 4, _ => rfl
  | 5, _ => rfl
  | 6, _ => rfl
  | 7, _ => rfl
theorem HdAt.byte8 {w : World} {g : Nat} {h : Hd} (H : HdAt w g h) {t : Nat} (ht : t < 8) : ∃ old, w.cell? ⟨g, t, none⟩ = some old := by
  unfold HdAt at H
  rw [cell_of_row w g t _ _ (0, 0) H]
  have : t < h.cs.size := Nat.lt_of_lt_of_le ht (by decide : 8 ≤ 16)
  exact ⟨_, Array.getElem?_eq_getElem this⟩
theorem HdAt.frozen8 {w : World} {g : Nat} {h : Hd} (H : HdAt w g h) (i : Nat) : w.frozen? ⟨g, i, none⟩ = false := frozen_of_row w g i _ _ H
theorem hd_set {w : World} {g : Nat} {h : Hd} (H : HdAt w g h) (z : Int) :
    HdAt (w.setCell ⟨g, 8, none⟩ (.int .i64 z)) g { h with k := z } ∧ HdAt (w.setCell ⟨g, 9, none⟩ (.int .i64 z)) g { h with m := z } ∧ HdAt (w.setCell ⟨g, 10, none⟩ (.int .i64 z)) g { h with b := z } ∧ HdAt (w.setCell ⟨g, 12, none⟩ (.int .i64 z)) g { h with sz := z } ∧ HdAt (w.setCell ⟨g, 13, none⟩ (.int .i64 z)) g { h with ix := z } ∧ HdAt (w.setCell ⟨g, 14, none⟩ (.int .i64 z)) g { h with ep := z } ∧ HdAt (w.setCell ⟨g, 15, none⟩ (.int .i64 z)) g { h with ct := z } := by
  unfold HdAt at *
  exact ⟨heap_setCell_same w g 8 _ _ _ H, heap_setCell_same w g 9 _ _ _ H, heap_setCell_same w g 10 _ _ _ H, heap_setCell_same w g 12 _ _ _ H, heap_setCell_same w g 13 _ _ _ H, heap_setCell_same w g 14 _ _ _ H, heap_setCell_same w g 15 _ _ _ H⟩
theorem hd_key {w : World} {g : Nat} {h : Hd} (H : HdAt w g h) (ys : List (BitVec 8)) : HdAt (w.setCell ⟨g, 11, none⟩ (.string (bstr ys))) g { h with key := ys } := by
  unfold HdAt at *
  exact heap_setCell_same w g 11 _ _ _ H
theorem cutl_take (bs : List (BitVec 8)) (a n : Nat) (h : a + n ≤ 32) : cutl (bs.take 32) a n = cutl bs a n := by
  unfold cutl
  rw [List.drop_take, List.take_take, Nat.min_eq_left (by omega)]
theorem lv_one (bs : List (BitVec 8)) (a : Nat) (h : a < bs.length) : ((lv (cutl bs a 1) : Nat) : Int) = el (bs.getD a 0#8) := by
  have e : cutl bs a 1 = [bs.getD a 0#8] := by
    have := cutl_front bs a 0 h
    rw [this]
    congr 1
  rw [e, lv_cons8]
  unfold el
  show ((_ + 256 * lv [] : Nat) : Int) = _
  unfold lv
  simp
theorem getD_take (bs : List (BitVec 8)) (i : Nat) (h : i < 32) : (bs.take 32).getD i 0#8 = bs.getD i 0#8 := by
  simp [List.getD, List.getElem?_take_of_lt h]
/-- The head that is read, field by field. -/
theorem rhd_is (bs : List (BitVec 8)) (K : Nat) (hl : 32 ≤ bs.length) : rhd (bs.take 32) (cutl bs 36 K) = { hst bs 8 with k := el (bs.getD 12 0#8), m := el (bs.getD 13 0#8), b := ((lv (cutl bs 14 4) : Nat) : Int), key := cutl bs 36 K, sz := ((lv (cutl bs 18 4) : Nat) : Int), ix := el (bs.getD 22 0#8), ep := ((lv (cutl bs 23 4) : Nat) : Int), ct := ((lv (cutl bs 27 4) : Nat) : Int) } := by
  unfold rhd
  rw [cutl_take bs 12 1 (by omega), cutl_take bs 13 1 (by omega), cutl_take bs 14 4 (by omega), cutl_take bs 18 4 (by omega), cutl_take bs 22 1 (by omega), cutl_take bs 23 4 (by omega), cutl_take bs 27 4 (by omega), lv_one bs 12 (by omega), lv_one bs 13 (by omega), lv_one bs 22 (by omega)]
  rw [getD_take bs 4 (by omega), getD_take bs 5 (by omega), getD_take bs 6 (by omega), getD_take bs 7 (by omega), getD_take bs 8 (by omega), getD_take bs 9 (by omega), getD_take bs 10 (by omega), getD_take bs 11 (by omega)]
  rfl
section
attribute [local irreducible] Calls el Hd.cs cmo rg lv cutl kl hst chk rhd
set_option maxHeartbeats 16000000 in
set_option maxRecDepth 1000000 in
theorem rpHead_some {w : World} {gb go : Nat} {bs : List (BitVec 8)} (hr : Rd w (some ⟨gb, go, none⟩) bs) (n c : Nat) (hn : bs.length = n) (hc : n ≤ c) (hcc : n ≤ 140737488355328) (h1 : ¬ n < 36) :
    Calls Try.prog 12 #[.slice (some ⟨gb, go, none⟩) n c] w fun e w' => e = .returned (.tuple #[.agg (pH bs).2.cs, .int .i64 (pH bs).1]) ∧ Below w.heap.size w w' := by
  have al : ∀ (W : World) (o : Obj), Below W.heap.size W (W.alloc o) := fun W o => (Below.refl _ _).alloc (Nat.le_refl _) o
  obtain ⟨W1, hW1⟩ : ∃ W1, W1 = (w.alloc (.cells #[.int .u8 0, .int .u8 0, .int .u8 0, .int .u8 0, .int .u8 0, .int .u8 0, .int .u8 0, .int .u8 0, .int .i64 0, .int .i64 0, .int .i64 0, .string ⟨#[]⟩, .int .i64 0, .int .i64 0, .int .i64 0, .int .i64 0] 28)).alloc (.cells #[.int .u8 0, .int .u8 0, .int .u8 0, .int .u8 0, .int .u8 0, .int .u8 0, .int .u8 0, .int .u8 0, .int .i64 0, .int .i64 0, .int .i64 0, .string ⟨#[]⟩, .int .i64 0, .int .i64 0, .int .i64 0, .int .i64 0] 28) := ⟨_, rfl⟩
  have HZ := (show Hid (HdAt W1 w.heap.size hd0) from by rw [hW1]; exact HdAt.below (hz0 (heap_alloc_new w _)) (al _ _))
  have HY := (show Hid (HdAt W1 (w.heap.size + 1) hd0) from by
    have h9 := heap_alloc_new (w.alloc (.cells #[.int .u8 0, .int .u8 0, .int .u8 0, .int .u8 0, .int .u8 0, .int .u8 0, .int .u8 0, .int .u8 0, .int .i64 0, .int .i64 0, .int .i64 0, .string ⟨#[]⟩, .int .i64 0, .int .i64 0, .int .i64 0, .int .i64 0] 28)) (.cells #[.int .u8 0, .int .u8 0, .int .u8 0, .int .u8 0, .int .u8 0, .int .u8 0, .int .u8 0, .int .u8 0, .int .i64 0, .int .i64 0, .int .i64 0, .string ⟨#[]⟩, .int .i64 0, .int .i64 0, .int .i64 0, .int .i64 0] 28)
    rw [sz_al] at h9
    rw [hW1]; exact hz0 h9)
  have BW := (show Hid (Below w.heap.size w W1) from by rw [hW1]; exact bt (al _ _) (al _ _))
  have HW1 := (show Hid _ from hW1.symm)
  clear hW1
  have HR := (show Hid (Rd w (some ⟨gb, go, none⟩) bs) from hr)
  have i0 : ¬ (n : Int) < 36 := by omega
  have HN := (show Hid (bs.length = n ∧ n ≤ c ∧ n ≤ 140737488355328 ∧ ¬ n < 36) from ⟨hn, hc, hcc, h1⟩)
  clear hr hn hc hcc h1
  -- what every refusal does
  go_enter Try.func12, Try.ntmps12
  go_upto_region 4 with fail
  rw [HW1.out]
  have c0 := Rd.byte (HR.out.below BW.out) 0 (by have := HN.out; omega)
  have c1 := Rd.byte (HR.out.below BW.out) 1 (by have := HN.out; omega)
  have c2 := Rd.byte (HR.out.below BW.out) 2 (by have := HN.out; omega)
  have c3 := Rd.byte (HR.out.below BW.out) 3 (by have := HN.out; omega)
  rw [Nat.add_zero] at c0
  have T4 := (show Hid _ from take4 bs (by have := HN.out; omega))
  have j3 : (3 : Int) < (n : Int) := by omega
  have j2 : (2 : Int) < (n : Int) := by omega
  have j1 : (1 : Int) < (n : Int) := by omega
  have j0 : (0 : Int) < (n : Int) := by omega
  by_cases h2 : bs.take 4 = mk8
  · obtain ⟨e0, e1, e2, e3⟩ := T4.out.1 h2
    rw [e0] at c0
    rw [e1] at c1
    rw [e2] at c2
    rw [e3] at c3
    have k0 : el 67#8 = 67 := by unfold el; rfl
    have k1 : el 82#8 = 82 := by unfold el; rfl
    have k2 : el 78#8 = 78 := by unfold el; rfl
    have k3 : el 2#8 = 2 := by unfold el; rfl
    have H2 := (show Hid _ from h2)
    clear e0 e1 e2 e3 h2 T4
    go_upto_region 6 with fail
    clear c0 c1 c2 c3 k0 k1 k2 k3
    have hrg : ∀ x : BitVec 32, rg x = (x.toNat : Int) := fun x => by unfold rg; rfl
    have NB := (show Hid (∀ z : Nat, _) from fun z => rnumber_any (w := W1.drewN z) (HR.out.below (bd8 BW.out z)) n c HN.out.1 HN.out.2.2.1 32 4 (by decide) (by have := HN.out; omega))
    have SB := (show Hid (∀ z c' : Nat, _) from fun z c' => rsum_any (w := W1.drewN z) ((HR.out.below (bd8 BW.out z)).take 32) 32 c' (by rw [List.length_take]; have := HN.out; omega) (by decide))
    have j32 : (32 : Int) ≤ (c : Int) := by have := HN.out; omega
    have H3 : lv (cutl bs 32 4) = (cmo 0#32 (bs.take 32)).toNat ∨ ¬ lv (cutl bs 32 4) = (cmo 0#32 (bs.take 32)).toNat := Decidable.em _
    have EQ3 := (show Hid (((lv (cutl bs 32 4) : Int) != rg (cmo 0#32 (bs.take 32))) = decide (¬ lv (cutl bs 32 4) = (cmo 0#32 (bs.take 32)).toNat)) from by
      show _ = _
      rw [hrg]
      exact nat_bne _ _)
    obtain ⟨V3, hV3⟩ : ∃ V3, V3 = lv (cutl bs 32 4) := ⟨_, rfl⟩
    obtain ⟨M3, hM3⟩ : ∃ M3, M3 = rg (cmo 0#32 (bs.take 32)) := ⟨_, rfl⟩
    rcases H3 with h3 | h3
    · have f3 := EQ3.out
      rw [decide_eq_false (by simpa using h3), ← hV3, ← hM3] at f3
      rw [← hV3] at NB
      rw [← hM3] at SB
      have H3 := (show Hid _ from h3)
      clear h3 hV3 hM3 EQ3 hrg
      go_quiet ((first | (go_at_call 40; exact Calls.quiet_of_same (NB.out _)) | (go_at_call 41; exact Calls.quiet_of_same (SB.out _ _))))
      obtain ⟨W2, hW2⟩ : ∃ W2, W2 = W1.drewN nq := ⟨_, rfl⟩
      rw [← hW2]
      replace HZ := (show Hid (HdAt W2 w.heap.size hd0) from by rw [hW2]; exact HdAt.below HZ.out (bd8 (Below.refl _ _) _))
      replace HY := (show Hid (HdAt W2 (w.heap.size + 1) hd0) from by rw [hW2]; exact HdAt.below HY.out (bd8 (Below.refl _ _) _))
      replace BW := (show Hid (Below w.heap.size w W2) from by rw [hW2]; exact bd8 BW.out _)
      clear hW2 f3 NB SB HW1
      have c31 := Rd.byte (HR.out.below BW.out) 31 (by have := HN.out; omega)
      rw [kl_el] at c31
      have hL := kl_lt bs
      have j31 : (31 : Int) < (n : Int) := by omega
      by_cases h4 : n < 40 + kl bs
      · have EP := (show Hid (pH bs = (70, hd0)) from by show _ = _; unfold pH; rw [if_neg (by have := HN.out; omega), if_neg (by simpa using H2.out), if_neg (by simpa using H3.out), if_pos (by rw [HN.out.1]; exact h4)])
        have f4 : (n : Int) < 40 + ((kl bs : Nat) : Int) := by omega
        generalize kl bs = K at *
        clear h4
        go_wp2_with (first
          | (refine wpList_loadHd rfl _ rfl (w.heap.size + 1) rfl HY.out ?_)
          | (refine wpList_stH hd0 rfl _ _ rfl rfl w.heap.size rfl rfl HZ.out ?_; intro w9 HZ9 hT9))
        refine bodyPost_ret (v := .tuple #[.agg hd0.cs, .int .i64 70]) ?_ rfl ⟨by rw [EP.out], hT9.2.1 _ _ BW.out (Nat.le_refl _)⟩
        exact res_hd rfl _ _ w.heap.size hd0 _ rfl rfl HZ9
      · have f4 : ¬ (n : Int) < 40 + ((kl bs : Nat) : Int) := by omega
        obtain ⟨K, hK⟩ : ∃ K, K = kl bs := ⟨_, rfl⟩
        rw [← hK] at c31 hL h4 f4
        have HK := (show Hid (K = kl bs ∧ K < 256 ∧ ¬ n < 40 + K) from ⟨hK, hL, h4⟩)
        have w36 : wrap64 (36 + (K : Int)) = ((36 + K : Nat) : Int) := by unfold wrap64; omega
        have j5 : (36 : Int) ≤ ((36 + K : Nat) : Int) := by omega
        have j6 : ((36 + K : Nat) : Int) ≤ (c : Int) := by have := HN.out; omega
        have j7 : ¬ c = 36 := by have := HN.out; omega
        clear hK h4
        go_upto_region 12 with fail
        rw [show 36 + K - 36 = K by omega]
        clear c31 w36 j5 j6 j7
        have iw : IntKind.i64.wrap (36 + (K : Int)) = ((36 + K : Nat) : Int) := by rw [IntKind.wrap_i64]; omega
        have NB := (show Hid (∀ X : World, Below W2.heap.size W2 X → _) from fun X hX => rnumber_any (w := X) ((HR.out.below BW.out).below hX) n c HN.out.1 HN.out.2.2.1 (36 + K) 4 (by decide) (by have := HK.out; omega))
        have LG := (show Hid (Lg W2 [(.slice (some ⟨gb, go, none⟩) 32 c, bs.take 32), (.slice (some ⟨gb, go + 36, none⟩) K (c - 36), cutl bs 36 K)]) from by
          have l1 : (bs.take 32).length = 32 := by rw [List.length_take]; have := HN.out; omega
          have l2 : (cutl bs 36 K).length = K := cutl_len _ _ _ (by have := HN.out; have := HK.out; omega)
          show Lg _ _
          intro q hq
          simp only [List.mem_cons, List.mem_nil_iff, or_false] at hq
          rcases hq with rfl | rfl
          · exact ⟨_, c, by rw [l1], by rw [l1]; have := HN.out; omega, (HR.out.below BW.out).take 32⟩
          · exact ⟨_, c - 36, by rw [l2], by rw [l2]; have := HN.out; have := HK.out; omega, (HR.out.below BW.out).cutl 36 K (by have := HN.out; have := HK.out; omega)⟩)
        have FE := (show Hid ([bs.take 32, cutl bs 36 K].flatten = bs.take 32 ++ cutl bs 36 K) from by show _ = _; simp)
        have FM := (show Hid ((bs.take 32 ++ cutl bs 36 K).length = 32 + K ∧ [bs.take 32, cutl bs 36 K].flatten.length ≤ 140737488355000) from by
          have l1 : (bs.take 32).length = 32 := by rw [List.length_take]; have := HN.out; omega
          have l2 : (cutl bs 36 K).length = K := cutl_len _ _ _ (by have := HN.out; have := HK.out; omega)
          have := HK.out
          refine ⟨by rw [List.length_append, l1, l2], ?_⟩
          rw [FE.out, List.length_append, l1, l2]; omega)
        have EQ5 := (show Hid (((lv (cutl bs (36 + K) 4) : Int) != rg (cmo 0#32 (bs.take 32 ++ cutl bs 36 K))) = decide (¬ lv (cutl bs (36 + K) 4) = (cmo (cmo 0#32 (bs.take 32)) (cutl bs 36 K)).toNat)) from by
          show _ = _
          rw [cmo_app, show rg (cmo 0#32 (bs.take 32 ++ cutl bs 36 K)) = (((cmo 0#32 (bs.take 32 ++ cutl bs 36 K)).toNat : Nat) : Int) from by unfold rg; rfl]
          exact nat_bne _ _)
        obtain ⟨V5, hV5⟩ : ∃ V5, V5 = lv (cutl bs (36 + K) 4) := ⟨_, rfl⟩
        have HV5 := (show Hid _ from hV5)
        rw [← hV5] at NB
        clear hV5
        go_cut [68] (fun v wx => v = .bool ((V5 : Int) != rg (cmo 0#32 (bs.take 32 ++ cutl bs 36 K))) ∧ Hid (Below W2.heap.size W2 wx))
        case first =>
          go_region_held3 (fun _ => True) (trivial)
            (first
              | (go_at_call 40; first
                  | (refine (NB.out _ ((Below.refl _ _).drew)).mono ?_; rintro e v1 ⟨rfl, h9⟩; obtain rfl := h9.symm)
                  | (refine (NB.out _ (((Below.refl _ _).drew).alloc (Nat.le_refl _) _)).mono ?_; rintro e v1 ⟨rfl, h9⟩; obtain rfl := h9.symm))
              | (go_at_call 42; refine (rjoin_any (bl := [bs.take 32, cutl bs 36 K]) (rws2 (LG.out.below ((Below.refl _ _).drew)) rfl (by simp) (by simp)) 2 2 rfl (by decide) FM.out.2).mono ?_; rintro e v9 ⟨o9, rfl, ho9, hb9⟩; rw [FE.out] at ho9; obtain ⟨p9, c9, rfl, hc9, hr9⟩ := ho9.rd; rw [FM.out.1]; have JD := (show Hid (Rd v9 p9 (bs.take 32 ++ cutl bs 36 K)) from hr9); have JB := (show Hid (Below W2.heap.size W2 v9) from bt (((Below.refl _ _).drew).alloc (Nat.le_refl _) _) hb9))
              | (go_at_call 41; refine (rsum_any JD.out (32 + K) c9 FM.out.1 (by have := HK.out; omega)).mono ?_; rintro e v10 ⟨rfl, h9⟩; obtain rfl := h9.symm))
          all_goals
            go_wp2_with (fail)
            go_meet
            case rel => exact ⟨rfl, JB⟩
        case rest =>
          obtain ⟨rfl, BC⟩ := hcut
          replace HZ := (show Hid (HdAt wc w.heap.size hd0) from HdAt.below HZ.out BC.out)
          replace HY := (show Hid (HdAt wc (w.heap.size + 1) hd0) from HdAt.below HY.out BC.out)
          replace BW := (show Hid (Below w.heap.size w wc) from bt BW.out BC.out)
          clear BC NB LG FM FE iw
          by_cases h5 : lv (cutl bs (36 + K) 4) = (cmo (cmo 0#32 (bs.take 32)) (cutl bs 36 K)).toNat
          · have f5 := EQ5.out
            rw [decide_eq_false (by simpa using h5), ← HV5.out] at f5
            rw [f5]
            have H5 := (show Hid _ from h5)
            clear h5 f5 EQ5 HV5
            have hz9 := (show Hid (HdAt (wc.alloc (.cells #[.int .u8 0, .int .u8 0, .int .u8 0, .int .u8 0, .int .u8 0, .int .u8 0, .int .u8 0, .int .u8 0, .int .i64 0, .int .i64 0, .int .i64 0, .string ⟨#[]⟩, .int .i64 0, .int .i64 0, .int .i64 0, .int .i64 0] 28)) wc.heap.size hd0) from hz0 (heap_alloc_new wc _))
            go_wp2_with (fail)
            go_loopw [8] (fun i wr => ∃ t : Nat, t ≤ 8 ∧ i = .int .i64 (t : Int) ∧ Hid (HdAt wr wc.heap.size (hst bs t)) ∧ Hid (Below wc.heap.size wc wr)) (fun i _ => 8 - (intOf i).toNat)
            case atStart => exact ⟨0, Nat.zero_le _, rfl, (by show HdAt _ _ _; rw [hst_zero]; exact hz9.out), al _ _⟩
            case round =>
              clear hz9
              obtain ⟨t, ht, rfl, hH, hB⟩ := hrel
              have BT := (show Hid (Below w.heap.size w wr) from bt BW.out hB.out)
              by_cases hlt : t < 8
              · have hi : (t : Int) < 8 := by omega
                obtain ⟨old, ho⟩ := HdAt.byte8 hH.out hlt
                have fz := HdAt.frozen8 hH.out t
                have cb := Rd.byte (HR.out.below BT.out) (4 + t) (by have := HN.out; omega)
                have HS := (show Hid _ from hst_set hH.out hlt)
                obtain ⟨x, hx⟩ : ∃ x, x = bs.getD (4 + t) 0#8 := ⟨_, rfl⟩
                rw [← hx] at cb HS
                obtain ⟨t4, ht4⟩ : ∃ t4, 4 + t = t4 := ⟨_, rfl⟩
                rw [ht4] at cb
                have e4 : (4 : Int) + (t : Int) = (t4 : Int) := by omega
                have i4 : (t4 : Int) < (n : Int) := by omega
                have HT := (show Hid (t < 8) from hlt)
                clear hx ht4
                go_wp2_with (fail)
                go_roundw
                case rel => exact ⟨t + 1, HT.out, by go_num, HS, hB.out.setCell (Nat.le_refl _) _⟩
                case measure => simp [intOf]; omega
              · obtain rfl : t = 8 := by omega
                have hGw := (show Hid (w.heap.size ≤ wc.heap.size) from BW.out.size)
                have NB := (show Hid (∀ (X : World), Below w.heap.size w X → ∀ a : Nat, a + 4 ≤ 32 → _) from fun X hX a ha => rnumber_any (w := X) (HR.out.below hX) n c HN.out.1 HN.out.2.2.1 a 4 (by decide) (by have := HN.out; omega))
                obtain ⟨X, hX⟩ : ∃ X, X = wr.drew := ⟨_, rfl⟩
                have BX := (show Hid (Below w.heap.size w X) from by rw [hX]; exact BT.out.drew)
                have hHX := (show Hid (HdAt X wc.heap.size (hst bs 8)) from by rw [hX]; exact HdAt.below hH.out (Below.refl _ _).drew)
                have BCX := (show Hid (Below wc.heap.size wc X) from by rw [hX]; exact hB.out.drew)
                have kx12 := Rd.byte (HR.out.below BX.out) 12 (by have := HN.out; omega)
                have kx13 := Rd.byte (HR.out.below BX.out) 13 (by have := HN.out; omega)
                have j12 : (12 : Int) < (n : Int) := by have := HN.out; omega
                have j13 : (13 : Int) < (n : Int) := by have := HN.out; omega
                have z14 := (show Hid _ from NB.out X BX.out 14 (by decide))
                obtain ⟨b12, hb12⟩ : ∃ b12, b12 = bs.getD 12 0#8 := ⟨_, rfl⟩
                obtain ⟨b13, hb13⟩ : ∃ b13, b13 = bs.getD 13 0#8 := ⟨_, rfl⟩
                rw [← hb12] at kx12
                rw [← hb13] at kx13
                have e12 : IntKind.i64.wrap (el b12) = el b12 := by have := el_bd8 b12; rw [IntKind.wrap_i64]; omega
                have e13 : IntKind.i64.wrap (el b13) = el b13 := by have := el_bd8 b13; rw [IntKind.wrap_i64]; omega
                have HB1 := (show Hid (b12 = bs.getD 12 0#8 ∧ b13 = bs.getD 13 0#8) from ⟨hb12, hb13⟩)
                clear hb12 hb13 hH BT
                go_upto_region 19 with fail
                refine wp_region_still_tail 12 (by kernel_rfl) (by kernel_rfl) ?_
                simp only [List.take_succ_cons, List.take_zero, List.drop_succ_cons, List.drop_zero]
                have eX : ({ wr with drawn := wr.drawn + 1 } : World) = X := hX.symm
                rw [eX]
                clear eX hX
                repeat still_step
                still_call z14.out
                repeat still_step
                refine wpStill_nil ?_
                obtain ⟨k8, k9, k10, k11, k12, k13, k14, k15⟩ := hHX.out.cells
                have fz8 := HdAt.frozen8 hHX.out 8
                have fz9 := HdAt.frozen8 hHX.out 9
                have fz10 := HdAt.frozen8 hHX.out 10
                go_upto_region 20 with fail
                obtain ⟨Y, hY⟩ : ∃ Y, Y = ((X.setCell ⟨wc.heap.size, 8, none⟩ (.int .i64 (el b12))).setCell ⟨wc.heap.size, 9, none⟩ (.int .i64 (el b13))).setCell ⟨wc.heap.size, 10, none⟩ (.int .i64 ((lv (cutl bs 14 4) : Nat) : Int)) := ⟨_, rfl⟩
                rw [← hY]
                have H1 := (show Hid (HdAt Y wc.heap.size _) from by rw [hY]; exact (hd_set (hd_set (hd_set hHX.out (el b12)).1 (el b13)).2.1 ((lv (cutl bs 14 4) : Nat) : Int)).2.2.1)
                have B1 := (show Hid (Below wc.heap.size wc Y) from by show Below _ _ _; rw [hY]; exact ((BCX.out.setCell (Nat.le_refl _) _).setCell (Nat.le_refl _) _).setCell (Nat.le_refl _) _)
                clear hY k8 k9 k10 k11 k12 k13 k14 k15 fz8 fz9 fz10 hHX BCX BX kx12 kx13 e12 e13 z14 hB
                have cvK := conv_rd ((HR.out.below (bt BW.out B1.out)).cutl 36 K (by have := HN.out; have := HK.out; omega)) K (c - 36) (cutl_len _ _ _ (by have := HN.out; have := HK.out; omega))
                obtain ⟨-, -, -, k11, -, -, -, -⟩ := H1.out.cells
                have fz11 := HdAt.frozen8 H1.out 11
                go_upto_region 21 with fail
                obtain ⟨Y2, hY2⟩ : ∃ Y2, Y2 = Y.setCell ⟨wc.heap.size, 11, none⟩ (.string (bstr (cutl bs 36 K))) := ⟨_, rfl⟩
                rw [← hY2]
                have H2_ := (show Hid (HdAt Y2 wc.heap.size _) from by rw [hY2]; exact hd_key H1.out (cutl bs 36 K))
                have B2_ := (show Hid (Below wc.heap.size wc Y2) from by show Below _ _ _; rw [hY2]; exact B1.out.setCell (Nat.le_refl _) _)
                clear hY2 k11 fz11 cvK H1 B1
                have z18 := (show Hid _ from NB.out Y2 (bt BW.out B2_.out) 18 (by decide))
                obtain ⟨-, -, -, -, k12, -, -, -⟩ := H2_.out.cells
                have fz12 := HdAt.frozen8 H2_.out 12
                go_upto_region 22 with (first
                  | (go_at_call 40; refine z18.out.mono ?_; rintro e v1 ⟨rfl, h9⟩; obtain rfl := h9.symm))
                obtain ⟨Y3, hY3⟩ : ∃ Y3, Y3 = Y2.setCell ⟨wc.heap.size, 12, none⟩ (.int .i64 ((lv (cutl bs 18 4) : Nat) : Int)) := ⟨_, rfl⟩
                rw [← hY3]
                have H3_ := (show Hid (HdAt Y3 wc.heap.size _) from by rw [hY3]; exact (hd_set H2_.out ((lv (cutl bs 18 4) : Nat) : Int)).2.2.2.1)
                have B3_ := (show Hid (Below wc.heap.size wc Y3) from by show Below _ _ _; rw [hY3]; exact B2_.out.setCell (Nat.le_refl _) _)
                clear hY3 k12 fz12 z18 H2_ B2_
                have kx22 := Rd.byte (HR.out.below (bt BW.out B3_.out)) 22 (by have := HN.out; omega)
                obtain ⟨b22, hb22⟩ : ∃ b22, b22 = bs.getD 22 0#8 := ⟨_, rfl⟩
                rw [← hb22] at kx22
                have HB2 := (show Hid _ from hb22)
                have j22 : (22 : Int) < (n : Int) := by have := HN.out; omega
                have e22 : wrap64 (el b22) = el b22 := by have := el_bd8 b22; unfold wrap64; omega
                obtain ⟨-, -, -, -, -, k13, -, -⟩ := H3_.out.cells
                have fz13 := HdAt.frozen8 H3_.out 13
                clear hb22
                go_upto_region 23 with fail
                obtain ⟨Y4, hY4⟩ : ∃ Y4, Y4 = Y3.setCell ⟨wc.heap.size, 13, none⟩ (.int .i64 (el b22)) := ⟨_, rfl⟩
                rw [← hY4]
                have H4_ := (show Hid (HdAt Y4 wc.heap.size _) from by rw [hY4]; exact (hd_set H3_.out (el b22)).2.2.2.2.1)
                have B4_ := (show Hid (Below wc.heap.size wc Y4) from by show Below _ _ _; rw [hY4]; exact B3_.out.setCell (Nat.le_refl _) _)
                clear hY4 k13 fz13 kx22 e22 H3_ B3_
                have z23 := (show Hid _ from NB.out Y4 (bt BW.out B4_.out) 23 (by decide))
                have z27 := (show Hid _ from NB.out Y4 (bt BW.out B4_.out) 27 (by decide))
                obtain ⟨-, -, -, -, -, -, k14, k15⟩ := H4_.out.cells
                have fz14 := HdAt.frozen8 H4_.out 14
                have fz15 := HdAt.frozen8 H4_.out 15
                go_upto_region 24 with (first
                  | (go_at_call 40; refine z23.out.mono ?_; rintro e v1 ⟨rfl, h9⟩; obtain rfl := h9.symm)
                  | (go_at_call 40; refine z27.out.mono ?_; rintro e v1 ⟨rfl, h9⟩; obtain rfl := h9.symm))
                obtain ⟨Y5, hY5⟩ : ∃ Y5, Y5 = (Y4.setCell ⟨wc.heap.size, 14, none⟩ (.int .i64 ((lv (cutl bs 23 4) : Nat) : Int))).setCell ⟨wc.heap.size, 15, none⟩ (.int .i64 ((lv (cutl bs 27 4) : Nat) : Int)) := ⟨_, rfl⟩
                rw [← hY5]
                have H5_ := (show Hid (HdAt Y5 wc.heap.size _) from by rw [hY5]; exact (hd_set (hd_set H4_.out ((lv (cutl bs 23 4) : Nat) : Int)).2.2.2.2.2.1 ((lv (cutl bs 27 4) : Nat) : Int)).2.2.2.2.2.2)
                have B5_ := (show Hid (Below wc.heap.size wc Y5) from by show Below _ _ _; rw [hY5]; exact (B4_.out.setCell (Nat.le_refl _) _).setCell (Nat.le_refl _) _)
                clear hY5 k14 k15 fz14 fz15 z23 z27 H4_ B4_
                have HF := (show Hid (HdAt Y5 wc.heap.size (rhd (bs.take 32) (cutl bs 36 K))) from by
                  have h9 := H5_.out
                  rw [HB1.out.1, HB1.out.2, HB2.out] at h9
                  show HdAt _ _ _
                  rw [rhd_is bs K (by have := HN.out; omega)]
                  exact h9)
                have CK := (show Hid _ from fun W => rcheck_any (rhd (bs.take 32) (cutl bs 36 K)) (rhd_in _ _) (by rw [rhd_key]; have := cutl_le bs 36 K; have := HK.out; omega) W)
                have HZ5 := (show Hid (HdAt Y5 w.heap.size hd0) from HdAt.below HZ.out B5_.out)
                have HY5 := (show Hid (HdAt Y5 (w.heap.size + 1) hd0) from HdAt.below HY.out B5_.out)
                have BW5 := (show Hid (Below w.heap.size w Y5) from bt BW.out B5_.out)
                have hpH := (show Hid (pH bs = if ¬ chk (rhd (bs.take 32) (cutl bs 36 K)) = 0 then (81, hd0) else (0, rhd (bs.take 32) (cutl bs 36 K))) from by
                  show _ = _
                  unfold pH
                  rw [← HK.out.1, if_neg (by have := HN.out; omega), if_neg (by simpa using H2.out), if_neg (by simpa using H3.out), if_neg (by rw [HN.out.1]; exact HK.out.2.2), if_neg (by simpa using H5.out)])
                clear H5_ B5_ HZ HY BW NB HB1 HB2 H2 H3 H5 HR
                generalize rhd (bs.take 32) (cutl bs 36 K) = g at *
                by_cases h6 : chk g = 0
                · have EP := (show Hid (pH bs = (0, g)) from by show _ = _; rw [hpH.out]; simp [h6])
                  rw [h6] at CK
                  clear h6 hpH
                  go_wp2_with (first
                    | (refine wpList_loadHd rfl _ rfl wc.heap.size rfl HF.out ?_)
                    | (go_at_call 29; refine (CK.out _).mono ?_; rintro e w8 ⟨rfl, hb8⟩; have HF8 := (show Hid (HdAt w8 wc.heap.size g) from HdAt.below HF.out hb8); have HZ8 := (show Hid (HdAt w8 w.heap.size hd0) from HdAt.below HZ5.out hb8); have BW8 := (show Hid (Below w.heap.size w w8) from bt BW5.out hb8); clear HF HZ5 BW5 hb8)
                    | (refine wpList_loadHd rfl _ rfl wc.heap.size rfl HF8.out ?_)
                    | (refine wpList_stH g rfl _ _ rfl rfl w.heap.size rfl rfl HZ8.out ?_; intro w9 HZ9 hT9))
                  refine bodyPost_ret (v := .tuple #[.agg g.cs, .int .i64 0]) ?_ rfl ⟨by rw [EP.out], hT9.2.1 _ _ BW8.out (Nat.le_refl _)⟩
                  exact res_hd rfl _ _ w.heap.size g _ rfl rfl HZ9
                · have EP := (show Hid (pH bs = (81, hd0)) from by show _ = _; rw [hpH.out]; simp [h6])
                  have f6 : (chk g != 0) = true := by simpa using h6
                  generalize chk g = zz at *
                  clear h6 hpH
                  go_wp2_with (first
                    | (refine wpList_loadHd rfl _ rfl wc.heap.size rfl HF.out ?_)
                    | (go_at_call 29; refine (CK.out _).mono ?_; rintro e w8 ⟨rfl, hb8⟩; have HY8 := (show Hid (HdAt w8 (w.heap.size + 1) hd0) from HdAt.below HY5.out hb8); have HZ8 := (show Hid (HdAt w8 w.heap.size hd0) from HdAt.below HZ5.out hb8); have BW8 := (show Hid (Below w.heap.size w w8) from bt BW5.out hb8); clear HF HZ5 BW5 HY5 hb8)
                    | (refine wpList_loadHd rfl _ rfl (w.heap.size + 1) rfl HY8.out ?_)
                    | (refine wpList_stH hd0 rfl _ _ rfl rfl w.heap.size rfl rfl HZ8.out ?_; intro w9 HZ9 hT9))
                  refine bodyPost_ret (v := .tuple #[.agg hd0.cs, .int .i64 81]) ?_ rfl ⟨by rw [EP.out], hT9.2.1 _ _ BW8.out (Nat.le_refl _)⟩
                  exact res_hd rfl _ _ w.heap.size hd0 _ rfl rfl HZ9
          · have f5 := EQ5.out
            rw [decide_eq_true h5, ← HV5.out] at f5
            rw [f5]
            have EP := (show Hid (pH bs = (82, hd0)) from by
              show _ = _
              unfold pH
              rw [← HK.out.1, if_neg (by have := HN.out; omega), if_neg (by simpa using H2.out), if_neg (by simpa using H3.out), if_neg (by rw [HN.out.1]; exact HK.out.2.2), if_pos h5])
            clear h5 f5 EQ5 HV5
            go_wp2_with (first
              | (refine wpList_loadHd rfl _ rfl (w.heap.size + 1) rfl HY.out ?_)
              | (refine wpList_stH hd0 rfl _ _ rfl rfl w.heap.size rfl rfl HZ.out ?_; intro w9 HZ9 hT9))
            refine bodyPost_ret (v := .tuple #[.agg hd0.cs, .int .i64 82]) ?_ rfl ⟨by rw [EP.out], hT9.2.1 _ _ BW.out (Nat.le_refl _)⟩
            exact res_hd rfl _ _ w.heap.size hd0 _ rfl rfl HZ9
    · have f3 := EQ3.out
      rw [decide_eq_true h3, ← hV3, ← hM3] at f3
      rw [← hV3] at NB
      rw [← hM3] at SB
      have EP := (show Hid (pH bs = (82, hd0)) from by show _ = _; unfold pH; rw [if_neg (by have := HN.out; omega), if_neg (by simpa using H2.out), if_pos h3])
      clear h3 hV3 hM3 EQ3 hrg
      go_quiet ((first | (go_at_call 40; exact Calls.quiet_of_same (NB.out _)) | (go_at_call 41; exact Calls.quiet_of_same (SB.out _ _))))
      obtain ⟨W2, hW2⟩ : ∃ W2, W2 = W1.drewN nq := ⟨_, rfl⟩
      rw [← hW2]
      replace HZ := (show Hid (HdAt W2 w.heap.size hd0) from by rw [hW2]; exact HdAt.below HZ.out (bd8 (Below.refl _ _) _))
      replace HY := (show Hid (HdAt W2 (w.heap.size + 1) hd0) from by rw [hW2]; exact HdAt.below HY.out (bd8 (Below.refl _ _) _))
      replace BW := (show Hid (Below w.heap.size w W2) from by rw [hW2]; exact bd8 BW.out _)
      clear hW2
      go_wp2_with (first
        | (refine wpList_loadHd rfl _ rfl (w.heap.size + 1) rfl HY.out ?_)
        | (refine wpList_stH hd0 rfl _ _ rfl rfl w.heap.size rfl rfl HZ.out ?_; intro w9 HZ9 hT9))
      refine bodyPost_ret (v := .tuple #[.agg hd0.cs, .int .i64 82]) ?_ rfl ⟨by rw [EP.out], hT9.2.1 _ _ BW.out (Nat.le_refl _)⟩
      exact res_hd rfl _ _ w.heap.size hd0 _ rfl rfl HZ9
  · have EP := (show Hid (pH bs = (80, hd0)) from by show _ = _; unfold pH; rw [if_neg (by have := HN.out; omega), if_pos h2])
    have hne := fun e => h2 (T4.out.2 e)
    clear h2 T4
    generalize bs.getD 0 0#8 = b0 at c0 hne
    generalize bs.getD 1 0#8 = b1 at c1 hne
    generalize bs.getD 2 0#8 = b2 at c2 hne
    generalize bs.getD 3 0#8 = b3 at c3 hne
    have q0 : (el b0 != (67 : Int)) = decide (b0 ≠ 67#8) := el_ne b0 67 (by decide)
    have q1 : (el b1 != (82 : Int)) = decide (b1 ≠ 82#8) := el_ne b1 82 (by decide)
    have q2 : (el b2 != (78 : Int)) = decide (b2 ≠ 78#8) := el_ne b2 78 (by decide)
    have q3 : (el b3 != (2 : Int)) = decide (b3 ≠ 2#8) := el_ne b3 2 (by decide)
    have HX := (show Hid _ from hne)
    clear hne
    by_cases e0 : b0 = 67#8
    · rw [decide_eq_false (by simpa using e0)] at q0
      by_cases e1 : b1 = 82#8
      · rw [decide_eq_false (by simpa using e1)] at q1
        by_cases e2 : b2 = 78#8
        · rw [decide_eq_false (by simpa using e2)] at q2
          have e3 : b3 ≠ 2#8 := fun e3 => HX.out ⟨e0, e1, e2, e3⟩
          rw [decide_eq_true e3] at q3
          clear e0 e1 e2 e3
          go_wp2_with (first
            | (refine wpList_loadHd rfl _ rfl (w.heap.size + 1) rfl HY.out ?_)
            | (refine wpList_stH hd0 rfl _ _ rfl rfl w.heap.size rfl rfl HZ.out ?_; intro w9 HZ9 hT9))
          refine bodyPost_ret (v := .tuple #[.agg hd0.cs, .int .i64 80]) ?_ rfl ⟨by rw [EP.out], hT9.2.1 _ _ BW.out (Nat.le_refl _)⟩
          exact res_hd rfl _ _ w.heap.size hd0 _ rfl rfl HZ9
        · rw [decide_eq_true e2] at q2
          clear e0 e1 e2
          go_wp2_with (first
            | (refine wpList_loadHd rfl _ rfl (w.heap.size + 1) rfl HY.out ?_)
            | (refine wpList_stH hd0 rfl _ _ rfl rfl w.heap.size rfl rfl HZ.out ?_; intro w9 HZ9 hT9))
          refine bodyPost_ret (v := .tuple #[.agg hd0.cs, .int .i64 80]) ?_ rfl ⟨by rw [EP.out], hT9.2.1 _ _ BW.out (Nat.le_refl _)⟩
          exact res_hd rfl _ _ w.heap.size hd0 _ rfl rfl HZ9
      · rw [decide_eq_true e1] at q1
        clear e0 e1
        go_wp2_with (first
          | (refine wpList_loadHd rfl _ rfl (w.heap.size + 1) rfl HY.out ?_)
          | (refine wpList_stH hd0 rfl _ _ rfl rfl w.heap.size rfl rfl HZ.out ?_; intro w9 HZ9 hT9))
        refine bodyPost_ret (v := .tuple #[.agg hd0.cs, .int .i64 80]) ?_ rfl ⟨by rw [EP.out], hT9.2.1 _ _ BW.out (Nat.le_refl _)⟩
        exact res_hd rfl _ _ w.heap.size hd0 _ rfl rfl HZ9
    · rw [decide_eq_true e0] at q0
      clear e0
      go_wp2_with (first
        | (refine wpList_loadHd rfl _ rfl (w.heap.size + 1) rfl HY.out ?_)
        | (refine wpList_stH hd0 rfl _ _ rfl rfl w.heap.size rfl rfl HZ.out ?_; intro w9 HZ9 hT9))
      refine bodyPost_ret (v := .tuple #[.agg hd0.cs, .int .i64 80]) ?_ rfl ⟨by rw [EP.out], hT9.2.1 _ _ BW.out (Nat.le_refl _)⟩
      exact res_hd rfl _ _ w.heap.size hd0 _ rfl rfl HZ9
set_option maxHeartbeats 4000000 in
set_option maxRecDepth 1000000 in
theorem rpHead_cut {w : World} {p : Option Addr} (n c : Nat) (h1 : n < 36) :
    Calls Try.prog 12 #[.slice p n c] w fun e w' => e = .returned (.tuple #[.agg hd0.cs, .int .i64 70]) ∧ Below w.heap.size w w' := by
  have al : ∀ (W : World) (o : Obj), Below W.heap.size W (W.alloc o) := fun W o => (Below.refl _ _).alloc (Nat.le_refl _) o
  obtain ⟨W1, hW1⟩ : ∃ W1, W1 = (w.alloc (.cells #[.int .u8 0, .int .u8 0, .int .u8 0, .int .u8 0, .int .u8 0, .int .u8 0, .int .u8 0, .int .u8 0, .int .i64 0, .int .i64 0, .int .i64 0, .string ⟨#[]⟩, .int .i64 0, .int .i64 0, .int .i64 0, .int .i64 0] 28)).alloc (.cells #[.int .u8 0, .int .u8 0, .int .u8 0, .int .u8 0, .int .u8 0, .int .u8 0, .int .u8 0, .int .u8 0, .int .i64 0, .int .i64 0, .int .i64 0, .string ⟨#[]⟩, .int .i64 0, .int .i64 0, .int .i64 0, .int .i64 0] 28) := ⟨_, rfl⟩
  have HZ := (show Hid (HdAt W1 w.heap.size hd0) from by rw [hW1]; exact HdAt.below (hz0 (heap_alloc_new w _)) (al _ _))
  have HY := (show Hid (HdAt W1 (w.heap.size + 1) hd0) from by
    have h9 := heap_alloc_new (w.alloc (.cells #[.int .u8 0, .int .u8 0, .int .u8 0, .int .u8 0, .int .u8 0, .int .u8 0, .int .u8 0, .int .u8 0, .int .i64 0, .int .i64 0, .int .i64 0, .string ⟨#[]⟩, .int .i64 0, .int .i64 0, .int .i64 0, .int .i64 0] 28)) (.cells #[.int .u8 0, .int .u8 0, .int .u8 0, .int .u8 0, .int .u8 0, .int .u8 0, .int .u8 0, .int .u8 0, .int .i64 0, .int .i64 0, .int .i64 0, .string ⟨#[]⟩, .int .i64 0, .int .i64 0, .int .i64 0, .int .i64 0] 28)
    rw [sz_al] at h9
    rw [hW1]; exact hz0 h9)
  have BW := (show Hid (Below w.heap.size w W1) from by rw [hW1]; exact bt (al _ _) (al _ _))
  have HW1 := (show Hid _ from hW1.symm)
  clear hW1
  have i1 : (n : Int) < 36 := by omega
  go_enter Try.func12, Try.ntmps12
  go_upto_region 2 with fail
  rw [HW1.out]
  go_wp2_with (first
    | (refine wpList_loadHd rfl _ rfl (w.heap.size + 1) rfl HY.out ?_)
    | (refine wpList_stH hd0 rfl _ _ rfl rfl w.heap.size rfl rfl HZ.out ?_; intro w9 HZ9 hT9))
  refine bodyPost_ret (v := .tuple #[.agg hd0.cs, .int .i64 70]) ?_ rfl ⟨rfl, hT9.2.1 _ _ BW.out (Nat.le_refl _)⟩
  exact res_hd rfl _ _ w.heap.size hd0 _ rfl rfl HZ9
theorem rpHead_any {w : World} {p : Option Addr} {bs : List (BitVec 8)} (hr : Rd w p bs) (n c : Nat) (hn : bs.length = n) (hc : n ≤ c) (hcc : n ≤ 140737488355328) :
    Calls Try.prog 12 #[.slice p n c] w fun e w' => e = .returned (.tuple #[.agg (pH bs).2.cs, .int .i64 (pH bs).1]) ∧ Below w.heap.size w w' := by
  by_cases h1 : n < 36
  · have e : pH bs = (70, hd0) := by unfold pH; rw [if_pos (by omega)]
    rw [e]
    exact rpHead_cut n c h1
  · rcases hr with h | ⟨b, o, rfl, hcell⟩
    · rw [h] at hn; simp at hn; omega
    · exact rpHead_some (.inr ⟨b, o, rfl, hcell⟩) n c hn hc hcc h1
end
end Go.Proofs.Ytgggmdmhcaehlaa
/-
  The document's own functions of layer 8: Spoilt.
-/
namespace Go.Proofs.Ytgggmdmhcaehlaa
open Go.RowKit
theorem spo_apr (A B : List (Option (List (BitVec 8)))) : ∀ j, spo j (A ++ B) = spo j A ++ spo (j + A.length) B := by
  induction A with
  | nil => intro j; rfl
  | cons o A ih =>
    intro j
    cases o with
    | none => simp only [List.cons_append, spo, ih, List.length_cons]; rw [show j + 1 + A.length = j + (A.length + 1) by omega]
    | some x => simp only [List.cons_append, spo, ih, List.length_cons]; rw [show j + 1 + A.length = j + (A.length + 1) by omega]
theorem spo_take (R : List (Option (List (BitVec 8)))) (t : Nat) (x : Option (List (BitVec 8))) (h : R[t]? = some x) : spo 0 (R.take (t + 1)) = spo 0 (R.take t) ++ spn t x := by
  have hlt : t < R.length := by
    rcases Nat.lt_or_ge t R.length with h1 | h1
    · exact h1
    · rw [List.getElem?_eq_none h1] at h; cases h
  have e : R.take (t + 1) = R.take t ++ [x] := by rw [List.take_add_one, h]; rfl
  rw [e, spo_apr, List.length_take, Nat.min_eq_left (by omega), Nat.zero_add]
  congr 1
  cases x <;> rfl
theorem rbs_at (b : List (BitVec 8)) (s : BitVec 32) (ns : List Nat) : ∀ a j t, t < ns.length → (rbs b s a j ns)[t]? = some (rb b (a + tot (ns.take t)) (ns.getD t 0) s (j + t)) := by
  induction ns with
  | nil => intro a j t ht; simp at ht
  | cons n ns ih =>
    intro a j t ht
    cases t with
    | zero => simp [rbs, tot]
    | succ t =>
      have := ih (a + n + 4) (j + 1) t (by simpa using ht)
      simp only [rbs, List.getElem?_cons_succ, List.take_succ_cons, tot, List.getD_cons_succ]
      rw [this, show a + n + 4 + tot (ns.take t) = a + (n + 4 + tot (ns.take t)) by omega, show j + 1 + t = j + (t + 1) by omega]
theorem spo_len (R : List (Option (List (BitVec 8)))) : ∀ j, (spo j R).length ≤ R.length := by
  induction R with
  | nil => intro j; exact Nat.le_refl _
  | cons o R ih =>
    intro j
    have := ih (j + 1)
    cases o with
    | none => simp only [spo, List.length_cons]; omega
    | some x => simp only [spo, List.length_cons]; omega
/-- What the document asks of a frame. -/
theorem rb_is (bs : List (BitVec 8)) (a n : Nat) (s : BitVec 32) (j : Nat) : spn j (rb bs a n s j) = if bs.length < a + n + 4 ∨ ¬ lv (cutl bs (a + n) 4) = (cmo 0#32 (lb 4 s.toNat ++ (lb 4 j ++ cutl bs a n))).toNat then [j] else [] := by
  unfold rb bsm sm
  rw [cmo_app, List.append_assoc]
  by_cases h1 : bs.length < a + n + 4
  · rw [if_pos h1, if_pos (Or.inl h1)]; rfl
  · rw [if_neg h1]
    by_cases h2 : lv (cutl bs (a + n) 4) = (cmo 0#32 (lb 4 s.toNat ++ (lb 4 j ++ cutl bs a n))).toNat
    · rw [if_neg (by simpa using h2), if_neg (by rintro (h | h); exact h1 h; exact h h2)]; rfl
    · rw [if_pos h2, if_pos (Or.inr h2)]; rfl
theorem ok_in {h : Hd} (ok : h.Ok) : h.In := by
  obtain ⟨o1, o2, o3, o4, o5, o6, o7, o8, o9, o10, o11, o12, o13, o14, o15, o16, o17, o18, o19⟩ := ok
  refine ⟨?_, ?_, ?_, ?_, ?_, ?_, ?_⟩ <;> unfold In64 <;> omega
theorem vr_row {w : World} {p : Option Addr} {ns : List Nat} (h : Vr w p (ic ns)) {t : Nat} (ht : t < ns.length) : ∃ b o, p = some ⟨b, o, none⟩ ∧ w.cell? ⟨b, o + t, none⟩ = some (.int .i64 ((ns.getD t 0 : Nat) : Int)) := by
  rcases h with h | ⟨b, o, e, hc⟩
  · have h9 : ns.length = 0 := by have := congrArg List.length h; rw [ic_len] at this; exact this
    omega
  · exact ⟨b, o, e, hc t _ (ic_at ns t ht)⟩
theorem rws3 {w : World} {L : List (Value × List (BitVec 8))} (h : Lg w L) {v0 v1 v2 : Value} {x0 x1 x2 : List (BitVec 8)} {T : TypeId} {n : Nat} (hn : w.heap.size = n) (m0 : (v0, x0) ∈ L) (m1 : (v1, x1) ∈ L) (m2 : (v2, x2) ∈ L) : Rws (w.alloc (.cells #[v0, v1, v2] T)) (some ⟨n, 0, none⟩) [x0, x1, x2] := by
  subst hn
  refine rws_new h [v0, v1, v2] [x0, x1, x2] rfl (fun i hi => ?_) T
  have hi' : i < 3 := hi
  match i, hi' with
  | 0, _ => exact m0
  | 1, _ => exact m1
  | 2, _ => exact m2
section
attribute [local irreducible] Calls el Hd.cs cmo rg lv cutl chk rhd lb spo rbs
set_option maxHeartbeats 16000000 in
set_option maxRecDepth 1000000 in
theorem rspoilt_no {w : World} {p : Option Addr} {bs : List (BitVec 8)} (hr : Rd w p bs) (n c : Nat) (hn : bs.length = n) (hc : n ≤ c) (hcc : n ≤ 140737488355328) (h1 : (pH bs).1 ≠ 0) :
    Calls Try.prog 14 #[.slice p n c] w fun e w' => ∃ v, e = .returned (.tuple #[v, .int .i64 (sP bs).1]) ∧ Oi w' w.heap.size v (sP bs).2 ∧ Below w.heap.size w w' := by
  have al : ∀ (W : World) (o : Obj), Below W.heap.size W (W.alloc o) := fun W o => (Below.refl _ _).alloc (Nat.le_refl _) o
  have ES := (show Hid (sP bs = ((pH bs).1, [])) from by show _ = _; unfold sP; rw [if_pos h1])
  have PH := (show Hid _ from rpHead_any hr n c hn hc hcc)
  generalize pH bs = q at *
  obtain ⟨E, g⟩ := q
  have f1 : (E != 0) = true := by simpa using h1
  clear h1
  go_enter Try.func14, Try.ntmps14
  go_wp2_with (first
    | (go_at_call 12; refine PH.out.mono ?_; rintro e w1 ⟨rfl, hb1⟩)
    | (refine wpList_stH g rfl _ _ rfl rfl w1.heap.size rfl rfl (hz0 (heap_alloc_new w1 _)) ?_; intro w2 H2 hT2; have B2 := (show Hid (Below w.heap.size w w2) from bt hb1 (hT2.2.1 _ _ (al w1 _) (Nat.le_refl _)))))
  go_ret2
  exact ⟨_, by rw [ES.out]; rfl, by rw [ES.out]; exact Oi.nil _ _, B2.out⟩
set_option maxHeartbeats 16000000 in
set_option maxRecDepth 1000000 in
theorem rspoilt_ok {w : World} {gb go : Nat} {bs : List (BitVec 8)} (hr : Rd w (some ⟨gb, go, none⟩) bs) (n c : Nat) (hn : bs.length = n) (hc : n ≤ c) (hcc : n ≤ 140737488355328) (h : Hd) (hp : pH bs = (0, h)) :
    Calls Try.prog 14 #[.slice (some ⟨gb, go, none⟩) n c] w fun e w' => ∃ v, e = .returned (.tuple #[v, .int .i64 (sP bs).1]) ∧ Oi w' w.heap.size v (sP bs).2 ∧ Below w.heap.size w w' := by
  have al : ∀ (W : World) (o : Obj), Below W.heap.size W (W.alloc o) := fun W o => (Below.refl _ _).alloc (Nat.le_refl _) o
  obtain ⟨ok, T, eT⟩ := pH_inv bs h hp
  have eR : h.bk bs = rbs bs h.s2 (40 + h.key.length) 0 h.ls := by
    unfold Hd.bk
    rw [eT, h.at_s2]
  have ES := (show Hid (sP bs = (0, spo 0 (rbs bs h.s2 (40 + h.key.length) 0 h.ls))) from by show _ = _; unfold sP; rw [hp, eR]; simp)
  have PH := (show Hid _ from rpHead_any hr n c hn hc hcc)
  rw [hp] at PH
  have SZ := (show Hid (∀ W, _) from fun W => rsizes_any h.k h.m h.b h.sz (ok_in ok).k (ok_in ok).m (ok_in ok).sz W)
  rw [(h.ls_eq ok).1, (h.ls_eq ok).2] at SZ
  have HSu := (show Hid (∀ W, _) from fun W => rheadSum_any h ok W)
  have hky := ok.y2
  have hld := h.len_bd ok
  have hlb := h.ls_bd ok
  have hlen : 40 + h.key.length + tot h.ls = h.len := rfl
  have hkz := bstr_size h.key
  have RA := (show Hid _ from rbs_at bs h.s2 h.ls (40 + h.key.length) 0)
  have RL := (show Hid _ from rbs_len bs h.s2 h.ls (40 + h.key.length) 0)
  have HR := (show Hid (Rd w (some ⟨gb, go, none⟩) bs) from hr)
  have HN := (show Hid (bs.length = n ∧ n ≤ c ∧ n ≤ 140737488355328) from ⟨hn, hc, hcc⟩)
  obtain ⟨s2, hs2⟩ : ∃ s2, s2 = h.s2 := ⟨_, rfl⟩
  rw [← hs2] at ES HSu RA RL
  obtain ⟨ns, hns⟩ : ∃ ns, ns = h.ls := ⟨_, rfl⟩
  rw [← hns] at ES SZ RA RL hlen hlb
  obtain ⟨l0, hl0⟩ : ∃ l0, l0 = 40 + h.key.length := ⟨_, rfl⟩
  rw [← hl0] at ES RA RL hlen
  have wl : wrap64 (40 + (h.key.length : Int)) = (l0 : Int) := by unfold wrap64; omega
  have HL := (show Hid (l0 + tot ns ≤ 17592186044416 ∧ ns.length ≤ 1048576) from ⟨by omega, hlb⟩)
  clear eT eR hp hr hn hc hcc hs2 hns hld hlb hlen hl0 hky
  go_enter Try.func14, Try.ntmps14
  go_wp2_with (first
    | (go_at_call 12; refine PH.out.mono ?_; rintro e w1 ⟨rfl, hb1⟩)
    | (refine wpList_stH h rfl _ _ rfl rfl w1.heap.size rfl rfl (hz0 (heap_alloc_new w1 _)) ?_; intro w2 H2 hT2; have B2 := (show Hid (Below w.heap.size w w2) from bt hb1 (hT2.2.1 _ _ (al w1 _) (Nat.le_refl _))); have HD2 := (show Hid (HdAt w2 w1.heap.size h) from H2); obtain ⟨k8, k9, k10, -, k12, -, -, -⟩ := H2.cells; clear H2 hT2 hb1)
    | (go_at_call 30; refine (SZ.out _).mono ?_; rintro e w3 ⟨v3, rfl, hO3, hb3⟩; obtain ⟨p3, c3, rfl, hc3, hV3⟩ := hO3.rd; have HD3 := (show Hid (HdAt w3 w1.heap.size h) from HdAt.below HD2.out hb3); have B3 := (show Hid (Below w.heap.size w w3) from bt B2.out hb3); have V3 := (show Hid (Vr w3 p3 (ic ns)) from hV3); clear k8 k9 k10 k12 hO3 hV3 B2 HD2 hb3)
    | (refine wpList_loadHd rfl _ rfl w1.heap.size rfl HD3.out ?_)
    | (go_at_call 44; refine (HSu.out _).mono ?_; rintro e w4 ⟨rfl, hb4⟩; have V4 := (show Hid (Vr w4 p3 (ic ns)) from Vr.below V3.out hb4); have B4 := (show Hid (Below w.heap.size w w4) from bt B3.out hb4); have k11 := (HdAt.below HD3.out hb4).cells.2.2.2.1; clear hb4 B3 V3 HD3))
  have WL := (show Hid _ from wl)
  clear k11 wl hkz PH SZ HSu
  have es : rg s2 = ((s2.toNat : Nat) : Int) := by unfold rg; rfl
  rw [es]
  have hs := s2.isLt
  obtain ⟨S, hS⟩ : ∃ S, S = s2.toNat := ⟨_, rfl⟩
  rw [← hS] at hs ⊢
  have HSS := (show Hid (S = s2.toNat ∧ S < 4294967296) from ⟨hS, by omega⟩)
  clear es hs hS
  obtain ⟨R, hR⟩ : ∃ R, R = rbs bs s2 l0 0 ns := ⟨_, rfl⟩
  rw [← hR] at RA RL ES
  clear hR
  go_loopw [9, 10, 11, 12] (fun a o i _ wr => ∃ t : Nat, t ≤ ns.length ∧ i = .int .i64 (t : Int) ∧ a = .int .i64 ((l0 + tot (ns.take t) : Nat) : Int) ∧ Hid (Oi wr w4.heap.size o (spo 0 (R.take t))) ∧ Hid (Below w4.heap.size w4 wr)) (fun _ _ i _ _ => ns.length - (intOf i).toNat)
  case atStart => exact ⟨0, Nat.zero_le _, rfl, (by rw [List.take_zero, show tot [] = 0 from rfl, Nat.add_zero, WL.out]), (by show Oi _ _ _ _; rw [List.take_zero, show spo 0 [] = [] from by unfold spo; rfl]; exact Oi.nil _ _), Below.refl _ _⟩
  case round =>
    obtain ⟨t, ht, rfl, rfl, hO, hB⟩ := hrel
    by_cases hlt : t < ns.length
    · have hi : (t : Int) < (ns.length : Int) := by omega
      obtain ⟨b3, o3, rfl, hcell⟩ := vr_row (Vr.below V4.out hB.out) hlt
      have hsn := tot_snoc ns t hlt
      have htk := tot_take ns (t + 1)
      obtain ⟨d, hd⟩ : ∃ d, d = ns.getD t 0 := ⟨_, rfl⟩
      have HX := (show Hid _ from spo_take R t _ (RA.out t hlt))
      rw [← hd] at hcell hsn HX
      obtain ⟨A, hA⟩ : ∃ A, A = l0 + tot (ns.take t) := ⟨_, rfl⟩
      rw [← hA] at HX ⊢
      rw [Nat.zero_add, rb_is] at HX
      obtain ⟨E, hE⟩ : ∃ E, E = A + d := ⟨_, rfl⟩
      rw [← hE, HN.out.1, ← HSS.out.1] at HX
      have HE := (show Hid (E = A + d ∧ E + 4 = l0 + tot (ns.take (t + 1)) ∧ E + 4 ≤ 17592186044416 ∧ t < ns.length) from ⟨hE, by omega, by have := HL.out.1; omega, hlt⟩)
      have w1_ : wrap64 ((A : Int) + (d : Int)) = (E : Int) := by have := HE.out; unfold wrap64; omega
      have BT := (show Hid (Below w.heap.size w wr) from bt B4.out hB.out)
      clear hsn htk hd hA hE hlt ht
      go_upto_region 12 with fail
      rw [w1_]
      clear w1_ hcell
      obtain ⟨E4, hE4⟩ : ∃ E4, E + 4 = E4 := ⟨_, rfl⟩
      have wE : IntKind.i64.wrap ((E : Int) + 4) = (E4 : Int) := by have := HE.out; rw [IntKind.wrap_i64]; omega
      have wE2 := (show Hid (wrap64 ((E : Int) + 4) = (E4 : Int)) from by have := HE.out; show _ = _; unfold wrap64; omega)
      rw [hE4] at HX
      have HE4 := (show Hid _ from hE4)
      clear hE4
      obtain ⟨Bq, hBq⟩ : ∃ Bq : Bool, Bq = decide (n < E4 ∨ ¬ lv (cutl bs E 4) = (cmo 0#32 (lb 4 S ++ (lb 4 t ++ cutl bs A d))).toNat) := ⟨_, rfl⟩
      have HBq := (show Hid _ from hBq)
      clear hBq
      go_cut [68] (fun v wx => v = .bool Bq ∧ Hid (Below wr.heap.size wr wx))
      case first =>
        by_cases hE4 : n < E4
        · have f1 : (n : Int) < (E4 : Int) := by omega
          have f2 : decide (n < E4) = true := by simpa using hE4
          have HB1 := (show Hid (Bq = true) from by show _ = _; rw [HBq.out]; simp [hE4])
          clear hE4
          go_quiet (fail)
          go_wp2_with (fail)
          go_meet
          case rel => exact ⟨by rw [HB1.out], bd8 (Below.refl _ _) _⟩
        · have f1 : ¬ (n : Int) < (E4 : Int) := by omega
          have f2 : decide (n < E4) = false := by simpa using hE4
          have g1 : (A : Int) ≤ (E : Int) := by have := HE.out; omega
          have g2 : (E : Int) ≤ (c : Int) := by have := HN.out; have := HE4.out; omega
          have g3 : ¬ c = A := by have := HN.out; have := HE4.out; have := HE.out; omega
          have g4 : E - A = d := by have := HE.out; omega
          have HB1 := (show Hid (Bq = ((lv (cutl bs E 4) : Int) != rg (cmo 0#32 (lb 4 S ++ (lb 4 t ++ cutl bs A d))))) from by
            show _ = _
            rw [HBq.out, show rg (cmo 0#32 (lb 4 S ++ (lb 4 t ++ cutl bs A d))) = (((cmo 0#32 (lb 4 S ++ (lb 4 t ++ cutl bs A d))).toNat : Nat) : Int) from by unfold rg; rfl, nat_bne]
            simp [hE4])
          have NB := (show Hid (∀ X : World, Below wr.heap.size wr X → _) from fun X hX => rnumber_any (w := X) ((HR.out.below BT.out).below hX) n c HN.out.1 HN.out.2.2 E 4 (by decide) (by have := HE4.out; omega))
          have LS := (show Hid (∀ X : World, _) from fun X => rlow_any S 4 HSS.out.2 (by decide) X)
          have LT := (show Hid (∀ X : World, _) from fun X => rlow_any t 4 (by have := HE.out; have := HL.out.2; omega) (by decide) X)
          have ld : (cutl bs A d).length = d := cutl_len _ _ _ (by have := HN.out; have := HE4.out; have := HE.out; omega)
          have LG := (show Hid (Lg wr.drew [(.slice (some ⟨gb, go + A, none⟩) d (c - A), cutl bs A d)]) from by
            show Lg _ _
            intro q hq
            rcases List.mem_singleton.1 hq with rfl
            exact ⟨_, c - A, by rw [ld], by rw [ld]; have := HN.out; have := HE4.out; have := HE.out; omega, ((HR.out.below BT.out).below (Below.refl _ _).drew).cutl A d (by have := HN.out; have := HE4.out; have := HE.out; omega)⟩)
          have BL := (show Hid (Below wr.heap.size wr wr.drew) from (Below.refl _ _).drew)
          have FE := (show Hid ([lb 4 S, lb 4 t, cutl bs A d].flatten = lb 4 S ++ (lb 4 t ++ cutl bs A d)) from by show _ = _; simp)
          have FM := (show Hid ((lb 4 S ++ (lb 4 t ++ cutl bs A d)).length = 8 + d ∧ [lb 4 S, lb 4 t, cutl bs A d].flatten.length ≤ 140737488355000 ∧ 8 + d ≤ 140737488355328) from by
            have := HE.out
            have e9 : (lb 4 S ++ (lb 4 t ++ cutl bs A d)).length = 8 + d := by rw [List.length_append, List.length_append, lb_len, lb_len, ld]; omega
            refine ⟨e9, ?_, by omega⟩
            rw [FE.out, e9]; omega)
          obtain ⟨V5, hV5⟩ : ∃ V5, V5 = lv (cutl bs E 4) := ⟨_, rfl⟩
          rw [← hV5] at NB HB1
          clear hV5 hE4 ld HX HBq
          go_region_held3 (fun _ => True) (trivial)
            (first
              | (go_at_call 40; refine (NB.out _ BL.out).mono ?_; rintro e v1 ⟨rfl, h9⟩; obtain rfl := h9.symm)
              | (go_at_call 45; refine (LS.out _).mono ?_; rintro e v2 ⟨o2, rfl, ho2, hb2⟩; obtain ⟨p2, c2, rfl, hc2, hr2⟩ := ho2.rd; replace LG := (show Hid _ from Lg.add (Lg.below LG.out hb2) hr2 hc2); replace BL := (show Hid (Below wr.heap.size wr v2) from bt BL.out hb2); clear ho2 hb2 hc2 hr2 LS)
              | (go_at_call 45; refine (LT.out _).mono ?_; rintro e v5 ⟨o5, rfl, ho5, hb5⟩; obtain ⟨p5, c5, rfl, hc5, hr5⟩ := ho5.rd; replace LG := (show Hid _ from Lg.add (Lg.below LG.out hb5) hr5 hc5); replace BL := (show Hid (Below wr.heap.size wr v5) from bt BL.out hb5); clear ho5 hb5 hc5 hr5 LT)
              | (go_at_call 42; refine (rjoin_any (bl := [lb 4 S, lb 4 t, cutl bs A d]) (rws3 LG.out rfl (by simp) (by simp) (by simp)) 3 3 rfl (by decide) FM.out.2.1).mono ?_; rintro e v9 ⟨o9, rfl, ho9, hb9⟩; rw [FE.out] at ho9; obtain ⟨p9, c9, rfl, hc9, hr9⟩ := ho9.rd; rw [FM.out.1]; have JD := (show Hid (Rd v9 p9 (lb 4 S ++ (lb 4 t ++ cutl bs A d))) from hr9); have JB := (show Hid (Below wr.heap.size wr v9) from bt (BL.out.alloc BL.out.size _) hb9))
              | (go_at_call 41; refine (rsum_any JD.out (8 + d) c9 FM.out.1 FM.out.2.2).mono ?_; rintro e v10 ⟨rfl, h9⟩; obtain rfl := h9.symm))
          all_goals
            go_wp2_with (fail)
            go_meet
            case rel => exact ⟨by rw [HB1.out], JB⟩
      case rest =>
        obtain ⟨rfl, BC⟩ := hcut
        have OC := (show Hid (Oi wc w4.heap.size u10 (spo 0 (R.take t))) from hO.out.below BC.out)
        have BC4 := (show Hid (Below w4.heap.size w4 wc) from bt hB.out BC.out)
        have wt : wrap64 ((t : Int) + 1) = ((t + 1 : Nat) : Int) := by have := HE.out; have := HL.out.2; unfold wrap64; omega
        have we := wE2.out
        have HLn := (show Hid ((spo 0 (R.take t)).length + 1 ≤ 1099511627776) from by have h1 := spo_len (R.take t) 0; have h2 := HL.out.2; rw [List.length_take, RL.out] at h1; show _ ≤ _; omega)
        by_cases hb : n < E4 ∨ ¬ lv (cutl bs E 4) = (cmo 0#32 (lb 4 S ++ (lb 4 t ++ cutl bs A d))).toNat
        · have hbt : Bq = true := by rw [HBq.out]; exact decide_eq_true hb
          subst hbt
          rw [if_pos hb] at HX
          have rc := fun W : World => cell_of_row (W.alloc (.cells #[.int .i64 (t : Int)] 3)) W.heap.size 0 _ _ (0, 0) (heap_alloc_new W _)
          clear hb HBq wE
          go_wp2_with (first
            | (at_builtin; refine wpList_api rfl (.tmp 69) (.tmp 71) rfl w4.heap.size u10 _ rfl (OC.out.below (al _ _)) ⟨_, 0, none⟩ 1 t rfl (rc _) HLn.out (Nat.le_trans BC4.out.size (al _ _).size) ?_; intro v8 w8 ho8 hg8))
          go_roundw
          case rel =>
            have hbA := below_append (t := 3) (BC4.out.alloc BC4.out.size (.cells #[.int .i64 (t : Int)] 3)) (Nat.le_trans BC4.out.size (al _ _).size) hg8 (OC.out.below (al _ _)) (Nat.le_refl _)
            exact ⟨t + 1, HE.out.2.2.2, by rw [wt], by rw [we, ← HE4.out, HE.out.2.1], (by show Oi _ _ _ _; rw [HX.out]; exact ho8), hbA⟩
          case measure => have := HE.out; rw [wt]; simp [intOf]; omega
        · have hbt : Bq = false := by rw [HBq.out]; exact decide_eq_false hb
          subst hbt
          rw [if_neg hb, List.append_nil] at HX
          clear hb HBq wE
          go_wp2_with (fail)
          go_roundw
          case rel => exact ⟨t + 1, HE.out.2.2.2, by rw [wt], by rw [we, ← HE4.out, HE.out.2.1], (by show Oi _ _ _ _; rw [HX.out]; exact OC.out), BC4⟩
          case measure => have := HE.out; rw [wt]; simp [intOf]; omega
    · obtain rfl : t = ns.length := by omega
      have hO' := hO.out
      rw [List.take_of_length_le (by rw [RL.out]; exact Nat.le_refl _)] at hO'
      have O2 := (show Hid _ from hO')
      clear hO'
      go_wp2_with (fail)
      go_ret2
      exact ⟨_, by rw [ES.out]; rfl, by rw [ES.out]; exact own_mono O2.out B4.out.size, bt B4.out hB.out⟩
theorem rspoilt_any {w : World} {p : Option Addr} {bs : List (BitVec 8)} (hr : Rd w p bs) (n c : Nat) (hn : bs.length = n) (hc : n ≤ c) (hcc : n ≤ 140737488355328) :
    Calls Try.prog 14 #[.slice p n c] w fun e w' => ∃ v, e = .returned (.tuple #[v, .int .i64 (sP bs).1]) ∧ Oi w' w.heap.size v (sP bs).2 ∧ Below w.heap.size w w' := by
  by_cases h1 : (pH bs).1 = 0
  · have h0 := pH_at bs h1
    rcases hr with h | ⟨b, o, rfl, hcell⟩
    · rw [h] at h0; simp at h0
    · exact rspoilt_ok (.inr ⟨b, o, rfl, hcell⟩) n c hn hc hcc (pH bs).2 (by rw [← h1])
  · exact rspoilt_no hr n c hn hc hcc h1
end
end Go.Proofs.Ytgggmdmhcaehlaa
/-
  The document's own functions of layer 8: Frame.
-/
namespace Go.Proofs.Ytgggmdmhcaehlaa
open Go.RowKit
section
attribute [local irreducible] Calls el Hd.cs cmo rg lv cutl lb
set_option maxHeartbeats 16000000 in
set_option maxRecDepth 1000000 in
theorem rframe_any {w : World} {p : Option Addr} {x : List (BitVec 8)} (hr : Rd w p x) (d c : Nat) (hd : x.length = d) (hc : d ≤ c) (hm : d ≤ 140737488350000) (s : BitVec 32) (j : Nat) (hj : j < 4294967296) :
    Calls Try.prog 57 #[.int .i64 (rg s), .int .i64 (j : Int), .slice p d c] w fun e w' => ∃ v, e = .returned v ∧ Ow w' w.heap.size v (x ++ sm (bsm s j x)) ∧ Below w.heap.size w w' := by
  have al : ∀ (W : World) (o : Obj), Below W.heap.size W (W.alloc o) := fun W o => (Below.refl _ _).alloc (Nat.le_refl _) o
  have hrg : ∀ y : BitVec 32, rg y = ((y.toNat : Nat) : Int) := fun y => by unfold rg; rfl
  have EQ := (show Hid (cmo 0#32 (lb 4 s.toNat ++ (lb 4 j ++ x)) = bsm s j x) from by show _ = _; unfold bsm sm; rw [cmo_app, List.append_assoc])
  have hs := s.isLt
  have hb := (bsm s j x).isLt
  have LS := (show Hid (∀ X : World, _) from fun X => rlow_any s.toNat 4 (by omega) (by decide) X)
  have LJ := (show Hid (∀ X : World, _) from fun X => rlow_any j 4 hj (by decide) X)
  have LB := (show Hid (∀ X : World, _) from fun X => rlow_any (bsm s j x).toNat 4 (by omega) (by decide) X)
  have FE := (show Hid ([lb 4 s.toNat, lb 4 j, x].flatten = lb 4 s.toNat ++ (lb 4 j ++ x)) from by show _ = _; simp)
  have FM := (show Hid ((lb 4 s.toNat ++ (lb 4 j ++ x)).length = 8 + d ∧ [lb 4 s.toNat, lb 4 j, x].flatten.length ≤ 140737488355000 ∧ 8 + d ≤ 140737488355328) from by
    have e9 : (lb 4 s.toNat ++ (lb 4 j ++ x)).length = 8 + d := by rw [List.length_append, List.length_append, lb_len, lb_len, hd]; omega
    refine ⟨e9, ?_, by omega⟩
    rw [FE.out, e9]; omega)
  have FE2 := (show Hid ([x, lb 4 (bsm s j x).toNat].flatten = x ++ sm (bsm s j x)) from by show _ = _; unfold sm; simp)
  have FM2 := (show Hid ([x, lb 4 (bsm s j x).toNat].flatten.length ≤ 140737488355000) from by show _ ≤ _; simp [lb_len]; omega)
  have LG := (show Hid (Lg w [(.slice p d c, x)]) from by
    show Lg _ _
    intro q hq
    rcases List.mem_singleton.1 hq with rfl
    exact ⟨_, c, by rw [hd], by rw [hd]; exact hc, hr⟩)
  have BL := (show Hid (Below w.heap.size w w) from Below.refl _ _)
  rw [hrg s]
  obtain ⟨S, hS⟩ : ∃ S, S = s.toNat := ⟨_, rfl⟩
  rw [← hS] at LS FE FM EQ ⊢
  have hrb := hrg (bsm s j x)
  obtain ⟨B, hB⟩ : ∃ B, B = (bsm s j x).toNat := ⟨_, rfl⟩
  rw [← hB] at LB FE2 FM2 hrb
  have HRB := (show Hid _ from hrb)
  clear hs hb hS hB hr hrg hrb hm hc
  go_enter Try.func57, Try.ntmps57
  go_wp2_with (first
    | (go_at_call 45; refine (LS.out _).mono ?_; rintro e v2 ⟨o2, rfl, ho2, hb2⟩; obtain ⟨p2, c2, rfl, hc2, hr2⟩ := ho2.rd; replace LG := (show Hid (Lg v2 [(.slice p2 (lb 4 S).length c2, lb 4 S), (.slice p d c, x)]) from Lg.add (Lg.below LG.out hb2) hr2 hc2); replace BL := (show Hid (Below w.heap.size w v2) from bt BL.out hb2); clear ho2 hb2 hc2 hr2 LS)
    | (go_at_call 45; refine (LJ.out _).mono ?_; rintro e v5 ⟨o5, rfl, ho5, hb5⟩; obtain ⟨p5, c5, rfl, hc5, hr5⟩ := ho5.rd; replace LG := (show Hid _ from Lg.add (Lg.below LG.out hb5) hr5 hc5); replace BL := (show Hid (Below w.heap.size w v5) from bt BL.out hb5); clear ho5 hb5 hc5 hr5 LJ)
    | (go_at_call 42; refine (rjoin_any (bl := [lb 4 S, lb 4 j, x]) (rws3 LG.out rfl (by simp) (by simp) (by simp)) 3 3 rfl (by decide) FM.out.2.1).mono ?_; rintro e v9 ⟨o9, rfl, ho9, hb9⟩; rw [FE.out] at ho9; obtain ⟨p9, c9, rfl, hc9, hr9⟩ := ho9.rd; rw [FM.out.1]; have JD := (show Hid (Rd v9 p9 (lb 4 S ++ (lb 4 j ++ x))) from hr9); replace LG := (show Hid _ from Lg.below (Lg.below LG.out (al _ _)) hb9); replace BL := (show Hid (Below w.heap.size w v9) from bt (BL.out.alloc BL.out.size _) hb9); clear ho9 hb9 hc9 hr9)
    | (go_at_call 41; refine (rsum_any JD.out (8 + d) c9 FM.out.1 FM.out.2.2).mono ?_; rw [EQ.out, HRB.out]; rintro e v10 ⟨rfl, h9⟩; obtain rfl := h9.symm)
    | (go_at_call 45; refine (LB.out _).mono ?_; rintro e v6 ⟨o6, rfl, ho6, hb6⟩; obtain ⟨p6, c6, rfl, hc6, hr6⟩ := ho6.rd; replace LG := (show Hid _ from Lg.add (Lg.below LG.out hb6) hr6 hc6); replace BL := (show Hid (Below w.heap.size w v6) from bt BL.out hb6); clear ho6 hb6 hc6 hr6 LB)
    | (go_at_call 42; refine (rjoin_any (bl := [x, lb 4 B]) (rws2 LG.out rfl (by simp) (by simp)) 2 2 rfl (by decide) FM2.out).mono ?_; rintro e vA ⟨oA, rfl, hoA, hbA⟩; rw [FE2.out] at hoA; have JA := (show Hid (Ow vA w.heap.size oA (x ++ sm (bsm s j x))) from hoA.mono (BL.out.alloc BL.out.size _).size); replace BL := (show Hid (Below w.heap.size w vA) from bt (BL.out.alloc BL.out.size _) hbA)))
  go_ret
  exact ⟨_, rfl, JA.out, BL.out⟩
end
end Go.Proofs.Ytgggmdmhcaehlaa
/-
  The document's own functions of layer 8: HeadBytes.
-/
namespace Go.Proofs.Ytgggmdmhcaehlaa
open Go.RowKit
theorem rws4 {w : World} {L : List (Value × List (BitVec 8))} (h : Lg w L) {v0 v1 v2 v3 : Value} {x0 x1 x2 x3 : List (BitVec 8)} {T : TypeId} {n : Nat} (hn : w.heap.size = n) (m0 : (v0, x0) ∈ L) (m1 : (v1, x1) ∈ L) (m2 : (v2, x2) ∈ L) (m3 : (v3, x3) ∈ L) : Rws (w.alloc (.cells #[v0, v1, v2, v3] T)) (some ⟨n, 0, none⟩) [x0, x1, x2, x3] := by
  subst hn
  refine rws_new h [v0, v1, v2, v3] [x0, x1, x2, x3] rfl (fun i hi => ?_) T
  have hi' : i < 4 := hi
  match i, hi' with
  | 0, _ => exact m0
  | 1, _ => exact m1
  | 2, _ => exact m2
  | 3, _ => exact m3
theorem Led.row {w0 w : World} {g : Nat} {h : Hd} {L : List (Value × List (BitVec 8))} (H : Led w0 w g h L) {p : Option Addr} {c n : Nat} {xs : List (BitVec 8)} (hm : (.slice p n c, xs) ∈ L) : Rd w p xs := by
  obtain ⟨q, d, e, _, hr⟩ := H.2.1 _ hm
  injection e with e1 e2 e3
  rw [e1]; exact hr
section
attribute [local irreducible] Calls rg el lb Hd.cs Led
set_option maxHeartbeats 16000000 in
set_option maxRecDepth 1000000 in
theorem rhbytes_any (h : Hd) (ok : h.Ok) (w : World) :
    Calls Try.prog 56 #[.agg h.cs] w fun e w' => ∃ v, e = .returned v ∧ Ow w' w.heap.size v h.hb ∧ Below w.heap.size w w' := by
  have al : ∀ (W : World) (o : Obj), Below W.heap.size W (W.alloc o) := fun W o => (Below.refl _ _).alloc (Nat.le_refl _) o
  have HA := (show Hid (HdAt (w.alloc (.cells h.cs 28)) w.heap.size h) from HdAt.new w h)
  have LH := (show Hid (Led w (w.alloc (.cells h.cs 28)) w.heap.size h []) from by
    show Led _ _ _ _ _
    unfold Led
    refine ⟨HA.out, ?_, al _ _⟩
    intro q hq
    cases hq)
  have FXD := (show Hid (∀ W, _) from fun W => rfixed_any h ok W)
  have HS := (show Hid (∀ W, _) from fun W => rheadSum_any h ok W)
  have E1 := (show Hid (rg (cmo 0#32 h.fx) = ((h.s1.toNat : Nat) : Int)) from by show _ = _; unfold rg Hd.s1; rfl)
  have E2 := (show Hid (rg h.s2 = ((h.s2.toNat : Nat) : Int)) from by show _ = _; unfold rg; rfl)
  have L1 := (show Hid (∀ X : World, _) from fun X => rlow_any h.s1.toNat 4 (by have := h.s1.isLt; omega) (by decide) X)
  have L2 := (show Hid (∀ X : World, _) from fun X => rlow_any h.s2.toNat 4 (by have := h.s2.isLt; omega) (by decide) X)
  have FX := (show Hid (h.fx.length ≤ 140737488355328) from by show _ ≤ _; rw [h.fx_len]; omega)
  have FE := (show Hid ([h.fx, lb 4 h.s1.toNat, h.key, lb 4 h.s2.toNat].flatten = h.hb) from by show _ = _; unfold Hd.hb sm; simp)
  have FL := (show Hid ([h.fx, lb 4 h.s1.toNat, h.key, lb 4 h.s2.toNat].flatten.length ≤ 140737488355000) from by show _ ≤ _; rw [FE.out, h.hb_len]; have := ok.y2; omega)
  have cv := fun W : World => conv_st W h.key
  have CG := (show Hid (∀ W : World, h.key.length ≤ grownCap W h.key.length 0 5) from fun W => grownCap_ge W _ _ _)
  clear ok
  go_enter Try.func56, Try.ntmps56
  go_upto_region 2 with (first
    | (refine wpList_loadHd rfl _ rfl w.heap.size rfl HA.out ?_)
    | (go_at_call 63; refine (FXD.out _).mono ?_; rintro e w1 ⟨o1, rfl, ho1, hb1⟩; obtain ⟨p1, c1, rfl, hc1, hr1⟩ := ho1.rd; have KD0 := (show Hid _ from Led.add LH.out hb1 hr1 hc1)))
  have KD := (show Hid _ from Led.go KD0.out (Below.refl _ w1).drew)
  clear KD0 LH HA FXD
  refine wp_region_held_drew (S := fun X => Led w X w.heap.size h []) (by kernel_rfl) (Led.any KD.out) (fun hHeld => ?_)
  refine takeHr (i := 0) (d := some 6) (v := ?v1) rfl rfl (by kernel_rfl) (by kernel_rfl) (by kernel_rfl) (fun _ _ _ h => h) (Or.inl ⟨by rfl, ?hy1⟩) hHeld ?rest1
  case hy1 => intro X hSw; (try dsimp only at hSw); go_simp <;> with_reducible rfl
  try simp only [Act.put, List.setIfInBounds_toArray, List.set_cons_zero, List.set_cons_succ]
  refine takeHr (i := 1) (d := some 7) (v := ?v2) rfl rfl (by kernel_rfl) (by kernel_rfl) (by kernel_rfl) (fun _ _ _ h => h) (Or.inl ⟨by rfl, ?hy2⟩) hHeld ?rest2
  case hy2 => intro X hSw; (try dsimp only at hSw); go_simp <;> with_reducible rfl
  try simp only [Act.put, List.setIfInBounds_toArray, List.set_cons_zero, List.set_cons_succ]
  refine takeHr (i := 4) (d := some 10) (v := ?v3) rfl rfl (by kernel_rfl) (by kernel_rfl) (by kernel_rfl) (fun _ _ _ h => h) (Or.inl ⟨by rfl, ?hy3⟩) hHeld ?rest3
  case hy3 => intro X hSw; (try dsimp only at hSw); go_simp <;> with_reducible rfl
  try simp only [Act.put, List.setIfInBounds_toArray, List.set_cons_zero, List.set_cons_succ]
  refine takeHr (i := 5) (d := some 11) (v := .string (bstr h.key)) rfl rfl (by kernel_rfl) (by kernel_rfl) (by kernel_rfl) (fun _ _ _ h => h) (Or.inl ⟨by rfl, ?hy4⟩) hHeld ?rest4
  case hy4 => intro X hSw; have k11 := (Led.cells hSw).2.2.2.1; go_simp <;> with_reducible rfl
  try simp only [Act.put, List.setIfInBounds_toArray, List.set_cons_zero, List.set_cons_succ]
  refine takeHr (i := 7) (d := some 13) (v := .agg h.cs) rfl rfl (by kernel_rfl) (by kernel_rfl) (by kernel_rfl) (fun _ _ _ h => h) (Or.inl ⟨by rfl, ?hy5⟩) hHeld ?rest5
  case hy5 => intro X hSw; exact ex_ldH8 _ rfl w.heap.size rfl (Led.hd hSw)
  try simp only [Act.put, List.setIfInBounds_toArray, List.set_cons_zero, List.set_cons_succ]
  refine wpAnyH_ready (rs := [2, 6]) (by kernel_rfl) (by simp) ?_
  refine AllReadyH.cons (o := { dst := some 8, op := Op.call { callee := Callee.value (Operand.func 41), args := #[Operand.tmp 7], argTypes := #[32] }, type := 3, pos := "frame.go:153", after := #[{ on := 1, ground := Ground.data }], guard := none }) rfl (fun Kq hKq => ?_) (AllReadyH.cons (o := { dst := some 12, op := Op.convert 9 32 (Operand.tmp 11), type := 32, pos := "frame.go:153", after := #[{ on := 5, ground := Ground.data }], guard := none }) rfl (fun Kq hKq => ?_) AllReadyH.nil)
  · go_simp
    refine (rsum_any (Led.row KD.out (p := p1) (c := c1) (n := h.fx.length) (by simp)) h.fx.length c1 rfl FX.out).mono ?_
    rintro e v6 ⟨rfl, h9⟩
    obtain rfl := h9.symm
    rw [E1.out]
    refine hKq.out _ _ (Led.any KD.out) (fun hHeld => ?_)
    clear hKq Kq
    try simp only [Act.put, List.setIfInBounds_toArray, List.set_cons_zero, List.set_cons_succ]
    refine wpAnyH_ready (rs := [3, 6]) (by kernel_rfl) (by simp) ?_
    refine AllReadyH.cons (o := { dst := some 9, op := Op.call { callee := Callee.value (Operand.func 45), args := #[Operand.tmp 8, Operand.const (Value.int IntKind.i64 4)], argTypes := #[3, 3] }, type := 32, pos := "frame.go:153", after := #[{ on := 2, ground := Ground.data }, { on := 2, ground := Ground.chain }], guard := none }) rfl (fun Kq hKq => ?_) (AllReadyH.cons (o := { dst := some 12, op := Op.convert 9 32 (Operand.tmp 11), type := 32, pos := "frame.go:153", after := #[{ on := 5, ground := Ground.data }], guard := none }) rfl (fun Kq hKq => ?_) AllReadyH.nil)
    · go_simp
      refine (L1.out _).mono ?_
      rintro e v7 ⟨o7, rfl, ho7, hb7⟩
      obtain ⟨q7, d7, rfl, hc7, hr7⟩ := ho7.rd
      replace KD := (show Hid _ from Led.add KD.out hb7 hr7 hc7)
      refine hKq.out _ _ (Led.any KD.out) (fun hHeld => ?_)
      clear hKq Kq
      try simp only [Act.put, List.setIfInBounds_toArray, List.set_cons_zero, List.set_cons_succ]
      refine wpAnyH_ready (rs := [6, 8]) (by kernel_rfl) (by simp) ?_
      refine AllReadyH.cons (o := { dst := some 12, op := Op.convert 9 32 (Operand.tmp 11), type := 32, pos := "frame.go:153", after := #[{ on := 5, ground := Ground.data }], guard := none }) rfl (fun Kq hKq => ?_) (AllReadyH.cons (o := { dst := some 14, op := Op.call { callee := Callee.value (Operand.func 44), args := #[Operand.tmp 13], argTypes := #[28] }, type := 3, pos := "frame.go:153", after := #[{ on := 7, ground := Ground.data }, { on := 3, ground := Ground.chain }], guard := none }) rfl (fun Kq hKq => ?_) AllReadyH.nil)
      · go_simp
        replace KD := (show Hid _ from Led.conv KD.out h.key _ (CG.out v7))
        refine hKq.out _ _ (Led.any KD.out) (fun hHeld => ?_)
        clear hKq Kq
        try simp only [Act.put, List.setIfInBounds_toArray, List.set_cons_zero, List.set_cons_succ]
        refine wpAnyH_ready (rs := [8]) (by kernel_rfl) (by simp) ?_
        refine AllReadyH.cons (o := { dst := some 14, op := Op.call { callee := Callee.value (Operand.func 44), args := #[Operand.tmp 13], argTypes := #[28] }, type := 3, pos := "frame.go:153", after := #[{ on := 7, ground := Ground.data }, { on := 3, ground := Ground.chain }], guard := none }) rfl (fun Kq hKq => ?_) AllReadyH.nil
        · go_simp
          refine (HS.out _).mono ?_
          rintro e v9 ⟨rfl, hb9⟩
          rw [E2.out]
          replace KD := (show Hid _ from Led.go KD.out hb9)
          refine hKq.out _ _ (Led.any KD.out) (fun hHeld => ?_)
          clear hKq Kq
          try simp only [Act.put, List.setIfInBounds_toArray, List.set_cons_zero, List.set_cons_succ]
          refine wpAnyH_ready (rs := [9]) (by kernel_rfl) (by simp) ?_
          refine AllReadyH.cons (o := { dst := some 15, op := Op.call { callee := Callee.value (Operand.func 45), args := #[Operand.tmp 14, Operand.const (Value.int IntKind.i64 4)], argTypes := #[3, 3] }, type := 32, pos := "frame.go:153", after := #[{ on := 8, ground := Ground.data }, { on := 8, ground := Ground.chain }], guard := none }) rfl (fun Kq hKq => ?_) AllReadyH.nil
          · go_simp
            refine (L2.out _).mono ?_
            rintro e v10 ⟨o10, rfl, ho10, hb10⟩
            obtain ⟨q10, d10, rfl, hc10, hr10⟩ := ho10.rd
            replace KD := (show Hid _ from Led.add KD.out hb10 hr10 hc10)
            refine hKq.out _ _ (Led.any KD.out) (fun hHeld => ?_)
            clear hKq Kq
            try simp only [Act.put, List.setIfInBounds_toArray, List.set_cons_zero, List.set_cons_succ]
            refine wpAnyH_ready (rs := [10]) (by kernel_rfl) (by simp) ?_
            refine AllReadyH.cons (o := { dst := some 16, op := Op.buildSlice 29 4 #[(0, Operand.tmp 6), (1, Operand.tmp 9), (2, Operand.tmp 12), (3, Operand.tmp 15)], type := 29, pos := "frame.go:153", after := #[{ on := 0, ground := Ground.data }, { on := 3, ground := Ground.data }, { on := 6, ground := Ground.data }, { on := 9, ground := Ground.data }], guard := none }) rfl (fun Kq hKq => ?_) AllReadyH.nil
            · go_simp
              refine hKq.out _ _ (Led.any (KD.out.al _)) (fun hHeld => ?_)
              clear hKq Kq
              try simp only [Act.put, List.setIfInBounds_toArray, List.set_cons_zero, List.set_cons_succ]
              refine wpAnyH_ready (rs := [11]) (by kernel_rfl) (by simp) ?_
              refine AllReadyH.cons (o := { dst := some 17, op := Op.call { callee := Callee.value (Operand.func 42), args := #[Operand.tmp 16], argTypes := #[29] }, type := 32, pos := "frame.go:153", after := #[{ on := 10, ground := Ground.data }, { on := 9, ground := Ground.chain }], guard := none }) rfl (fun Kq hKq => ?_) AllReadyH.nil
              · go_simp
                refine (rjoin_any (bl := [h.fx, lb 4 h.s1.toNat, h.key, lb 4 h.s2.toNat]) (rws4 (Led.lg KD.out) rfl (by simp) (by simp) (by simp) (by simp)) 4 4 rfl (by decide) FL.out).mono ?_
                rintro e v12 ⟨o12, rfl, ho12, hb12⟩
                have JA := (show Hid _ from ho12.mono (KD.out.al _).kept.size)
                have KE := (show Hid (Led w v12 w.heap.size h []) from Led.any ((KD.out.al _).go hb12))
                refine hKq.out _ _ KE.out (fun hHeld => ?_)
                clear hKq Kq
                try simp only [Act.put, List.setIfInBounds_toArray, List.set_cons_zero, List.set_cons_succ]
                refine takeHr (i := 12) (d := some 2) (v := ?v13) rfl rfl (by kernel_rfl) (by kernel_rfl) (by kernel_rfl) (fun _ _ _ h => h) (Or.inl ⟨by rfl, ?hy13⟩) hHeld ?rest13
                case hy13 => intro X hSw; (try dsimp only at hSw); go_simp <;> with_reducible rfl
                try simp only [Act.put, List.setIfInBounds_toArray, List.set_cons_zero, List.set_cons_succ]
                refine wpAnyH_done (by kernel_rfl) ?_ _
                go_wp2_with (fail)
                go_ret
                refine ⟨_, rfl, ?_, KE.out.kept⟩
                rw [← FE.out]
                exact JA.out
      · go_simp
        refine (HS.out _).mono ?_
        rintro e v14 ⟨rfl, hb14⟩
        rw [E2.out]
        replace KD := (show Hid _ from Led.go KD.out hb14)
        refine hKq.out _ _ (Led.any KD.out) (fun hHeld => ?_)
        clear hKq Kq
        try simp only [Act.put, List.setIfInBounds_toArray, List.set_cons_zero, List.set_cons_succ]
        refine wpAnyH_ready (rs := [6, 9]) (by kernel_rfl) (by simp) ?_
        refine AllReadyH.cons (o := { dst := some 12, op := Op.convert 9 32 (Operand.tmp 11), type := 32, pos := "frame.go:153", after := #[{ on := 5, ground := Ground.data }], guard := none }) rfl (fun Kq hKq => ?_) (AllReadyH.cons (o := { dst := some 15, op := Op.call { callee := Callee.value (Operand.func 45), args := #[Operand.tmp 14, Operand.const (Value.int IntKind.i64 4)], argTypes := #[3, 3] }, type := 32, pos := "frame.go:153", after := #[{ on := 8, ground := Ground.data }, { on := 8, ground := Ground.chain }], guard := none }) rfl (fun Kq hKq => ?_) AllReadyH.nil)
        · go_simp
          replace KD := (show Hid _ from Led.conv KD.out h.key _ (CG.out v14))
          refine hKq.out _ _ (Led.any KD.out) (fun hHeld => ?_)
          clear hKq Kq
          try simp only [Act.put, List.setIfInBounds_toArray, List.set_cons_zero, List.set_cons_succ]
          refine wpAnyH_ready (rs := [9]) (by kernel_rfl) (by simp) ?_
          refine AllReadyH.cons (o := { dst := some 15, op := Op.call { callee := Callee.value (Operand.func 45), args := #[Operand.tmp 14, Operand.const (Value.int IntKind.i64 4)], argTypes := #[3, 3] }, type := 32, pos := "frame.go:153", after := #[{ on := 8, ground := Ground.data }, { on := 8, ground := Ground.chain }], guard := none }) rfl (fun Kq hKq => ?_) AllReadyH.nil
          · go_simp
            refine (L2.out _).mono ?_
            rintro e v16 ⟨o16, rfl, ho16, hb16⟩
            obtain ⟨q16, d16, rfl, hc16, hr16⟩ := ho16.rd
            replace KD := (show Hid _ from Led.add KD.out hb16 hr16 hc16)
            refine hKq.out _ _ (Led.any KD.out) (fun hHeld => ?_)
            clear hKq Kq
            try simp only [Act.put, List.setIfInBounds_toArray, List.set_cons_zero, List.set_cons_succ]
            refine wpAnyH_ready (rs := [10]) (by kernel_rfl) (by simp) ?_
            refine AllReadyH.cons (o := { dst := some 16, op := Op.buildSlice 29 4 #[(0, Operand.tmp 6), (1, Operand.tmp 9), (2, Operand.tmp 12), (3, Operand.tmp 15)], type := 29, pos := "frame.go:153", after := #[{ on := 0, ground := Ground.data }, { on := 3, ground := Ground.data }, { on := 6, ground := Ground.data }, { on := 9, ground := Ground.data }], guard := none }) rfl (fun Kq hKq => ?_) AllReadyH.nil
            · go_simp
              refine hKq.out _ _ (Led.any (KD.out.al _)) (fun hHeld => ?_)
              clear hKq Kq
              try simp only [Act.put, List.setIfInBounds_toArray, List.set_cons_zero, List.set_cons_succ]
              refine wpAnyH_ready (rs := [11]) (by kernel_rfl) (by simp) ?_
              refine AllReadyH.cons (o := { dst := some 17, op := Op.call { callee := Callee.value (Operand.func 42), args := #[Operand.tmp 16], argTypes := #[29] }, type := 32, pos := "frame.go:153", after := #[{ on := 10, ground := Ground.data }, { on := 9, ground := Ground.chain }], guard := none }) rfl (fun Kq hKq => ?_) AllReadyH.nil
              · go_simp
                refine (rjoin_any (bl := [h.fx, lb 4 h.s1.toNat, h.key, lb 4 h.s2.toNat]) (rws4 (Led.lg KD.out) rfl (by simp) (by simp) (by simp) (by simp)) 4 4 rfl (by decide) FL.out).mono ?_
                rintro e v18 ⟨o18, rfl, ho18, hb18⟩
                have JA := (show Hid _ from ho18.mono (KD.out.al _).kept.size)
                have KE := (show Hid (Led w v18 w.heap.size h []) from Led.any ((KD.out.al _).go hb18))
                refine hKq.out _ _ KE.out (fun hHeld => ?_)
                clear hKq Kq
                try simp only [Act.put, List.setIfInBounds_toArray, List.set_cons_zero, List.set_cons_succ]
                refine takeHr (i := 12) (d := some 2) (v := ?v19) rfl rfl (by kernel_rfl) (by kernel_rfl) (by kernel_rfl) (fun _ _ _ h => h) (Or.inl ⟨by rfl, ?hy19⟩) hHeld ?rest19
                case hy19 => intro X hSw; (try dsimp only at hSw); go_simp <;> with_reducible rfl
                try simp only [Act.put, List.setIfInBounds_toArray, List.set_cons_zero, List.set_cons_succ]
                refine wpAnyH_done (by kernel_rfl) ?_ _
                go_wp2_with (fail)
                go_ret
                refine ⟨_, rfl, ?_, KE.out.kept⟩
                rw [← FE.out]
                exact JA.out
        · go_simp
          refine (L2.out _).mono ?_
          rintro e v20 ⟨o20, rfl, ho20, hb20⟩
          obtain ⟨q20, d20, rfl, hc20, hr20⟩ := ho20.rd
          replace KD := (show Hid _ from Led.add KD.out hb20 hr20 hc20)
          refine hKq.out _ _ (Led.any KD.out) (fun hHeld => ?_)
          clear hKq Kq
          try simp only [Act.put, List.setIfInBounds_toArray, List.set_cons_zero, List.set_cons_succ]
          refine wpAnyH_ready (rs := [6]) (by kernel_rfl) (by simp) ?_
          refine AllReadyH.cons (o := { dst := some 12, op := Op.convert 9 32 (Operand.tmp 11), type := 32, pos := "frame.go:153", after := #[{ on := 5, ground := Ground.data }], guard := none }) rfl (fun Kq hKq => ?_) AllReadyH.nil
          · go_simp
            replace KD := (show Hid _ from Led.conv KD.out h.key _ (CG.out v20))
            refine hKq.out _ _ (Led.any KD.out) (fun hHeld => ?_)
            clear hKq Kq
            try simp only [Act.put, List.setIfInBounds_toArray, List.set_cons_zero, List.set_cons_succ]
            refine wpAnyH_ready (rs := [10]) (by kernel_rfl) (by simp) ?_
            refine AllReadyH.cons (o := { dst := some 16, op := Op.buildSlice 29 4 #[(0, Operand.tmp 6), (1, Operand.tmp 9), (2, Operand.tmp 12), (3, Operand.tmp 15)], type := 29, pos := "frame.go:153", after := #[{ on := 0, ground := Ground.data }, { on := 3, ground := Ground.data }, { on := 6, ground := Ground.data }, { on := 9, ground := Ground.data }], guard := none }) rfl (fun Kq hKq => ?_) AllReadyH.nil
            · go_simp
              refine hKq.out _ _ (Led.any (KD.out.al _)) (fun hHeld => ?_)
              clear hKq Kq
              try simp only [Act.put, List.setIfInBounds_toArray, List.set_cons_zero, List.set_cons_succ]
              refine wpAnyH_ready (rs := [11]) (by kernel_rfl) (by simp) ?_
              refine AllReadyH.cons (o := { dst := some 17, op := Op.call { callee := Callee.value (Operand.func 42), args := #[Operand.tmp 16], argTypes := #[29] }, type := 32, pos := "frame.go:153", after := #[{ on := 10, ground := Ground.data }, { on := 9, ground := Ground.chain }], guard := none }) rfl (fun Kq hKq => ?_) AllReadyH.nil
              · go_simp
                refine (rjoin_any (bl := [h.fx, lb 4 h.s1.toNat, h.key, lb 4 h.s2.toNat]) (rws4 (Led.lg KD.out) rfl (by simp) (by simp) (by simp) (by simp)) 4 4 rfl (by decide) FL.out).mono ?_
                rintro e v23 ⟨o23, rfl, ho23, hb23⟩
                have JA := (show Hid _ from ho23.mono (KD.out.al _).kept.size)
                have KE := (show Hid (Led w v23 w.heap.size h []) from Led.any ((KD.out.al _).go hb23))
                refine hKq.out _ _ KE.out (fun hHeld => ?_)
                clear hKq Kq
                try simp only [Act.put, List.setIfInBounds_toArray, List.set_cons_zero, List.set_cons_succ]
                refine takeHr (i := 12) (d := some 2) (v := ?v24) rfl rfl (by kernel_rfl) (by kernel_rfl) (by kernel_rfl) (fun _ _ _ h => h) (Or.inl ⟨by rfl, ?hy24⟩) hHeld ?rest24
                case hy24 => intro X hSw; (try dsimp only at hSw); go_simp <;> with_reducible rfl
                try simp only [Act.put, List.setIfInBounds_toArray, List.set_cons_zero, List.set_cons_succ]
                refine wpAnyH_done (by kernel_rfl) ?_ _
                go_wp2_with (fail)
                go_ret
                refine ⟨_, rfl, ?_, KE.out.kept⟩
                rw [← FE.out]
                exact JA.out
    · go_simp
      replace KD := (show Hid _ from Led.conv KD.out h.key _ (CG.out w1.drew))
      refine hKq.out _ _ (Led.any KD.out) (fun hHeld => ?_)
      clear hKq Kq
      try simp only [Act.put, List.setIfInBounds_toArray, List.set_cons_zero, List.set_cons_succ]
      refine wpAnyH_ready (rs := [3]) (by kernel_rfl) (by simp) ?_
      refine AllReadyH.cons (o := { dst := some 9, op := Op.call { callee := Callee.value (Operand.func 45), args := #[Operand.tmp 8, Operand.const (Value.int IntKind.i64 4)], argTypes := #[3, 3] }, type := 32, pos := "frame.go:153", after := #[{ on := 2, ground := Ground.data }, { on := 2, ground := Ground.chain }], guard := none }) rfl (fun Kq hKq => ?_) AllReadyH.nil
      · go_simp
        refine (L1.out _).mono ?_
        rintro e v26 ⟨o26, rfl, ho26, hb26⟩
        obtain ⟨q26, d26, rfl, hc26, hr26⟩ := ho26.rd
        replace KD := (show Hid _ from Led.add KD.out hb26 hr26 hc26)
        refine hKq.out _ _ (Led.any KD.out) (fun hHeld => ?_)
        clear hKq Kq
        try simp only [Act.put, List.setIfInBounds_toArray, List.set_cons_zero, List.set_cons_succ]
        refine wpAnyH_ready (rs := [8]) (by kernel_rfl) (by simp) ?_
        refine AllReadyH.cons (o := { dst := some 14, op := Op.call { callee := Callee.value (Operand.func 44), args := #[Operand.tmp 13], argTypes := #[28] }, type := 3, pos := "frame.go:153", after := #[{ on := 7, ground := Ground.data }, { on := 3, ground := Ground.chain }], guard := none }) rfl (fun Kq hKq => ?_) AllReadyH.nil
        · go_simp
          refine (HS.out _).mono ?_
          rintro e v27 ⟨rfl, hb27⟩
          rw [E2.out]
          replace KD := (show Hid _ from Led.go KD.out hb27)
          refine hKq.out _ _ (Led.any KD.out) (fun hHeld => ?_)
          clear hKq Kq
          try simp only [Act.put, List.setIfInBounds_toArray, List.set_cons_zero, List.set_cons_succ]
          refine wpAnyH_ready (rs := [9]) (by kernel_rfl) (by simp) ?_
          refine AllReadyH.cons (o := { dst := some 15, op := Op.call { callee := Callee.value (Operand.func 45), args := #[Operand.tmp 14, Operand.const (Value.int IntKind.i64 4)], argTypes := #[3, 3] }, type := 32, pos := "frame.go:153", after := #[{ on := 8, ground := Ground.data }, { on := 8, ground := Ground.chain }], guard := none }) rfl (fun Kq hKq => ?_) AllReadyH.nil
          · go_simp
            refine (L2.out _).mono ?_
            rintro e v28 ⟨o28, rfl, ho28, hb28⟩
            obtain ⟨q28, d28, rfl, hc28, hr28⟩ := ho28.rd
            replace KD := (show Hid _ from Led.add KD.out hb28 hr28 hc28)
            refine hKq.out _ _ (Led.any KD.out) (fun hHeld => ?_)
            clear hKq Kq
            try simp only [Act.put, List.setIfInBounds_toArray, List.set_cons_zero, List.set_cons_succ]
            refine wpAnyH_ready (rs := [10]) (by kernel_rfl) (by simp) ?_
            refine AllReadyH.cons (o := { dst := some 16, op := Op.buildSlice 29 4 #[(0, Operand.tmp 6), (1, Operand.tmp 9), (2, Operand.tmp 12), (3, Operand.tmp 15)], type := 29, pos := "frame.go:153", after := #[{ on := 0, ground := Ground.data }, { on := 3, ground := Ground.data }, { on := 6, ground := Ground.data }, { on := 9, ground := Ground.data }], guard := none }) rfl (fun Kq hKq => ?_) AllReadyH.nil
            · go_simp
              refine hKq.out _ _ (Led.any (KD.out.al _)) (fun hHeld => ?_)
              clear hKq Kq
              try simp only [Act.put, List.setIfInBounds_toArray, List.set_cons_zero, List.set_cons_succ]
              refine wpAnyH_ready (rs := [11]) (by kernel_rfl) (by simp) ?_
              refine AllReadyH.cons (o := { dst := some 17, op := Op.call { callee := Callee.value (Operand.func 42), args := #[Operand.tmp 16], argTypes := #[29] }, type := 32, pos := "frame.go:153", after := #[{ on := 10, ground := Ground.data }, { on := 9, ground := Ground.chain }], guard := none }) rfl (fun Kq hKq => ?_) AllReadyH.nil
              · go_simp
                refine (rjoin_any (bl := [h.fx, lb 4 h.s1.toNat, h.key, lb 4 h.s2.toNat]) (rws4 (Led.lg KD.out) rfl (by simp) (by simp) (by simp) (by simp)) 4 4 rfl (by decide) FL.out).mono ?_
                rintro e v30 ⟨o30, rfl, ho30, hb30⟩
                have JA := (show Hid _ from ho30.mono (KD.out.al _).kept.size)
                have KE := (show Hid (Led w v30 w.heap.size h []) from Led.any ((KD.out.al _).go hb30))
                refine hKq.out _ _ KE.out (fun hHeld => ?_)
                clear hKq Kq
                try simp only [Act.put, List.setIfInBounds_toArray, List.set_cons_zero, List.set_cons_succ]
                refine takeHr (i := 12) (d := some 2) (v := ?v31) rfl rfl (by kernel_rfl) (by kernel_rfl) (by kernel_rfl) (fun _ _ _ h => h) (Or.inl ⟨by rfl, ?hy31⟩) hHeld ?rest31
                case hy31 => intro X hSw; (try dsimp only at hSw); go_simp <;> with_reducible rfl
                try simp only [Act.put, List.setIfInBounds_toArray, List.set_cons_zero, List.set_cons_succ]
                refine wpAnyH_done (by kernel_rfl) ?_ _
                go_wp2_with (fail)
                go_ret
                refine ⟨_, rfl, ?_, KE.out.kept⟩
                rw [← FE.out]
                exact JA.out
  · go_simp
    replace KD := (show Hid _ from Led.conv KD.out h.key _ (CG.out w1.drew))
    refine hKq.out _ _ (Led.any KD.out) (fun hHeld => ?_)
    clear hKq Kq
    try simp only [Act.put, List.setIfInBounds_toArray, List.set_cons_zero, List.set_cons_succ]
    refine wpAnyH_ready (rs := [2]) (by kernel_rfl) (by simp) ?_
    refine AllReadyH.cons (o := { dst := some 8, op := Op.call { callee := Callee.value (Operand.func 41), args := #[Operand.tmp 7], argTypes := #[32] }, type := 3, pos := "frame.go:153", after := #[{ on := 1, ground := Ground.data }], guard := none }) rfl (fun Kq hKq => ?_) AllReadyH.nil
    · go_simp
      refine (rsum_any (Led.row KD.out (p := p1) (c := c1) (n := h.fx.length) (by simp)) h.fx.length c1 rfl FX.out).mono ?_
      rintro e v33 ⟨rfl, h9⟩
      obtain rfl := h9.symm
      rw [E1.out]
      refine hKq.out _ _ (Led.any KD.out) (fun hHeld => ?_)
      clear hKq Kq
      try simp only [Act.put, List.setIfInBounds_toArray, List.set_cons_zero, List.set_cons_succ]
      refine wpAnyH_ready (rs := [3]) (by kernel_rfl) (by simp) ?_
      refine AllReadyH.cons (o := { dst := some 9, op := Op.call { callee := Callee.value (Operand.func 45), args := #[Operand.tmp 8, Operand.const (Value.int IntKind.i64 4)], argTypes := #[3, 3] }, type := 32, pos := "frame.go:153", after := #[{ on := 2, ground := Ground.data }, { on := 2, ground := Ground.chain }], guard := none }) rfl (fun Kq hKq => ?_) AllReadyH.nil
      · go_simp
        refine (L1.out _).mono ?_
        rintro e v34 ⟨o34, rfl, ho34, hb34⟩
        obtain ⟨q34, d34, rfl, hc34, hr34⟩ := ho34.rd
        replace KD := (show Hid _ from Led.add KD.out hb34 hr34 hc34)
        refine hKq.out _ _ (Led.any KD.out) (fun hHeld => ?_)
        clear hKq Kq
        try simp only [Act.put, List.setIfInBounds_toArray, List.set_cons_zero, List.set_cons_succ]
        refine wpAnyH_ready (rs := [8]) (by kernel_rfl) (by simp) ?_
        refine AllReadyH.cons (o := { dst := some 14, op := Op.call { callee := Callee.value (Operand.func 44), args := #[Operand.tmp 13], argTypes := #[28] }, type := 3, pos := "frame.go:153", after := #[{ on := 7, ground := Ground.data }, { on := 3, ground := Ground.chain }], guard := none }) rfl (fun Kq hKq => ?_) AllReadyH.nil
        · go_simp
          refine (HS.out _).mono ?_
          rintro e v35 ⟨rfl, hb35⟩
          rw [E2.out]
          replace KD := (show Hid _ from Led.go KD.out hb35)
          refine hKq.out _ _ (Led.any KD.out) (fun hHeld => ?_)
          clear hKq Kq
          try simp only [Act.put, List.setIfInBounds_toArray, List.set_cons_zero, List.set_cons_succ]
          refine wpAnyH_ready (rs := [9]) (by kernel_rfl) (by simp) ?_
          refine AllReadyH.cons (o := { dst := some 15, op := Op.call { callee := Callee.value (Operand.func 45), args := #[Operand.tmp 14, Operand.const (Value.int IntKind.i64 4)], argTypes := #[3, 3] }, type := 32, pos := "frame.go:153", after := #[{ on := 8, ground := Ground.data }, { on := 8, ground := Ground.chain }], guard := none }) rfl (fun Kq hKq => ?_) AllReadyH.nil
          · go_simp
            refine (L2.out _).mono ?_
            rintro e v36 ⟨o36, rfl, ho36, hb36⟩
            obtain ⟨q36, d36, rfl, hc36, hr36⟩ := ho36.rd
            replace KD := (show Hid _ from Led.add KD.out hb36 hr36 hc36)
            refine hKq.out _ _ (Led.any KD.out) (fun hHeld => ?_)
            clear hKq Kq
            try simp only [Act.put, List.setIfInBounds_toArray, List.set_cons_zero, List.set_cons_succ]
            refine wpAnyH_ready (rs := [10]) (by kernel_rfl) (by simp) ?_
            refine AllReadyH.cons (o := { dst := some 16, op := Op.buildSlice 29 4 #[(0, Operand.tmp 6), (1, Operand.tmp 9), (2, Operand.tmp 12), (3, Operand.tmp 15)], type := 29, pos := "frame.go:153", after := #[{ on := 0, ground := Ground.data }, { on := 3, ground := Ground.data }, { on := 6, ground := Ground.data }, { on := 9, ground := Ground.data }], guard := none }) rfl (fun Kq hKq => ?_) AllReadyH.nil
            · go_simp
              refine hKq.out _ _ (Led.any (KD.out.al _)) (fun hHeld => ?_)
              clear hKq Kq
              try simp only [Act.put, List.setIfInBounds_toArray, List.set_cons_zero, List.set_cons_succ]
              refine wpAnyH_ready (rs := [11]) (by kernel_rfl) (by simp) ?_
              refine AllReadyH.cons (o := { dst := some 17, op := Op.call { callee := Callee.value (Operand.func 42), args := #[Operand.tmp 16], argTypes := #[29] }, type := 32, pos := "frame.go:153", after := #[{ on := 10, ground := Ground.data }, { on := 9, ground := Ground.chain }], guard := none }) rfl (fun Kq hKq => ?_) AllReadyH.nil
              · go_simp
                refine (rjoin_any (bl := [h.fx, lb 4 h.s1.toNat, h.key, lb 4 h.s2.toNat]) (rws4 (Led.lg KD.out) rfl (by simp) (by simp) (by simp) (by simp)) 4 4 rfl (by decide) FL.out).mono ?_
                rintro e v38 ⟨o38, rfl, ho38, hb38⟩
                have JA := (show Hid _ from ho38.mono (KD.out.al _).kept.size)
                have KE := (show Hid (Led w v38 w.heap.size h []) from Led.any ((KD.out.al _).go hb38))
                refine hKq.out _ _ KE.out (fun hHeld => ?_)
                clear hKq Kq
                try simp only [Act.put, List.setIfInBounds_toArray, List.set_cons_zero, List.set_cons_succ]
                refine takeHr (i := 12) (d := some 2) (v := ?v39) rfl rfl (by kernel_rfl) (by kernel_rfl) (by kernel_rfl) (fun _ _ _ h => h) (Or.inl ⟨by rfl, ?hy39⟩) hHeld ?rest39
                case hy39 => intro X hSw; (try dsimp only at hSw); go_simp <;> with_reducible rfl
                try simp only [Act.put, List.setIfInBounds_toArray, List.set_cons_zero, List.set_cons_succ]
                refine wpAnyH_done (by kernel_rfl) ?_ _
                go_wp2_with (fail)
                go_ret
                refine ⟨_, rfl, ?_, KE.out.kept⟩
                rw [← FE.out]
                exact JA.out
end
end Go.Proofs.Ytgggmdmhcaehlaa
/-
  The document's own functions of layer 8: Form.
-/
namespace Go.Proofs.Ytgggmdmhcaehlaa
open Go.RowKit
/-- The frames, one by one. -/
def frl (s : BitVec 32) (bl : List (List (BitVec 8))) (t : Nat) : List (List (BitVec 8)) := (List.range t).map (fun j => bl.getD j [] ++ sm (bsm s j (bl.getD j [])))
theorem frl_succ (s : BitVec 32) (bl : List (List (BitVec 8))) (t : Nat) : frl s bl (t + 1) = frl s bl t ++ [bl.getD t [] ++ sm (bsm s t (bl.getD t []))] := by
  unfold frl; rw [List.range_succ, List.map_append]; rfl
theorem frl_len (s : BitVec 32) (bl : List (List (BitVec 8))) (t : Nat) : (frl s bl t).length = t := by unfold frl; simp
theorem frl_flat (s : BitVec 32) (bl : List (List (BitVec 8))) : ∀ t, t ≤ bl.length → (frl s bl t).flatten = frs s 0 (bl.take t)
  | 0, _ => by rw [List.take_zero]; rfl
  | t + 1, h => by
    rw [frl_succ, List.flatten_append, frl_flat s bl t (by omega), frs_take s bl t (by omega)]
    simp
theorem Or.one8 (w : World) (v : Value) : Or (w.alloc (.cells #[v] 32)) w.heap.size (.slice (some ⟨w.heap.size, 0, none⟩) 1 1) [v] := by
  unfold Or
  exact ⟨rfl, .inr ⟨w.heap.size, 1, _, rfl, Nat.le_refl _, heap_alloc_new w _, Nat.le_refl _, by unfold maxLen; omega, rfl, rfl⟩⟩
theorem meas_lt8 {t N : Nat} (h : t < N) : N - (intOf (.int .i64 ((t + 1 : Nat) : Int))).toNat < N - (intOf (.int .i64 (t : Int))).toNat := by
  simp only [intOf, Int.toNat_natCast]; omega
theorem mem_len {xss : List (List (BitVec 8))} {x : List (BitVec 8)} (h : x ∈ xss) : x.length ≤ xss.flatten.length := by
  induction xss with
  | nil => cases h
  | cons y ys ih =>
    rw [List.flatten_cons, List.length_append]
    rcases List.mem_cons.1 h with rfl | h
    · omega
    · have := ih h; omega
section
attribute [local irreducible] Calls rg el lb Hd.cs Hd.sh frl Bl
set_option maxHeartbeats 16000000 in
set_option maxRecDepth 1000000 in
theorem rform_any (h : Hd) (ok : h.Ok) {w : World} {p : Option Addr} {bl : List (List (BitVec 8))} (HB : Rws w p bl) (n c : Nat) (hn : bl.length = n) (hm : bl.map List.length = h.ls) :
    Calls Try.prog 31 #[.agg (h.sh (.slice p n c))] w fun e w' => ∃ v, e = .returned v ∧ Ow w' w.heap.size v (h.fm bl) ∧ Below w.heap.size w w' := by
  have al : ∀ (W : World) (o : Obj), Below W.heap.size W (W.alloc o) := fun W o => (Below.refl _ _).alloc (Nat.le_refl _) o
  have S0 := (show Hid (SdAt (w.alloc (.cells (h.sh (.slice p n c)) 31)) w.heap.size h (.slice p n c)) from heap_alloc_new w _)
  have B0 := (show Hid (Below w.heap.size w (w.alloc (.cells (h.sh (.slice p n c)) 31))) from al _ _)
  have HR := (show Hid (Rws w p bl) from HB)
  have HBy := (show Hid (∀ W, _) from fun W => rhbytes_any h ok W)
  have HSu := (show Hid (∀ W, _) from fun W => rheadSum_any h ok W)
  have hld := h.len_bd ok
  have hlb := h.ls_bd ok
  have hfl : (h.fm bl).length = h.len := by rw [h.fm_len, hm]; rfl
  have hnl : n = h.ls.length := by rw [← hn, ← hm, List.length_map]
  have hrow : ∀ t, t < n → (bl.getD t []).length ≤ 17592186044416 := fun t ht => by
    have h1 := frl_flat h.s2 bl n (by omega)
    have h2 : (bl.getD t [] ++ sm (bsm h.s2 t (bl.getD t []))) ∈ frl h.s2 bl n := by unfold frl; rw [List.mem_map]; exact ⟨t, by simpa using ht, rfl⟩
    have h3 := mem_len h2
    rw [h1, List.take_of_length_le (by omega)] at h3
    have h4 := hfl
    unfold Hd.fm at h4
    rw [List.length_append] at h3 h4
    omega
  have HF := (show Hid ((h.hb :: frl h.s2 bl n).flatten = h.fm bl ∧ (h.hb :: frl h.s2 bl n).flatten.length ≤ 140737488355000) from by
    have e : (h.hb :: frl h.s2 bl n).flatten = h.fm bl := by rw [List.flatten_cons, frl_flat h.s2 bl n (by omega), List.take_of_length_le (by omega)]; rfl
    exact ⟨e, by rw [e]; omega⟩)
  have HN := (show Hid (bl.length = n ∧ n ≤ 1048576 ∧ ∀ t, t < n → (bl.getD t []).length ≤ 17592186044416) from ⟨hn, by omega, hrow⟩)
  clear HB ok hld hlb hfl hnl hrow hn hm
  go_enter Try.func31, Try.ntmps31
  go_wp2_with (first
    | (refine wpList_loadIn rfl _ rfl w.heap.size rfl (SdAt.head S0.out) ?_)
    | (go_at_call 56; refine (HBy.out _).mono ?_; rintro e w1 ⟨o1, rfl, ho1, hb1⟩; obtain ⟨p1, c1, rfl, hc1, hr1⟩ := ho1.rd; have OR := (show Hid (Or (w1.alloc (.cells #[.slice p1 h.hb.length c1] 32)) w1.heap.size (.slice (some ⟨w1.heap.size, 0, none⟩) 1 1) [.slice p1 h.hb.length c1]) from Or.one8 w1 _); have OW := (show Hid (Ow (w1.alloc (.cells #[.slice p1 h.hb.length c1] 32)) w.heap.size (.slice p1 h.hb.length c1) h.hb) from (ho1.mono B0.out.size).below (al _ _)); have S1 := (show Hid (SdAt (w1.alloc (.cells #[.slice p1 h.hb.length c1] 32)) w.heap.size h (.slice p n c)) from SdAt.below (SdAt.below S0.out hb1) (al _ _)); have B1 := (show Hid (Below w.heap.size w (w1.alloc (.cells #[.slice p1 h.hb.length c1] 32))) from bt (bt B0.out hb1) (al _ _)); clear S0 B0 ho1 hr1 hc1 HBy)
    | (refine wpList_loadIn rfl _ rfl w.heap.size rfl (SdAt.head S1.out) ?_)
    | (go_at_call 44; refine (HSu.out _).mono ?_; rintro e w2 ⟨rfl, hb2⟩; have BL2 := (show Hid (Bl w2 w.heap.size (.slice (some ⟨w1.heap.size, 0, none⟩) 1 1) [h.hb]) from by
        show Bl _ _ _ _
        unfold Bl
        refine ⟨[.slice p1 h.hb.length c1], own_mono (OR.out.below hb2) (Nat.le_trans (by simp) hb1.size), rfl, fun i hi => ?_⟩
        have hi' : i < 1 := hi
        match i, hi' with
        | 0, _ => exact OW.out.below hb2); have S2 := (show Hid (SdAt w2 w.heap.size h (.slice p n c)) from SdAt.below S1.out hb2); have B2 := (show Hid (Below w.heap.size w w2) from bt B1.out hb2); clear OR OW S1 B1))
  have hBn : n ≤ 1048576 := HN.out.2.1
  have HB8 := (show Hid _ from hBn)
  clear hBn HSu hb1 hb2
  go_loopw [3, 5] (fun v i wr => ∃ t : Nat, t ≤ n ∧ i = .int .i64 (t : Int) ∧ Hid (Bl wr w.heap.size v (h.hb :: frl h.s2 bl t)) ∧ Hid (SdAt wr w.heap.size h (.slice p n c)) ∧ Hid (Below w.heap.size w wr)) (fun _ i _ => n - (intOf i).toNat)
  case atStart => exact ⟨0, Nat.zero_le _, rfl, (by show Bl _ _ _ _; rw [show frl h.s2 bl 0 = [] from by unfold frl; rfl]; exact BL2.out), S2, B2⟩
  case round =>
    clear BL2 S2 B2
    obtain ⟨t, ht, rfl, hBl, hSd, hB⟩ := hrel
    have s16 := hSd.out.last
    by_cases hlt : t < n
    · have hi : (t : Int) < (n : Int) := by omega
      obtain ⟨b, o, q, cq, rfl, hcell, hle, hrd⟩ := Rws.row (Rws.below HR.out hB.out) t (by rw [HN.out.1]; exact hlt)
      have wt : wrap64 ((t : Int) + 1) = ((t + 1 : Nat) : Int) := by have := HB8.out; unfold wrap64; omega
      have WT := (show Hid _ from wt)
      have HX := (show Hid _ from frl_succ h.s2 bl t)
      have hxl := HN.out.2.2 t hlt
      obtain ⟨x, hx⟩ : ∃ x, x = bl.getD t [] := ⟨_, rfl⟩
      rw [← hx] at hcell hle hrd HX hxl
      obtain ⟨d, hd⟩ : ∃ d, x.length = d := ⟨_, rfl⟩
      rw [hd] at hcell hle hxl
      have FR := (show Hid _ from rframe_any hrd d cq hd hle (by omega) h.s2 t (by have := HB8.out; omega))
      obtain ⟨y, hy⟩ : ∃ y, y = x ++ sm (bsm h.s2 t x) := ⟨_, rfl⟩
      rw [← hy] at FR HX
      clear hy
      have HT := (show Hid (t < n) from hlt)
      have hB9 := hBl.out
      unfold Bl at hB9
      obtain ⟨us, hOr, hul, hrows⟩ := hB9
      have HO := (show Hid (Or wr w.heap.size u3 us) from hOr)
      have HRW := (show Hid (∀ i, i < (h.hb :: frl h.s2 bl t).length → Ow wr w.heap.size (us.getD i (.slice none 0 0)) ((h.hb :: frl h.s2 bl t).getD i [])) from hrows)
      have hul2 := (show Hid (us.length = (h.hb :: frl h.s2 bl t).length ∧ us.length + 1 ≤ 1099511627776) from ⟨hul, by rw [hul, List.length_cons, frl_len]; have := HB8.out; omega⟩)
      clear hx hOr hrows hul wt hrd hd hxl hle hlt ht hBl
      go_wp2_with (first
        | (go_at_call 57; refine FR.out.mono ?_; rintro e w3 ⟨v3, rfl, hO3, hb3⟩; obtain ⟨p3, c3, e3, hc3, hr3⟩ := hO3.rd; subst e3; have OW3 := (show Hid (Ow (w3.alloc (.cells #[.slice p3 y.length c3] 32)) w.heap.size (.slice p3 y.length c3) y) from (hO3.mono hB.out.size).below (al _ _)); have HO3 := (show Hid (Or (w3.alloc (.cells #[.slice p3 y.length c3] 32)) w.heap.size u3 us) from (HO.out.below hb3).below (al _ _)); have B3 := (show Hid (Below wr.heap.size wr (w3.alloc (.cells #[.slice p3 y.length c3] 32))) from bt hb3 (al _ _)); have rc := cell_of_row (w3.alloc (.cells #[.slice p3 y.length c3] 32)) w3.heap.size 0 _ _ (0, 0) (heap_alloc_new w3 _); have S3 := (show Hid (SdAt (w3.alloc (.cells #[.slice p3 y.length c3] 32)) w.heap.size h (.slice (some ⟨b, o, none⟩) n c)) from SdAt.below hSd.out B3.out); clear hr3 hc3 hO3)
        | (at_builtin; refine wpList_apr rfl (.tmp 20) (.tmp 29) rfl w.heap.size u3 us rfl HO3.out ⟨w3.heap.size, 0, none⟩ 1 (.slice p3 y.length c3) rfl rfl rc hul2.out.2 (Nat.le_trans hB.out.size B3.out.size) ?_; intro v7 w7 ho7 hg7))
      go_roundw
      case rel =>
        have hB7 := Bl.push HO3.out hul2.out.1 (fun i hi => (HRW.out i hi).below B3.out) OW3.out ho7 hg7
        refine ⟨t + 1, HT.out, by rw [WT.out], ?_, sd_or S3.out HO3.out hg7, ?_⟩
        · show Bl _ _ _ _
          rw [HX.out]
          exact hB7
        · exact below_append (t := 32) (bt hB.out B3.out) (Nat.le_trans hB.out.size B3.out.size) hg7 HO3.out (Nat.le_refl _)
      case measure => rw [WT.out]; exact meas_lt8 HT.out
    · obtain rfl : t = n := by omega
      obtain ⟨q, cq, rfl, hcq, hRq⟩ := (show Bl _ _ _ _ from hBl.out).rws
      have RQ := (show Hid _ from hRq)
      have JN := (show Hid _ from rjoin_any hRq (h.hb :: frl h.s2 bl t).length cq rfl (by rw [List.length_cons, frl_len]; have := HB8.out; omega) HF.out.2)
      rw [HF.out.1] at JN
      clear hRq hcq
      go_wp2_with (first
        | (go_at_call 42; refine JN.out.mono ?_; rintro e w9 ⟨o9, rfl, ho9, hb9⟩; have O9 := (show Hid (Ow w9 w.heap.size o9 (h.fm bl)) from ho9.mono hB.out.size)))
      go_ret
      exact ⟨_, rfl, O9.out, bt hB.out hb9⟩
end
end Go.Proofs.Ytgggmdmhcaehlaa
/-
  The document's own functions of layer 8: Encode.
-/
namespace Go.Proofs.Ytgggmdmhcaehlaa
open Go.RowKit
theorem len_more {bl : List (List (BitVec 8))} {ns : List Nat} {t : Nat} (h : ∀ k, k < t → (bl.getD k []).length = ns.getD k 0) (ht : (bl.getD t []).length = ns.getD t 0) : ∀ k, k < t + 1 → (bl.getD k []).length = ns.getD k 0 := by
  intro k hk
  by_cases e : k = t
  · rw [e]; exact ht
  · exact h k (by omega)
section
attribute [local irreducible] Calls rg el Hd.cs Hd.sh chk
set_option maxHeartbeats 16000000 in
set_option maxRecDepth 1000000 in
theorem rencode_any (h : Hd) (hi : h.In) (hy : h.key.length ≤ 9223372036854775807) {w : World} {p : Option Addr} {bl : List (List (BitVec 8))} (HB : Rws w p bl) (n c : Nat) (hn : bl.length = n) (hN : n ≤ 5864062014805) :
    Calls Try.prog 7 #[.agg (h.sh (.slice p n c))] w fun e w' => ∃ v, e = .returned (.tuple #[v, .int .i64 (enE h bl)]) ∧ Ow w' w.heap.size v (enL h bl) ∧ Below w.heap.size w w' := by
  have al : ∀ (W : World) (o : Obj), Below W.heap.size W (W.alloc o) := fun W o => (Below.refl _ _).alloc (Nat.le_refl _) o
  have S0 := (show Hid (SdAt (w.alloc (.cells (h.sh (.slice p n c)) 31)) w.heap.size h (.slice p n c)) from heap_alloc_new w _)
  have B0 := (show Hid (Below w.heap.size w (w.alloc (.cells (h.sh (.slice p n c)) 31))) from al _ _)
  have HR := (show Hid (Rws w p bl) from HB)
  have CK := (show Hid (∀ W, _) from fun W => rcheck_any h hi hy W)
  have HN := (show Hid (bl.length = n ∧ n ≤ 5864062014805) from ⟨hn, hN⟩)
  by_cases hc : chk h = 0
  · have ok := (chk_ok h).1 hc
    have SZ := (show Hid (∀ W, _) from fun W => rsizes_any h.k h.m h.b h.sz hi.k hi.m hi.sz W)
    rw [(h.ls_eq ok).1, (h.ls_eq ok).2] at SZ
    rw [hc] at CK
    have EE := (show Hid (enE h bl = if bl.map List.length = h.ls then 0 else 81) from by show _ = _; unfold enE; rw [if_neg (by simpa using hc)])
    have FO := (show Hid (bl.map List.length = h.ls → ∀ W, Below w.heap.size w W → _) from fun hm W hW => rform_any h ok (Rws.below HB hW) n c hn hm)
    have hlb := h.ls_bd ok
    have LM := (show Hid (∀ t, t < bl.length → (bl.map List.length).getD t 0 = (bl.getD t []).length) from fun t ht => by simp [List.getD, ht])
    clear HB hn hN hc ok
    generalize h.ls = ns at *
    go_enter Try.func7, Try.ntmps7
    go_upto_region 5 with (first
      | (refine wpList_loadIn rfl _ rfl w.heap.size rfl (SdAt.head S0.out) ?_)
      | (go_at_call 29; refine (CK.out _).mono ?_; rintro e w1 ⟨rfl, hb1⟩; have S1 := (show Hid (SdAt w1 w.heap.size h (.slice p n c)) from SdAt.below S0.out hb1); have B1 := (show Hid (Below w.heap.size w w1) from bt B0.out hb1); obtain ⟨k8, k9, k10, -, k12, -, -, -⟩ := (SdAt.head S1.out).cells; clear S0 B0 hb1)
      | (go_at_call 30; refine (SZ.out _).mono ?_; rintro e w2 ⟨v2, rfl, hO2, hb2⟩; obtain ⟨p2, c2, rfl, hc2, hV2⟩ := hO2.rd; have V2 := (show Hid (Vr w2 p2 (ic ns)) from hV2); have S2 := (show Hid (SdAt w2 w.heap.size h (.slice p n c)) from SdAt.below S1.out hb2); have B2 := (show Hid (Below w.heap.size w w2) from bt B1.out hb2); clear k8 k9 k10 k12 hO2 hV2 hb2 S1 B1))
    have s16 := S2.out.last
    by_cases hl : ns.length = n
    · have f1 : ((ns.length : Int) != (n : Int)) = false := by rw [hl]; simp
      have HL := (show Hid (ns.length = n ∧ ns.length ≤ 1048576) from ⟨hl, hlb⟩)
      clear hl hlb
      go_wp2_with (fail)
      clear f1
      go_loopw [7] (fun i wr => ∃ t : Nat, t ≤ ns.length ∧ i = .int .i64 (t : Int) ∧ Hid (∀ k, k < t → (bl.getD k []).length = ns.getD k 0) ∧ Hid (SdAt wr w.heap.size h (.slice p n c)) ∧ Hid (Below w2.heap.size w2 wr)) (fun i _ => ns.length - (intOf i).toNat)
      case atStart => exact ⟨0, Nat.zero_le _, rfl, fun k hk => absurd hk (by omega), S2, Below.refl _ _⟩
      case round =>
        obtain ⟨t, ht, rfl, hA, hSd, hB⟩ := hrel
        have s16r := hSd.out.last
        by_cases hlt : t < ns.length
        · have hi' : (t : Int) < (ns.length : Int) := by omega
          obtain ⟨b2, o2, rfl, hc2'⟩ := vr_row (Vr.below V2.out hB.out) hlt
          obtain ⟨b, o, q, cq, rfl, hcell, hle, hrd⟩ := Rws.row (Rws.below HR.out (bt B2.out hB.out)) t (by have := HL.out; have := HN.out; omega)
          have it : (t : Int) < (n : Int) := by have := HL.out; omega
          have wt : wrap64 ((t : Int) + 1) = ((t + 1 : Nat) : Int) := by have := HL.out; unfold wrap64; omega
          have WT := (show Hid _ from wt)
          have HT := (show Hid (t < ns.length) from hlt)
          obtain ⟨d, hd⟩ : ∃ d, d = ns.getD t 0 := ⟨_, rfl⟩
          obtain ⟨x, hx⟩ : ∃ x, x = (bl.getD t []).length := ⟨_, rfl⟩
          rw [← hd] at hc2'
          rw [← hx] at hcell
          have HD := (show Hid (d = ns.getD t 0 ∧ x = (bl.getD t []).length) from ⟨hd, hx⟩)
          clear hd hx hle hrd ht hlt wt s16
          by_cases he : x = d
          · have f2 : ((x : Int) != (d : Int)) = false := by rw [he]; simp
            have HE := (show Hid _ from he)
            clear he
            go_wp2
            go_quiet (fail)
            go_wp2_with (fail)
            go_roundw
            case rel => exact ⟨t + 1, HT.out, by rw [WT.out], (len_more hA.out (by rw [← HD.out.1, ← HD.out.2]; exact HE.out)), SdAt.below hSd.out (bd8 (Below.refl _ _) _), bd8 hB.out _⟩
            case measure => rw [WT.out]; exact meas_lt8 HT.out
          · have f2 : ((x : Int) != (d : Int)) = true := by simp; omega
            have EP := (show Hid (enE h bl = 81) from by
              show _ = _
              rw [EE.out, if_neg]
              intro e
              apply he
              have h1 := LM.out t (by have := HL.out; have := HN.out; have := HT.out; omega)
              rw [e] at h1
              rw [HD.out.1, HD.out.2, h1])
            clear he
            go_wp2
            go_quiet (fail)
            go_wp2_with (fail)
            go_ret2
            exact ⟨_, by rw [EP.out]; rfl, by unfold enL; rw [EP.out, if_neg (by decide)]; exact Ow.nil _ _, bd8 (bt B2.out hB.out) _⟩
        · obtain rfl : t = ns.length := by omega
          have hm : bl.map List.length = ns := by
            apply List.ext_getElem?
            intro k
            by_cases hk : k < ns.length
            · have h1 := hA.out k hk
              have hk2 : k < bl.length := by have := HL.out; have := HN.out; omega
              rw [List.getElem?_map, List.getElem?_eq_getElem hk2, List.getElem?_eq_getElem hk]
              simp only [Option.map_some]
              congr 1
              simpa [List.getD, hk, hk2] using h1
            · rw [List.getElem?_eq_none (by rw [List.length_map]; have := HL.out; have := HN.out; omega), List.getElem?_eq_none (by omega)]
          have EP := (show Hid (enE h bl = 0) from by show _ = _; rw [EE.out, if_pos hm])
          have FF := (show Hid _ from FO.out hm wr (bt B2.out hB.out))
          clear hm
          go_wp2_with (first
            | (refine wpList_ldS rfl _ rfl w.heap.size rfl hSd.out ?_)
            | (go_at_call 31; refine FF.out.mono ?_; rintro e w9 ⟨o9, rfl, ho9, hb9⟩; have O9 := (show Hid (Ow w9 w.heap.size o9 (h.fm bl)) from ho9.mono (bt B2.out hB.out).size)))
          go_ret2
          exact ⟨_, by rw [EP.out]; rfl, by unfold enL; rw [EP.out, if_pos rfl]; exact O9.out, bt (bt B2.out hB.out) hb9⟩
    · have f1 : ((ns.length : Int) != (n : Int)) = true := by simp; omega
      have EP := (show Hid (enE h bl = 81) from by show _ = _; rw [EE.out, if_neg]; intro e; have := congrArg List.length e; rw [List.length_map, HN.out.1] at this; omega)
      clear hl
      go_wp2_with (fail)
      go_ret2
      exact ⟨_, by rw [EP.out]; rfl, by unfold enL; rw [EP.out, if_neg (by decide)]; exact Ow.nil _ _, B2.out⟩
  · have EP := (show Hid (enE h bl = chk h) from by show _ = _; unfold enE; rw [if_pos hc])
    have EL := (show Hid (enL h bl = []) from by show _ = _; unfold enL; rw [EP.out, if_neg hc])
    have f1 : (chk h != 0) = true := by simpa using hc
    generalize chk h = z at *
    clear hc
    go_enter Try.func7, Try.ntmps7
    go_wp2_with (first
      | (refine wpList_loadIn rfl _ rfl w.heap.size rfl (SdAt.head S0.out) ?_)
      | (go_at_call 29; refine (CK.out _).mono ?_; rintro e w1 ⟨rfl, hb1⟩; have B1 := (show Hid (Below w.heap.size w w1) from bt B0.out hb1)))
    go_ret2
    exact ⟨_, by rw [EP.out]; rfl, by rw [EL.out]; exact Ow.nil _ _, B1.out⟩
end
end Go.Proofs.Ytgggmdmhcaehlaa
/-
  Layer 8's laws: 'lent' and 'kept'.
-/
namespace Go.Proofs.Ytgggmdmhcaehlaa
open Go.RowKit
/-- The marks behind what is lent. -/
def mk8s (k : Nat) : List (BitVec 8) := (List.range k).map fun i => BitVec.ofNat 8 (150 + i)
theorem mk8s_len (k : Nat) : (mk8s k).length = k := by simp [mk8s]
theorem mk8s_succ (k : Nat) : mk8s (k + 1) = mk8s k ++ [BitVec.ofNat 8 (150 + k)] := by unfold mk8s; rw [List.range_succ, List.map_append]; rfl
theorem mk8s_get (k i : Nat) (h : i < k) : (mk8s k).getD i 0#8 = BitVec.ofNat 8 (150 + i) := by simp [mk8s, List.getD, h]
/-- Bytes that are lent: a row of its own, with marks behind. -/
def Ln8 (w : World) (base : Nat) (v : Value) (xs : List (BitVec 8)) : Prop := ∃ g cap, v = .slice (some ⟨g, 0, none⟩) xs.length cap ∧ Ow w base (.slice (some ⟨g, 0, none⟩) (xs.length + 66) cap) (xs ++ mk8s 66)
theorem Ln8.below {w w' : World} {base : Nat} {v : Value} {xs : List (BitVec 8)} (h : Ln8 w base v xs) (hb : Below w.heap.size w w') : Ln8 w' base v xs := by
  obtain ⟨g, cap, hv, hO⟩ := h
  exact ⟨g, cap, hv, hO.below hb⟩
theorem Ow.some8 {w : World} {base : Nat} {v : Value} {xs : List (BitVec 8)} (h : Ow w base v xs) (h0 : 0 < xs.length) : ∃ g cap, v = .slice (some ⟨g, 0, none⟩) xs.length cap ∧ xs.length ≤ cap := by
  rcases h.2 with ⟨_, h1⟩ | ⟨g, cap, cur, hv, _, _, hn, _⟩
  · omega
  · exact ⟨g, cap, hv, hn⟩
theorem Ow.empty8 (w : World) : Ow (w.alloc (.cells #[] 5)) w.heap.size (.slice (some ⟨w.heap.size, 0, none⟩) 0 0) [] := by
  have h := Ow.made w 0 (by omega)
  simpa using h
section
attribute [local irreducible] Calls el mk8s
set_option maxHeartbeats 1000000 in
set_option maxRecDepth 1000000 in
theorem lent8_any {w : World} {a : Option Addr} {xs : List (BitVec 8)} (h : Rd w a xs) (n c : Nat) (hn : xs.length = n) (hm : n ≤ 140737488351232) :
    Calls Try.prog 15 #[.slice a n c] w fun e w' => ∃ v, e = .returned v ∧ Ln8 w' w.heap.size v xs ∧ Below w.heap.size w w' := by
  have al : ∀ (W : World) (o : Obj), Below W.heap.size W (W.alloc o) := fun W o => (Below.refl _ _).alloc (Nat.le_refl _) o
  have O6 := (show Hid (Ow (w.alloc (.cells #[] 5)) w.heap.size (.slice (some ⟨w.heap.size, 0, none⟩) 0 0) []) from Ow.empty8 w)
  go_enter Try.func15, Try.ntmps15
  have hR := (show Hid (Rd (w.alloc (.cells #[] 5)) a xs) from h.below (al _ _))
  have hL0 := (show Hid (([] : List (BitVec 8)).length + n ≤ 140737488355328) from by show _ ≤ _; rw [List.length_nil]; omega)
  go_wp2_with (at_builtin; refine wpList_apa rfl (.tmp 5) (.tmp 6) rfl w.heap.size _ [] rfl O6.out a n c xs rfl hR.out hn hL0.out (al _ _).size ?_; intro v1 w1 ho1 hg1 hk1)
  rw [List.nil_append] at ho1
  have hb1 := O6.out.below_append (al w _) (al w _).size hg1 (Nat.le_refl _)
  clear hk1
  go_loopw [3, 4] (fun o i wr => ∃ j : Nat, j ≤ 66 ∧ i = .int .i64 (j : Int) ∧ Ow wr w.heap.size o (xs ++ mk8s j) ∧ Below w.heap.size w wr) (fun _ i _ => 66 - (intOf i).toNat)
  case atStart => exact ⟨0, Nat.zero_le _, rfl, by rw [show mk8s 0 = [] from by unfold mk8s; rfl, List.append_nil]; exact ho1, hb1⟩
  case round =>
    obtain ⟨j, hj, rfl, hO, hb⟩ := hrel
    have hs := hb.size
    by_cases hlt : j < 66
    · have hi : (j : Int) < 66 := by omega
      have r1 : Rd (wr.alloc (.cells #[.int .u8 ((150 : Int) + (j : Int))] 5)) (some ⟨wr.heap.size, 0, none⟩) [BitVec.ofNat 8 (150 + j)] := by
        have h9 := rd_k wr (150 + j) (by omega)
        rwa [show ((150 + j : Nat) : Int) = (150 : Int) + (j : Int) by omega] at h9
      have hsu := mk8s_succ j
      have hml := mk8s_len j
      go_wp2_with (at_builtin; refine wpList_apa rfl (.tmp 12) (.tmp 16) rfl w.heap.size u3 (xs ++ mk8s j) rfl (hO.below (al _ _)) (some ⟨wr.heap.size, 0, none⟩) 1 1 [BitVec.ofNat 8 (150 + j)] rfl r1 rfl (by rw [List.length_append, hml]; show _ + 1 ≤ _; omega) (Nat.le_trans hs (al _ _).size) ?_; intro v2 w2 ho2 hg2 hk2)
      go_roundw
      case rel =>
        refine ⟨j + 1, by omega, by go_num, ?_, (hO.below (al _ _)).below_append (hb.alloc hs _) (Nat.le_trans hs (al _ _).size) hg2 (Nat.le_refl _)⟩
        rw [hsu, ← List.append_assoc]; exact ho2
      case measure => simp [intOf]; omega
    · obtain rfl : j = 66 := by omega
      have hml := mk8s_len 66
      have hLn : (xs ++ mk8s 66).length = n + 66 := by rw [List.length_append, hml, hn]
      obtain ⟨g, cap, rfl, hcap⟩ := hO.some8 (by omega)
      rw [hLn] at hcap hO
      rw [hLn]
      have hcn : n ≤ cap := by omega
      clear hLn hml
      go_wp2
      go_ret
      subst hn
      exact ⟨_, rfl, ⟨g, cap, rfl, hO⟩, hb⟩
theorem Ln8.rd {w : World} {base : Nat} {v : Value} {xs : List (BitVec 8)} (h : Ln8 w base v xs) : ∃ g cap, v = .slice (some ⟨g, 0, none⟩) xs.length cap ∧ xs.length + 66 ≤ cap ∧ base ≤ g ∧ (∀ i, i < xs.length + 66 → w.cell? ⟨g, 0 + i, none⟩ = some (.int .u8 (el ((xs ++ mk8s 66).getD i 0#8)))) ∧ Rd w (some ⟨g, 0, none⟩) xs := by
  obtain ⟨g, cap, rfl, hO⟩ := h
  obtain ⟨p, c, hv, hc, hr⟩ := hO.rd
  have hl : (xs ++ mk8s 66).length = xs.length + 66 := by rw [List.length_append, mk8s_len]
  injection hv with e1 e2 e3
  subst e1 e3
  have hcell : ∀ i, i < xs.length + 66 → w.cell? ⟨g, 0 + i, none⟩ = some (.int .u8 (el ((xs ++ mk8s 66).getD i 0#8))) := fun i hi => by
    rcases hr with hr | ⟨b, o, e, hcell⟩
    · rw [hr] at hl; simp at hl
    · injection e with e
      injection e with e1 e2
      subst e1 e2
      exact hcell i (by omega)
  refine ⟨g, cap, rfl, by omega, (hO.lt (g := g) rfl).1, hcell, .inr ⟨g, 0, rfl, fun i hi => ?_⟩⟩
  rw [hcell i (by omega)]
  simp [List.getD, List.getElem?_append_left hi]
set_option maxHeartbeats 1000000 in
set_option maxRecDepth 1000000 in
theorem kept8_any {w : World} {base : Nat} {v : Value} {xs : List (BitVec 8)} (hL : Ln8 w base v xs) {a : Option Addr} (h : Rd w a xs) (c : Nat) (hm : xs.length ≤ 140737488351232) :
    Calls Try.prog 21 #[v, .slice a xs.length c] w fun e w' => e = .returned (.bool true) ∧ Below w.heap.size w w' := by
  obtain ⟨g, cap, rfl, hcap, _, hcell, r0⟩ := hL.rd
  obtain ⟨n, hn⟩ : ∃ n, xs.length = n := ⟨_, rfl⟩
  have cv1 := conv_rd r0 n cap hn
  have cv2 := conv_rd h n c hn
  have bq : ((bstr xs).toList != (bstr xs).toList) = false := by simp
  have hce : Hid (∀ i, i < 66 → w.cell? ⟨g, n + i, none⟩ = some (.int .u8 (((150 + i : Nat) : Int)))) := by
    intro i hi
    have := hcell (n + i) (by omega)
    rw [Nat.zero_add] at this
    rw [this]
    congr 2
    have e : (xs ++ mk8s 66).getD (n + i) 0#8 = BitVec.ofNat 8 (150 + i) := by
      rw [← mk8s_get 66 i hi]
      simp [List.getD, List.getElem?_append_right (show xs.length ≤ n + i by omega), show n + i - xs.length = i by omega]
    rw [e, el_ofNat]; omega
  rw [hn] at hcap hm ⊢
  have hcap2 : (n : Int) + 66 ≤ (cap : Int) := by omega
  clear hcell r0 h hL hn
  go_enter Try.func21, Try.ntmps21
  go_wp2
  go_loopw [6] (fun i wr => ∃ j : Nat, j ≤ 66 ∧ i = .int .i64 (j : Int) ∧ Below w.heap.size w wr) (fun i _ => 66 - (intOf i).toNat)
  case atStart => exact ⟨0, Nat.zero_le _, rfl, Below.refl _ _⟩
  case round =>
    obtain ⟨j, hj, rfl, hb⟩ := hrel
    by_cases hlt : j < 66
    · have hi : (j : Int) < 66 := by omega
      have g1 := cell_below (hce.out j hlt) hb
      obtain ⟨N, hN⟩ : ∃ N, n + j = N := ⟨_, rfl⟩
      rw [hN] at g1
      have e1 : (n : Int) + (j : Int) = (N : Int) := by omega
      have e2 : ((150 + j : Nat) : Int) = 150 + (j : Int) := by omega
      rw [e2] at g1
      have hN2 : (N : Int) < (n : Int) + 66 := by omega
      have hN3 : N < n + 66 := by omega
      go_wp2
      go_roundw
      case rel => exact ⟨j + 1, by omega, by go_num, hb⟩
      case measure => simp [intOf]; omega
    · obtain rfl : j = 66 := by omega
      go_wp2
      go_ret
      exact ⟨rfl, hb⟩
end
end Go.Proofs.Ytgggmdmhcaehlaa
/-
  Layer 8's laws: 'lentRows'.
-/
namespace Go.Proofs.Ytgggmdmhcaehlaa
open Go.RowKit
/-- The marks behind a list of rows. -/
def mrk (k : Nat) : List (BitVec 8) := [BitVec.ofNat 8 k, 77#8]
/-- Rows that are lent: an own list of rows, each lent, with marked rows behind. -/
def LnR (w : World) (base : Nat) (us : List Value) (bl : List (List (BitVec 8))) (k : Nat) : Prop := us.length = bl.length + k ∧ (∀ i, i < bl.length → Ln8 w base (us.getD i (.slice none 0 0)) (bl.getD i [])) ∧ ∀ j, j < k → Ow w base (us.getD (bl.length + j) (.slice none 0 0)) (mrk j)
theorem LnR.below {w w' : World} {base : Nat} {us : List Value} {bl : List (List (BitVec 8))} {k : Nat} (h : LnR w base us bl k) (hb : Below w.heap.size w w') : LnR w' base us bl k :=
  ⟨h.1, fun i hi => (h.2.1 i hi).below hb, fun j hj => (h.2.2 j hj).below hb⟩
theorem Ln8.or {w w' : World} {B B' : Nat} {u v : Value} {xs : List (BitVec 8)} {us : List Value} (h : Ln8 w B u xs) (hv : Or w B' v us) (hg : w.grownBy w' v.ownBlock) : Ln8 w' B u xs := by
  obtain ⟨g, cap, e, hO⟩ := h
  exact ⟨g, cap, e, ow_or hO hv hg⟩
theorem LnR.or {w w' : World} {B B' : Nat} {v : Value} {us vs : List Value} {bl : List (List (BitVec 8))} {k : Nat} (h : LnR w B us bl k) (hv : Or w B' v vs) (hg : w.grownBy w' v.ownBlock) : LnR w' B us bl k :=
  ⟨h.1, fun i hi => (h.2.1 i hi).or hv hg, fun j hj => ow_or (h.2.2 j hj) hv hg⟩
theorem Ln8.mono {w : World} {B B' : Nat} {u : Value} {xs : List (BitVec 8)} (h : Ln8 w B u xs) (hb : B' ≤ B) : Ln8 w B' u xs := by
  obtain ⟨g, cap, e, hO⟩ := h
  exact ⟨g, cap, e, hO.mono hb⟩
theorem meas_lt8' {t N : Nat} (h : t < N) : N - (intOf (.int .i64 ((t + 1 : Nat) : Int))).toNat < N - (intOf (.int .i64 (t : Int))).toNat := by
  simp only [intOf, Int.toNat_natCast]; omega
theorem LnR.nil (w : World) (B : Nat) : LnR w B [] [] 0 := ⟨rfl, fun i hi => by simp at hi, fun j hj => by omega⟩
theorem LnR.row {w : World} {B : Nat} {us : List Value} {bl : List (List (BitVec 8))} {u : Value} {x : List (BitVec 8)} (h : LnR w B us bl 0) (hu : Ln8 w B u x) : LnR w B (us ++ [u]) (bl ++ [x]) 0 := by
  obtain ⟨h1, h2, h3⟩ := h
  refine ⟨by simp [h1], fun i hi => ?_, fun j hj => by omega⟩
  rw [List.length_append, List.length_singleton] at hi
  by_cases hlt : i < bl.length
  · have := h2 i hlt
    simpa [List.getD, List.getElem?_append_left hlt, List.getElem?_append_left (show i < us.length by omega)] using this
  · have e : i = bl.length := by omega
    subst e
    have e2 : (us ++ [u]).getD bl.length (.slice none 0 0) = u := by rw [show bl.length = us.length by omega]; simp [List.getD]
    have e3 : (bl ++ [x]).getD bl.length [] = x := by simp [List.getD]
    rw [e2, e3]; exact hu
theorem LnR.mark {w : World} {B : Nat} {us : List Value} {bl : List (List (BitVec 8))} {u : Value} {k : Nat} (h : LnR w B us bl k) (hu : Ow w B u (mrk k)) : LnR w B (us ++ [u]) bl (k + 1) := by
  obtain ⟨h1, h2, h3⟩ := h
  refine ⟨by simp [h1]; omega, fun i hi => ?_, fun j hj => ?_⟩
  · have := h2 i hi
    simpa [List.getD, List.getElem?_append_left (show i < us.length by omega)] using this
  · by_cases hlt : j < k
    · have := h3 j hlt
      simpa [List.getD, List.getElem?_append_left (show bl.length + j < us.length by omega)] using this
    · have e : j = k := by omega
      subst e
      have e2 : (us ++ [u]).getD (bl.length + j) (.slice none 0 0) = u := by rw [← h1]; simp [List.getD]
      rw [e2]; exact hu
theorem Ow.mrk8 (w : World) (B k : Nat) (hk : k < 66) (hB : B ≤ w.heap.size) : Ow (w.alloc (.cells #[.int .u8 (k : Int), .int .u8 77] 5)) B (.slice (some ⟨w.heap.size, 0, none⟩) 2 2) (mrk k) := by
  have e : ((mrk k).map (fun b => Value.int .u8 (el b))).toArray = #[.int .u8 (k : Int), .int .u8 77] := by
    unfold mrk
    simp only [List.map_cons, List.map_nil, el_ofNat]
    rw [show k % 256 = k by omega]
    rfl
  have h := Ow.of_row (w := w.alloc (.cells #[.int .u8 (k : Int), .int .u8 77] 5)) (base := B) (g := w.heap.size) (xs := mrk k) hB (by rw [e]; exact heap_alloc_new w _) (by unfold mrk; simp)
  exact h
section
attribute [local irreducible] Calls el mk8s mrk LnR Ln8
set_option maxHeartbeats 16000000 in
set_option maxRecDepth 1000000 in
/-- append(v, x) of one row, as long as memory goes. -/
theorem wpList_apL {w : World} {ops : Array Oper} {rest : List Oper} {o : Oper} {a : Act} {Q : Exit → Act → World → Prop} (hgd : o.guard = none) (s x : Operand) (ho : o.op = .call { callee := .builtin .append, args := #[s, x], argTypes := #[29, 29] })
    (base : Nat) (v : Value) (us : List Value) (hs : a.eval s = v) (hown : Or w base v us) (ad : Addr) (c : Nat) (u : Value) (hu : u.oneCell' = true) (hx : a.eval x = .slice (some ad) 1 c) (hr : w.cell? ad = some u) (hm : us.length + 1 ≤ 5864062014805) (hbase : base ≤ w.heap.size)
    (h : ∀ v' w', Or w' base v' (us ++ [u]) → w.grownBy w' v.ownBlock → wpList Try.prog ops Q rest (a.put o.dst v') w') : wpList Try.prog ops Q (o :: rest) a w := by
  obtain ⟨i0, hi, hz0, hz1, hz2⟩ := info_parts infoR
  have S : ∀ j t, ([u] : List Value)[j]? = some t → w.cell? (ad.add j) = some t := by
    intro j t ht
    match j with
    | 0 =>
      simp at ht
      rw [show ad.add 0 = ad by unfold Addr.add; split <;> simp_all, hr, ht]
    | j + 1 => simp at ht
  refine wpList_append_own _ hgd _ _ 29 ho base 32 i0 (.slice none 0 0) 1 24 Try.underlying29 hi hz0 hz1 hz2 rfl (by decide) v us.length _ hs hown ad 1 c [u] hx rfl S (by intro t ht; simp at ht; subst ht; exact hu) (by unfold maxLen; omega) (by omega) hbase ?_
  intro v' w' ho' hg _
  refine h v' w' ?_ hg
  unfold Or
  simpa using ho'
theorem lentRows8_any {w : World} {p : Option Addr} {bl : List (List (BitVec 8))} (HB : Rws w p bl) (n c : Nat) (hn : bl.length = n) (hN : n ≤ 5864062014634) (hx : ∀ t, (bl.getD t []).length ≤ 140737488351232) :
    Calls Try.prog 8 #[.slice p n c] w fun e w' => ∃ g cap us, e = .returned (.slice (some ⟨g, 0, none⟩) n cap) ∧ Or w' w.heap.size (.slice (some ⟨g, 0, none⟩) (n + 66) cap) us ∧ LnR w' w.heap.size us bl 66 ∧ n + 66 ≤ cap ∧ Below w.heap.size w w' := by
  have al : ∀ (W : World) (o : Obj), Below W.heap.size W (W.alloc o) := fun W o => (Below.refl _ _).alloc (Nat.le_refl _) o
  have HR := (show Hid (Rws w p bl) from HB)
  have HN := (show Hid (bl.length = n ∧ n ≤ 5864062014634 ∧ ∀ t, (bl.getD t []).length ≤ 140737488351232) from ⟨hn, hN, hx⟩)
  clear HB hn hN hx
  go_enter Try.func8, Try.ntmps8
  go_wp2_with (fail)
  go_loopw [3, 4] (fun v i wr => ∃ (t : Nat) (us : List Value), t ≤ n ∧ i = .int .i64 (t : Int) ∧ Hid (Or wr w.heap.size v us) ∧ Hid (LnR wr w.heap.size us (bl.take t) 0) ∧ Hid (Below w.heap.size w wr)) (fun _ i _ => n - (intOf i).toNat)
  case atStart => exact ⟨0, [], Nat.zero_le _, rfl, Or.nil _ _, (by show LnR _ _ _ _ _; rw [List.take_zero]; exact LnR.nil _ _), Below.refl _ _⟩
  case round =>
    obtain ⟨t, us, ht, rfl, hO, hL, hB⟩ := hrel
    by_cases hlt : t < n
    · have hi : (t : Int) < (n : Int) := by omega
      obtain ⟨b, o, q, cq, rfl, hcell, hle, hrd⟩ := Rws.row (Rws.below HR.out hB.out) t (by rw [HN.out.1]; exact hlt)
      have WT := (show Hid (wrap64 ((t : Int) + 1) = ((t + 1 : Nat) : Int)) from by have := HN.out.2.1; show _ = _; unfold wrap64; omega)
      have HX := (show Hid (bl.take (t + 1) = bl.take t ++ [bl.getD t []]) from by show _ = _; rw [List.take_add_one]; have := HN.out.1; simp [List.getD, show t < bl.length by omega])
      have hxl := HN.out.2.2 t
      have hul := (show Hid (us.length + 1 ≤ 5864062014805) from by
        have h9 := hL.out
        unfold LnR at h9
        have h1 := h9.1
        rw [List.length_take] at h1
        have := HN.out
        show _ ≤ _
        omega)
      obtain ⟨x, hx⟩ : ∃ x, x = bl.getD t [] := ⟨_, rfl⟩
      rw [← hx] at hcell hle hrd HX hxl
      obtain ⟨d, hd⟩ : ∃ d, x.length = d := ⟨_, rfl⟩
      rw [hd] at hcell hle hxl
      have FR := (show Hid _ from lent8_any hrd d cq hd hxl)
      have HT := (show Hid (t < n) from hlt)
      clear hx hrd hd hxl hle hlt ht
      go_wp2_with (first
        | (go_at_call 15; refine FR.out.mono ?_; rintro e w3 ⟨v3, rfl, hL3, hb3⟩; have hL3' := hL3; unfold Ln8 at hL3'; obtain ⟨g3, c3, e3, -⟩ := hL3'; subst e3; have OW3 := (show Hid (Ln8 (w3.alloc (.cells #[.slice (some ⟨g3, 0, none⟩) x.length c3] 32)) w.heap.size (.slice (some ⟨g3, 0, none⟩) x.length c3) x) from (hL3.mono hB.out.size).below (al _ _)); have HO3 := (show Hid (Or (w3.alloc (.cells #[.slice (some ⟨g3, 0, none⟩) x.length c3] 32)) w.heap.size u3 us) from (hO.out.below hb3).below (al _ _)); have B3 := (show Hid (Below wr.heap.size wr (w3.alloc (.cells #[.slice (some ⟨g3, 0, none⟩) x.length c3] 32))) from bt hb3 (al _ _)); have rc := cell_of_row (w3.alloc (.cells #[.slice (some ⟨g3, 0, none⟩) x.length c3] 32)) w3.heap.size 0 _ _ (0, 0) (heap_alloc_new w3 _); clear hL3)
        | (at_builtin; refine wpList_apL rfl (.tmp 12) (.tmp 18) rfl w.heap.size u3 us rfl HO3.out ⟨w3.heap.size, 0, none⟩ 1 (.slice (some ⟨g3, 0, none⟩) x.length c3) rfl rfl rc hul.out (Nat.le_trans hB.out.size B3.out.size) ?_; intro v7 w7 ho7 hg7))
      go_roundw
      case rel =>
        have h7 := LnR.or (LnR.row (LnR.below hL.out B3.out) OW3.out) HO3.out hg7
        rw [← HX.out] at h7
        exact ⟨t + 1, _, HT.out, by rw [WT.out], ho7, h7, below_append (t := 32) (bt hB.out B3.out) (Nat.le_trans hB.out.size B3.out.size) hg7 HO3.out (Nat.le_refl _)⟩
      case measure => rw [WT.out]; exact meas_lt8' HT.out
    · obtain rfl : t = n := by omega
      have hL' := hL.out
      rw [List.take_of_length_le (by have := HN.out.1; omega)] at hL'
      have HL0 := (show Hid (LnR wr w.heap.size us bl 0) from hL')
      obtain ⟨W0, hW0⟩ : ∃ W0, W0 = wr := ⟨_, rfl⟩
      subst hW0
      clear hL' hL
      go_wp2_with (fail)
      go_loopw [3, 5] (fun v i wr => ∃ (k : Nat) (us : List Value), k ≤ 66 ∧ i = .int .i64 (k : Int) ∧ Hid (Or wr w.heap.size v us) ∧ Hid (LnR wr w.heap.size us bl k) ∧ Hid (Below w.heap.size w wr)) (fun _ i _ => 66 - (intOf i).toNat)
      case atStart => exact ⟨0, us, Nat.zero_le _, rfl, hO, HL0, hB⟩
      case round =>
        clear hO HL0 hB
        obtain ⟨k, us, hk, rfl, hO, hL, hB⟩ := hrel
        have hul := (show Hid (us.length = t + k ∧ us.length + 1 ≤ 5864062014805) from by
          have h9 := hL.out
          unfold LnR at h9
          have h1 := h9.1
          have := HN.out
          exact ⟨by omega, by omega⟩)
        by_cases hlt : k < 66
        · have hi : (k : Int) < 66 := by omega
          have HK := (show Hid (k < 66) from hlt)
          have OM := (show Hid (Ow (wr.alloc (.cells #[.int .u8 (k : Int), .int .u8 77] 5)) w.heap.size (.slice (some ⟨wr.heap.size, 0, none⟩) 2 2) (mrk k)) from Ow.mrk8 wr _ k hlt hB.out.size)
          have B3 := (show Hid (Below wr.heap.size wr ((wr.alloc (.cells #[.int .u8 (k : Int), .int .u8 77] 5)).alloc (.cells #[.slice (some ⟨wr.heap.size, 0, none⟩) 2 2] 32))) from bt (al _ _) (al _ _))
          have HO3 := (show Hid (Or ((wr.alloc (.cells #[.int .u8 (k : Int), .int .u8 77] 5)).alloc (.cells #[.slice (some ⟨wr.heap.size, 0, none⟩) 2 2] 32)) w.heap.size u3 us) from hO.out.below B3.out)
          have rc := cell_of_row ((wr.alloc (.cells #[.int .u8 (k : Int), .int .u8 77] 5)).alloc (.cells #[.slice (some ⟨wr.heap.size, 0, none⟩) 2 2] 32)) (wr.heap.size + 1) 0 _ _ (0, 0) (by have h9 := heap_alloc_new (wr.alloc (.cells #[.int .u8 (k : Int), .int .u8 77] 5)) (.cells #[.slice (some ⟨wr.heap.size, 0, none⟩) 2 2] 32); rw [al_sz] at h9; exact h9)
          clear hlt hk
          go_wp2_with (first
            | (at_builtin; refine wpList_apL rfl (.tmp 24) (.tmp 28) rfl w.heap.size u3 us rfl HO3.out ⟨wr.heap.size + 1, 0, none⟩ 1 (.slice (some ⟨wr.heap.size, 0, none⟩) 2 2) rfl rfl rc hul.out.2 (Nat.le_trans hB.out.size B3.out.size) ?_; intro v7 w7 ho7 hg7))
          go_roundw
          case rel =>
            have h7 := LnR.or (LnR.mark (LnR.below hL.out B3.out) (OM.out.below (al _ _))) HO3.out hg7
            exact ⟨k + 1, _, HK.out, by go_num, ho7, h7, below_append (t := 32) (bt hB.out B3.out) (Nat.le_trans hB.out.size B3.out.size) hg7 HO3.out (Nat.le_refl _)⟩
          case measure => have := HK.out; simp [intOf]; omega
        · obtain rfl : k = 66 := by omega
          have hpos : 0 < us.length := by have := hul.out.1; omega
          obtain ⟨g, cap, e, hc⟩ : ∃ g cap, u3 = .slice (some ⟨g, 0, none⟩) us.length cap ∧ us.length ≤ cap := by
            have h9 := hO.out
            unfold Or at h9
            rcases h9.2 with ⟨_, h1⟩ | ⟨g, cap, cur, hv, _, _, hn', _⟩
            · omega
            · exact ⟨g, cap, hv, hn'⟩
          subst e
          rw [hul.out.1] at hc hO ⊢
          have hcn : t ≤ cap := by omega
          have HC := (show Hid (t + 66 ≤ cap) from hc)
          clear hpos hc
          go_wp2_with (fail)
          go_ret
          exact ⟨g, cap, us, rfl, hO.out, hL.out, HC.out, hB.out⟩
end
end Go.Proofs.Ytgggmdmhcaehlaa
/-
  Layer 8's laws: 'keptRows'.
-/
namespace Go.Proofs.Ytgggmdmhcaehlaa
open Go.RowKit
theorem or_cell {w : World} {B g m cap : Nat} {us : List Value} (h : Or w B (.slice (some ⟨g, 0, none⟩) m cap) us) {i : Nat} (hi : i < us.length) : w.cell? ⟨g, i, none⟩ = some (us.getD i (.slice none 0 0)) := by
  obtain ⟨p, c, hv, _, hV⟩ := h.rd
  injection hv with e1 e2 e3
  rcases hV with h0 | ⟨b, o, e, hc⟩
  · rw [h0] at hi; simp at hi
  · rw [← e1] at e
    injection e with e
    injection e with e4 e5
    subst e4 e5
    have := hc i (us.getD i (.slice none 0 0)) (by simp [List.getD, hi])
    rwa [Nat.zero_add] at this
theorem bdk {B : Nat} {a w : World} (h : Below B a w) (n : Nat) : Below B a (w.drewN n) := ⟨h.os, h.tape, h.output, h.size, h.block⟩
section
attribute [local irreducible] Calls el mk8s mrk LnR Ln8
set_option maxHeartbeats 16000000 in
set_option maxRecDepth 1000000 in
theorem keptRows8_any {w : World} {B g cap : Nat} {us : List Value} {p : Option Addr} {bl : List (List (BitVec 8))} (n c : Nat) (hO : Or w B (.slice (some ⟨g, 0, none⟩) (n + 66) cap) us) (hL : LnR w B us bl 66) (hcap : n + 66 ≤ cap) (HB : Rws w p bl) (hn : bl.length = n) (hN : n ≤ 5864062014634) (hx : ∀ t, (bl.getD t []).length ≤ 140737488351232) :
    Calls Try.prog 11 #[.slice (some ⟨g, 0, none⟩) n cap, .slice p n c] w fun e w' => e = .returned (.bool true) ∧ Below w.heap.size w w' := by
  have al : ∀ (W : World) (o : Obj), Below W.heap.size W (W.alloc o) := fun W o => (Below.refl _ _).alloc (Nat.le_refl _) o
  have HR := (show Hid (Rws w p bl) from HB)
  have HOr := (show Hid (Or w B (.slice (some ⟨g, 0, none⟩) (n + 66) cap) us) from hO)
  have HLn := (show Hid (LnR w B us bl 66) from hL)
  have hL1 := hL
  unfold LnR at hL1
  have HUn := (show Hid (us.length = n + 66) from by rw [← hn]; exact hL1.1)
  have HRw := (show Hid (∀ i, i < n → Ln8 w B (us.getD i (.slice none 0 0)) (bl.getD i [])) from fun i hi => hL1.2.1 i (by omega))
  have HMk := (show Hid (∀ j, j < 66 → Ow w B (us.getD (n + j) (.slice none 0 0)) (mrk j)) from fun j hj => by rw [← hn]; exact hL1.2.2 j hj)
  have HN := (show Hid (bl.length = n ∧ n ≤ 5864062014634 ∧ ∀ t, (bl.getD t []).length ≤ 140737488351232) from ⟨hn, hN, hx⟩)
  have hc66 : (n : Int) + 66 ≤ (cap : Int) := by omega
  have f0 : ((n : Int) != (n : Int)) = false := by simp
  clear HB hn hN hx hO hL hL1
  go_enter Try.func11, Try.ntmps11
  go_wp2_with (fail)
  go_loopw [5] (fun i wr => ∃ t : Nat, t ≤ n ∧ i = .int .i64 (t : Int) ∧ Hid (Below w.heap.size w wr)) (fun i _ => n - (intOf i).toNat)
  case atStart => exact ⟨0, Nat.zero_le _, rfl, Below.refl _ _⟩
  case round =>
    obtain ⟨t, ht, rfl, hB⟩ := hrel
    by_cases hlt : t < n
    · have hi : (t : Int) < (n : Int) := by omega
      obtain ⟨b, o, q, cq, rfl, hcell, hle, hrd⟩ := Rws.row (Rws.below HR.out hB.out) t (by rw [HN.out.1]; exact hlt)
      have hcl := or_cell (HOr.out.below hB.out) (i := t) (by rw [HUn.out]; omega)
      have hLt := (HRw.out t hlt).below hB.out
      have WT := (show Hid (wrap64 ((t : Int) + 1) = ((t + 1 : Nat) : Int)) from by have := HN.out.2.1; show _ = _; unfold wrap64; omega)
      have hxl := HN.out.2.2 t
      have HT := (show Hid (t < n) from hlt)
      generalize us.getD t (.slice none 0 0) = u at hcl hLt
      generalize bl.getD t [] = x at hcell hle hrd hLt hxl
      obtain ⟨g3, c3, e3, -⟩ : ∃ g3 c3, u = .slice (some ⟨g3, 0, none⟩) x.length c3 ∧ True := by
        have h9 := hLt
        unfold Ln8 at h9
        obtain ⟨g3, c3, e3, _⟩ := h9
        exact ⟨g3, c3, e3, trivial⟩
      subst e3
      have KE := (show Hid (∀ z : Nat, _) from fun z => kept8_any (w := wr.drewN z) (hLt.below (bdk (Below.refl _ _) z)) (hrd.below (bdk (Below.refl _ _) z)) cq hxl)
      have KE1 := (show Hid _ from kept8_any (w := wr.drew) (hLt.below (Below.refl _ _).drew) (hrd.below (Below.refl _ _).drew) cq hxl)
      clear hlt ht hle hxl hLt hrd
      generalize x.length = d at *
      go_wp2
      go_region_with (go_at_call 21; refine KE1.out.mono ?_; rintro e w5 ⟨rfl, hb5⟩; have B5 := (show Hid (Below w.heap.size w w5) from bt hB.out.drew hb5))
      all_goals
        go_wp2_with (fail)
        go_roundw
        case rel => exact ⟨t + 1, HT.out, by rw [WT.out], B5⟩
        case measure => rw [WT.out]; exact meas_lt8' HT.out
    · obtain rfl : t = n := by omega
      have w66 : wrap64 ((t : Int) + 66) = ((t + 66 : Nat) : Int) := by have := HN.out.2.1; unfold wrap64; omega
      have c66 : ((t + 66 : Nat) : Int) ≤ (cap : Int) := by omega
      obtain ⟨W0, hW0⟩ : ∃ W0, W0 = wr := ⟨_, rfl⟩
      subst hW0
      go_wp2_with (fail)
      clear w66 c66
      go_loopw [7, 8] (fun i _ wr => ∃ k : Nat, k ≤ 66 ∧ i = .int .i64 (k : Int) ∧ Hid (Below w.heap.size w wr)) (fun i _ _ => 66 - (intOf i).toNat)
      case atStart => exact ⟨0, Nat.zero_le _, rfl, hB⟩
      case round =>
        clear hB
        obtain ⟨k, hk, rfl, hB⟩ := hrel
        by_cases hlt : k < 66
        · have hi : (k : Int) < 66 := by omega
          obtain ⟨N, hN⟩ : ∃ N, t + k = N := ⟨_, rfl⟩
          have hcl := or_cell (HOr.out.below hB.out) (i := t + k) (by rw [HUn.out]; omega)
          have hOk := (HMk.out k hlt).below hB.out
          generalize us.getD (t + k) (.slice none 0 0) = u at hcl hOk
          obtain ⟨gm, cm, eu, hm1, hm2⟩ : ∃ gm cm, u = .slice (some ⟨gm, 0, none⟩) 2 cm ∧ wr.cell? ⟨gm, 0, none⟩ = some (.int .u8 (k : Int)) ∧ wr.cell? ⟨gm, 1, none⟩ = some (.int .u8 77) := by
            have hl : (mrk k).length = 2 := by unfold mrk; rfl
            obtain ⟨gm, cm, e, _⟩ := hOk.some8 (by omega)
            obtain ⟨pp, cc, e2, _, hr⟩ := hOk.rd
            rw [hl] at e e2
            rw [e] at e2
            injection e2 with e4 e5 e6
            subst e4
            rcases hr with h0 | ⟨b0, o0, e7, hcc⟩
            · rw [h0] at hl; simp at hl
            · injection e7 with e7
              injection e7 with e8 e9
              subst e8 e9
              have c0 := hcc 0 (by omega)
              have c1 := hcc 1 (by omega)
              refine ⟨gm, cm, e, ?_, ?_⟩
              · rw [show (0 : Nat) + 0 = 0 from rfl] at c0
                rw [c0]
                unfold mrk
                simp only [List.getD_cons_zero, el_ofNat]
                rw [show k % 256 = k by omega]
              · rw [show (0 : Nat) + 1 = 1 from rfl] at c1
                rw [c1]
                unfold mrk el
                rfl
          subst eu
          rw [hN] at hcl
          have wN : wrap64 ((t : Int) + (k : Int)) = (N : Int) := by have := HN.out.2.1; unfold wrap64; omega
          have iN : (N : Int) < ((t + 66 : Nat) : Int) := by omega
          have q0 : ((k : Int) != (k : Int)) = false := by simp
          have HK := (show Hid (k < 66) from hlt)
          clear hN hOk hk hlt
          go_wp2_with (fail)
          go_roundw
          case rel => exact ⟨k + 1, HK.out, by go_num, hB⟩
          case measure => have := HK.out; simp [intOf]; omega
        · obtain rfl : k = 66 := by omega
          go_wp2_with (fail)
          go_ret
          exact ⟨rfl, hB.out⟩
end
end Go.Proofs.Ytgggmdmhcaehlaa
/-
  FrameWrites: its walk.
-/
namespace Go.Proofs.Ytgggmdmhcaehlaa
open Go.RowKit
theorem run_bdW (h : Hd) (p : Option Addr) (n c : Nat) (w : World) : (Instr.build 31 #[(0, .agg h.cs), (1, .slice p n c)]).run Try.prog w = .ok (.agg (h.sh (.slice p n c))) w := by kernel_rfl
theorem wpList_bdW {w : World} {ops : Array Oper} {rest : List Oper} {o : Oper} {a : Act} {Q : Exit → Act → World → Prop} {h : Hd} {p : Option Addr} {n c : Nat} (hgd : o.guard = none) (x y : Operand) (ho : o.op = .build 31 #[(0, x), (1, y)]) (hx : a.eval x = .agg h.cs) (hy : a.eval y = .slice p n c)
    (k : wpList Try.prog ops Q rest (a.put o.dst (.agg (h.sh (.slice p n c)))) w) : wpList Try.prog ops Q (o :: rest) a w := by
  refine wpList_plain hgd fun K hK => ?_
  unfold Oper.wp execOp
  simp only [ho, List.map_toArray, List.map_cons, List.map_nil, hx, hy, run_bdW h p n c, Sem.run_bind, Sem.run_pure, Result.andThen_ok]
  exact hK _ _ k
theorem lnr_rws {w : World} {B g cap n : Nat} {us : List Value} {bl : List (List (BitVec 8))} (hO : Or w B (.slice (some ⟨g, 0, none⟩) (n + 66) cap) us) (hL : LnR w B us bl 66) (hn : bl.length = n) : Rws w (some ⟨g, 0, none⟩) bl := by
  refine .inr ⟨g, 0, rfl, fun i hi => ?_⟩
  obtain ⟨h1, h2, _⟩ := hL
  obtain ⟨g3, c3, e3, hc3, _, _, hr⟩ := (h2 i hi).rd
  have hc := or_cell hO (i := i) (by omega)
  rw [e3] at hc
  exact ⟨_, c3, by rw [Nat.zero_add]; exact hc, by omega, hr⟩
section
attribute [local irreducible] Calls el Hd.cs Hd.sh mk8s mrk LnR Ln8 enE enL
set_option maxHeartbeats 16000000 in
set_option maxRecDepth 1000000 in
theorem frameWrites_walk (h : Hd) (hin : h.In) (hy : h.key.length ≤ 9223372036854775807) (a : Option Addr) (n c : Nat) (bl : List (List (BitVec 8))) (hb : bl.length = n) (hN : n ≤ 5864062014634) (hx : ∀ t, (bl.getD t []).length ≤ 140737488351232) (w : World) (hR : Rws w a bl) :
    Calls Try.prog 3 #[.agg (h.sh (.slice a n c))] w fun e w' => e = .returned (.bool true) ∧ Below w.heap.size w w' := by
  have al : ∀ (W : World) (o : Obj), Below W.heap.size W (W.alloc o) := fun W o => (Below.refl _ _).alloc (Nat.le_refl _) o
  have S0 := (show Hid (SdAt (w.alloc (.cells (h.sh (.slice a n c)) 31)) w.heap.size h (.slice a n c)) from heap_alloc_new w _)
  have B0 := (show Hid (Below w.heap.size w (w.alloc (.cells (h.sh (.slice a n c)) 31))) from al _ _)
  have HR := (show Hid (Rws w a bl) from hR)
  have D1 := (show Hid (∀ W, Below w.heap.size w W → _) from fun W hW => rencode_any h hin hy (Rws.below hR hW) n c hb (by omega))
  have D2 := (show Hid (∀ W, Below w.heap.size w W → _) from fun W hW => lentRows8_any (Rws.below hR hW) n c hb hN hx)
  have D3 := (show Hid (∀ (W : World) (q : Option Addr) (d : Nat), Rws W q bl → _) from fun W q d hW => encode_any h hin hy hW n d hb)
  have HN := (show Hid (bl.length = n ∧ n ≤ 5864062014634 ∧ ∀ t, (bl.getD t []).length ≤ 140737488351232) from ⟨hb, hN, hx⟩)
  have NU := (show Hid _ from fun z W => num_any z W)
  clear hR hb hN hx
  generalize enE h bl = E at *
  generalize enL h bl = f at *
  have x1 : (E == E) = true := by simp
  have x2 : ((bstr f).toList == (bstr f).toList) = true := by simp
  go_enter Try.func3, Try.ntmps3
  go_wp2_with (first
    | (refine wpList_ldS rfl _ rfl w.heap.size rfl S0.out ?_)
    | (go_at_call 7; refine (D1.out _ B0.out).mono ?_; rintro e w1 ⟨v1, rfl, hO1, hb1⟩; obtain ⟨p1, c1, rfl, hc1, hr1⟩ := hO1.rd; have R1 := (show Hid (Rd w1 p1 f) from hr1); have S1 := (show Hid (SdAt w1 w.heap.size h (.slice a n c)) from SdAt.below S0.out hb1); have B1 := (show Hid (Below w.heap.size w w1) from bt B0.out hb1); have s16 := S1.out.last; clear S0 B0 hb1 hO1 hr1)
    | (go_at_call 8; refine (D2.out _ B1.out).mono ?_; rintro e w2 ⟨g2, cap2, us, rfl, hO2, hL2, hcap2, hb2⟩; have O2 := (show Hid (Or w2 w1.heap.size (.slice (some ⟨g2, 0, none⟩) (n + 66) cap2) us) from hO2); have L2 := (show Hid (LnR w2 w1.heap.size us bl 66) from hL2); have RW2 := (show Hid (Rws w2 (some ⟨g2, 0, none⟩) bl) from lnr_rws hO2 hL2 HN.out.1); have R2 := (show Hid (Rd w2 p1 f) from Rd.below R1.out hb2); have S2 := (show Hid (SdAt w2 w.heap.size h (.slice a n c)) from SdAt.below S1.out hb2); have B2 := (show Hid (Below w.heap.size w w2) from bt B1.out hb2); clear s16 S1 B1 R1 hb2 hO2 hL2)
    | (refine wpList_loadIn rfl _ rfl w.heap.size rfl (SdAt.head S2.out) ?_)
    | (refine wpList_bdW (h := h) (p := some ⟨g2, 0, none⟩) (n := n) (c := cap2) rfl _ _ rfl rfl rfl ?_)
    | (go_at_call 9; refine (D3.out _ _ _ RW2.out).mono ?_; rintro e w3 ⟨v3, rfl, hO3, hb3⟩; obtain ⟨p3, c3, rfl, hc3, hr3⟩ := hO3.rd; have O3 := (show Hid (Or w3 w1.heap.size (.slice (some ⟨g2, 0, none⟩) (n + 66) cap2) us) from O2.out.below hb3); have L3 := (show Hid (LnR w3 w1.heap.size us bl 66) from LnR.below L2.out hb3); have R3 := Rd.below R2.out hb3; have cv1 := conv_rd hr3 f.length c3 rfl; have cv2 := conv_rd R3 f.length c1 rfl; have S3 := (show Hid (SdAt w3 w.heap.size h (.slice a n c)) from SdAt.below S2.out hb3); have s16 := S3.out.last; have B3 := (show Hid (Below w.heap.size w w3) from bt B2.out hb3); have KR := (show Hid _ from keptRows8_any n c O3.out L3.out hcap2 (Rws.below HR.out B3.out) HN.out.1 HN.out.2.1 HN.out.2.2); clear S2 B2 R2 hb3 hO3 hr3 R3 O2 L2 RW2)
    | (go_at_call 10; refine (NU.out _ _).mono ?_; rintro e w99 ⟨rfl, h9⟩; obtain rfl := h9.symm)
    | (go_at_call 11; refine KR.out.mono ?_; rintro e w4 ⟨rfl, hb4⟩; have B4 := (show Hid (Below w.heap.size w w4) from bt B3.out hb4)))
  go_ret
  exact ⟨rfl, B4.out⟩
end
end Go.Proofs.Ytgggmdmhcaehlaa
