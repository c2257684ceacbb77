/-
  CrcMultiples: its walk.
-/
import Derived.Test.YtmpccpcnbenpfabThW
namespace Go.Proofs.Ytmpccpcnbenpfab
open Go.RowKit Go.Great
def polyl : List (BitVec 8) := [241, 118, 236, 5, 1]
def pbit (k : Nat) : Bool := (fn polyl (k / 8)).getLsbD (k % 8)
/-- What the first k bits of the polynomial make, laid D bits ahead of the end. -/
def pz (D : Nat) : Nat → BitVec 32
  | 0 => 0#32
  | k + 1 => pz D k ^^^ (if pbit k then e1 (D - k) else 0#32)
theorem pz_succ (D k : Nat) : pz D (k + 1) = pz D k ^^^ (if pbit k then e1 (D - k) else 0#32) := rfl
theorem pz_shift (D k : Nat) (h : 32 ≤ D) (hk : k ≤ 33) : pz D k = stps (D - 32) (pz 32 k) := by
  induction k with
  | zero => show 0#32 = _; rw [show pz 32 0 = 0#32 from rfl, (Lin.stps _).zero]
  | succ k ih =>
    rw [pz_succ, pz_succ, Lin.stps, ih (by omega)]
    congr 1
    by_cases hb : pbit k = true
    · rw [if_pos hb, if_pos hb]; unfold e1; rw [← stps_add]; congr 1; omega
    · rw [if_neg hb, if_neg hb, (Lin.stps _).zero]
theorem pz_all (D : Nat) (h : 32 ≤ D) : pz D 33 = 0#32 := by
  rw [pz_shift D 33 h (Nat.le_refl _), show pz 32 33 = 0#32 by decide +kernel, (Lin.stps _).zero]
theorem el_shr (x : BitVec 8) (c : Nat) : el x / (2 : Int) ^ c = el (x >>> c) := by
  unfold el; rw [BitVec.toNat_ushiftRight, Nat.shiftRight_eq_div_pow, Int.natCast_ediv]; simp
theorem el_tb1 (x : BitVec 8) (c : Nat) (h : x.getLsbD c = true) : bits .and .u8 (el x / 2 ^ c) 1 = 1 := by
  rw [el_shr, show (1 : Int) = el 1#8 from rfl, el_and]
  congr 1
  apply BitVec.eq_of_getLsbD_eq; intro j hj
  rw [BitVec.getLsbD_and, BitVec.getLsbD_ushiftRight, BitVec.getLsbD_one]
  by_cases e : j = 0
  · subst e; simp [h]
  · simp [e]
theorem el_tb0 (x : BitVec 8) (c : Nat) (h : x.getLsbD c = false) : bits .and .u8 (el x / 2 ^ c) 1 = 0 := by
  rw [el_shr, show (1 : Int) = el 1#8 from rfl, el_and, show (0 : Int) = el 0#8 from rfl]
  congr 1
  apply BitVec.eq_of_getLsbD_eq; intro j hj
  rw [BitVec.getLsbD_and, BitVec.getLsbD_ushiftRight, BitVec.getLsbD_one]
  by_cases e : j = 0
  · subst e; simp [h]
  · simp [e]
theorem rd_poly (W : World) : Rd (W.alloc (.cells #[.int .u8 241, .int .u8 118, .int .u8 236, .int .u8 5, .int .u8 1] 5)) (some ⟨W.heap.size, 0, none⟩) polyl := rd_newl W polyl _ _
theorem poly_any (w : World) :
    Calls Try.prog 24 #[] w fun e w' => e = .returned (.slice (some ⟨w.heap.size, 0, none⟩) 5 5) ∧ Rd w' (some ⟨w.heap.size, 0, none⟩) polyl ∧ Below w.heap.size w w' := by
  go_enter Try.func24, Try.ntmps24
  go_wp2
  go_ret
  exact ⟨rfl, rd_poly w, (Below.refl _ _).alloc (Nat.le_refl _) _⟩
section
attribute [local irreducible] Calls rg ov cmo el Ow xl Wr tb fn stps kz Rd pz pbit polyl
set_option maxHeartbeats 8000000 in
set_option maxRecDepth 1000000 in
theorem multiple_any {w : World} {q0 : Option Addr} {xs : List (BitVec 8)} (h0 : Rd w q0 xs) (n k0 : Nat) (hn : xs.length = n) (hm : n ≤ 140737488351232) :
    Calls Try.prog 19 #[.slice q0 n k0] w fun e w' => ∃ (g c : Nat) (L : List (BitVec 8)), e = .returned (.slice (some ⟨g, 0, none⟩) (n + 4) c) ∧ w.heap.size ≤ g ∧ L.length = n + 4 ∧ ov 0#32 L = 0#32 ∧ Wr w' g L ∧ Below w.heap.size w w' := by
  have al : ∀ (W : World) (o : Obj), Below W.heap.size W (W.alloc o) := fun W o => (Below.refl _ _).alloc (Nat.le_refl _) o
  go_enter Try.func19, Try.ntmps19
  go_wp2_with (go_at_call 24; refine (poly_any _).mono ?_; rintro e W1 ⟨rfl, rp, hW0⟩)
  have hpl : polyl.length = 5 := by unfold polyl; rfl
  go_loopw [4, 5] (fun v i wr => ∃ k : Nat, k ≤ n + 4 ∧ i = .int .i64 k ∧ Ow wr W1.heap.size v (kz k) ∧ Below W1.heap.size W1 wr) (fun _ i _ => n + 4 - (intOf i).toNat)
  case atStart => exact ⟨0, Nat.zero_le _, rfl, by unfold kz; exact Ow.nil _ _, Below.refl _ _⟩
  case round =>
    obtain ⟨k, hk, rfl, hA, hb⟩ := hrel
    by_cases hlt : k < n + 4
    · have hi : (k : Int) < (n : Int) + 4 := by omega
      have e0 : ∀ W : World, Rd (W.alloc (.cells #[.int .u8 0] 5)) (some ⟨W.heap.size, 0, none⟩) [0#8] := fun W => rd_z W
      go_wp2_with (first | (at_builtin; refine wpList_app rfl (.tmp 16) (.tmp 17) rfl W1.heap.size u4 (kz k) rfl (hA.below (al _ _)) ⟨wr.heap.size, 0, none⟩ 1 1 [0#8] rfl (e0 wr) rfl (by rw [kz_len]; omega) ((balloc hb _).size) ?_; intro v1 w1 ho1 hg1 hk1; have hb1 := (hA.below (al _ _)).below_append (balloc hb _) (balloc hb _).size hg1 (Nat.le_refl _); rw [← kz_succ] at ho1))
      go_roundw
      case rel => exact ⟨k + 1, by omega, by go_num, ho1, hb1⟩
      case measure => simp [intOf]; omega
    · obtain ⟨N4, hN4⟩ : ∃ N4, N4 = k := ⟨_, rfl⟩
      have HK : Hid (N4 = n + 4) := by show _ = _; omega
      have hi : ¬ (N4 : Int) < (n : Int) + 4 := by have := HK.out; omega
      rw [← hN4] at hA ⊢
      clear hN4 hlt hk
      obtain ⟨g, cg, rfl, hg, hW⟩ := hA.wr (by rw [kz_len]; have := HK.out; omega)
      rw [kz_len]
      have hl0 : (kz N4).length = N4 := kz_len _
      have hv0 : ov 0#32 (kz N4) = 0#32 := by unfold kz; rw [ov_zeros, (Lin.stps _).zero]
      clear hA
      go_wp2_with (fail)
      go_loopw [6, 7] (fun i _ wr => ∃ (a : Nat) (L : List (BitVec 8)), a ≤ 8 * n ∧ i = .int .i64 a ∧ L.length = N4 ∧ Hid (ov 0#32 L = 0#32) ∧ Wr wr g L ∧ Below W1.heap.size W1 wr) (fun i _ _ => 8 * n - (intOf i).toNat)
      case atStart => exact ⟨0, _, Nat.zero_le _, rfl, hl0, hv0, hW, hb⟩
      case round =>
        clear hl0 hv0 hW hb
        obtain ⟨a, L, ha, rfl, hL, hv, hW, hb⟩ := hrel
        by_cases hlt : a < 8 * n
        · have hi : (a : Int) < 8 * (n : Int) := by omega
          have q8 : (a : Int) / 8 < (n : Int) := by omega
          have hxa : a / 8 < xs.length := by omega
          obtain ⟨bx, ox, hq, g1⟩ : ∃ b o, q0 = some ⟨b, o, none⟩ ∧ wr.cell? ⟨b, o + a / 8, none⟩ = some (.int .u8 (el (fn xs (a / 8)))) := by
            have r1 := (h0.below hW0).below hb
            unfold Rd at r1
            rcases r1 with e | ⟨b, o, e, hc⟩
            · rw [e] at hxa; simp at hxa
            · exact ⟨b, o, e, by unfold fn; exact hc (a / 8) hxa⟩
          subst hq
          by_cases hbit : (fn xs (a / 8)).getLsbD (a % 8) = true
          · have q1 := el_tb1 (fn xs (a / 8)) (a % 8) hbit
            clear hbit
            go_wp2_with (fail)
            clear q1 g1
            go_loopw [7] (fun i wr => ∃ (k : Nat) (L : List (BitVec 8)), k ≤ 33 ∧ i = .int .i64 k ∧ L.length = N4 ∧ Hid (ov 0#32 L = pz (8 * N4 - a) k) ∧ Wr wr g L ∧ Below W1.heap.size W1 wr) (fun i _ => 33 - (intOf i).toNat)
            case atStart => exact ⟨0, L, Nat.zero_le _, rfl, hL, (by show _ = _; rw [hv.out]; unfold pz; rfl), hW, hb⟩
            case round =>
              clear hL hv hW hb
              obtain ⟨k, L, hk, rfl, hL, hv, hW, hb⟩ := hrel
              by_cases hlk : k < 33
              · have hi2 : (k : Int) < 33 := by omega
                have q9 : (k : Int) / 8 < 5 := by omega
                have g2 : wr.cell? ⟨w.heap.size, k / 8, none⟩ = some (.int .u8 (el (fn polyl (k / 8)))) := by
                  have r1 := rp.below hb
                  unfold Rd at r1
                  rcases r1 with e | ⟨b, o, e, hc⟩
                  · rw [e] at hpl; simp at hpl
                  · injection e with e
                    injection e with e1 e2
                    subst e1 e2
                    have := hc (k / 8) (by omega)
                    rw [Nat.zero_add] at this
                    unfold fn; exact this
                by_cases hbit : pbit k = true
                · have q1 := el_tb1 (fn polyl (k / 8)) (k % 8) (by unfold pbit at hbit; exact hbit)
                  have cst : ((a : Int) + (k : Int)) = ((a + k : Nat) : Int) := by omega
                  have la : ∀ X : World, Wr X g L → Calls Try.prog 20 #[.slice (some ⟨g, 0, none⟩) N4 cg, .int .i64 ((a : Int) + (k : Int))] X fun e w' => e = .returned (.tuple #[]) ∧ w' = X.setCell ⟨g, (a + k) / 8, none⟩ (.int .u8 (el (fn L ((a + k) / 8) ^^^ 1#8 <<< ((a + k) % 8)))) := fun X hX => by rw [cst]; exact laid_in hX N4 cg (a + k) hL (by have := HK.out; omega) (by have := HK.out; omega)
                  have hv2 : ov 0#32 (tb L (a + k)) = pz (8 * N4 - a) (k + 1) := by
                    rw [ov_tb L (a + k) (by have := HK.out; omega), hv.out, pz_succ, if_pos hbit, hL]; congr 2; omega
                  clear cst hbit
                  go_wp2_with (go_at_call 20; refine (la _ hW).mono ?_; rintro e w' ⟨rfl, hw⟩; rw [hw]; clear hw)
                  go_roundw
                  case rel => exact ⟨k + 1, tb L (a + k), by omega, by go_num, by rw [tb_len]; exact hL, hv2, by unfold tb; exact hW.set (by have := HK.out; omega) rfl, hb.setCell hg _⟩
                  case measure => simp [intOf]; omega
                · have q1 := el_tb0 (fn polyl (k / 8)) (k % 8) (by unfold pbit at hbit; simpa using hbit)
                  have hv2 : ov 0#32 L = pz (8 * N4 - a) (k + 1) := by rw [hv.out, pz_succ, if_neg hbit, BitVec.xor_zero]
                  clear hbit
                  go_wp2_with (fail)
                  go_roundw
                  case rel => exact ⟨k + 1, L, by omega, by go_num, hL, hv2, hW, hb⟩
                  case measure => simp [intOf]; omega
              · obtain rfl : k = 33 := by omega
                have hv3 : ov 0#32 L = 0#32 := by rw [hv.out, pz_all _ (by have := HK.out; omega)]
                go_wp2_with (fail)
                go_roundw
                case rel => exact ⟨a + 1, L, by omega, by go_num, hL, hv3, hW, hb⟩
                case measure => simp [intOf]; omega
          · have q1 := el_tb0 (fn xs (a / 8)) (a % 8) (by simpa using hbit)
            clear hbit
            go_wp2_with (fail)
            go_roundw
            case rel => exact ⟨a + 1, L, by omega, by go_num, hL, hv, hW, hb⟩
            case measure => simp [intOf]; omega
        · go_wp2_with (fail)
          go_ret
          exact ⟨g, cg, L, by rw [← HK.out]; rfl, Nat.le_trans hW0.size hg, by rw [← HK.out]; exact hL, hv.out, hW, bt hW0 hb⟩
end
theorem Ow.rds {w : World} {base : Nat} {p : Option Addr} {n c : Nat} {xs : List (BitVec 8)} (h : Ow w base (.slice p n c) xs) : Rd w p xs := by
  obtain ⟨p', c', e, _, hr⟩ := h.rd
  injection e with e1 _ _
  rw [e1]; exact hr
theorem rd_kk (W : World) (k : Nat) : Rd (W.alloc (.cells #[.int .u8 ((k : Int) % 256)] 5)) (some ⟨W.heap.size, 0, none⟩) [BitVec.ofNat 8 k] := by
  have h := rd_new1 W (BitVec.ofNat 8 k) 5
  have e : el (BitVec.ofNat 8 k) = (k : Int) % 256 := by unfold el; rw [BitVec.toNat_ofNat]; omega
  rwa [e] at h
theorem cmo_on (T L : List (BitVec 8)) (h : T.length = L.length) (r : BitVec 32) (hr : ov 0#32 L = r) : cmo 0#32 (xl T L) = cmo 0#32 T ^^^ r := by
  have e := ov_xl T L (~~~ 0#32) 0#32 h
  rw [BitVec.xor_zero, hr] at e
  unfold cmo; rw [e]
  generalize ov (~~~ 0#32) T = A
  rw [← ones_xor, ← ones_xor A, BitVec.xor_assoc]
theorem tmod_case (z : Int) (M : Int) (h : 0 < M) : (z.tmod M < 0 ∧ z.tmod M + M = z % M) ∨ (0 ≤ z.tmod M ∧ z.tmod M = z % M) := by
  have hd : M * (z.tdiv M) + z.tmod M = z := Int.mul_tdiv_add_tmod z M
  have e : z % M = z.tmod M % M := by
    have : z % M = (z.tmod M + M * z.tdiv M) % M := by rw [Int.add_comm, hd]
    rw [this, Int.add_mul_emod_self_left]
  have h1 : -M < z.tmod M ∧ z.tmod M < M := by
    have := Int.tmod_lt_of_pos z h
    have h2 := Int.tmod_lt_of_pos (-z) h
    rw [Int.neg_tmod] at h2
    omega
  by_cases hn : z.tmod M < 0
  · refine .inl ⟨hn, ?_⟩
    rw [e, ← Int.add_emod_right, Int.emod_eq_of_lt (by omega) (by omega)]
  · exact .inr ⟨by omega, by rw [e, Int.emod_eq_of_lt (by omega) h1.2]⟩
section
attribute [local irreducible] Calls rg ov cmo el Ow xl Wr tb fn stps Rd
set_option maxHeartbeats 8000000 in
set_option maxRecDepth 1000000 in
theorem crcMultiples_walk {w : World} {q0 q1 : Option Addr} {xs ys : List (BitVec 8)} (h0 : Rd w q0 xs) (h1 : Rd w q1 ys) (n n1 k0 k1 : Nat) (hn : xs.length = n) (hn1 : ys.length = n1) (hm : n ≤ 140737488351232) (z : Int) :
    Calls Try.prog 5 #[.slice q0 n k0, .slice q1 n1 k1, .int .i64 z] w fun e w' => e = .returned (.bool true) ∧ Below w.heap.size w w' := by
  have al : ∀ (W : World) (o : Obj), Below W.heap.size W (W.alloc o) := fun W o => (Below.refl _ _).alloc (Nat.le_refl _) o
  obtain ⟨N, hN⟩ : ∃ N, N = n + 4 := ⟨_, rfl⟩
  have hm2 : N ≤ 140737488355328 := by omega
  have hN0 : 0 < N := by omega
  have mu : Calls Try.prog 19 #[.slice q0 n k0] w fun e w' => ∃ (g c : Nat) (L : List (BitVec 8)), e = .returned (.slice (some ⟨g, 0, none⟩) N c) ∧ w.heap.size ≤ g ∧ L.length = N ∧ ov 0#32 L = 0#32 ∧ Wr w' g L ∧ Below w.heap.size w w' := by rw [hN]; exact multiple_any h0 n k0 hn hm
  clear hN
  go_enter Try.func5, Try.ntmps5
  go_wp2_with (go_at_call 19; refine mu.mono ?_; rintro e W1 ⟨g, cg, L, rfl, hg, hL, hv, hW, hW0⟩)
  have HV : Hid (ov 0#32 L = 0#32) := hv
  have hgl := hW.lt
  clear hv mu
  go_loopw [8, 9] (fun v i wr => ∃ (k : Nat) (T : List (BitVec 8)), k ≤ N ∧ i = .int .i64 k ∧ T.length = k ∧ Ow wr W1.heap.size v T ∧ Below W1.heap.size W1 wr) (fun _ i _ => N - (intOf i).toNat)
  case atStart => exact ⟨0, [], Nat.zero_le _, rfl, rfl, Ow.nil _ _, Below.refl _ _⟩
  case round =>
    obtain ⟨k, T, hk, rfl, hT, hO, hb⟩ := hrel
    by_cases hlt : k < N
    · have hi : (k : Int) < (N : Int) := by omega
      by_cases hy : k < n1
      · have hi2 : (k : Int) < (n1 : Int) := by omega
        obtain ⟨bx, ox, hq, g1⟩ : ∃ b o, q1 = some ⟨b, o, none⟩ ∧ wr.cell? ⟨b, o + k, none⟩ = some (.int .u8 (el (fn ys k))) := by
          have r1 := (h1.below hW0).below hb
          unfold Rd at r1
          rcases r1 with e | ⟨b, o, e, hc⟩
          · rw [e] at hn1; simp at hn1; omega
          · exact ⟨b, o, e, by unfold fn; exact hc k (by omega)⟩
        subst hq
        have e0 : ∀ W : World, Rd (W.alloc (.cells #[.int .u8 (el (fn ys k))] 5)) (some ⟨W.heap.size, 0, none⟩) [fn ys k] := fun W => rd_new1 W _ _
        go_wp2_with (first | (at_builtin; refine wpList_app rfl (.tmp 23) (.tmp 28) rfl W1.heap.size u8 T rfl (hO.below (al _ _)) ⟨wr.heap.size, 0, none⟩ 1 1 [fn ys k] rfl (e0 wr) rfl (by omega) ((balloc hb _).size) ?_; intro v1 w1 ho1 hg1 hk1; have hb1 := (hO.below (al _ _)).below_append (balloc hb _) (balloc hb _).size hg1 (Nat.le_refl _)))
        go_roundw
        case rel => exact ⟨k + 1, T ++ [fn ys k], by omega, by go_num, by rw [List.length_append, hT]; rfl, ho1, hb1⟩
        case measure => simp [intOf]; omega
      · have hi2 : ¬ (k : Int) < (n1 : Int) := by omega
        have e0 : ∀ W : World, Rd (W.alloc (.cells #[.int .u8 ((k : Int) % 256)] 5)) (some ⟨W.heap.size, 0, none⟩) [BitVec.ofNat 8 k] := fun W => rd_kk W k
        go_wp2_with (first | (at_builtin; refine wpList_app rfl (.tmp 30) (.tmp 33) rfl W1.heap.size u8 T rfl (hO.below (al _ _)) ⟨wr.heap.size, 0, none⟩ 1 1 [BitVec.ofNat 8 k] rfl (e0 wr) rfl (by omega) ((balloc hb _).size) ?_; intro v1 w1 ho1 hg1 hk1; have hb1 := (hO.below (al _ _)).below_append (balloc hb _) (balloc hb _).size hg1 (Nat.le_refl _)))
        go_roundw
        case rel => exact ⟨k + 1, T ++ [BitVec.ofNat 8 k], by omega, by go_num, by rw [List.length_append, hT]; rfl, ho1, hb1⟩
        case measure => simp [intOf]; omega
    · obtain rfl : k = N := by omega
      obtain ⟨pt, ct, rfl, _, rt⟩ := hO.rd
      have hlTL : T.length = L.length := by omega
      have ec1 : cmo 0#32 (xl T L) = cmo 0#32 T := by rw [cmo_on T L hlTL _ HV.out, BitVec.xor_zero]
      have lx : (xl T L).length = k := by rw [xl_len T L hlTL, hT]
      have hWk := hW.below hb
      obtain ⟨F, hF⟩ : ∃ F : Nat, (F : Int) = z % (8 * (k : Int)) := ⟨(z % (8 * (k : Int))).toNat, by have := Int.emod_nonneg z (show (8 * (k : Int)) ≠ 0 by omega); omega⟩
      have hFb : F < 8 * k := by have := Int.emod_lt_of_pos z (show 0 < 8 * (k : Int) by omega); omega
      have hLt : (tb L F).length = k := by rw [tb_len]; exact hL
      have hv2 : ov 0#32 (tb L F) = e1 (8 * L.length - F) := by rw [ov_tb L F (by omega), HV.out, BitVec.zero_xor]
      have b2 : (ov 0#32 (tb L F) == 0#32) = false := by rw [hv2]; simpa using e1_ne _
      have e2 : (rg (cmo 0#32 (xl T (tb L F))) != rg (cmo 0#32 T)) = true := by
        rw [rg_bne, cmo_on T (tb L F) (by omega) _ hv2]
        simp only [bne_iff_ne, ne_eq]
        intro h
        have h3 : cmo 0#32 T ^^^ e1 (8 * L.length - F) = cmo 0#32 T ^^^ 0#32 := by rw [BitVec.xor_zero]; exact h
        exact e1_ne _ (xx_left h3)
      have lx2 : (xl T (tb L F)).length = k := by rw [xl_len T (tb L F) (by omega), hT]
      have b1 : (ov 0#32 L == 0#32) = true := by rw [HV.out]; rfl
      have la : ∀ X : World, Wr X g L → Calls Try.prog 20 #[.slice (some ⟨g, 0, none⟩) k cg, .int .i64 (F : Int)] X fun e w' => e = .returned (.tuple #[]) ∧ w' = X.setCell ⟨g, F / 8, none⟩ (.int .u8 (el (fn L (F / 8) ^^^ 1#8 <<< (F % 8)))) := fun X hX => laid_in hX k cg F hL hm2 hFb
      clear hv2 HV
      rw [hT]
      rcases tmod_case z (8 * (k : Int)) (by omega) with ⟨s1, s2⟩ | ⟨s1, s2⟩
      · rw [← hF] at s2
        clear hF
        go_wp2_with (first | (go_at_call 13; refine (known_any _).mono ?_; rintro e w2 ⟨rfl, hb2⟩; have d2 := bt hb hb2; have hO2 := hO.below hb2) | (go_at_call 18; refine (cblind_any (hW.below d2).rd k cg hL hm2).mono ?_; rw [b1]; rintro e w3 ⟨rfl, hb3⟩; have d3 := bt d2 hb3; have hO3 := hO2.below hb3) | (go_at_call 17; refine (both_any hO3.rds (hW.below d3).rd k ct cg hT hL hm2).mono ?_; rintro e w4 ⟨v4, rfl, ho4, hb4⟩; obtain ⟨p4, c4, rfl, _, r4⟩ := ho4.rd; have d4 := bt d3 hb4; have hO4 := hO3.below hb4; clear ho4) | (go_at_call 9; refine (csum_any r4 k c4 lx hm2).mono ?_; rw [ec1]; rintro e w5 ⟨rfl, hb5⟩; have d5 := bt d4 hb5; have hO5 := hO4.below hb5) | (go_at_call 9; refine (csum_any hO5.rds k ct hT hm2).mono ?_; rintro e w6 ⟨rfl, hb6⟩; have d6 := bt d5 hb6; have hO6 := hO5.below hb6) | (go_at_call 20; refine (la _ (hW.below d6)).mono ?_; rintro e w7 ⟨rfl, hw⟩; have hO7 : Ow w7 W1.heap.size (.slice pt T.length ct) T := (by rw [hw]; unfold Ow at hO6 ⊢; exact owns_setCell hO6 hgl rfl); have hW7 : Wr w7 g (tb L F) := (by unfold tb; exact (hW.below d6).set (by omega) (by rw [hw])); have d7 : Below w.heap.size w w7 := (by rw [hw]; exact (bt hW0 d6).setCell hg _); clear hw) | (go_at_call 18; refine (cblind_any hW7.rd k cg hLt hm2).mono ?_; rw [b2]; rintro e w8 ⟨rfl, hb8⟩; have d8 := bt d7 hb8; have hO8 := hO7.below hb8; have hW8 := hW7.below hb8) | (go_at_call 17; refine (both_any hO8.rds hW8.rd k ct cg hT hLt hm2).mono ?_; rintro e w9 ⟨v9, rfl, ho9, hb9⟩; obtain ⟨p9, c9, rfl, _, r9⟩ := ho9.rd; have d9 := bt d8 hb9; have hO9 := hO8.below hb9; clear ho9) | (go_at_call 9; refine (csum_any r9 k c9 lx2 hm2).mono ?_; rintro e w10 ⟨rfl, hb10⟩; have d10 := bt d9 hb10; have hO10 := hO9.below hb10) | (go_at_call 9; refine (csum_any hO10.rds k ct hT hm2).mono ?_; rintro e w11 ⟨rfl, hb11⟩; have d12 := bt d10 hb11))
        go_ret
        exact ⟨rfl, d12⟩
      · rw [← hF] at s2
        clear hF
        have s3 : ¬ z.tmod (8 * (k : Int)) < 0 := by omega
        go_wp2_with (first | (go_at_call 13; refine (known_any _).mono ?_; rintro e w2 ⟨rfl, hb2⟩; have d2 := bt hb hb2; have hO2 := hO.below hb2) | (go_at_call 18; refine (cblind_any (hW.below d2).rd k cg hL hm2).mono ?_; rw [b1]; rintro e w3 ⟨rfl, hb3⟩; have d3 := bt d2 hb3; have hO3 := hO2.below hb3) | (go_at_call 17; refine (both_any hO3.rds (hW.below d3).rd k ct cg hT hL hm2).mono ?_; rintro e w4 ⟨v4, rfl, ho4, hb4⟩; obtain ⟨p4, c4, rfl, _, r4⟩ := ho4.rd; have d4 := bt d3 hb4; have hO4 := hO3.below hb4; clear ho4) | (go_at_call 9; refine (csum_any r4 k c4 lx hm2).mono ?_; rw [ec1]; rintro e w5 ⟨rfl, hb5⟩; have d5 := bt d4 hb5; have hO5 := hO4.below hb5) | (go_at_call 9; refine (csum_any hO5.rds k ct hT hm2).mono ?_; rintro e w6 ⟨rfl, hb6⟩; have d6 := bt d5 hb6; have hO6 := hO5.below hb6) | (go_at_call 20; refine (la _ (hW.below d6)).mono ?_; rintro e w7 ⟨rfl, hw⟩; have hO7 : Ow w7 W1.heap.size (.slice pt T.length ct) T := (by rw [hw]; unfold Ow at hO6 ⊢; exact owns_setCell hO6 hgl rfl); have hW7 : Wr w7 g (tb L F) := (by unfold tb; exact (hW.below d6).set (by omega) (by rw [hw])); have d7 : Below w.heap.size w w7 := (by rw [hw]; exact (bt hW0 d6).setCell hg _); clear hw) | (go_at_call 18; refine (cblind_any hW7.rd k cg hLt hm2).mono ?_; rw [b2]; rintro e w8 ⟨rfl, hb8⟩; have d8 := bt d7 hb8; have hO8 := hO7.below hb8; have hW8 := hW7.below hb8) | (go_at_call 17; refine (both_any hO8.rds hW8.rd k ct cg hT hLt hm2).mono ?_; rintro e w9 ⟨v9, rfl, ho9, hb9⟩; obtain ⟨p9, c9, rfl, _, r9⟩ := ho9.rd; have d9 := bt d8 hb9; have hO9 := hO8.below hb9; clear ho9) | (go_at_call 9; refine (csum_any r9 k c9 lx2 hm2).mono ?_; rintro e w10 ⟨rfl, hb10⟩; have d10 := bt d9 hb10; have hO10 := hO9.below hb10) | (go_at_call 9; refine (csum_any hO10.rds k ct hT hm2).mono ?_; rintro e w11 ⟨rfl, hb11⟩; have d12 := bt d10 hb11))
        go_ret
        exact ⟨rfl, d12⟩
end
end Go.Proofs.Ytmpccpcnbenpfab
