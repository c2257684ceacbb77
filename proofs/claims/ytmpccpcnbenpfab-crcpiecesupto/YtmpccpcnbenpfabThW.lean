/-
  CrcThree: its walk.
-/
import Derived.Test.YtmpccpcnbenpfabBuW
namespace Go.Proofs.Ytmpccpcnbenpfab
open Go.RowKit Go.Great
/-! ### What some turned bits make -/
def se (d : Nat) : List Nat → BitVec 32
  | [] => 0#32
  | k :: K => e1 (d - k) ^^^ se d K
theorem se_snoc (d : Nat) (K : List Nat) (k : Nat) : se d (K ++ [k]) = se d K ^^^ e1 (d - k) := by
  induction K with
  | nil => show e1 (d - k) ^^^ 0#32 = 0#32 ^^^ e1 (d - k); rw [BitVec.xor_zero, BitVec.zero_xor]
  | cons a K ih => show e1 (d - a) ^^^ se d (K ++ [k]) = e1 (d - a) ^^^ se d K ^^^ e1 (d - k); rw [ih, BitVec.xor_assoc]
theorem par_se (d : Nat) (K : List Nat) : par (se d K) = if K.length % 2 = 1 then 1#32 else 0#32 := by
  induction K with
  | nil => show par 0#32 = _; rw [Lin.par.zero]; rfl
  | cons a K ih =>
    show par (e1 (d - a) ^^^ se d K) = _
    rw [Lin.par, par_e1, ih, List.length_cons]
    by_cases h : K.length % 2 = 1
    · rw [if_pos h, if_neg (by omega)]; decide
    · rw [if_neg h, if_pos (by omega)]; decide
theorem se_odd (d : Nat) (K : List Nat) (h : K.length % 2 = 1) : se d K ≠ 0#32 := by
  intro e
  have := par_se d K
  rw [if_pos h, e, Lin.par.zero] at this
  exact absurd this (by decide)
theorem se_two (d a b : Nat) (h : a ≠ b) (ha : a < d) (hb : b < d) (hd : d < 2147483647) : se d [a, b] ≠ 0#32 := by
  intro e
  have e2 : e1 (d - a) = e1 (d - b) := xx_eq (by
    have : e1 (d - a) ^^^ (e1 (d - b) ^^^ 0#32) = 0#32 := e
    rwa [BitVec.xor_zero] at this)
  by_cases h1 : a < b
  · exact e1_apart (d - b) (d - a) (by omega) (by omega) e2.symm
  · exact e1_apart (d - a) (d - b) (by omega) (by omega) e2
/-- The theorem of the stage: one, two, three unlike bits, or an odd number of them, are seen. -/
theorem se_ne (d : Nat) (K : List Nat) (hn : K.Nodup) (hk : ∀ k ∈ K, k < d) (hd : d < 2147483647) (h : (0 < K.length ∧ K.length ≤ 3) ∨ K.length % 2 = 1) : se d K ≠ 0#32 := by
  by_cases ho : K.length % 2 = 1
  · exact se_odd d K ho
  · have h2 : K.length = 2 := by omega
    match K, h2 with
    | [a, b], _ =>
      have hab : a ≠ b := by
        intro e; subst e; simp at hn
      exact se_two d a b hab (hk a (by simp)) (hk b (by simp)) hd
/-- The text L is xs with these bits turned. -/
structure Tk (xs L : List (BitVec 8)) (K : List Nat) : Prop where
  len : L.length = xs.length
  ov : ∀ r, ov r L = ov r xs ^^^ se (8 * xs.length) K
  nodup : K.Nodup
  lt : ∀ k ∈ K, k < 8 * xs.length
theorem Tk.next {xs L : List (BitVec 8)} {K : List Nat} (h : Tk xs L K) {k : Nat} (hk : k < 8 * xs.length) (hnot : k ∉ K) : Tk xs (tb L k) (K ++ [k]) := by
  refine ⟨by rw [tb_len]; exact h.len, fun r => ?_, ?_, fun j hj => ?_⟩
  · rw [ov_tb L k (by rw [h.len]; exact hk), h.ov, se_snoc, BitVec.xor_assoc, h.len]
  · rw [List.nodup_append]
    refine ⟨h.nodup, by simp, fun a ha b hb => ?_⟩
    simp at hb; subst hb
    intro e; subst e; exact hnot ha
  · rcases List.mem_append.1 hj with h1 | h1
    · exact h.lt j h1
    · simp at h1; subst h1; exact hk
theorem Tk.blind {xs L : List (BitVec 8)} {K : List Nat} (h : Tk xs L K) : Go.Proofs.Ytmpccpcnbenpfab.ov 0#32 (xl L xs) = se (8 * xs.length) K := by
  have e := ov_xl L xs 0#32 0#32 h.len
  rw [BitVec.xor_self, h.ov, BitVec.xor_comm (Go.Proofs.Ytmpccpcnbenpfab.ov 0#32 xs), BitVec.xor_assoc, BitVec.xor_self, BitVec.xor_zero] at e
  exact e
theorem Tk.same {xs L : List (BitVec 8)} {K : List Nat} (h : Tk xs L K) : (rg (cmo 0#32 L) == rg (cmo 0#32 xs)) = (se (8 * xs.length) K == 0#32) := by
  rw [rg_beq, cmo_same L xs h.len, h.blind]
/-! ### Rows of numbers -/
def vi (K : List Nat) : List Value := K.map fun (k : Nat) => Value.int .i64 (k : Int)
theorem vi_snoc (K : List Nat) (k : Nat) : vi (K ++ [k]) = vi K ++ [.int .i64 (k : Int)] := by unfold vi; rw [List.map_append]; rfl
theorem infoI : (Try.prog.info? 3).map (fun i => (i.zero, i.size, i.bytes)) = some (some (.int .i64 0), 1, 8) := by kernel_rfl
theorem owns_cells {w : World} {base : Nat} {t : TypeId} {v : Value} {n : Nat} {xs : List Value} (h : w.ownsRow base t 1 v n xs) : ∃ p c, v = .slice p n c ∧ (0 < n → ∃ g, p = some ⟨g, 0, none⟩ ∧ base ≤ g ∧ ∀ i u, xs[i]? = some u → w.cell? ⟨g, i, none⟩ = some u) := by
  rcases h.2 with ⟨hv, h1⟩ | ⟨g, cap, c, hv, hg, hh, hc, hm, hs, ht⟩
  · subst h1; exact ⟨none, 0, hv, fun h => absurd h (by omega)⟩
  · refine ⟨_, cap, hv, fun _ => ⟨g, rfl, hg, fun i u hu => ?_⟩⟩
    rw [cell_of_row w g i _ _ _ hh]
    have hi : i < n := by
      have := (List.getElem?_eq_some_iff.1 hu).1
      have := h.1; omega
    rw [Nat.mul_one] at ht
    have h1 : (c.toList.take n)[i]? = some u := by rw [ht]; exact hu
    rw [List.getElem?_take_of_lt hi] at h1
    simpa using h1
theorem owns_setCell {w W : World} {base : Nat} {t : TypeId} {v : Value} {n : Nat} {xs : List Value} {a : Addr} {u : Value} (h : w.ownsRow base t 1 v n xs) (ha : a.block < base) (e : W.heap = (w.setCell a u).heap) : W.ownsRow base t 1 v n xs := by
  refine ⟨h.1, ?_⟩
  rcases h.2 with h1 | ⟨g, cap, c, hv, hg, hh, hc⟩
  · exact .inl h1
  · refine .inr ⟨g, cap, c, hv, hg, ?_, hc⟩
    rw [e, heap_setCell_other w a g u (by omega)]; exact hh
theorem Wr.grown {w w' : World} {g base n : Nat} {t : TypeId} {v : Value} {xs : List (BitVec 8)} {ys : List Value} (h : Wr w g xs) (hg : w.grownBy w' v.ownBlock) (ho : w.ownsRow base t 1 v n ys) (hb : g < base) : Wr w' g xs := by
  have hl := h.lt
  obtain ⟨cur, hh, hs, hc⟩ := h
  refine ⟨cur, ?_, hs, hc⟩
  rw [hg.block g hl (fun e => by have := (ho.lt g e.symm).1; omega)]; exact hh
theorem vi_at (K : List Nat) (i : Nat) (h : i < K.length) : (vi K)[i]? = some (.int .i64 ((K[i] : Nat) : Int)) := by
  unfold vi; rw [List.getElem?_map, List.getElem?_eq_getElem h]; rfl
theorem vi_len (K : List Nat) : (vi K).length = K.length := by simp [vi]
theorem take_mem_succ (K : List Nat) (k c : Nat) (h : c < K.length) : (k ∈ K.take (c + 1)) ↔ (k ∈ K.take c ∨ K[c] = k) := by
  rw [List.take_add_one, List.getElem?_eq_getElem h, List.mem_append]
  show _ ∨ k ∈ [K[c]] ↔ _
  rw [List.mem_singleton]
  exact ⟨fun h => h.imp id Eq.symm, fun h => h.imp id Eq.symm⟩
section
attribute [local irreducible] Calls rg ov cmo el Ow xl Wr tb fn stps se vi
set_option maxHeartbeats 8000000 in
set_option maxRecDepth 1000000 in
theorem crcThree_pos {w : World} {q0 : Option Addr} {xs : List (BitVec 8)} (h0 : Rd w q0 xs) (n k0 : Nat) (hn : xs.length = n) (hm : n < 268435456) (hp : 0 < n)
    (q1 : Option Addr) (m k1 : Nat) (f : Nat → Int) (hm1 : m ≤ 17592186043904) (H1 : Hid (∀ i, i < m → ∃ b o, q1 = some ⟨b, o, none⟩ ∧ w.cell? ⟨b, o + i, none⟩ = some (.int .i64 (f i)))) :
    Calls Try.prog 7 #[.slice q0 n k0, .slice q1 m k1] w fun e w' => e = .returned (.bool true) ∧ Below w.heap.size w w' := by
  obtain ⟨i0, hi0, hz0, hz1, hz2⟩ := info_parts infoI
  have hm2 : n ≤ 140737488355328 := by omega
  have qn0 : ((n : Int) == 0) = false := by simp; omega
  have qn1 : decide ((268435456 : Int) ≤ (n : Int)) = false := by simp; omega
  have pl : Hid (∀ (z : Int) (W : World), Calls Try.prog 21 #[.int .i64 z, .int .i64 (8 * (n : Int))] W fun e w' => e = .returned (.int .i64 (z % (8 * (n : Int)))) ∧ w' = W) := fun z W => place_any z (8 * (n : Int)) (by omega) (by omega) W
  go_enter Try.func7, Try.ntmps7
  go_wp2_with (first | (go_at_call 13; refine (known_any _).mono ?_; rintro e w1 ⟨rfl, hb1⟩) | (go_at_call 16; refine (twin_any (h0.below hb1) n k0 hn hm2).mono ?_; rintro e w2 ⟨v2, rfl, ho2, hb2⟩; obtain ⟨g, c2, rfl, hg, hW⟩ := ho2.wr (by omega); clear ho2))
  have hgb : w.heap.size ≤ g := Nat.le_trans hb1.size hg
  have hb := bt hb1 hb2
  have hgl := hW.lt
  obtain ⟨B, hB⟩ : ∃ B, B = w2.heap.size := ⟨_, rfl⟩
  have HG : Hid (g < B ∧ w.heap.size ≤ B) := ⟨by omega, by have := hb.size; omega⟩
  have hBw : Hid (B ≤ w2.heap.size) := by show _ ≤ _; omega
  clear hb1 hb2 hg hgl hB qn0 qn1
  go_loopw [6, 7, 8, 9, 10] (fun v i _ _ _ wr => ∃ (a : Nat) (K : List Nat) (L : List (BitVec 8)), a ≤ m ∧ K.length ≤ a ∧ i = .int .i64 a ∧ wr.ownsRow B 3 1 v K.length (vi K) ∧ Hid (Tk xs L K) ∧ Wr wr g L ∧ Hid (B ≤ wr.heap.size) ∧ Below w.heap.size w wr) (fun _ i _ _ _ _ => m - (intOf i).toNat)
  case atStart => exact ⟨0, [], xs, Nat.zero_le _, Nat.le_refl _, rfl, by unfold vi; exact World.ownsRow_nil _ _ _ _, ⟨rfl, fun r => by unfold se; rw [BitVec.xor_zero], List.nodup_nil, fun k hk => by simp at hk⟩, hW, hBw, hb⟩
  case round =>
    clear hW hb hBw
    obtain ⟨a, K, L, ha, hKa, rfl, hO, HT, hW, hBw, hb⟩ := hrel
    have hL : L.length = n := by rw [HT.out.len, hn]
    by_cases hlt : a < m
    · have hi : (a : Int) < (m : Int) := by omega
      obtain ⟨b1, o1, rfl, hc⟩ := H1.out a hlt
      have g1 := cell_below hc hb
      clear hc
      obtain ⟨k, hk⟩ : ∃ k : Nat, (k : Int) = f a % (8 * (n : Int)) := ⟨(f a % (8 * (n : Int))).toNat, by have := Int.emod_nonneg (f a) (show (8 * (n : Int)) ≠ 0 by omega); omega⟩
      have hkb : k < 8 * n := by have := Int.emod_lt_of_pos (f a) (show 0 < 8 * (n : Int) by omega); omega
      have pk : ∀ W : World, Calls Try.prog 21 #[.int .i64 (f a), .int .i64 (8 * (n : Int))] W fun e w' => e = .returned (.int .i64 k) ∧ w' = W := fun W => by rw [hk]; exact pl.out (f a) W
      clear hk
      go_wp2_with (go_at_call 21; refine (pk _).mono ?_; rintro e w' ⟨rfl, hw⟩; rw [hw]; clear hw)
      obtain ⟨pv, cv, rfl, _⟩ := owns_cells hO
      go_loopw [9, 10] (fun t i wr => ∃ c : Nat, c ≤ K.length ∧ i = .int .i64 c ∧ t = .bool (decide (k ∈ K.take c)) ∧ wr.ownsRow B 3 1 (.slice pv K.length cv) K.length (vi K) ∧ Wr wr g L ∧ Hid (B ≤ wr.heap.size) ∧ Below w.heap.size w wr) (fun _ i _ => K.length - (intOf i).toNat)
      case atStart => exact ⟨0, Nat.zero_le _, rfl, by simp, hO, hW, hBw, hb⟩
      case round =>
        clear hO hW hBw hb g1
        obtain ⟨c, hc, rfl, rfl, hO, hW, hBw, hb⟩ := hrel
        by_cases hlc : c < K.length
        · have hic : (c : Int) < (K.length : Int) := by omega
          obtain ⟨p', c', he, hcell⟩ := owns_cells hO
          obtain ⟨g', hp', _, hcl⟩ := hcell (by omega)
          injection he with he1 _ he3
          rw [← he1] at hp'
          have g2 := hcl c _ (vi_at K c hlc)
          clear hcl hcell he3 he1
          subst hp'
          have hts := take_mem_succ K k c hlc
          by_cases hin : k ∈ K.take c
          · have d1 : decide (k ∈ K.take c) = true := by simpa using hin
            have d2 : decide (k ∈ K.take (c + 1)) = true := by rw [decide_eq_true_iff, hts]; exact .inl hin
            rw [d1]
            clear d1 hts hin
            go_wp2_with (fail)
            go_roundw
            case rel => exact ⟨c + 1, by omega, by go_num, by rw [d2], hO, hW, hBw, hb⟩
            case measure => simp [intOf]; omega
          · have d1 : decide (k ∈ K.take c) = false := by simpa using hin
            have d2 : decide (k ∈ K.take (c + 1)) = (((K[c] : Nat) : Int) == (k : Int)) := by
              rw [Bool.eq_iff_iff, decide_eq_true_iff, hts, beq_iff_eq]
              exact ⟨fun h => by rcases h with h | h; exact absurd h hin; omega, fun h => .inr (by omega)⟩
            rw [d1]
            clear d1 hts hin
            generalize (K[c] : Nat) = kc at *
            go_wp2_with (fail)
            go_roundw
            case rel => exact ⟨c + 1, by omega, by go_num, by rw [d2], hO, hW, hBw, hb⟩
            case measure => simp [intOf]; omega
        · obtain rfl : c = K.length := by omega
          by_cases hin : k ∈ K
          · have d1 : decide (k ∈ K.take K.length) = true := by simpa using hin
            rw [d1]
            clear d1 hin
            go_wp2_with (fail)
            go_roundw
            case rel => exact ⟨a + 1, K, L, by omega, by omega, by go_num, hO, HT, hW, hBw, hb⟩
            case measure => simp [intOf]; omega
          · have d1 : decide (k ∈ K.take K.length) = false := by simpa using hin
            rw [d1]
            have hTn := HT.out.next (by rw [hn]; exact hkb) hin
            clear d1
            have la : ∀ X : World, Wr X g L → Calls Try.prog 20 #[.slice (some ⟨g, 0, none⟩) n c2, .int .i64 (k : Int)] X fun e w' => e = .returned (.tuple #[]) ∧ w' = X.setCell ⟨g, k / 8, none⟩ (.int .u8 (el (fn L (k / 8) ^^^ 1#8 <<< (k % 8)))) := fun X hX => laid_in hX n c2 k hL hm2 hkb
            have al : ∀ (W : World) (o : Obj), Below W.heap.size W (W.alloc o) := fun W o => (Below.refl _ _).alloc (Nat.le_refl _) o
            go_wp2_with (first | (at_builtin; refine wpList_append_own _ rfl (.tmp 55) (.tmp 57) 47 rfl B 3 i0 (.int .i64 0) 1 8 Try.underlying47 hi0 hz0 hz1 hz2 rfl (by decide) _ _ _ rfl (hO.alloc _) ⟨wr.heap.size, 0, none⟩ 1 1 [_] rfl rfl (one_new _ _ _) (one_cell _ _) (by unfold maxLen; omega) (by omega) (Nat.le_trans hBw.out (by simp)) ?_; intro v5 w5 hO5 hg5 _; have hW5 := (hW.below (al _ _)).grown hg5 (hO.alloc _) HG.out.1; have hb5 := below_append (balloc hb _) (balloc hb _).size hg5 (hO.alloc _) HG.out.2; have hz5 : B ≤ w5.heap.size := Nat.le_trans (Nat.le_trans hBw.out (by simp)) hg5.size) | (go_at_call 20; refine (la _ hW5).mono ?_; rintro e w' ⟨rfl, hw⟩; rw [hw]; clear hw))
            go_roundw
            case rel => exact ⟨a + 1, K ++ [k], tb L k, by omega, by rw [List.length_append]; simp; omega, by go_num, by rw [List.length_append, vi_snoc]; exact owns_setCell hO5 HG.out.1 rfl, hTn, by unfold tb; exact hW5.set (by omega) rfl, (by show _ ≤ _; simpa using hz5), hb5.setCell hgb _⟩
            case measure => simp [intOf]; omega
    · obtain rfl : a = m := by omega
      obtain ⟨pv, cv, rfl, _⟩ := owns_cells hO
      have e1 := HT.out.same
      have e2 : (ov 0#32 (xl L xs) == 0#32) = (se (8 * xs.length) K == 0#32) := by rw [HT.out.blind]
      have hlx : (xl L xs).length = n := by rw [xl_len L xs HT.out.len, hL]
      have hne := se_ne (8 * xs.length) K HT.out.nodup HT.out.lt (by omega)
      have hnil : K.length = 0 → (se (8 * xs.length) K == 0#32) = true := fun h => by rw [List.length_eq_zero_iff.1 h]; unfold se; rfl
      have hNE : ((0 < K.length ∧ K.length ≤ 3) ∨ K.length % 2 = 1) → (se (8 * xs.length) K == 0#32) = false := fun h => by simpa using hne h
      generalize (se (8 * xs.length) K == 0#32) = sb at *
      clear hne HT hO
      generalize K.length = kl at *
      by_cases hk0 : kl = 0
      · subst hk0
        have hs := hnil rfl
        subst hs
        clear hnil hNE
        go_wp2_with (first | (go_at_call 9; refine (csum_any hW.rd n c2 hL hm2).mono ?_; rintro e w3 ⟨rfl, hb3⟩; have d3 := bt hb hb3; have hW3 := hW.below hb3) | (go_at_call 16; refine (twin_any (h0.below d3) n k0 hn hm2).mono ?_; rintro e w4 ⟨v4, rfl, ho4, hb4⟩; obtain ⟨p4, c4, rfl, _, r4⟩ := ho4.rd; have d4 := bt d3 hb4; clear ho4) | (go_at_call 9; refine (csum_any r4 n c4 hn hm2).mono ?_; rintro e w5 ⟨rfl, hb5⟩; have d5 := bt d4 hb5) | (go_at_call 17; refine (both_any ((hW3.below hb4).below hb5).rd (h0.below d5) n c2 k0 hL hn hm2).mono ?_; rintro e w6 ⟨v6, rfl, ho6, hb6⟩; obtain ⟨p6, c6, rfl, _, r6⟩ := ho6.rd; have d6 := bt d5 hb6; clear ho6) | (go_at_call 18; refine (cblind_any r6 n c6 hlx hm2).mono ?_; rw [e2]; rintro e w7 ⟨rfl, hb7⟩; have d7 := bt d6 hb7))
        go_ret
        exact ⟨rfl, d5⟩
      · have z0 : ((kl : Int) == 0) = false := by simp; omega
        by_cases hk3 : kl ≤ 3
        · have hs := hNE (.inl ⟨by omega, hk3⟩)
          subst hs
          have z1 : decide ((kl : Int) ≤ 3) = true := by simp; omega
          clear hnil hNE
          go_wp2_with (first | (go_at_call 9; refine (csum_any hW.rd n c2 hL hm2).mono ?_; rintro e w3 ⟨rfl, hb3⟩; have d3 := bt hb hb3; have hW3 := hW.below hb3) | (go_at_call 16; refine (twin_any (h0.below d3) n k0 hn hm2).mono ?_; rintro e w4 ⟨v4, rfl, ho4, hb4⟩; obtain ⟨p4, c4, rfl, _, r4⟩ := ho4.rd; have d4 := bt d3 hb4; clear ho4) | (go_at_call 9; refine (csum_any r4 n c4 hn hm2).mono ?_; rintro e w5 ⟨rfl, hb5⟩; have d5 := bt d4 hb5) | (go_at_call 17; refine (both_any ((hW3.below hb4).below hb5).rd (h0.below d5) n c2 k0 hL hn hm2).mono ?_; rintro e w6 ⟨v6, rfl, ho6, hb6⟩; obtain ⟨p6, c6, rfl, _, r6⟩ := ho6.rd; have d6 := bt d5 hb6; clear ho6) | (go_at_call 18; refine (cblind_any r6 n c6 hlx hm2).mono ?_; rw [e2]; rintro e w7 ⟨rfl, hb7⟩; have d7 := bt d6 hb7))
          go_ret
          exact ⟨rfl, d7⟩
        · have z1 : decide ((kl : Int) ≤ 3) = false := by simp; omega
          by_cases hko : kl % 2 = 1
          · have hs := hNE (.inr hko)
            subst hs
            have z2 : (kl : Int) % 2 = 1 := by omega
            clear hnil hNE
            go_wp2_with (first | (go_at_call 9; refine (csum_any hW.rd n c2 hL hm2).mono ?_; rintro e w3 ⟨rfl, hb3⟩; have d3 := bt hb hb3; have hW3 := hW.below hb3) | (go_at_call 16; refine (twin_any (h0.below d3) n k0 hn hm2).mono ?_; rintro e w4 ⟨v4, rfl, ho4, hb4⟩; obtain ⟨p4, c4, rfl, _, r4⟩ := ho4.rd; have d4 := bt d3 hb4; clear ho4) | (go_at_call 9; refine (csum_any r4 n c4 hn hm2).mono ?_; rintro e w5 ⟨rfl, hb5⟩; have d5 := bt d4 hb5) | (go_at_call 17; refine (both_any ((hW3.below hb4).below hb5).rd (h0.below d5) n c2 k0 hL hn hm2).mono ?_; rintro e w6 ⟨v6, rfl, ho6, hb6⟩; obtain ⟨p6, c6, rfl, _, r6⟩ := ho6.rd; have d6 := bt d5 hb6; clear ho6) | (go_at_call 18; refine (cblind_any r6 n c6 hlx hm2).mono ?_; rw [e2]; rintro e w7 ⟨rfl, hb7⟩; have d7 := bt d6 hb7))
            go_ret
            exact ⟨rfl, d7⟩
          · have z2 : (kl : Int) % 2 = 0 := by omega
            clear hnil hNE
            go_wp2_with (first | (go_at_call 9; refine (csum_any hW.rd n c2 hL hm2).mono ?_; rintro e w3 ⟨rfl, hb3⟩; have d3 := bt hb hb3; have hW3 := hW.below hb3) | (go_at_call 16; refine (twin_any (h0.below d3) n k0 hn hm2).mono ?_; rintro e w4 ⟨v4, rfl, ho4, hb4⟩; obtain ⟨p4, c4, rfl, _, r4⟩ := ho4.rd; have d4 := bt d3 hb4; clear ho4) | (go_at_call 9; refine (csum_any r4 n c4 hn hm2).mono ?_; rintro e w5 ⟨rfl, hb5⟩; have d5 := bt d4 hb5) | (go_at_call 17; refine (both_any ((hW3.below hb4).below hb5).rd (h0.below d5) n c2 k0 hL hn hm2).mono ?_; rintro e w6 ⟨v6, rfl, ho6, hb6⟩; obtain ⟨p6, c6, rfl, _, r6⟩ := ho6.rd; have d6 := bt d5 hb6; clear ho6) | (go_at_call 18; refine (cblind_any r6 n c6 hlx hm2).mono ?_; rw [e2]; rintro e w7 ⟨rfl, hb7⟩; have d7 := bt d6 hb7))
            go_ret
            exact ⟨by simp, d7⟩
set_option maxHeartbeats 2000000 in
set_option maxRecDepth 1000000 in
theorem crcThree_none {w : World} (q0 q1 : Option Addr) (n k0 m k1 : Nat) (h : n = 0 ∨ 268435456 ≤ n) :
    Calls Try.prog 7 #[.slice q0 n k0, .slice q1 m k1] w fun e w' => e = .returned (.bool true) ∧ Below w.heap.size w w' := by
  have qn : ((n : Int) == 0 || decide ((268435456 : Int) ≤ (n : Int))) = true := by simp; omega
  go_enter Try.func7, Try.ntmps7
  go_wp2_with (go_at_call 13; refine (known_any _).mono ?_; rintro e w1 ⟨rfl, hb1⟩)
  all_goals first | (go_ret; exact ⟨rfl, hb1⟩) | (exfalso; omega)
theorem crcThree_walk {w : World} {q0 : Option Addr} {xs : List (BitVec 8)} (h0 : Rd w q0 xs) (n k0 : Nat) (hn : xs.length = n)
    (q1 : Option Addr) (m k1 : Nat) (zs : List Int) (hm1 : m ≤ 17592186043904) (h1 : (q1 = none ∧ m = 0) ∨ ∃ x, q1 = some x ∧ ∀ i, i < m → w.cell? (x.add i) = some (.int .i64 (zs.getD i 0))) :
    Calls Try.prog 7 #[.slice q0 n k0, .slice q1 m k1] w fun e w' => e = .returned (.bool true) ∧ Below w.heap.size w w' := by
  by_cases hc : n = 0 ∨ 268435456 ≤ n
  · exact crcThree_none q0 q1 n k0 m k1 hc
  · rcases h1 with ⟨rfl, rfl⟩ | ⟨x, rfl, hcl⟩
    · exact crcThree_pos h0 n k0 hn (by omega) (by omega) none 0 k1 (fun _ => 0) (by omega) (fun i hi => absurd hi (by omega))
    · refine crcThree_pos h0 n k0 hn (by omega) (by omega) (some x) m k1 (fun i => zs.getD i 0) hm1 (fun i hi => ?_)
      obtain ⟨b, off, spot⟩ := x
      have hs : spot = none := by simpa [Addr.add] using World.cell?_spot (hcl 0 (by omega))
      subst hs
      refine ⟨b, off, rfl, ?_⟩
      rw [← add_pl]; exact hcl i hi
end
end Go.Proofs.Ytmpccpcnbenpfab
