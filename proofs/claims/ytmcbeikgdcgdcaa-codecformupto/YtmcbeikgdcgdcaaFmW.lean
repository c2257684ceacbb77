/-
  CodecForm: the walk.
-/
import Derived.Test.YtmcbeikgdcgdcaaAg
import Derived.Test.YtmcbeikgdcgdcaaStS
import Derived.Test.YtmcbeikgdcgdcaaAw7
import Derived.Deep.QuietTactic
import Derived.BigQuiet
namespace Go.Proofs.Ytmcbeikgdcgdcaa
open Go.RowKit
theorem Ow.rdp {w : World} {base n c : Nat} {p : Option Addr} {v : Value} {xs : List (BitVec 8)} (h : Ow w base v xs) (e : v = .slice p n c) : Rd w p xs := by
  obtain ⟨p', c', hv, _, hr⟩ := h.rd
  rw [hv] at e
  injection e with e1 e2 e3
  rw [← e1]; exact hr
section
attribute [local irreducible] Calls el Ow Ot asks enc bstr
set_option maxHeartbeats 8000000 in
set_option maxRecDepth 1000000 in
theorem codecForm_walk (w : World) (a : Option Addr) (bs : List (BitVec 8)) (hr : Rd w a bs) (n c : Nat) (hn : bs.length = n) (hn' : n ≤ 1048576) (hnc : n ≤ c) (hna : a = none → c = 0) (q0 : Option Addr) (m k0 : Nat) (Q : Nat → Int × Int × Int × Int) (hm : m ≤ 1048576) (H1 : Hid (Scr w q0 m Q)) :
    Calls Try.prog 7 #[.slice a n c, .slice q0 m k0] w fun e w' => e = .returned (.bool true) ∧ Below w.heap.size w w' := by
  have al : ∀ (W : World) (o : Obj), Below W.heap.size W (W.alloc o) := fun W o => (Below.refl _ _).alloc (Nat.le_refl _) o
  go_enter Try.func7, Try.ntmps7
  go_wp2_with (first
    | (go_at_call 37; refine (awake_any _).mono ?_; rintro e wA ⟨rfl, hbA⟩)
    | (go_at_call 30; refine (open_any (hr.below hbA) n c hn (by omega)).mono ?_; rintro e w3 ⟨r, rfl, hrr, hR3, hb3⟩; have ba3 := bt hbA hb3; have hrw := Nat.le_trans hbA.size hrr))
  have hr3 := hR3.lt
  go_loopw [6, 7] (fun o i wr => ∃ (j : Nat) (ys l : List (BitVec 8)), j ≤ m ∧ i = .int .i64 (j : Int) ∧ bs = ys ++ l ∧ Ow wr w3.heap.size o ys ∧ Rdr wr r l 0 ∧ Below w.heap.size w wr ∧ w3.heap.size ≤ wr.heap.size) (fun _ i _ => m - (intOf i).toNat)
  case atStart => exact ⟨0, [], bs, Nat.zero_le _, rfl, rfl, Ow.nil _ _, hR3, ba3, Nat.le_refl _⟩
  case round =>
    clear hR3 hb3 ba3 hbA
    obtain ⟨j, ys, l, hj, rfl, hys, hO, hR, hb, hs3⟩ := hrel
    obtain ⟨pA, cA, rfl, _, rA⟩ := hO.rd
    have hlen : ys.length + l.length = n := by rw [← hn, hys, List.length_append]
    by_cases hlt : j < m
    · have hi : (j : Int) < (m : Int) := by omega
      obtain ⟨b, o, rfl, c0, c1, c2, c3, hq2, hq3⟩ := H1.out j hlt
      obtain ⟨⟨x0, x1, x2, x3⟩, hx⟩ : ∃ x, Q j = x := ⟨_, rfl⟩
      rw [hx] at c0 c1 c2 c3 hq2 hq3
      replace c0 := cell_below c0 hb
      replace c1 := cell_below c1 hb
      replace c2 := cell_below c2 hb
      replace c3 := cell_below c3 hb
      simp only at c0 c1 c2 c3 hq2 hq3
      obtain ⟨kk, hkk⟩ := Int.eq_ofNat_of_zero_le (Int.emod_nonneg x1 (by omega : (10 : Int) ≠ 0))
      have hkl := Int.emod_lt_of_pos x1 (by omega : (0 : Int) < 10)
      rw [hkk] at hkl
      have PK := (show Hid _ from pick_any x1 10 (by omega) (by omega))
      rw [hkk] at PK
      have hk10 : kk < 10 := by omega
      have K := asks_keeps kk hk10 x2 x3 l 0
      have L := asks_lim kk hk10 x2 x3 l 0
      have hk13 : ((kk : Int) % 13).toNat = kk := by omega
      obtain ⟨W, hWd⟩ : ∃ W, W = wr.alloc (.cells #[.int .i64 x0, .int .i64 (kk : Int), .int .i64 x2, .int .i64 x3] 65) := ⟨_, rfl⟩
      have hWb : Below wr.heap.size wr W := by rw [hWd]; exact al _ _
      have hWn : W.heap[wr.heap.size]? = some (.cells #[.int .i64 x0, .int .i64 (kk : Int), .int .i64 x2, .int .i64 x3] 65 (0, 0)) := by rw [hWd]; exact heap_alloc_new wr _
      have hWs : W.heap.size = wr.heap.size + 1 := by rw [hWd, alloc_size]
      have AK := (show Hid _ from ask_any (hR.below hWb) (by omega) ⟨by omega, by omega⟩ x0 (kk : Int) x2 x3 hq2 hq3)
      rw [hk13] at AK
      have En := fun T l2 => asks_enc kk hk10 x2 x3 l l2 T
      obtain ⟨⟨⟨U, B, T⟩, l', f'⟩, hX⟩ : ∃ x, asks kk x2 x3 l 0 = x := ⟨_, rfl⟩
      rw [hX] at AK K L En
      obtain ⟨K1, K2, K3, K4⟩ := K
      simp only at K3 L
      clear hX hx hkk hkl hk13 K4 K1
      by_cases hB : f' = 0
      · subst hB
        have hE := En ⟨U, B, T⟩ l' rfl
        have hEl : (enc kk ⟨U, B, T⟩).length + l'.length = l.length := by
          have := congrArg List.length hE
          rw [List.length_append] at this; exact this.symm
        clear En K2
        go_wp2_with (first
          | (go_at_call 31; refine (PK.out _).mono ?_; rintro e2 w2 ⟨rfl, h9⟩; obtain rfl := h9.symm)
          | (go_at_call 33; rw [← hWd]; refine AK.out.mono ?_; rintro e2 w1 ⟨hG1, hR1, vB, vT, rfl, hoB, hoT⟩; obtain ⟨pB, cB, rfl, _, rB⟩ := hoB.rd; obtain ⟨pT, cT, rfl, _, rT⟩ := hoT.rs; have hR2 := fun o => hR1.below (al w1 o); have hbb := gb (bt hb hWb) hG1 hrw; have hO1 := ow_kept (hO.below hWb) hr3 hG1; have s1 := hG1.size; have hgs := (hG1.block wr.heap.size (by omega) (by intro e2; injection e2; omega)).trans hWn; have t0 := cell_below (cell_of_row w1 wr.heap.size 0 _ _ (0, 0) hgs) (al w1 (.cells #[.int .u64 U, .slice pB B.length cB, .slice pT T.length cT] 67)); have t1 := cell_below (cell_of_row w1 wr.heap.size 1 _ _ (0, 0) hgs) (al w1 (.cells #[.int .u64 U, .slice pB B.length cB, .slice pT T.length cT] 67)); have t2 := cell_below (cell_of_row w1 wr.heap.size 2 _ _ (0, 0) hgs) (al w1 (.cells #[.int .u64 U, .slice pB B.length cB, .slice pT T.length cT] 67)); have t3 := cell_below (cell_of_row w1 wr.heap.size 3 _ _ (0, 0) hgs) (al w1 (.cells #[.int .u64 U, .slice pB B.length cB, .slice pT T.length cT] 67)))
          | (go_at_call 40; refine (fault_any (hR2 _)).mono ?_; rintro e2 w2 ⟨rfl, h9⟩; obtain rfl := h9.symm)
          | (go_at_call 43; refine (again_any (w := w1.alloc (.cells #[.int .u64 U, .slice pB B.length cB, .slice pT T.length cT] 67)) ((hO1.below (al w1 (.cells #[.int .u64 U, .slice pB B.length cB, .slice pT T.length cT] 67))).rdp rfl) ys.length cA rfl (by omega) x0 x2 x3 kk hk10 U B T pB pT cB cT L (rB.below (al _ _)) (fun b hb => Nat.lt_of_lt_of_le (hoB.lt (g := b.block) (by rw [hb]; rfl)).2 (al _ _).size) (rT.below (al _ _)) (by omega)).mono ?_; rintro e2 w4 ⟨v4, rfl, ho4, hb4⟩))
        go_roundw
        case rel =>
          have sz := Nat.le_trans (Nat.le_trans hs3 (Nat.le_trans hWb.size s1)) (al w1 (.cells #[.int .u64 U, .slice pB B.length cB, .slice pT T.length cT] 67)).size
          refine ⟨j + 1, ys ++ enc kk ⟨U, B, T⟩, l', by omega, by go_num, ?_, ho4.mono sz, (hR2 _).below hb4, bt (bt hbb (al _ _)) hb4, Nat.le_trans sz hb4.size⟩
          rw [List.append_assoc, ← hE]; exact hys
        case measure => simp [intOf]; omega
      · obtain ⟨_, e2⟩ := K2 rfl hB
        simp only at e2
        subst e2
        have hB' : (f' != 0) = true := by simpa using hB
        clear K2 En
        go_wp2_with (first
          | (go_at_call 31; refine (PK.out _).mono ?_; rintro e2 w2 ⟨rfl, h9⟩; obtain rfl := h9.symm)
          | (go_at_call 33; rw [← hWd]; refine AK.out.mono ?_; rintro e2 w1 ⟨hG1, hR1, vB, vT, rfl, hoB, hoT⟩; obtain ⟨pB, cB, rfl, _, rB⟩ := hoB.rd; obtain ⟨pT, cT, rfl, _, rT⟩ := hoT.rs; have hR2 := fun o => hR1.below (al w1 o); have hbb := gb (bt hb hWb) hG1 hrw; have hO1 := ow_kept (hO.below hWb) hr3 hG1; have s1 := hG1.size; have hgs := (hG1.block wr.heap.size (by omega) (by intro e2; injection e2; omega)).trans hWn; have t0 := cell_below (cell_of_row w1 wr.heap.size 0 _ _ (0, 0) hgs) (al w1 (.cells #[.int .u64 U, .slice pB B.length cB, .slice pT T.length cT] 67)); have t1 := cell_below (cell_of_row w1 wr.heap.size 1 _ _ (0, 0) hgs) (al w1 (.cells #[.int .u64 U, .slice pB B.length cB, .slice pT T.length cT] 67)); have t2 := cell_below (cell_of_row w1 wr.heap.size 2 _ _ (0, 0) hgs) (al w1 (.cells #[.int .u64 U, .slice pB B.length cB, .slice pT T.length cT] 67)); have t3 := cell_below (cell_of_row w1 wr.heap.size 3 _ _ (0, 0) hgs) (al w1 (.cells #[.int .u64 U, .slice pB B.length cB, .slice pT T.length cT] 67)))
          | (go_at_call 40; refine (fault_any (hR2 _)).mono ?_; rintro e2 w2 ⟨rfl, h9⟩; obtain rfl := h9.symm)
          | (go_at_call 41; refine (left_any (hR2 _)).mono ?_; rintro e2 w2 ⟨rfl, h9⟩; obtain rfl := h9.symm))
        have rA2 := ((hO1.below (al w1 (.cells #[.int .u64 U, .slice pB B.length cB, .slice pT T.length cT] 67))).rdp rfl)
        have rB2 : Rd (w1.alloc (.cells #[.int .u64 U, .slice pB B.length cB, .slice pT T.length cT] 67)) a ys := by
          have := (hr.below (bt hbb (al w1 (.cells #[.int .u64 U, .slice pB B.length cB, .slice pT T.length cT] 67)))).take ys.length
          rwa [hys, List.take_left' rfl] at this
        have e1 : (n : Int) - (l'.length : Int) = (ys.length : Int) := by omega
        have cv1 := fun d => conv_rd (w := World.drewN (w1.alloc (.cells #[.int .u64 U, .slice pB B.length cB, .slice pT T.length cT] 67)) d) (show Rd (World.drewN (w1.alloc (.cells #[.int .u64 U, .slice pB B.length cB, .slice pT T.length cT] 67)) d) _ _ from rA2) ys.length cA rfl
        have cv2 := fun d => conv_rd (w := World.drewN (w1.alloc (.cells #[.int .u64 U, .slice pB B.length cB, .slice pT T.length cT] 67)) d) (show Rd (World.drewN (w1.alloc (.cells #[.int .u64 U, .slice pB B.length cB, .slice pT T.length cT] 67)) d) _ _ from rB2) ys.length c rfl
        have hyn : ys.length ≤ n := by omega
        have hyc : ys.length ≤ c := by omega
        have hyi : (ys.length : Int) ≤ (n : Int) := by omega
        have hnew := bt hbb (al w1 (.cells #[.int .u64 U, .slice pB B.length cB, .slice pT T.length cT] 67))
        clear hlen hys
        cases a with
        | none =>
          obtain rfl := hna rfl
          obtain rfl : n = 0 := by omega
          obtain ⟨Y, hY⟩ : ∃ Y, ys.length = Y := ⟨_, rfl⟩
          rw [hY] at cv1 cv2 e1 hyn
          rw [hY]
          obtain rfl : Y = 0 := by omega
          rw [e1]
          go_quiet (fail)
          go_wp2
          go_ret
          exact ⟨rfl, below_drewN hnew _⟩
        | some ad =>
          obtain ⟨Y, hY⟩ : ∃ Y, ys.length = Y := ⟨_, rfl⟩
          rw [hY] at cv1 cv2 e1 hyn hyc hyi
          rw [hY]
          clear hY
          rw [e1]
          go_quiet (fail)
          go_wp2
          go_ret
          exact ⟨rfl, below_drewN hnew _⟩
    · have hj2 : ¬ (j : Int) < (m : Int) := by omega
      go_wp2_with (first
        | (go_at_call 41; refine (left_any hR).mono ?_; rintro e2 w2 ⟨rfl, h9⟩; obtain rfl := h9.symm))
      have rA2 := rA
      have rB2 : Rd (wr) a ys := by
        have := (hr.below hb).take ys.length
        rwa [hys, List.take_left' rfl] at this
      have e1 : (n : Int) - (l.length : Int) = (ys.length : Int) := by omega
      have cv1 := fun d => conv_rd (w := World.drewN (wr) d) (show Rd (World.drewN (wr) d) _ _ from rA2) ys.length cA rfl
      have cv2 := fun d => conv_rd (w := World.drewN (wr) d) (show Rd (World.drewN (wr) d) _ _ from rB2) ys.length c rfl
      have hyn : ys.length ≤ n := by omega
      have hyc : ys.length ≤ c := by omega
      have hyi : (ys.length : Int) ≤ (n : Int) := by omega
      have hnew := hb
      clear hlen hys
      cases a with
      | none =>
        obtain rfl := hna rfl
        obtain rfl : n = 0 := by omega
        obtain ⟨Y, hY⟩ : ∃ Y, ys.length = Y := ⟨_, rfl⟩
        rw [hY] at cv1 cv2 e1 hyn
        rw [hY]
        obtain rfl : Y = 0 := by omega
        rw [e1]
        go_quiet (fail)
        go_wp2
        go_ret
        exact ⟨rfl, below_drewN hnew _⟩
      | some ad =>
        obtain ⟨Y, hY⟩ : ∃ Y, ys.length = Y := ⟨_, rfl⟩
        rw [hY] at cv1 cv2 e1 hyn hyc hyi
        rw [hY]
        clear hY
        rw [e1]
        go_quiet (fail)
        go_wp2
        go_ret
        exact ⟨rfl, below_drewN hnew _⟩
end
end Go.Proofs.Ytmcbeikgdcgdcaa
