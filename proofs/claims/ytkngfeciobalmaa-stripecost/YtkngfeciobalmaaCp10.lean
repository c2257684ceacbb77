/-
  StripeCost: the numbers.
-/
import Derived.Test.YtkngfeciobalmaaAo10
import Derived.Test.YtkngfeciobalmaaPr10
namespace Go.Proofs.Ytkngfeciobalmaa
open Go.RowKit
theorem bls_le (k b : Nat) (hk : 1 ≤ k) : ∀ f l t, (bls k (k * b) f l).getD t 0 ≤ b
  | 0, _, t => by simp [bls]
  | f + 1, l, t => by
    unfold bls
    by_cases h : l = 0
    · rw [if_pos h]; simp
    · rw [if_neg h]
      cases t with
      | zero =>
        show (min l (k * b) + k - 1) / k ≤ b
        have h1 : (min l (k * b) + k - 1) / k ≤ (k * b + k - 1) / k := Nat.div_le_div_right (by omega)
        rw [kbk k b hk] at h1
        exact h1
      | succ t => exact bls_le k b hk f (l - k * b) t
theorem bls_sum (k b : Nat) (hk : 1 ≤ k) (hb : 1 ≤ b) : ∀ f l, l ≤ f → (bls k (k * b) f l).sum = (l + k - 1) / k
  | 0, l, h => by
    obtain rfl : l = 0 := by omega
    rw [Nat.div_eq_of_lt (by omega)]
    rfl
  | f + 1, l, hf => by
    have hs : 1 ≤ k * b := Nat.mul_le_mul hk hb
    unfold bls
    by_cases h : l = 0
    · subst h
      rw [if_pos rfl, Nat.div_eq_of_lt (by omega)]
      rfl
    · rw [if_neg h, List.sum_cons, bls_sum k b hk hb f (l - k * b) (by omega)]
      rcases Nat.lt_or_ge (k * b) l with h1 | h1
      · rw [show min l (k * b) = k * b by omega, kbk k b hk]
        have e : l + k - 1 = (l - k * b + k - 1) + k * b := by omega
        rw [e, Nat.add_mul_div_left _ _ (by omega)]
        omega
      · rw [show min l (k * b) = l by omega, show l - k * b = 0 by omega, Nat.div_eq_of_lt (show 0 + k - 1 < k by omega)]
        rfl
theorem cost_len {h : Hd} {N K M B : Nat} {L : List Nat} (u : h.Nu N K M B L) (i : Nat) (hi : i < L.length) : 1 ≤ L.getD i 0 ∧ L.getD i 0 ≤ B ∧ (i + 1 < L.length → L.getD i 0 = B) := by
  have hk := u.k1
  have hb := u.b1
  have hs : 1 ≤ K * B := Nat.mul_le_mul hk hb
  refine ⟨?_, ?_, fun h1 => ?_⟩
  · rw [u.l] at hi ⊢
    exact bls_pos K (K * B) hk hs N N i hi
  · rw [u.l]; exact bls_le K B hk N N i
  · have h2 := (bls_take K B hk hb N N i (Nat.le_refl _) (by rw [← u.l]; exact hi)).1
    have h3 := (bls_take K B hk hb N N (i + 1) (Nat.le_refl _) (by rw [← u.l]; exact h1)).1
    rw [← u.l] at h2 h3
    rw [sum_take_succ L i hi, h2, Nat.succ_mul] at h3
    omega
theorem cost_sum {h : Hd} {N K M B : Nat} {L : List Nat} (u : h.Nu N K M B L) : L.sum = (N + K - 1) / K := by
  rw [u.l]; exact bls_sum K B u.k1 u.b1 N N (Nat.le_refl _)
theorem cost_quo {h : Hd} {N K M B : Nat} {L : List Nat} (u : h.Nu N K M B L) : ((N : Int) + (K : Int) - 1).tdiv (K : Int) = (L.sum : Int) := by
  have hk := u.k1
  rw [cost_sum u, show (N : Int) + (K : Int) - 1 = ((N + K - 1 : Nat) : Int) by omega, ← Int.ofNat_tdiv]
/-- What Where says, and what is asked of it. -/
theorem cost_where {h : Hd} {N K M B : Nat} {L : List Nat} (u : h.Nu N K M B L) (hz : szC h.k h.m h.b N = 0) (o n : Nat) (hn : 1 ≤ n) (ho : o < N) : ∃ f t t1 s x fS uS tS S en : Nat, x = min n (N - o) ∧
    whR (K : Int) (M : Int) (B : Int) (N : Int) (o : Int) (n : Int) = ⟨(f : Int), (t : Int), (s : Int), 0⟩ ∧ wrap64 ((K : Int) * (B : Int)) = (S : Int) ∧ wrap64 ((f : Int) * (S : Int)) = (fS : Int) ∧ wrap64 ((fS : Int) + (s : Int)) = (o : Int) ∧ wrap64 ((t : Int) - 1) = (t1 : Int) ∧ wrap64 ((t1 : Int) * (S : Int)) = (uS : Int) ∧ wrap64 ((t : Int) * (S : Int)) = (tS : Int) ∧ wrap64 ((o : Int) + (x : Int)) = (en : Int)
      ∧ s < S ∧ uS < en ∧ en ≤ tS ∧ t ≤ L.length ∧ o < en := by
  have hk := u.k1
  have hb := u.b1
  have hb2 := u.b2
  have km := u.km
  have m1 := u.m1
  have n1 := u.n1
  have p := pc_of u o (min n (N - o)) (by omega) (by omega)
  have w1 := wh_nat (m := h.m) u.k u.b hz o n hn ho
  rw [u.k, u.m, u.b] at w1
  have hS2 : K * B ≤ 255 * 65536 := Nat.mul_le_mul (by omega) hb2
  have hs : 1 ≤ K * B := Nat.mul_le_mul hk hb
  have e2 : ((o + min n (N - o) - 1) / (K * B)) * (K * B) ≤ o + min n (N - o) - 1 := Nat.div_mul_le_self _ _
  have e3 : o + min n (N - o) - 1 < ((o + min n (N - o) - 1) / (K * B) + 1) * (K * B) := by
    rw [Nat.mul_comm]
    exact Nat.lt_mul_div_succ _ (by omega)
  obtain ⟨x, hx⟩ : ∃ x, x = min n (N - o) := ⟨_, rfl⟩
  rw [← hx] at p w1 e2 e3
  obtain ⟨S, hS⟩ : ∃ S, S = K * B := ⟨_, rfl⟩
  rw [← hS] at p w1 e2 e3 hS2 hs
  obtain ⟨u0, hu⟩ : ∃ u0, u0 = (o + x - 1) / S := ⟨_, rfl⟩
  rw [← hu] at p w1 e2 e3
  have hos := p.os
  have hsz := p.sz
  have htl := p.tl
  rw [← hS] at hos hsz
  clear p
  obtain ⟨f, hf⟩ : ∃ f, f = o / S := ⟨_, rfl⟩
  obtain ⟨s, hs2⟩ : ∃ s, s = o % S := ⟨_, rfl⟩
  rw [← hf, ← hs2] at w1 hos
  rw [← hs2] at hsz
  have e4 : (u0 + 1) * S = u0 * S + S := Nat.succ_mul _ _
  have hul : u0 ≤ u0 * S := Nat.le_mul_of_pos_right _ hs
  obtain ⟨uS, huS⟩ : ∃ uS, uS = u0 * S := ⟨_, rfl⟩
  obtain ⟨fS, hfS⟩ : ∃ fS, fS = f * S := ⟨_, rfl⟩
  obtain ⟨tS, htS⟩ : ∃ tS, tS = (u0 + 1) * S := ⟨_, rfl⟩
  refine ⟨f, u0 + 1, u0, s, x, fS, uS, tS, S, o + x, hx, w1, ?_, ?_, ?_, ?_, ?_, ?_, ?_, hsz, ?_, ?_, htl, ?_⟩
  · rw [← Int.natCast_mul, ← hS]; clear e4 hos; unfold wrap64; omega
  · rw [← Int.natCast_mul, ← hfS]; rw [← hfS] at hos; clear e4; unfold wrap64; omega
  · rw [← hfS] at hos; clear e4; unfold wrap64; omega
  · rw [← huS] at hul e2; clear e4 hos; unfold wrap64; omega
  · rw [← Int.natCast_mul, ← huS]; rw [← huS] at e2; clear e4 hos hul; unfold wrap64; omega
  · rw [← Int.natCast_mul, ← htS]; rw [← huS] at e2 e4; rw [← htS] at e4; clear hos hul; unfold wrap64; omega
  · clear e4 hos; unfold wrap64; omega
  · rw [← huS] at e2; omega
  · rw [← htS] at e3; omega
  · omega
theorem beq_no {o en : Nat} (h : o < en) : ((en : Int) == (o : Int)) = false := by simp; omega
theorem wrap_pred {t t1 : Nat} (h : t ≤ 1048576) (e : wrap64 ((t : Int) - 1) = (t1 : Int)) : (t : Int) - 1 = (t1 : Int) := by
  unfold wrap64 at e
  omega
theorem cost_all {h : Hd} {N K M B : Nat} {L : List Nat} (u : h.Nu N K M B L) (hz : szC h.k h.m h.b N = 0) (o n x : Nat) (hx : x = min n (N - o)) :
    (x = 0 ∧ whR (K : Int) (M : Int) (B : Int) (N : Int) (o : Int) (n : Int) = ⟨0, 0, 0, 0⟩) ∨ ∃ f t s fS uS tS S en : Nat,
    whR (K : Int) (M : Int) (B : Int) (N : Int) (o : Int) (n : Int) = ⟨(f : Int), (t : Int), (s : Int), 0⟩ ∧ wrap64 ((K : Int) * (B : Int)) = (S : Int) ∧ wrap64 ((f : Int) * (S : Int)) = (fS : Int) ∧ wrap64 ((fS : Int) + (s : Int)) = (o : Int) ∧ wrap64 (((t : Int) - 1) * (S : Int)) = (uS : Int) ∧ wrap64 ((t : Int) * (S : Int)) = (tS : Int) ∧ wrap64 ((o : Int) + (x : Int)) = (en : Int)
      ∧ (s : Int) < (S : Int) ∧ (uS : Int) < (en : Int) ∧ (en : Int) ≤ (tS : Int) ∧ (t : Int) ≤ (L.length : Int) ∧ ((en : Int) == (o : Int)) = false := by
  have NUr : L.length ≤ 1048576 := Nat.le_trans u.r u.n1
  by_cases h0 : n = 0 ∨ N ≤ o
  · have w1 := wh_none (m := h.m) hz o n h0
    rw [u.k, u.m, u.b] at w1
    exact .inl ⟨by omega, w1⟩
  · obtain ⟨f, t, t1, s, x', fS, uS, tS, S, en, hx', e1, e2, e3, e4, e5, e6, e7, e8, e9, e10, e11, e12, e13⟩ := cost_where u hz o n (by omega) (by omega)
    obtain rfl : x' = x := by rw [hx, hx']
    have e56 : wrap64 (((t : Int) - 1) * (S : Int)) = (uS : Int) := by
      have e : (t : Int) - 1 = (t1 : Int) := wrap_pred (Nat.le_trans e12 NUr) e5
      rw [e]; exact e6
    refine .inr ⟨f, t, s, fS, uS, tS, S, en, e1, e2, e3, e4, e56, e7, e8, Int.ofNat_lt.2 e9, Int.ofNat_lt.2 e10, Int.ofNat_le.2 e11, Int.ofNat_le.2 e12, beq_no e13⟩
end Go.Proofs.Ytkngfeciobalmaa
/-
  StripeCost: the walk.
-/
namespace Go.Proofs.Ytkngfeciobalmaa
open Go.RowKit
theorem cost_in {N : Nat} (h : N ≤ 1048576) : In64 (N : Int) := ⟨by omega, by omega⟩
theorem cost_sm {L : List Nat} {t N : Nat} (ht : t < L.length) (hs : L.sum ≤ N) (hn : N ≤ 1048576) : wrap64 (((L.take t).sum : Int) + ((L.getD t 0 : Nat) : Int)) = ((L.take (t + 1)).sum : Int) := by
  have h1 := sum_take_succ L t ht
  have h2 := sum_take_le L (t + 1)
  unfold wrap64
  omega
theorem cost_in2 {t N : Nat} (h : t < N + 2) (hn : N ≤ 1048576) : In64 (t : Int) := ⟨by omega, by omega⟩
theorem cost_le {t N : Nat} (h : t < N + 2) (hn : N ≤ 1048576) : t ≤ 9223372036854775807 := by omega
theorem cost_w {L : List Nat} {N : Nat} (h : L.sum ≤ N) (hn : N ≤ 1048576) : wrap64 (L.sum : Int) = (L.sum : Int) := by unfold wrap64; omega
theorem wrap_succ {t N : Nat} (h : t < N) (hn : N ≤ 1048576) : IntKind.i64.wrap ((t : Int) + 1) = (t : Int) + 1 := by rw [IntKind.wrap_i64]; omega
section
attribute [local irreducible] Calls el Hd.cs plC PlAt NrE bstr Oi Vr
set_option maxHeartbeats 16000000 in
set_option maxRecDepth 1000000 in
theorem stripeCost_walk (x : Hd) (pd : Option Addr) (n c : Nat) (d : Nat → BitVec 8) (vp : Value) (off k : Int) (w : World) (hnc : n ≤ c) (hD : NrE w (.slice pd n c) n d) :
    Calls Try.prog 4 #[.agg (plC x (.slice pd n c) vp), .int .i64 off, .int .i64 k] w fun e w' => e = .returned (.bool true) ∧ Below w.heap.size w w' := by
  have al : ∀ (W : World) (o : Obj), Below W.heap.size W (W.alloc o) := fun W o => (Below.refl _ _).alloc (Nat.le_refl _) o
  have H0 := (show Hid _ from PlAt.new w x (.slice pd n c) vp)
  have HD := (show Hid _ from NrE.below hD (al w (.cells (plC x (.slice pd n c) vp) 26)))
  have HA := (show Hid _ from al w (.cells (plC x (.slice pd n c) vp) 26))
  have AW := (show Hid _ from awake10)
  clear hD
  go_enter Try.func4, Try.ntmps4
  go_wp2_with (first
    | (go_at_call 7; refine (AW.out _).mono ?_; rintro e w1 ⟨rfl, hb1⟩; have P1 := (show Hid _ from H0.out.below hb1); have D1 := (show Hid _ from NrE.below HD.out hb1); clear H0 HD)
    | (refine wpList_ldPl rfl _ rfl w.heap.size rfl P1.out ?_)
    | (go_at_call 8; refine (fit_any x pd n c vp d w1 hnc D1.out).mono ?_; rintro e w2 ⟨K, M, B, N, ep, ct, key, q, r, rfl, hf, hr, hN2, hb2⟩; have N2 := (show Hid _ from hN2); have HF := (show Hid _ from hf); clear P1 D1 hN2 hf)
    | (refine wpList_alHd rfl rfl ?_; intro wa Za hba hsa)
    | (refine wpList_stHd (ftH x K M B key ep ct) rfl _ _ rfl rfl w2.heap.size rfl rfl Za ?_; intro w3 H3 hBu3; have hb3 := (show Hid (Below w2.heap.size w2 w3) from hba.trans hBu3.bl); have N3 := (show Hid _ from NrE.below N2.out hb3.out); have a8 := (show w3.cell? ⟨w2.heap.size, 8, none⟩ = some (.int .i64 (K : Int)) from (HdAt.cells H3).1); have a9 := (show w3.cell? ⟨w2.heap.size, 9, none⟩ = some (.int .i64 (M : Int)) from (HdAt.cells H3).2.1); have a10 := (show w3.cell? ⟨w2.heap.size, 10, none⟩ = some (.int .i64 (B : Int)) from (HdAt.cells H3).2.2.1); obtain ⟨L, nu, z1, z2⟩ := ft_nu (x := x) HF.out; have NU := (show Hid _ from nu); have Z1 := (show Hid _ from z1); have BL := (show Hid (∀ W : World, Calls Try.prog 14 #[.agg #[.int .i64 (K : Int), .int .i64 (M : Int), .int .i64 (B : Int)], .int .i64 (N : Int)] W _) from fun W => blocks_any (K : Int) (M : Int) (B : Int) (N : Int) (ft_in (x := x) HF.out).m (cost_in HF.out.n1) W); rw [show szC (K : Int) (M : Int) (B : Int) (N : Int) = 0 from z1, show szL (K : Int) (M : Int) (B : Int) (N : Int) = L from z2] at BL; clear Za hba hBu3 N2 nu z1 z2)
    | (go_at_call 14; refine (BL.out _).mono ?_; rintro e w4 ⟨vL, rfl, hO4, hb4⟩; obtain ⟨pL, cL, rfl, hcL, VL⟩ := hO4.rd; have VL4 := (show Hid _ from VL); clear hO4 VL BL))
  have H4 := (show Hid (HdAt w4 w2.heap.size (ftH x K M B key ep ct)) from HdAt.below H3 hb4)
  have HB4 := (show Hid (Below w.heap.size w w4) from bt (bt (bt (bt HA.out hb1) hb2) hb3.out) hb4)
  have B34 := (show Hid (Below w3.heap.size w3 w4) from hb4)
  have hl : L.length ≤ 1048576 := Nat.le_trans NU.out.r NU.out.n1
  clear a8 a9 a10 H3 hb1 hb2 hb3 hb4 HA AW hsa
  go_loopw [12, 13] (fun s i wr => ∃ t : Nat, t ≤ L.length ∧ s = .int .i64 ((L.take t).sum : Int) ∧ i = .int .i64 (t : Int) ∧ Hid (Below w4.heap.size w4 wr)) (fun _ i _ => L.length - (intOf i).toNat)
  case atStart => exact ⟨0, Nat.zero_le _, rfl, rfl, Below.refl _ _⟩
  case round =>
    obtain ⟨t, ht, rfl, rfl, hb⟩ := hrel
    by_cases hlt : t < L.length
    · have j1 : (t : Int) < (L.length : Int) := by omega
      obtain ⟨b0, o0, ep0, hc0⟩ := VL4.out.num t hlt
      subst ep0
      have g1 := cell_below hc0 hb.out
      have sm := cost_sm hlt NU.out.s NU.out.n1
      have r10 := (show wr.cell? ⟨w2.heap.size, 10, none⟩ = some (.int .i64 (B : Int)) from (HdAt.cells (H4.out.below hb.out)).2.2.1)
      obtain ⟨l1, l2, l3⟩ := cost_len NU.out t hlt
      obtain ⟨z, hz⟩ : ∃ z, z = L.getD t 0 := ⟨_, rfl⟩
      rw [← hz] at l1 l2 l3 g1 sm
      obtain ⟨y, hy⟩ : ∃ y, y = (L.take (t + 1)).sum := ⟨_, rfl⟩
      rw [← hy] at sm
      obtain ⟨y0, hy0⟩ : ∃ y0, y0 = (L.take t).sum := ⟨_, rfl⟩
      rw [← hy0] at sm ⊢
      have HY := (show Hid _ from hy)
      have L3 := (show Hid _ from l3)
      have ws := wrap_succ hlt hl
      have d1 : decide ((z : Int) < 1) = false := by simp; omega
      have d1' : ¬ (z : Int) < 1 := by omega
      have d2 : decide (B < z) = false := by simp; omega
      have DN := (show Hid (∀ v, Below w4.heap.size w4 (wr.drewN v)) from fun v => below_drewN hb.out v)
      clear hc0 hz hy hy0 l3 hb
      by_cases h1 : t + 1 < L.length
      · have d3 : decide ((t : Int) + 1 < (L.length : Int)) = true := by simp; omega
        have d4 : ((z : Int) != (B : Int)) = false := by have := L3.out h1; simp; omega
        go_wp2
        go_quiet (fail)
        go_wp2
        go_roundw
        case rel => exact ⟨t + 1, by omega, by rw [HY.out], by go_num, DN.out _⟩
        case measure => simp [intOf]; omega
      · have d3 : decide ((t : Int) + 1 < (L.length : Int)) = false := by simp; omega
        go_wp2
        go_quiet (fail)
        go_wp2
        go_roundw
        case rel => exact ⟨t + 1, by omega, by rw [HY.out], by go_num, DN.out _⟩
        case measure => simp [intOf]; omega
    · obtain rfl : t = L.length := by omega
      rw [List.take_length]
      have hn1 := HF.out.n1
      have hk1 := HF.out.k1
      have hkm := HF.out.km
      have Hr := (show Hid (HdAt wr w2.heap.size (ftH x K M B key ep ct)) from H4.out.below hb.out)
      have HBr := (show Hid (Below w.heap.size w wr) from HB4.out.trans (hb.out.mono HB4.out.size))
      have Nr := (show Hid (NrE wr (.slice q N r) N d) from NrE.below (NrE.below N3.out B34.out) hb.out)
      have r8 := (show wr.cell? ⟨w2.heap.size, 8, none⟩ = some (.int .i64 (K : Int)) from (HdAt.cells Hr.out).1)
      have r9 := (show wr.cell? ⟨w2.heap.size, 9, none⟩ = some (.int .i64 (M : Int)) from (HdAt.cells Hr.out).2.1)
      have r10 := (show wr.cell? ⟨w2.heap.size, 10, none⟩ = some (.int .i64 (B : Int)) from (HdAt.cells Hr.out).2.2.1)
      have y1 : wrap64 ((N : Int) + (K : Int)) = (N : Int) + (K : Int) := by unfold wrap64; omega
      have y2 : wrap64 ((N : Int) + (K : Int) - 1) = (N : Int) + (K : Int) - 1 := by unfold wrap64; omega
      have y3 := cost_quo NU.out
      have y4 : ((L.sum : Int) != (L.sum : Int)) = false := by simp
      have y5 : ¬ (K : Int) = 0 := by omega
      have y6 := cost_w NU.out.s hn1
      have P1 := (show Hid (∀ X, Calls Try.prog 15 #[.int .i64 off, .int .i64 ((N : Int) + 2)] X fun e w' => ∃ t : Nat, e = .returned (.int .i64 (t : Int)) ∧ t < N + 2 ∧ w' = X) from fun X => pick10 off (N + 2) (by omega) (by omega) X)
      have P2 := (show Hid (∀ X, Calls Try.prog 15 #[.int .i64 k, .int .i64 ((N : Int) + 2)] X fun e w' => ∃ t : Nat, e = .returned (.int .i64 (t : Int)) ∧ t < N + 2 ∧ w' = X) from fun X => pick10 k (N + 2) (by omega) (by omega) X)
      clear hb H4 HB4 B34 VL4
      go_wp2_with (first
        | (go_at_call 15; refine (P1.out _).mono ?_; rintro e w5 ⟨o', rfl, ho', h⟩; obtain rfl := h.symm; clear P1)
        | (go_at_call 15; refine (P2.out _).mono ?_; rintro e w5 ⟨k', rfl, hk', h⟩; obtain rfl := h.symm; clear P2; have WH := (show Hid (∀ X : World, Calls Try.prog 16 #[.agg #[.int .i64 (K : Int), .int .i64 (M : Int), .int .i64 (B : Int)], .int .i64 (N : Int), .int .i64 (o' : Int), .int .i64 (k' : Int)] X _) from fun X => where_any (K : Int) (M : Int) (B : Int) (N : Int) (o' : Int) (k' : Int) (ft_in (x := x) HF.out).m (cost_in hn1) (cost_in2 ho' hn1) (cost_in2 hk' hn1) X); have CA := (show Hid _ from fun z => cost_all NU.out Z1.out o' k' z); generalize whR (K : Int) (M : Int) (B : Int) (N : Int) (o' : Int) (k' : Int) = R at WH CA; obtain ⟨rf, rt, rs, re⟩ := R)
        | (go_at_call 16; refine (WH.out _).mono ?_; rintro e w6 ⟨rfl, hb6⟩; have r10' := cell_below r10 hb6; obtain ⟨q9, r9, _, CV⟩ := cut10q (NrE.below Nr.out hb6) hr HF.out.n o' k' (cost_le ho' hn1) (cost_le hk' hn1); obtain ⟨z, hz⟩ : ∃ z, z = min k' (N - o') := ⟨_, rfl⟩; rw [← hz] at CV; have CW := (show Hid _ from CV); have HZ := (show Hid _ from hz); clear CV hz WH)
        | (go_at_call 13; refine CW.out.mono ?_; rintro e w7 ⟨rfl, h⟩; obtain rfl := h.symm; rcases CA.out z HZ.out with ⟨e0, eW⟩ | ⟨f, t, s, fS, uS, tS, S, en, eW, e1, e2, e3, e4, e5, e6, e7, e8, e9, e10, e11⟩ <;> (injection eW with E1 E2 E3 E4; subst E1 E2 E3 E4; clear CA HZ CW)))
      all_goals
        go_ret
        exact ⟨rfl, bt HBr.out hb6⟩
end
end Go.Proofs.Ytkngfeciobalmaa
