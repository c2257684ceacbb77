/-
  'Turn': the refusals of both; 'turned', and what it leaves.
-/
import Derived.Test.YtienknoahjhopaaRtu
namespace Go.Proofs.Ytienknoahjhopaa
open Go.RowKit
/-- No block but the rows' own is changed. -/
def Kps (r : Nat) (ρ : Nat → Nat) (w w' : World) : Prop := ∀ g, (∀ i, i < r → g ≠ ρ i) → w'.heap[g]? = w.heap[g]?
theorem Kps.refl (r : Nat) (ρ : Nat → Nat) (w : World) : Kps r ρ w w := fun _ _ => rfl
theorem Kps.set {r : Nat} {ρ : Nat → Nat} {w w' W : World} (h : Kps r ρ w w') {t : Nat} (ht : t < r) (j : Nat) (u : Value) (e : W.heap = (w'.setCell ⟨ρ t, j, none⟩ u).heap) : Kps r ρ w W := fun g hg => by
  rw [e, heap_setCell_other _ _ _ _ (hg t ht)]; exact h g hg
theorem Lnt.kept {w w' : World} {g n cap : Nat} {x : Nat → BitVec 8} (h : Lnt w g n cap x) (e : w'.heap[g]? = w.heap[g]?) : Lnt w' g n cap x := by
  obtain ⟨h1, f, h2, h3⟩ := h
  refine ⟨h1, f, ?_, h3⟩
  unfold Ov at h2 ⊢
  rw [e]; exact h2
theorem Lnt.byte {w : World} {g n cap : Nat} {x : Nat → BitVec 8} (h : Lnt w g n cap x) {j : Nat} (hj : j < n) : w.cell? ⟨g, j, none⟩ = some (.int .u8 (el (x j))) := by
  obtain ⟨h1, f, h2, h3, _⟩ := h
  rw [h2.cell (by omega), h3 j hj]
theorem Lnt.fro {w : World} {g n cap : Nat} {x : Nat → BitVec 8} (h : Lnt w g n cap x) (j : Nat) : w.frozen? ⟨g, j, none⟩ = false := by
  obtain ⟨h1, f, h2, h3, _⟩ := h
  exact h2.frozen j
theorem Lnt.put {w W : World} {g n cap : Nat} {x : Nat → BitVec 8} (h : Lnt w g n cap x) {j : Nat} (hj : j < n) (y : BitVec 8) (e : W.heap = (w.setCell ⟨g, j, none⟩ (.int .u8 (el y))).heap) : Lnt W g n cap (fun b => if b = j then y else x b) := by
  obtain ⟨h1, f, h2, h3, h4⟩ := h
  refine ⟨h1, _, (h2.set (show j < cap by omega) (.int .u8 (el y))).heap e, fun b hb => ?_, fun b hb => ?_⟩
  · dsimp only
    by_cases eb : b = j
    · rw [if_pos eb, if_pos eb]
    · rw [if_neg eb, if_neg eb]; exact h3 b hb
  · rw [if_neg (by omega)]; exact h4 b hb
theorem Lns.apart {w W : World} {B cB r : Nat} {ρ κ L μ : Nat → Nat} {M : Nat → Nat → BitVec 8} (h : Lns w B cB r ρ κ L μ M) {g n cap j : Nat} {x : Nat → BitVec 8} {u : Value} (hd : Lnt w g n cap x) (h1 : ∀ i, i < r → ρ i ≠ g) (h2 : ∀ j, j < 64 → μ j ≠ g) (e : W.heap = (w.setCell ⟨g, j, none⟩ u).heap) : Lns W B cB r ρ κ L μ M := by
  obtain ⟨f, h3, h4⟩ := h.lst
  have hB : B ≠ g := fun e => by
    obtain ⟨_, f', h5, _⟩ := hd
    rw [← e] at h5
    unfold Ov at h3 h5
    rw [h3] at h5
    injection h5 with h5
    injection h5 with _ h5 _
    exact absurd h5 (by decide)
  refine ⟨h.cap, ⟨f, h3.other (p := ⟨g, j, none⟩) (u := u) hB e, h4⟩, fun a ha => (h.row a ha).kept (by rw [e]; exact heap_setCell_other _ _ _ _ (h1 a ha)), h.inj, fun m hm => ?_, h.away⟩
  rw [World.cell?_of_block (w := w) (w' := W) (by rw [e]; exact heap_setCell_other _ _ _ _ (h2 m hm))]
  exact h.mar m hm
section
attribute [local irreducible] Calls el Lnt
set_option maxHeartbeats 16000000 in
set_option maxRecDepth 1000000 in
theorem turned_keep (B cB r base : Nat) (ρ κ L μ : Nat → Nat) (M : Nat → Nat → BitVec 8) (w : World) (hr : r ≤ 5864062014634) (hL : Hid (∀ i, i < r → L i ≤ 140737488355200)) (hρ : Hid (∀ i, i < r → base ≤ ρ i)) (HL : Hid (Lns w B cB r ρ κ L μ M)) :
    Calls Try.prog 15 #[.slice (some ⟨B, 0, none⟩) r cB] w fun e w' => ∃ M', e = .returned (.tuple #[]) ∧ Lns w' B cB r ρ κ L μ M' ∧ Kps r ρ w w' ∧ Below base w w' := by
  go_enter Try.func15, Try.ntmps15
  go_wp2
  go_loopw [2] (fun i wr => ∃ (t : Nat) (M' : Nat → Nat → BitVec 8), t ≤ r ∧ i = .int .i64 t ∧ Hid (Lns wr B cB r ρ κ L μ M') ∧ Hid (Kps r ρ w wr) ∧ Below base w wr) (fun i _ => r - (intOf i).toNat)
  case atStart => exact ⟨0, M, Nat.zero_le _, rfl, HL, Kps.refl _ _ _, Below.refl _ _⟩
  case round =>
    clear HL
    obtain ⟨t, M1, ht, rfl, HL, HK, hb⟩ := hrel
    by_cases hlt : t < r
    · have j1 : (t : Int) < (r : Int) := by omega
      have hLt := hL.out t hlt
      obtain ⟨n, hn⟩ : ∃ n, L t = n := ⟨_, rfl⟩
      have HN : Hid (L t = n) := hn
      rw [hn] at hLt
      clear hn
      go_wp2
      go_loopw [3] (fun i wr => ∃ (j : Nat) (M' : Nat → Nat → BitVec 8), j ≤ n ∧ i = .int .i64 j ∧ Hid (Lns wr B cB r ρ κ L μ M') ∧ Hid (Kps r ρ w wr) ∧ Below base w wr) (fun i _ => n - (intOf i).toNat)
      case atStart => exact ⟨0, M1, Nat.zero_le _, rfl, HL, HK, hb⟩
      case round =>
        clear HL HK hb
        obtain ⟨j, M2, hj, rfl, HL, HK, hb⟩ := hrel
        have g1 := Lns.cell HL.out hlt
        rw [HN.out] at g1
        by_cases hjn : j < n
        · have j2 : (j : Int) < (n : Int) := by omega
          have hjL : j < L t := by rw [HN.out]; exact hjn
          have g2 := lns_byte HL.out hlt hjL
          have g3 := lns_frozen HL.out hlt j
          have HBs := (show Hid _ from hb)
          have hbt := hρ.out t hlt
          obtain ⟨x, hx⟩ : ∃ x, el (M2 t j) = x := ⟨_, rfl⟩
          have hxb := el_bd (M2 t j)
          rw [hx] at hxb g2
          obtain ⟨hx1, hx2⟩ := hxb
          have e1 : wrap64 ((t : Int) + 1) = (t : Int) + 1 := by unfold wrap64; omega
          obtain ⟨y, hy⟩ := u8_some ((x * 5 % 256 + ((t : Int) + 1) % 256) % 256) (by omega) (by omega)
          have HY : Hid ((x * 5 % 256 + ((t : Int) + 1) % 256) % 256 = el y) := hy.symm
          clear hx hb hy
          go_wp2
          go_region_with (fail)
          all_goals
            go_wp2
            go_roundw
            case rel =>
              rw [HY.out]
              exact ⟨j + 1, _, by omega, by go_num, Lns.put HL.out hlt hjL y (by rfl), Kps.set HK.out hlt j (.int .u8 (el y)) (by rfl), (HBs.out.setCell hbt _).drew⟩
            case measure => simp [intOf]; omega
        · obtain rfl : n = j := by omega
          go_wp2
          go_roundw
          case rel => exact ⟨t + 1, M2, by omega, by go_num, HL, HK, hb⟩
          case measure => simp [intOf]; omega
    · obtain rfl : t = r := by omega
      go_wp2
      refine bodyPost_end (results_0 rfl _ _ _) rfl ?_
      exact ⟨M1, rfl, HL.out, HK.out, hb⟩
end
section
attribute [local irreducible] Calls NmE NrE Cd Fac Lm
set_option maxHeartbeats 8000000 in
set_option maxRecDepth 1000000 in
theorem refTurn_rows (p : Option Addr) (r c k m : Nat) (At : Int) (vd : Value) (w : World) (hkm : k + m ≤ 255) (h : ¬ r = k + m) : Calls Try.prog 19 #[.int .i64 (k : Int), .int .i64 (m : Int), .slice p r c, .int .i64 At, vd] w fun e w' => e = .returned (.tuple #[.slice none 0 0, .int .i64 40]) ∧ w' = w := by
  have e2 : wrap64 ((k : Int) + (m : Int)) = (k : Int) + (m : Int) := by unfold wrap64; omega
  have e1 : ((r : Int) != (k : Int) + (m : Int)) = true := by simp; omega
  go_enter Try.func19, Try.ntmps19
  go_wp2
  go_ret2
  exact ⟨rfl, rfl⟩
set_option maxHeartbeats 8000000 in
set_option maxRecDepth 1000000 in
theorem refTurn_uneven (p : Option Addr) (k m c : Nat) (L : Nat → Nat) (At : Int) (vd : Value) (w : World) (hk : 1 ≤ k) (hkm : k + m ≤ 255) (HL : Hid (Lm w (.slice p (k + m) c) (k + m) L)) (h : ¬ ∀ i, i < k + m → L i = L 0) : Calls Try.prog 19 #[.int .i64 (k : Int), .int .i64 (m : Int), .slice p (k + m) c, .int .i64 At, vd] w fun e w' => e = .returned (.tuple #[.slice none 0 0, .int .i64 41]) ∧ w' = w := by
  have e2 : wrap64 ((k : Int) + (m : Int)) = (k : Int) + (m : Int) := by unfold wrap64; omega
  have e1 : ((k : Int) + (m : Int) != (k : Int) + (m : Int)) = false := by simp
  obtain ⟨b, o, c', pp, cc, e, hc⟩ := Lm.cells HL.out (by omega)
  injection e with e _ e3
  subst e e3
  have H : Hid (¬ ∀ i, i < k + m → L i = L 0) := h
  clear h
  have g0 : w.cell? ⟨b, o, none⟩ = some (.slice (pp 0) (L 0) (cc 0)) := hc 0 (by omega)
  have jk : (0 : Int) < (k : Int) + (m : Int) := by omega
  have ON := (show Hid _ from one_any (some ⟨b, o, none⟩) (k + m) c (L 0) L w (by omega) HL)
  clear hc
  go_enter Try.func19, Try.ntmps19
  go_wp2_with (go_at_call 28; refine ON.out.mono ?_; rintro e w' ⟨ha, h⟩; obtain rfl := h.symm; obtain rfl := ans_f ha H.out; clear ha)
  go_ret2
  exact ⟨rfl, rfl⟩
set_option maxHeartbeats 8000000 in
set_option maxRecDepth 1000000 in
theorem refTurn_at1 (p : Option Addr) (k m n c : Nat) (At : Int) (vd : Value) (w : World) (hk : 1 ≤ k) (hkm : k + m ≤ 255) (HL : Hid (Lm w (.slice p (k + m) c) (k + m) (fun _ => n))) (h : At < 0) : Calls Try.prog 19 #[.int .i64 (k : Int), .int .i64 (m : Int), .slice p (k + m) c, .int .i64 At, vd] w fun e w' => e = .returned (.tuple #[.slice none 0 0, .int .i64 2]) ∧ w' = w := by
  have e2 : wrap64 ((k : Int) + (m : Int)) = (k : Int) + (m : Int) := by unfold wrap64; omega
  have e1 : ((k : Int) + (m : Int) != (k : Int) + (m : Int)) = false := by simp
  obtain ⟨b, o, c', pp, cc, e, hc⟩ := Lm.cells HL.out (by omega)
  injection e with e _ e3
  subst e e3
  have g0 : w.cell? ⟨b, o, none⟩ = some (.slice (pp 0) n (cc 0)) := hc 0 (by omega)
  have jk : (0 : Int) < (k : Int) + (m : Int) := by omega
  have ON := (show Hid _ from one_any (some ⟨b, o, none⟩) (k + m) c n (fun _ => n) w (by omega) HL)
  clear hc
  go_enter Try.func19, Try.ntmps19
  go_wp2_with (go_at_call 28; refine ON.out.mono ?_; rintro e w' ⟨ha, h⟩; obtain rfl := h.symm; obtain rfl := ans_t ha (fun _ _ => rfl); clear ha)
  go_ret2
  exact ⟨rfl, rfl⟩
set_option maxHeartbeats 8000000 in
set_option maxRecDepth 1000000 in
theorem refTurn_at2 (p : Option Addr) (k m n c : Nat) (At : Int) (vd : Value) (w : World) (hk : 1 ≤ k) (hkm : k + m ≤ 255) (HL : Hid (Lm w (.slice p (k + m) c) (k + m) (fun _ => n))) (h1 : ¬ At < 0) (h : (k : Int) ≤ At) : Calls Try.prog 19 #[.int .i64 (k : Int), .int .i64 (m : Int), .slice p (k + m) c, .int .i64 At, vd] w fun e w' => e = .returned (.tuple #[.slice none 0 0, .int .i64 2]) ∧ w' = w := by
  have e2 : wrap64 ((k : Int) + (m : Int)) = (k : Int) + (m : Int) := by unfold wrap64; omega
  have e1 : ((k : Int) + (m : Int) != (k : Int) + (m : Int)) = false := by simp
  obtain ⟨b, o, c', pp, cc, e, hc⟩ := Lm.cells HL.out (by omega)
  injection e with e _ e3
  subst e e3
  have g0 : w.cell? ⟨b, o, none⟩ = some (.slice (pp 0) n (cc 0)) := hc 0 (by omega)
  have jk : (0 : Int) < (k : Int) + (m : Int) := by omega
  have ON := (show Hid _ from one_any (some ⟨b, o, none⟩) (k + m) c n (fun _ => n) w (by omega) HL)
  clear hc
  go_enter Try.func19, Try.ntmps19
  go_wp2_with (go_at_call 28; refine ON.out.mono ?_; rintro e w' ⟨ha, h⟩; obtain rfl := h.symm; obtain rfl := ans_t ha (fun _ _ => rfl); clear ha)
  go_ret2
  exact ⟨rfl, rfl⟩
set_option maxHeartbeats 8000000 in
set_option maxRecDepth 1000000 in
theorem refTurn_len (p pd : Option Addr) (k m n nd c cd a : Nat) (w : World) (hk : 1 ≤ k) (hkm : k + m ≤ 255) (ha : a < k) (HL : Hid (Lm w (.slice p (k + m) c) (k + m) (fun _ => n))) (h : ¬ nd = n) : Calls Try.prog 19 #[.int .i64 (k : Int), .int .i64 (m : Int), .slice p (k + m) c, .int .i64 (a : Int), .slice pd nd cd] w fun e w' => e = .returned (.tuple #[.slice none 0 0, .int .i64 41]) ∧ w' = w := by
  have e2 : wrap64 ((k : Int) + (m : Int)) = (k : Int) + (m : Int) := by unfold wrap64; omega
  have e1 : ((k : Int) + (m : Int) != (k : Int) + (m : Int)) = false := by simp
  obtain ⟨b, o, c', pp, cc, e, hc⟩ := Lm.cells HL.out (by omega)
  injection e with e _ e3
  subst e e3
  have ja1 : ¬ (a : Int) < 0 := by omega
  have ja2 : ¬ (k : Int) ≤ (a : Int) := by omega
  have e4 : ((nd : Int) != (n : Int)) = true := by simp; omega
  have g0 : w.cell? ⟨b, o, none⟩ = some (.slice (pp 0) n (cc 0)) := hc 0 (by omega)
  have jk : (0 : Int) < (k : Int) + (m : Int) := by omega
  have ON := (show Hid _ from one_any (some ⟨b, o, none⟩) (k + m) c n (fun _ => n) w (by omega) HL)
  clear hc
  go_enter Try.func19, Try.ntmps19
  go_wp2_with (go_at_call 28; refine ON.out.mono ?_; rintro e w' ⟨ha, h⟩; obtain rfl := h.symm; obtain rfl := ans_t ha (fun _ _ => rfl); clear ha)
  go_ret2
  exact ⟨rfl, rfl⟩
set_option maxHeartbeats 8000000 in
set_option maxRecDepth 1000000 in
theorem turn_err {w : World} {v vR vd : Value} {k m : Nat} {At : Int} {F : Nat → Nat → BitVec 8} {x : Int} (hk : 1 ≤ k) (hx : x = 40 ∨ x = 41) (hC : Hid (Cd w v k m F)) (HF : Hid (Calls Try.prog 36 #[vR, .int .i64 ((k + m : Nat) : Int)] w fun e w' => e = .returned (.int .i64 x) ∧ w' = w)) : Calls Try.prog 20 #[v, vR, .int .i64 At, vd] w fun e w' => e = .returned (.tuple #[.slice none 0 0, .int .i64 x]) ∧ w' = w := by
  have NO := (show Hid _ from none_ok hC.out hk)
  obtain ⟨cb, pF, cF, ev, c1, c2, _⟩ := cd_open hC.out
  subst ev
  have e1 : (x != 0) = true := by rcases hx with rfl | rfl <;> rfl
  rw [Int.natCast_add] at HF
  clear hx
  go_enter Try.func20, Try.ntmps20
  go_wp2_with (first
    | (go_at_call 30; refine NO.out.mono ?_; rintro e w' ⟨rfl, h⟩; obtain rfl := h.symm)
    | (go_at_call 36; refine HF.out.mono ?_; rintro e w' ⟨rfl, h⟩; obtain rfl := h.symm))
  go_ret2
  exact ⟨rfl, rfl⟩
set_option maxHeartbeats 8000000 in
set_option maxRecDepth 1000000 in
theorem turn_at1 {w : World} {v vd : Value} {k m n cR : Nat} {pR : Option Addr} {At : Int} {F : Nat → Nat → BitVec 8} (hk : 1 ≤ k) (hkm : k + m ≤ 255) (hC : Hid (Cd w v k m F)) (HL : Hid (Lm w (.slice pR (k + m) cR) (k + m) (fun _ => n))) (h : At < 0) : Calls Try.prog 20 #[v, .slice pR (k + m) cR, .int .i64 At, vd] w fun e w' => e = .returned (.tuple #[.slice none 0 0, .int .i64 2]) ∧ w' = w := by
  have NO := (show Hid _ from none_ok hC.out hk)
  obtain ⟨cb, pF, cF, ev, c1, c2, _⟩ := cd_open hC.out
  subst ev
  have FA := (show Hid _ from fault_ok pR (k + m) cR n w (by omega) HL)
  rw [Int.natCast_add] at FA
  go_enter Try.func20, Try.ntmps20
  go_wp2_with (first
    | (go_at_call 30; refine NO.out.mono ?_; rintro e w' ⟨rfl, h⟩; obtain rfl := h.symm)
    | (go_at_call 36; refine FA.out.mono ?_; rintro e w' ⟨rfl, h⟩; obtain rfl := h.symm))
  go_ret2
  exact ⟨rfl, rfl⟩
set_option maxHeartbeats 8000000 in
set_option maxRecDepth 1000000 in
theorem turn_at2 {w : World} {v vd : Value} {k m n cR : Nat} {pR : Option Addr} {At : Int} {F : Nat → Nat → BitVec 8} (hk : 1 ≤ k) (hkm : k + m ≤ 255) (hC : Hid (Cd w v k m F)) (HL : Hid (Lm w (.slice pR (k + m) cR) (k + m) (fun _ => n))) (h1 : ¬ At < 0) (h : (k : Int) ≤ At) : Calls Try.prog 20 #[v, .slice pR (k + m) cR, .int .i64 At, vd] w fun e w' => e = .returned (.tuple #[.slice none 0 0, .int .i64 2]) ∧ w' = w := by
  have NO := (show Hid _ from none_ok hC.out hk)
  obtain ⟨cb, pF, cF, ev, c1, c2, _⟩ := cd_open hC.out
  subst ev
  have FA := (show Hid _ from fault_ok pR (k + m) cR n w (by omega) HL)
  rw [Int.natCast_add] at FA
  go_enter Try.func20, Try.ntmps20
  go_wp2_with (first
    | (go_at_call 30; refine NO.out.mono ?_; rintro e w' ⟨rfl, h⟩; obtain rfl := h.symm)
    | (go_at_call 36; refine FA.out.mono ?_; rintro e w' ⟨rfl, h⟩; obtain rfl := h.symm))
  go_ret2
  exact ⟨rfl, rfl⟩
set_option maxHeartbeats 8000000 in
set_option maxRecDepth 1000000 in
theorem turn_len {w : World} {v : Value} {k m n nd cR cd a : Nat} {pR pd : Option Addr} {F : Nat → Nat → BitVec 8} (hk : 1 ≤ k) (hkm : k + m ≤ 255) (ha : a < k) (hC : Hid (Cd w v k m F)) (HL : Hid (Lm w (.slice pR (k + m) cR) (k + m) (fun _ => n))) (h : ¬ nd = n) : Calls Try.prog 20 #[v, .slice pR (k + m) cR, .int .i64 (a : Int), .slice pd nd cd] w fun e w' => e = .returned (.tuple #[.slice none 0 0, .int .i64 41]) ∧ w' = w := by
  have NO := (show Hid _ from none_ok hC.out hk)
  obtain ⟨cb, pF, cF, ev, c1, c2, _⟩ := cd_open hC.out
  subst ev
  have FA := (show Hid _ from fault_ok pR (k + m) cR n w (by omega) HL)
  rw [Int.natCast_add] at FA
  obtain ⟨b, o, c', pp, cc, e, hc⟩ := Lm.cells HL.out (by omega)
  injection e with e _ e3
  subst e e3
  have r1 := hc a (by omega)
  have SU := (show Hid _ from sum_uneven (pp a) pd n nd (cc a) cd (fun e => h e.symm) w)
  have ja1 : ¬ (a : Int) < 0 := by omega
  have ja2 : ¬ (k : Int) ≤ (a : Int) := by omega
  have ja3 : (a : Int) < (k : Int) + (m : Int) := by omega
  have ja4 : (0 : Int) ≤ (a : Int) := by omega
  clear hc
  go_enter Try.func20, Try.ntmps20
  go_wp2_with (first
    | (go_at_call 30; refine NO.out.mono ?_; rintro e w' ⟨rfl, h⟩; obtain rfl := h.symm)
    | (go_at_call 36; refine FA.out.mono ?_; rintro e w' ⟨rfl, h⟩; obtain rfl := h.symm)
    | (go_at_call 41; refine SU.out.mono ?_; rintro e w' ⟨rfl, h⟩; obtain rfl := h.symm))
  go_ret2
  exact ⟨rfl, rfl⟩
end
end Go.Proofs.Ytienknoahjhopaa
