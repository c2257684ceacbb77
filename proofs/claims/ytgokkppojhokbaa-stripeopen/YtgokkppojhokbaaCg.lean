/-
  The code's rows: 'addMultiple', 'sum'.
-/
import Derived.Test.YtgokkppojhokbaaCw
import Derived.Test.YtgokkppojhokbaaScaleb
import Derived.Deep.RegionHeld3
import Derived.ArgAppend
namespace Go.Proofs.Ytgokkppojhokbaa
open Go.RowKit
theorem own_ov {w : World} {t : TypeId} {g n : Nat} {f : Nat → BitVec 8} (h : Own w t g f n) : Ov w t g (clE f) n := h
theorem ovE_congr {w : World} {t : TypeId} {g n : Nat} {f f' : Nat → BitVec 8} (h : Ov w t g (clE f) n) (e : ∀ j, j < n → f j = f' j) : Ov w t g (clE f') n := h.congr (fun j hj => by unfold clE; rw [e j hj])
theorem ovE_cell {w : World} {t : TypeId} {g n : Nat} {f : Nat → BitVec 8} (h : Ov w t g (clE f) n) {j : Nat} (hj : j < n) : w.cell? ⟨g, j, none⟩ = some (.int .u8 (el (f j))) := h.cell hj
theorem ovE_put {w : World} {t : TypeId} {g n : Nat} {f : Nat → BitVec 8} (h : Ov w t g (clE f) n) {j : Nat} (hj : j < n) (x : BitVec 8) : Ov (w.setCell ⟨g, j, none⟩ (.int .u8 (el x))) t g (clE (fun i => if i = j then x else f i)) n :=
  (h.set hj _).congr (fun i _ => by
    unfold clE
    by_cases e : i = j
    · simp [e]
    · simp [e])
theorem nr_un {w : World} {v : Value} {n : Nat} {f : Nat → BitVec 8} (h : NrE w v n f) : ∃ p c, v = .slice p n c ∧ (0 < n → ∃ b o, p = some ⟨b, o, none⟩ ∧ ∀ i, i < n → w.cell? ⟨b, o + i, none⟩ = some (.int .u8 (el (f i)))) := by
  obtain ⟨p, c, e, h⟩ := h
  refine ⟨p, c, e, fun h0 => ?_⟩
  rcases h with h | h
  · omega
  · exact h
/-- A scaled row. -/
theorem scale_nr {w : World} {v : Value} {n : Nat} {d : Nat → BitVec 8} (h : NrE w v n d) (x : BitVec 8) (hn : n ≤ 140737488355328) :
    Calls Try.prog 62 #[v, .int .u8 (el x)] w fun e w' => ∃ g, e = .returned (.slice (some ⟨g, 0, none⟩) n n) ∧ w.heap.size ≤ g ∧ Ov w' 5 g (clE (fun i => tiE (d i) x)) n ∧ Below w.heap.size w w' := by
  obtain ⟨p, c, rfl, h2⟩ := nr_un h
  by_cases h0 : n = 0
  · subst h0
    exact (scale_nil p c x w).mono fun e w' ⟨g, he, hg, ho, hb⟩ => ⟨g, he, hg, ovE_congr (own_ov ho) (fun j hj => by omega), hb⟩
  · obtain ⟨b, o, rfl, hc⟩ := h2 (by omega)
    exact (scale_core b o n c d x w hn hc).mono fun e w' ⟨g, he, hg, ho, hb⟩ => ⟨g, he, hg, own_ov ho, hb⟩
section
attribute [local irreducible] Calls el Ov clE tiE plE NrE
set_option maxHeartbeats 8000000 in
set_option maxRecDepth 1000000 in
theorem addTo_core (g n c1 : Nat) (x : BitVec 8) (f d : Nat → BitVec 8) (v2 : Value) (w0 w : World) (hn : n ≤ 140737488355328) (hO : Ov w 5 g (clE f) n) (hd : Hid (NrE w0 v2 n d)) (hb : Hid (Below w0.heap.size w0 w)) :
    Calls Try.prog 58 #[.slice (some ⟨g, 0, none⟩) n c1, .int .u8 (el x), v2] w fun e w' => e = .returned (.tuple #[]) ∧ Ov w' 5 g (clE (fun j => plE (f j) (tiE x (d j)))) n ∧ But g w w' := by
  have HZ := (show Hid _ from fun w => isZero_any x w)
  have glt := hO.lt
  have HO := (show Hid _ from hO)
  clear hO
  by_cases hx : x = 0#8
  · have ez : (x == 0#8) = true := by simpa using hx
    rw [ez] at HZ
    have HE : Hid (∀ j, f j = plE (f j) (tiE x (d j))) := fun j => by rw [hx, plE_o _ _ (by decide)]
    clear hx ez
    go_enter Try.func58, Try.ntmps58
    go_wp2_with (go_at_call 61; refine (HZ.out _).mono ?_; rintro e w' ⟨rfl, h⟩; obtain rfl := h.symm)
    refine bodyPost_ret (results_0 rfl _ _ _) rfl ?_
    exact ⟨rfl, ovE_congr HO.out (fun j _ => HE.out j), But.refl _ _⟩
  · have ez : (x == 0#8) = false := by simpa using hx
    rw [ez] at HZ
    have SC := (show Hid _ from scale_nr (NrE.below hd.out hb.out) x hn)
    clear hx ez
    go_enter Try.func58, Try.ntmps58
    go_wp2_with (first
      | (go_at_call 61; refine (HZ.out _).mono ?_; rintro e w' ⟨rfl, h⟩; obtain rfl := h.symm)
      | (go_at_call 62; refine SC.out.mono ?_; rintro e w1 ⟨g2, rfl, hg2, hO2, hb1⟩))
    have HO1 : Hid (Ov w1 5 g (clE (fun j => if j < 0 then plE (f j) (tiE (d j) x) else f j)) n) := ovE_congr (Ov.below HO.out hb1) (fun j _ => by rw [if_neg (by omega)])
    have HO2 := (show Hid _ from hO2)
    have HB1 := (show Hid _ from (But.refl g w).below (Nat.le_of_lt glt) hb1)
    have ng : ¬ g2 = g := by omega
    clear hO2 hb1 SC
    go_loopw [14] (fun i wr => ∃ k : Nat, k ≤ n ∧ i = .int .i64 k ∧ Ov wr 5 g (clE (fun j => if j < k then plE (f j) (tiE (d j) x) else f j)) n ∧ Ov wr 5 g2 (clE (fun i => tiE (d i) x)) n ∧ But g w wr) (fun i _ => n - (intOf i).toNat)
    case atStart => exact ⟨0, Nat.zero_le _, rfl, HO1.out, HO2.out, HB1.out⟩
    case round =>
      clear HO1 HO2 HB1
      obtain ⟨k, hk, rfl, hO, hO2, hB⟩ := hrel
      by_cases hlt : k < n
      · have j1 : (k : Int) < (n : Int) := by omega
        have g1 := ovE_cell hO hlt
        rw [if_neg (Nat.lt_irrefl k)] at g1
        have g3 := hO.frozen k
        have g4 := ovE_cell hO2 hlt
        have HP := (show Hid _ from ovE_put hO hlt (plE (f k) (tiE (d k) x)))
        have HQ := (show Hid _ from hO2.other (p := ⟨g, k, none⟩) (u := .int .u8 (el (plE (f k) (tiE (d k) x)))) (by show g2 ≠ g; exact ng) rfl)
        have HB := (show Hid _ from hB.set k (.int .u8 (el (plE (f k) (tiE (d k) x)))))
        clear hO hO2 hB
        go_wp2_with (go_at_call 63; refine (plusE (f k) (tiE (d k) x) _).mono ?_; rintro e w' ⟨rfl, h⟩; obtain rfl := h.symm)
        go_roundw
        case rel =>
          refine ⟨k + 1, by omega, by go_num, ovE_congr HP.out (fun j _ => ?_), HQ.out, HB.out⟩
          by_cases e : j = k
          · subst e; rw [if_pos rfl, if_pos (by omega)]
          · rw [if_neg e]
            by_cases e2 : j < k
            · rw [if_pos e2, if_pos (by omega)]
            · rw [if_neg e2, if_neg (by omega)]
        case measure => simp [intOf]; omega
      · obtain rfl : k = n := by omega
        go_wp2
        (try simp only [Exit.inBlock, Exit.then])
        refine bodyPost_end (results_0 rfl _ _ _) rfl ?_
        exact ⟨rfl, ovE_congr hO (fun j hj => by rw [if_pos hj, fdE.ti_comm x (d j) |> (show tiE x (d j) = tiE (d j) x from ·)]), hB⟩
end
theorem nm_at {w : World} {p : Option Addr} {r c : Nat} {l : Nat → Nat} {N : Nat → Nat → BitVec 8} (h : NmE w (.slice p r c) r l N) (h0 : 0 < r) : ∃ (b o : Nat) (rows : Nat → Value), p = some ⟨b, o, none⟩ ∧ (∀ i, i < r → w.cell? ⟨b, o + i, none⟩ = some (rows i)) ∧ ∀ i, i < r → NrE w (rows i) (l i) (N i) := by
  obtain ⟨rows, h1, h2⟩ := h
  obtain ⟨b, o, c', e, hc⟩ := h1.cells h0
  injection e with e _ _
  exact ⟨b, o, rows, e, hc, h2⟩
section
attribute [local irreducible] Calls el Ov clE tiE plE NrE skk NmE
set_option maxHeartbeats 8000000 in
set_option maxRecDepth 1000000 in
theorem codeSum_core (p1 p2 : Option Addr) (q c1 r c2 n : Nat) (x : Nat → BitVec 8) (D : Nat → Nat → BitVec 8) (w : World) (hq : q ≤ r) (hr0 : 0 < r) (hr : r ≤ 1000) (hn : n ≤ 140737488355328) (HX : Hid (0 < q → ∃ b o, p1 = some ⟨b, o, none⟩ ∧ ∀ i, i < q → w.cell? ⟨b, o + i, none⟩ = some (.int .u8 (el (x i))))) (ND : Hid (NmE w (.slice p2 r c2) r (fun _ => n) D)) :
    Calls Try.prog 45 #[.slice p1 q c1, .slice p2 r c2] w fun e w' => ∃ g, e = .returned (.slice (some ⟨g, 0, none⟩) n n) ∧ Ov w' 5 g (clE (fun c => skk plE oE (fun j => tiE (x j) (D j c)) q)) n ∧ w.heap.size ≤ g ∧ Below w.heap.size w w' := by
  obtain ⟨b2, o2, rows, e2, hc2, hrw⟩ := nm_at ND.out hr0
  subst e2
  obtain ⟨pr, cr, er, _⟩ := nr_un (hrw 0 hr0)
  have g0 : w.cell? ⟨b2, o2, none⟩ = some (.slice pr n cr) := by have h := hc2 0 hr0; rw [er] at h; exact h
  have HC2 : Hid (∀ i, i < r → w.cell? ⟨b2, o2 + i, none⟩ = some (rows i)) := hc2
  have HRW : Hid (∀ i, i < r → NrE w (rows i) n (D i)) := hrw
  have hm1 := make_bytes n hn
  have i0 : (0 : Int) < (r : Int) := by omega
  have HO0 : Hid (Ov (w.alloc (.cells (Array.replicate n (.int .u8 0)) 5)) 5 w.heap.size (clE (fun c => skk plE oE (fun j => tiE (x j) (D j c)) 0)) n) := (ov_new w 5 (.int .u8 0) n).congr (fun i _ => by unfold clE; dsimp only; rw [skk_zero, show oE = 0#8 from rfl, el_oo])
  have HB0 : Hid (Below w.heap.size w (w.alloc (.cells (Array.replicate n (.int .u8 0)) 5))) := (Below.refl _ _).alloc (Nat.le_refl _) _
  clear hc2 hrw er
  go_enter Try.func45, Try.ntmps45
  go_wp2
  clear hm1 g0
  go_loopw [15] (fun i wr => ∃ k : Nat, k ≤ q ∧ i = .int .i64 k ∧ Ov wr 5 w.heap.size (clE (fun c => skk plE oE (fun j => tiE (x j) (D j c)) k)) n ∧ Below w.heap.size w wr) (fun i _ => q - (intOf i).toNat)
  case atStart => exact ⟨0, Nat.zero_le _, rfl, HO0.out, HB0.out⟩
  case round =>
    clear HO0 HB0
    obtain ⟨k, hk, rfl, hO, hb⟩ := hrel
    by_cases hlt : k < q
    · have j1 : (k : Int) < (q : Int) := by omega
      have j2 : (k : Int) < (r : Int) := by omega
      obtain ⟨b1, o1, e1, hc1⟩ := HX.out (by omega)
      subst e1
      have g1 := cell_below (hc1 k hlt) hb
      have g2 := cell_below (HC2.out k (by omega)) hb
      have AD := (show Hid _ from addTo_core w.heap.size n n (x k) _ (D k) (rows k) w wr hn hO (HRW.out k (by omega)) hb)
      have HB := (show Hid _ from hb)
      clear hO hb hc1
      go_wp2_with (go_at_call 58; refine AD.out.mono ?_; rintro e w2 ⟨rfl, hO2, hB2⟩)
      go_roundw
      case rel => exact ⟨k + 1, by omega, by go_num, ovE_congr hO2 (fun c _ => by rw [skk_succ]), But.from HB.out hB2 (Nat.le_refl _)⟩
      case measure => simp [intOf]; omega
    · obtain rfl : k = q := by omega
      go_wp2
      go_ret
      exact ⟨_, rfl, hO, Nat.le_refl _, hb⟩
end
end Go.Proofs.Ytgokkppojhokbaa
/-
  The code's words: 'copies', 'even', 'rowsFault', 'none', 'word', 'Encode'.
-/
namespace Go.Proofs.Ytgokkppojhokbaa
open Go.RowKit
theorem infoY : (Try.prog.info? 23).map (fun i => (i.zero, i.size, i.bytes)) = some (some (.slice none 0 0), 1, 24) := by kernel_rfl
theorem makeY (n : Nat) (hn : n ≤ 1000) (w : World) : (Instr.makeSlice 42 (.int .i64 (n : Int)) (.int .i64 (n : Int))).run Try.prog w = .ok (.slice (some ⟨w.heap.size, 0, none⟩) n n) (w.alloc (.cells (Array.replicate (n * 1) (.slice none 0 0)) 23)) :=
  make_any Try.underlying42 infoY rfl (by decide) n (by omega) (by omega) w
section
attribute [local irreducible] Calls
set_option maxHeartbeats 4000000 in
set_option maxRecDepth 1000000 in
theorem even_ok (p : Option Addr) (r c n : Nat) (w : World) (hr : r ≤ 140737488355328) (L : Hid (Lm w (.slice p r c) r (fun _ => n))) : Calls Try.prog 44 #[.slice p r c] w fun e w' => e = .returned (.bool true) ∧ w' = w := by
  have e1 : ((n : Int) != (n : Int)) = false := by simp
  go_enter Try.func44, Try.ntmps44
  go_wp2
  go_loop [7] (fun i => ∃ k : Nat, k ≤ r ∧ i = .int .i64 k) (fun i => r - (intOf i).toNat)
  case atStart => exact ⟨0, Nat.zero_le _, rfl⟩
  case round =>
    obtain ⟨k, hk, rfl⟩ := hrel
    by_cases hlt : k < r
    · have j1 : (k : Int) < (r : Int) := by omega
      have j0 : (0 : Int) < (r : Int) := by omega
      obtain ⟨b, o, c', pp, cc, e, hc⟩ := Lm.cells L.out (by omega)
      injection e with e _ _
      subst e
      have g1 := hc k hlt
      have g0 : w.cell? ⟨b, o, none⟩ = some (.slice (pp 0) n (cc 0)) := hc 0 (by omega)
      clear hc
      go_wp2
      go_round
      case rel => exact ⟨k + 1, by omega, by go_num⟩
      case measure => simp [intOf]; omega
    · go_wp2
      go_ret
      exact ⟨rfl, rfl⟩
set_option maxHeartbeats 4000000 in
set_option maxRecDepth 1000000 in
theorem fault_ok (p : Option Addr) (r c n : Nat) (w : World) (hr : r ≤ 140737488355328) (L : Hid (Lm w (.slice p r c) r (fun _ => n))) : Calls Try.prog 26 #[.slice p r c, .int .i64 (r : Int)] w fun e w' => e = .returned (.int .i64 0) ∧ w' = w := by
  have e1 : ((r : Int) != (r : Int)) = false := by simp
  go_enter Try.func26, Try.ntmps26
  go_wp2_with (go_at_call 44; refine (even_ok p r c n w hr L).mono ?_; rintro e w' ⟨rfl, h⟩; obtain rfl := h.symm)
  go_ret
  exact ⟨rfl, rfl⟩
set_option maxHeartbeats 4000000 in
set_option maxRecDepth 1000000 in
theorem none_ok {w : World} {v : Value} {k m : Nat} {F : Nat → Nat → BitVec 8} (h : Cd w v k m F) (hk : 1 ≤ k) : Calls Try.prog 25 #[v] w fun e w' => e = .returned (.bool false) ∧ w' = w := by
  obtain ⟨cb, pF, cF, rfl, h1, h2, h4, h3⟩ := h
  have e1 : ((k : Int) == 0) = false := by simp; omega
  clear h2 h3 h4
  go_enter Try.func25, Try.ntmps25
  go_wp2
  go_ret
  exact ⟨rfl, rfl⟩
end
section
attribute [local irreducible] Calls el Ov clE NmE
set_option maxHeartbeats 8000000 in
set_option maxRecDepth 1000000 in
theorem copies_core (p : Option Addr) (r c n : Nat) (D : Nat → Nat → BitVec 8) (w : World) (hr : r ≤ 1000) (hn : n ≤ 140737488355328) (ND : Hid (NmE w (.slice p r c) r (fun _ => n) D)) :
    Calls Try.prog 28 #[.slice p r c] w fun e w' => ∃ B ρ, e = .returned (.slice (some ⟨B, 0, none⟩) r r) ∧ Gr w' 23 5 B r n n ρ (fun i => clE (D i)) ∧ w.heap.size ≤ B ∧ Below w.heap.size w w' := by
  have hm1 := makeY r (by omega)
  rw [Nat.mul_one] at hm1
  have HO0 : Hid (Ov (w.alloc (.cells (Array.replicate r (.slice none 0 0)) 23)) 23 w.heap.size (fun i => if i < 0 then .slice (some ⟨0, 0, none⟩) n n else .slice none 0 0) r) := (ov_new w 23 (.slice none 0 0) r).congr (fun i _ => by rw [if_neg (by omega)])
  have HB0 : Hid (Below w.heap.size w (w.alloc (.cells (Array.replicate r (.slice none 0 0)) 23))) := (Below.refl _ _).alloc (Nat.le_refl _) _
  have HS0 : Hid (w.heap.size < (w.alloc (.cells (Array.replicate r (.slice none 0 0)) 23)).heap.size) := by show _ < _; simp
  go_enter Try.func28, Try.ntmps28
  go_wp2
  clear hm1
  have hm2 := make_bytes n hn
  go_loopw [11] (fun i wr => ∃ (k : Nat) (ρ : Nat → Nat), k ≤ r ∧ i = .int .i64 k ∧ Ov wr 23 w.heap.size (fun i => if i < k then .slice (some ⟨ρ i, 0, none⟩) n n else .slice none 0 0) r ∧ Hid (∀ i, i < k → Ov wr 5 (ρ i) (clE (D i)) n) ∧ Hid (∀ i, i < k → w.heap.size < ρ i ∧ ρ i < wr.heap.size) ∧ Hid (∀ i, i < k → ∀ j, j < k → ρ i = ρ j → i = j) ∧ Hid (w.heap.size < wr.heap.size) ∧ Below w.heap.size w wr) (fun i _ => r - (intOf i).toNat)
  case atStart => exact ⟨0, fun _ => 0, Nat.zero_le _, rfl, HO0.out, fun i hi => by omega, fun i hi => by omega, fun i hi => by omega, HS0, HB0.out⟩
  case round =>
    clear HO0 HB0 HS0
    obtain ⟨k, ρ, hk, rfl, hO, hR, hP, hI, hS, hb⟩ := hrel
    by_cases hlt : k < r
    · have j1 : (k : Int) < (r : Int) := by omega
      obtain ⟨b2, o2, rows, e2, hc2, hrw⟩ := nm_at ND.out (by omega)
      subst e2
      obtain ⟨pr, cr, er, _⟩ := nr_un (hrw k hlt)
      have g0 := hc2 k hlt
      rw [er] at g0
      have g1 := cell_below g0 hb
      have B1 := (Below.refl wr.heap.size wr).alloc (Nat.le_refl _) (.cells (Array.replicate n (.int .u8 0)) 5)
      have hO1 := hO.below B1
      have g3 := hO1.cell hlt
      have g4 := hO1.frozen k
      have hsz := hS.out
      have hsz0 := hb.size
      have B2 := (Below.refl (wr.setCell ⟨w.heap.size, k, none⟩ (.slice (some ⟨wr.heap.size, 0, none⟩) n n)).heap.size (wr.setCell ⟨w.heap.size, k, none⟩ (.slice (some ⟨wr.heap.size, 0, none⟩) n n))).alloc (Nat.le_refl _) (.cells (Array.replicate n (.int .u8 0)) 5)
      have HO2 := (show Hid _ from (hO.set hlt (.slice (some ⟨wr.heap.size, 0, none⟩) n n)).below B2)
      have HN0 : Hid (Ov ((wr.setCell ⟨w.heap.size, k, none⟩ (.slice (some ⟨wr.heap.size, 0, none⟩) n n)).alloc (.cells (Array.replicate n (.int .u8 0)) 5)) 5 wr.heap.size (fun _ => .int .u8 0) n) := by
        have h := ov_new (wr.setCell ⟨w.heap.size, k, none⟩ (.slice (some ⟨wr.heap.size, 0, none⟩) n n)) 5 (.int .u8 0) n
        rw [← size_set] at h; exact h
      have HBk : Hid (Below w.heap.size w ((wr.setCell ⟨w.heap.size, k, none⟩ (.slice (some ⟨wr.heap.size, 0, none⟩) n n)).alloc (.cells (Array.replicate n (.int .u8 0)) 5))) := (hb.setCell (Nat.le_refl _) _).alloc (by rw [← size_set]; exact hb.size) _
      have HSV : Hid (Sv ((wr.setCell ⟨w.heap.size, k, none⟩ (.slice (some ⟨wr.heap.size, 0, none⟩) n n)).alloc (.cells (Array.replicate n (.int .u8 0)) 5)) (.slice pr n cr) n (clE (D k)) n) := by
        have h := NrE.below (hrw k hlt) HBk.out
        rw [er] at h
        exact h
      have HRk : Hid (∀ i, i < k → Ov ((wr.setCell ⟨w.heap.size, k, none⟩ (.slice (some ⟨wr.heap.size, 0, none⟩) n n)).alloc (.cells (Array.replicate n (.int .u8 0)) 5)) 5 (ρ i) (clE (D i)) n) := fun i hi => ((hR.out i hi).other (p := ⟨w.heap.size, k, none⟩) (by show ρ i ≠ w.heap.size; have := (hP.out i hi).1; omega) rfl).below B2
      have gx : ((wr.setCell ⟨w.heap.size, k, none⟩ (.slice (some ⟨wr.heap.size, 0, none⟩) n n)).alloc (.cells (Array.replicate n (.int .u8 0)) 5)).cell? ⟨w.heap.size, k, none⟩ = some (.slice (some ⟨wr.heap.size, 0, none⟩) n n) := by
        have h := HO2.out.cell hlt
        rw [if_pos rfl] at h; exact h
      have HSZ : Hid (wr.heap.size < ((wr.setCell ⟨w.heap.size, k, none⟩ (.slice (some ⟨wr.heap.size, 0, none⟩) n n)).alloc (.cells (Array.replicate n (.int .u8 0)) 5)).heap.size) := by show _ < _; simp
      clear hc2 hrw er hO hO1 hb hR B1 B2
      go_wp2_with (refine wpList_copy_all rfl _ _ 23 23 rfl 5 Try.underlying23 1 (by kernel_rfl) wr.heap.size n n _ _ rfl rfl 5 _ (clE (D k)) (by omega) (by omega) HN0.out HSV.out (clE_one _) ?_; intro w2 hO2 hB2)
      have hsz2 := hB2.sz
      have hsz3 := HSZ.out
      go_roundw
      case rel =>
        refine ⟨k + 1, fun i => if i = k then wr.heap.size else ρ i, by omega, by go_num, (hB2.ov HO2.out (by omega)).congr (fun i _ => ?_), fun i hi => ?_, fun i hi => ?_, fun i hi j hj => ?_, ?_, But.from HBk.out hB2 (by omega)⟩
        · dsimp only
          by_cases e : i = k
          · rw [if_pos e, if_pos (by omega), if_pos e]
          · rw [if_neg e]
            by_cases e2 : i < k
            · rw [if_pos e2, if_pos (by omega), if_neg e]
            · rw [if_neg e2, if_neg (by omega)]
        · show Ov w2 _ (if i = k then wr.heap.size else ρ i) _ _
          by_cases e : i = k
          · subst e; rw [if_pos rfl]; exact hO2
          · rw [if_neg e]; exact hB2.ov (HRk.out i (by omega)) (by have := (hP.out i (by omega)).2; omega)
        · show w.heap.size < (if i = k then wr.heap.size else ρ i) ∧ (if i = k then wr.heap.size else ρ i) < w2.heap.size
          by_cases e : i = k
          · rw [if_pos e]; omega
          · rw [if_neg e]; have := hP.out i (by omega); omega
        · show (if i = k then wr.heap.size else ρ i) = (if j = k then wr.heap.size else ρ j) → i = j
          by_cases e : i = k
          · rw [if_pos e]
            by_cases e2 : j = k
            · intro _; omega
            · rw [if_neg e2]; have := hP.out j (by omega); intro; omega
          · rw [if_neg e]
            by_cases e2 : j = k
            · rw [if_pos e2]; have := hP.out i (by omega); intro; omega
            · rw [if_neg e2]; exact hI.out i (by omega) j (by omega)
        · show _ < _
          omega
      case measure => simp [intOf]; omega
    · obtain rfl : k = r := by omega
      go_wp2
      go_ret
      exact ⟨_, ρ, rfl, ⟨hO.congr (fun i hi => by rw [if_pos hi]), hR.out, fun i hi => by have := hP.out i hi; omega, hI.out⟩, Nat.le_refl _, hb⟩
end
theorem gr_cells {w w' : World} {B r n : Nat} {ρ : Nat → Nat} {D : Nat → Nat → BitVec 8} (h : Gr w 23 5 B r n n ρ (fun i => clE (D i))) (hb : Below w.heap.size w w') : ∀ j u, (lv (fun i => Value.slice (some ⟨ρ i, 0, none⟩) n n) r)[j]? = some u → w'.cell? ((⟨B, 0, none⟩ : Addr).add j) = some u := fun j u hj => by
  have hjn : j < r := by
    rcases Nat.lt_or_ge j r with h | h
    · exact h
    · rw [List.getElem?_eq_none (by rw [lv_len]; exact h)] at hj; cases hj
  rw [lv_at _ r j hjn] at hj
  rw [add_pl, Nat.zero_add, cell_below (h.out.cell hjn) hb]; exact hj
theorem nmE_mk {w : World} {v : Value} {r n : Nat} {N : Nat → Nat → BitVec 8} {rows : Nat → Value} (h1 : Sv w v r rows r) (h2 : ∀ i, i < r → Sv w (rows i) n (clE (N i)) n) : NmE w v r (fun _ => n) N := ⟨rows, h1, h2⟩
theorem owns_base {w : World} {b b' : Nat} {t : TypeId} {k n : Nat} {v : Value} {xs : List Value} (h : w.ownsRow b t k v n xs) (hb : b' ≤ b) : w.ownsRow b' t k v n xs := by
  refine ⟨h.1, ?_⟩
  rcases h.2 with h1 | ⟨g, cap, cur, hv, hg, hr⟩
  · exact .inl h1
  · exact .inr ⟨g, cap, cur, hv, Nat.le_trans hb hg, hr⟩
theorem grown_none {w w' : World} (h : w.grownBy w' none) : Below w.heap.size w w' := (Below.refl _ _).grown h (Nat.le_refl _) (fun k hk => by cases hk)
theorem lv_push (f g : Nat → Value) (k t : Nat) (x : Value) : lv (fun i => if i < k then f i else g i) (k + t) ++ [x] = lv (fun i => if i < k then f i else (fun i => if i = k + t then x else g i) i) (k + (t + 1)) := by
  rw [← Nat.add_assoc, lv_succ, if_neg (by omega)]
  dsimp only
  rw [if_pos rfl]
  exact congrArg (· ++ _) (lv_congr (fun i hi => by
    by_cases e : i < k
    · rw [if_pos e, if_pos e]
    · rw [if_neg e, if_neg e, if_neg (by omega)]))
/-- Rows of bytes of one's own read so. -/
theorem gr_nm {w : World} {B r n : Nat} {ρ : Nat → Nat} {D : Nat → Nat → BitVec 8} (h : Gr w 23 5 B r n n ρ (fun i => clE (D i))) : NmE w (.slice (some ⟨B, 0, none⟩) r r) r (fun _ => n) D :=
  ⟨_, St.sv (h.out.st r r), fun i hi => St.sv ((h.row i hi).st n n)⟩
theorem own_form {w : World} {base : Nat} {t : TypeId} {k n : Nat} {v : Value} {xs : List Value} (h : w.ownsRow base t k v n xs) : ∃ p c, v = .slice p n c ∧ n ≤ c := by
  rcases h.2 with ⟨hv, h0⟩ | ⟨g, cap, c, hv, _, _, hc, _⟩
  · subst h0; exact ⟨_, _, hv, Nat.le_refl _⟩
  · exact ⟨_, _, hv, hc⟩
/-- There is room for its length. -/
def Capd (v : Value) (r : Nat) : Prop := ∃ p c, v = .slice p r c ∧ r ≤ c
section
attribute [local irreducible] Calls el Ov clE NmE NrE skk tiE plE lv
set_option maxHeartbeats 8000000 in
set_option maxRecDepth 1000000 in
theorem word_core (k m n B : Nat) (ρ : Nat → Nat) (v : Value) (F D : Nat → Nat → BitVec 8) (w : World) (hk : 1 ≤ k) (hm : 1 ≤ m) (hkm : k + m ≤ 255) (hn : n ≤ 140737488355328) (hC : Cd w v k m F) (hG : Hid (Gr w 23 5 B k n n ρ (fun i => clE (D i)))) :
    Calls Try.prog 27 #[v, .slice (some ⟨B, 0, none⟩) k k] w fun e w' => ∃ v', e = .returned v' ∧ NmE w' v' (k + m) (fun _ => n) (fun i c => if i < k then D i c else skk plE oE (fun j => tiE (F i j) (D j c)) k) ∧ Below w.heap.size w w' ∧ Capd v' (k + m) := by
  obtain ⟨cb, pF, cF, rfl, c1, c2, hcap, hF⟩ := hC
  obtain ⟨bF, oF, rowsF, e2, hcF, hrF⟩ := nm_at hF (by omega)
  subst e2
  have HCF : Hid (∀ i, i < k + m → w.cell? ⟨bF, oF + i, none⟩ = some (rowsF i)) := hcF
  have HRF : Hid (∀ i, i < k + m → NrE w (rowsF i) k (F i)) := hrF
  have j1 : (k : Int) ≤ (k : Int) + (m : Int) := by omega
  have j2 : (0 : Int) ≤ (k : Int) := by omega
  have j3 : (k : Int) ≤ ((k + m : Nat) : Int) := by omega
  have kn : ¬ m = 0 := by omega
  have kn2 : ¬ k = 0 := by omega
  have kn3 : ¬ cF = k := by omega
  obtain ⟨i0, hi0, hz0, hz1, hz2⟩ := info_parts infoY
  have HND := (show Hid _ from gr_nm hG.out)
  clear hF hcF hrF
  go_enter Try.func27, Try.ntmps27
  go_wp2
  go_quiet (fail)
  go_wp2
  go_loopw [5, 19] (fun v i wr => ∃ (t : Nat) (rows : Nat → Value), t ≤ m ∧ i = .int .i64 t ∧ ((t = 0 ∧ v = .slice (some ⟨B, 0, none⟩) k k) ∨ (0 < t ∧ wr.ownsRow w.heap.size 23 1 v (k + t) (lv (fun i => if i < k then .slice (some ⟨ρ i, 0, none⟩) n n else rows i) (k + t)))) ∧ Hid (∀ i, k ≤ i → i < k + t → ∃ g, rows i = .slice (some ⟨g, 0, none⟩) n n ∧ Ov wr 5 g (clE (fun c => skk plE oE (fun j => tiE (F i j) (D j c)) k)) n) ∧ Below w.heap.size w wr) (fun _ i _ => m - (intOf i).toNat)
  case atStart => exact ⟨0, fun _ => .bool false, Nat.zero_le _, rfl, .inl ⟨rfl, rfl⟩, fun i h1 h2 => by omega, below_drewN (Below.refl _ _) _⟩
  case round =>
    obtain ⟨t, rows, ht, rfl, hv, hR, hb⟩ := hrel
    by_cases hlt : t < m
    · have q1 : (t : Int) < (m : Int) := by omega
      obtain ⟨pr, cr, er, hra⟩ := nr_un (HRF.out (k + t) (by omega))
      have g0 : w.cell? ⟨bF, oF + k + t, none⟩ = some (.slice pr k cr) := by have h := HCF.out (k + t) (by omega); rw [er] at h; rw [Nat.add_assoc]; exact h
      have g1 := cell_below g0 hb
      have SU := (show Hid _ from codeSum_core pr (some ⟨B, 0, none⟩) k cr k k n (F (k + t)) D wr (Nat.le_refl _) (by omega) (by omega) hn (fun h0 => by obtain ⟨b, o, e, h⟩ := hra h0; exact ⟨b, o, e, fun i hi => cell_below (h i hi) hb⟩) (NmE.below HND.out hb))
      have HB := (show Hid _ from hb)
      have HV := (show Hid _ from hv)
      clear er hra hb hv
      rcases HV.out with ⟨ht0, hv0⟩ | ⟨htp, hown⟩
      · subst ht0 hv0
        rw [Nat.add_zero] at g1
        go_wp2_with (first
          | (go_at_call 45; refine SU.out.mono ?_; rintro e w2 ⟨g, rfl, hO2, hg2, hb2⟩; have hD2 := (show Hid _ from gr_cells hG.out (bt HB.out hb2)))
          | (at_builtin; refine wpList_append_grows _ rfl _ _ 42 rfl 23 i0 (.slice none 0 0) 1 24 Try.underlying42 hi0 hz0 hz1 hz2 rfl (by decide) (some ⟨B, 0, none⟩) k k (lv (fun i => .slice (some ⟨ρ i, 0, none⟩) n n) k) rfl (fun h => by cases h) (by rw [lv_len, Nat.mul_one]) (fun b hb' j u hj => by cases hb'; exact cell_below (hD2.out j u hj) ((Below.refl _ _).alloc (Nat.le_refl _) _)) ⟨_, 0, none⟩ 1 1 [.slice (some ⟨g, 0, none⟩) n n] rfl rfl (one_new _ _ _) (one_cellv rfl) (by omega) (by unfold maxLen; omega) (by omega) ?_; intro v' w3 hown' hgrow))
        have hS2 : Ov w3 5 g (clE (fun c => skk plE oE (fun j => tiE (F (k + 0) j) (D j c)) k)) n := (hO2.below ((Below.refl _ _).alloc (Nat.le_refl _) _)).below (grown_none hgrow)
        have hb3 := bt (bt HB.out hb2) (bt ((Below.refl _ w2).alloc (Nat.le_refl _) _) (grown_none hgrow))
        have e0 := lv_push (fun i => .slice (some ⟨ρ i, 0, none⟩) n n) rows k 0 (.slice (some ⟨g, 0, none⟩) n n)
        rw [Nat.add_zero, lv_congr (g := fun i => .slice (some ⟨ρ i, 0, none⟩) n n) (fun i hi => by rw [if_pos hi])] at e0
        rw [e0] at hown'
        have hown2 := owns_base (b' := w.heap.size) hown' (by have := HB.out.size; have := hb2.size; simp; omega)
        clear hown' hgrow
        go_roundw
        case rel => exact ⟨0 + 1, fun i => if i = k + 0 then .slice (some ⟨g, 0, none⟩) n n else rows i, by omega, by go_num, .inr ⟨by omega, hown2⟩, fun i h1 h2 => ⟨g, by show (if i = k + 0 then _ else _) = _; rw [if_pos (by omega)], by rw [show i = k + 0 by omega]; exact hS2⟩, hb3⟩
        case measure => simp [intOf]; omega
      · go_wp2_with (first
          | (go_at_call 45; refine SU.out.mono ?_; rintro e w2 ⟨g, rfl, hO2, hg2, hb2⟩; have hown2 := owns_below hown hb2; have SZ : Hid (w.heap.size ≤ w2.heap.size) := Nat.le_trans HB.out.size hb2.size)
          | (at_builtin; refine wpList_append_own _ rfl _ _ 42 rfl w.heap.size 23 i0 (.slice none 0 0) 1 24 Try.underlying42 hi0 hz0 hz1 hz2 rfl (by decide) _ _ _ rfl (hown2.alloc _) ⟨_, 0, none⟩ 1 1 [.slice (some ⟨g, 0, none⟩) n n] rfl rfl (one_new _ _ _) (one_cellv rfl) (by unfold maxLen; omega) (by omega) (by have := SZ.out; simp at *; omega) ?_; intro v' w3 hown' hgrow _))
        have hb3 := below_append ((bt HB.out hb2).alloc SZ.out _) (by have := SZ.out; simp at *; omega) hgrow (hown2.alloc _) (Nat.le_refl _)
        have hal := (Below.refl _ w2).alloc (Nat.le_refl _) (.cells #[.slice (some ⟨g, 0, none⟩) n n] 23)
        have hR3 : Hid (∀ i, k ≤ i → i < k + (t + 1) → ∃ g', (fun i => if i = k + t then .slice (some ⟨g, 0, none⟩) n n else rows i) i = .slice (some ⟨g', 0, none⟩) n n ∧ Ov w3 5 g' (clE (fun c => skk plE oE (fun j => tiE (F i j) (D j c)) k)) n) := fun i h1 h2 => by
          dsimp only
          by_cases e : i = k + t
          · rw [if_pos e, e]; exact ⟨g, rfl, (hO2.below hal).grown (hown2.alloc _) hgrow (by decide)⟩
          · rw [if_neg e]
            obtain ⟨g', e', hO'⟩ := hR.out i h1 (by omega)
            exact ⟨g', e', ((hO'.below hb2).below hal).grown (hown2.alloc _) hgrow (by decide)⟩
        rw [lv_push, Nat.add_assoc k t 1] at hown'
        clear hown hgrow hown2 hO2
        go_roundw
        case rel => exact ⟨t + 1, _, by omega, by go_num, .inr ⟨by omega, hown'⟩, hR3, hb3⟩
        case measure => simp [intOf]; omega
    · obtain rfl : t = m := by omega
      rcases hv with ⟨h0, _⟩ | ⟨_, hown⟩
      · omega
      · go_wp2
        go_ret
        refine ⟨_, rfl, nmE_mk (St.sv (owns_st1 hown)) (fun i hi => ?_), hb, own_form hown⟩
        by_cases e : i < k
        · rw [if_pos e]
          have h := St.sv (((hG.out.row i e).below hb).st n n)
          exact Sv.congr h (fun j _ => by unfold clE; dsimp only; rw [if_pos e])
        · rw [if_neg e]
          obtain ⟨g, eg, hO⟩ := hR.out i (by omega) hi
          rw [eg]
          exact Sv.congr (St.sv (hO.st n n)) (fun j _ => by unfold clE; dsimp only; rw [if_neg e])
end
end Go.Proofs.Ytgokkppojhokbaa
/-
  'Encode'.
-/
namespace Go.Proofs.Ytgokkppojhokbaa
open Go.RowKit
theorem nm_congr {w : World} {v : Value} {r n : Nat} {N N' : Nat → Nat → BitVec 8} (h : NmE w v r (fun _ => n) N) (e : ∀ i, i < r → ∀ j, j < n → N i j = N' i j) : NmE w v r (fun _ => n) N' := by
  obtain ⟨rows, h1, h2⟩ := h
  exact ⟨rows, h1, fun i hi => Sv.congr (h2 i hi) (fun j hj => by unfold clE; rw [e i hi j hj])⟩
theorem cd_open {w : World} {v : Value} {k m : Nat} {F : Nat → Nat → BitVec 8} (h : Cd w v k m F) : ∃ cb p c, v = .pointer (some ⟨cb, 0, none⟩) ∧ w.cell? ⟨cb, 0, none⟩ = some (.int .i64 (k : Int)) ∧ w.cell? ⟨cb, 1, none⟩ = some (.slice p (k + m) c) ∧ k + m ≤ c ∧ NmE w (.slice p (k + m) c) (k + m) (fun _ => k) F := h
section
attribute [local irreducible] Calls el NmE Cd Fac mm skk
set_option maxHeartbeats 8000000 in
set_option maxRecDepth 1000000 in
theorem encode_core {w : World} {v vD : Value} {k m n : Nat} {F D : Nat → Nat → BitVec 8} (hk : 1 ≤ k) (hm : 1 ≤ m) (hkm : k + m ≤ 255) (hn : n ≤ 140737488355328) (hC : Hid (Cd w v k m F)) (hD : Hid (NmE w vD k (fun _ => n) D)) :
    Calls Try.prog 15 #[v, vD] w fun e w' => ∃ v', e = .returned (.tuple #[v', .int .i64 0]) ∧ NmE w' v' (k + m) (fun _ => n) (fun i c => if i < k then D i c else skk plE oE (fun j => tiE (F i j) (D j c)) k) ∧ Below w.heap.size w w' ∧ Capd v' (k + m) := by
  obtain ⟨cb, pF, cF, ev, c1, c2, _, _⟩ := cd_open hC.out
  subst ev
  obtain ⟨pD, cD, eD⟩ := nmE_form hD.out
  subst eD
  have HL := (show Hid _ from NmE.lm hD.out)
  have NO := (show Hid _ from none_ok hC.out hk)
  clear c2
  go_enter Try.func15, Try.ntmps15
  go_wp2_with (first
    | (go_at_call 25; refine NO.out.mono ?_; rintro e w' ⟨rfl, h⟩; obtain rfl := h.symm)
    | (go_at_call 26; refine (fault_ok pD k cD n w (by omega) HL).mono ?_; rintro e w' ⟨rfl, h⟩; obtain rfl := h.symm)
    | (go_at_call 28; refine (copies_core pD k cD n D w (by omega) hn hD).mono ?_; rintro e w1 ⟨B, ρ, rfl, hG, hB, hb1⟩)
    | (go_at_call 27; refine (word_core k m n B ρ _ F D w1 hk hm hkm hn (Cd.below hC.out hb1) hG).mono ?_; rintro e w2 ⟨v2, rfl, hN2, hb2, hcp⟩))
  go_ret2
  exact ⟨_, rfl, hN2, bt hb1 hb2, hcp⟩
end
/-- The word is the matrix times the data. -/
theorem encode_ok {w : World} {v vD : Value} {k m n : Nat} {F D : Nat → Nat → BitVec 8} (hC : Cd w v k m F) (hF : Fac k F) (hk : 1 ≤ k) (hm : 1 ≤ m) (hkm : k + m ≤ 255) (hn : n ≤ 140737488355328) (hD : NmE w vD k (fun _ => n) D) :
    Calls Try.prog 15 #[v, vD] w fun e w' => ∃ v', e = .returned (.tuple #[v', .int .i64 0]) ∧ NmE w' v' (k + m) (fun _ => n) (mm fdE k F D) ∧ Below w.heap.size w w' ∧ Capd v' (k + m) :=
  (encode_core hk hm hkm hn hC hD).mono fun e w' ⟨v', he, hN, hb, hcp⟩ => ⟨v', he, nm_congr hN (fun i _ j _ => by
    by_cases e : i < k
    · rw [if_pos e, mm_congr (A' := dl fdE) (B' := D) (fun t ht => hF.id e ht) (fun _ _ => rfl), mm_dl_l e]
    · rw [if_neg e, skk_mm]), hb, hcp⟩
end Go.Proofs.Ytgokkppojhokbaa
